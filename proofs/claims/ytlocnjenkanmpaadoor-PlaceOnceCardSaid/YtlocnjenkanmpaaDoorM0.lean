/-
  Several texts in one, each with its own remark: CoPlain, GcPlain, RuPlain, KuPlain, KuParts, ClInts, RuRows, LnKit, WrPlain.
-/
import Derived.KernelRfl
import Derived.IntWalk
import Derived.Carry
import Derived.ProofKit
import Derived.OpenShut
import Derived.Below
import Derived.Lib.Hide
import Derived.WalkKit
import Derived.Laws.AppendOwn
import Derived.Laws.OwnMore
import Derived.OwnWalk
import Derived.Deep.AppendLies
import Derived.Laws.Rows
import Derived.Test.YtlocnjenkanmpaaDoorRows

/-
  Plain facts on rows of numbers that rise, in which spans begin and end in turns: how many stand ahead of a number, and whether a span has it; how many slots a number takes; no program here.
-/
namespace Go.Proofs.YtlocnjenkanmpaaDoor.Co
/-- A span: its first number, its last one. -/
abbrev CSpan := Int × Int
def endsL (l : List CSpan) : List Int := l.flatMap fun s => [s.1, s.2 + 1]
def flatL (l : List CSpan) : List Int := l.flatMap fun s => [s.1, s.2]
def inS (l : List CSpan) (c : Int) : Bool := l.any fun s => decide (s.1 ≤ c) && decide (c ≤ s.2)
/-- How many of a row stand ahead of what is above a number. -/
def ahead : List Int → Int → Nat
  | [], _ => 0
  | e :: l, c => if e ≤ c then ahead l c + 1 else 0
def risesI : List Int → Bool
  | [] => true
  | [_] => true
  | a :: b :: l => decide (a ≤ b) && risesI (b :: l)
theorem risesI_cons {a b : Int} {l : List Int} (h : risesI (a :: b :: l) = true) : a ≤ b ∧ risesI (b :: l) = true := by
  simpa [risesI] using h
theorem risesI_tail {a : Int} {l : List Int} (h : risesI (a :: l) = true) : risesI l = true := by
  cases l with
  | nil => rfl
  | cons b l => exact (risesI_cons h).2
theorem risesI_head : ∀ {l : List Int} {a : Int}, risesI (a :: l) = true → ∀ x ∈ l, a ≤ x
  | [], _, _, _, hx => by cases hx
  | b :: l, a, h, x, hx => by
    obtain ⟨h1, h2⟩ := risesI_cons h
    rcases List.mem_cons.1 hx with rfl | hx
    · exact h1
    · have := risesI_head h2 x hx
      omega
theorem risesI_le : ∀ {l : List Int}, risesI l = true → ∀ (i j : Nat) (hi : i < l.length) (hj : j < l.length), i ≤ j → l[i] ≤ l[j]
  | a :: l, h, 0, 0, _, _, _ => Int.le_refl _
  | a :: l, h, 0, j + 1, _, hj, _ => risesI_head h _ (List.getElem_mem (by simpa using hj))
  | a :: l, h, i + 1, j + 1, hi, hj, hij => by
    have := risesI_le (risesI_tail h) i j (by simpa using hi) (by simpa using hj) (by omega)
    simpa using this
theorem ahead_le : ∀ (l : List Int) (c : Int), ahead l c ≤ l.length
  | [], _ => Nat.le_refl _
  | e :: l, c => by
    have := ahead_le l c
    unfold ahead
    split <;> simp <;> omega
theorem ahead_is : ∀ (l : List Int) (c : Int) (i : Nat), i ≤ l.length → (∀ k (hk : k < l.length), k < i → l[k] ≤ c) → (∀ (hi : i < l.length), c < l[i]) → ahead l c = i
  | [], c, i, hi, _, _ => by simp only [List.length_nil] at hi; unfold ahead; omega
  | e :: l, c, 0, _, _, h => by
    have := h (by simp)
    unfold ahead
    rw [if_neg (by simpa using this)]
  | e :: l, c, i + 1, hi, hlo, hhi => by
    have h0 := hlo 0 (by simp) (by omega)
    unfold ahead
    rw [if_pos (by simpa using h0), ahead_is l c i (by simpa using hi) (fun k hk hki => hlo (k + 1) (Nat.succ_lt_succ hk) (by omega)) (fun h => hhi (Nat.succ_lt_succ h))]
theorem inS_below {l : List CSpan} {a c : Int} (hr : risesI (a :: endsL l) = true) (h : c < a) : inS l c = false := by
  have hh := risesI_head hr
  unfold inS
  rw [List.any_eq_false]
  intro s hs
  have h1 := hh s.1 (List.mem_flatMap.2 ⟨s, hs, by simp⟩)
  simp only [Bool.and_eq_true, decide_eq_true_eq, not_and]
  omega
theorem odd_in : ∀ (l : List CSpan) (c : Int), risesI (endsL l) = true → (ahead (endsL l) c % 2 == 1) = inS l c
  | [], c, _ => rfl
  | s :: l, c, h => by
    have e : endsL (s :: l) = s.1 :: (s.2 + 1) :: endsL l := rfl
    have e2 : inS (s :: l) c = (decide (s.1 ≤ c) && decide (c ≤ s.2) || inS l c) := rfl
    rw [e] at h
    rw [e, e2]
    obtain ⟨h1, h2⟩ := risesI_cons h
    simp only [ahead]
    by_cases h3 : s.1 ≤ c
    · rw [if_pos h3]
      by_cases h4 : s.2 + 1 ≤ c
      · rw [if_pos h4, decide_eq_false (show ¬ c ≤ s.2 by omega), ← odd_in l c (risesI_tail h2)]
        rw [show (ahead (endsL l) c + 1 + 1) % 2 = ahead (endsL l) c % 2 from by omega]
        simp
      · rw [if_neg h4, decide_eq_true h3, decide_eq_true (show c ≤ s.2 by omega)]
        rfl
    · rw [if_neg h3, decide_eq_false h3, inS_below h2 (by omega)]
      rfl
def narrowS : List CSpan := [
  (0x0, 0x1f), (0x7f, 0x9f), (0xad, 0xad), (0x300, 0x36f), (0x483, 0x489), (0x591, 0x5bd), (0x5bf, 0x5bf), (0x5c1, 0x5c2), (0x5c4, 0x5c5), (0x5c7, 0x5c7),
  (0x600, 0x605), (0x610, 0x61a), (0x61c, 0x61c), (0x64b, 0x65f), (0x670, 0x670), (0x6d6, 0x6dd), (0x6df, 0x6e4), (0x6e7, 0x6e8), (0x6ea, 0x6ed), (0x8e2, 0x8e2),
  (0x93a, 0x93a), (0x93c, 0x93c), (0x941, 0x948), (0x94d, 0x94d), (0xe31, 0xe31), (0xe34, 0xe3a), (0xe47, 0xe4e), (0x1160, 0x11ff), (0x1ab0, 0x1ace), (0x1dc0, 0x1dff),
  (0x200b, 0x200f), (0x2028, 0x202e), (0x2060, 0x206f), (0x20d0, 0x20f0), (0x302a, 0x302d), (0x3099, 0x309a), (0xa66f, 0xa672), (0xd7b0, 0xd7fb), (0xfb1e, 0xfb1e), (0xfe00, 0xfe0f),
  (0xfe20, 0xfe2f), (0xfeff, 0xfeff), (0xfff9, 0xfffb), (0xe0001, 0xe007f), (0xe0100, 0xe01ef)]
def wideS : List CSpan := [
  (0x1100, 0x115f), (0x231a, 0x231b), (0x23e9, 0x23ec), (0x23f0, 0x23f0), (0x23f3, 0x23f3), (0x25fd, 0x25fe), (0x2614, 0x2615), (0x2648, 0x2653), (0x267f, 0x267f), (0x2693, 0x2693),
  (0x26a1, 0x26a1), (0x26aa, 0x26ab), (0x26bd, 0x26be), (0x26c4, 0x26c5), (0x26ce, 0x26ce), (0x26d4, 0x26d4), (0x26ea, 0x26ea), (0x26f2, 0x26f3), (0x26f5, 0x26f5), (0x26fa, 0x26fa),
  (0x26fd, 0x26fd), (0x2705, 0x2705), (0x270a, 0x270b), (0x2728, 0x2728), (0x274c, 0x274c), (0x274e, 0x274e), (0x2753, 0x2755), (0x2757, 0x2757), (0x2795, 0x2797), (0x27b0, 0x27b0),
  (0x27bf, 0x27bf), (0x2b1b, 0x2b1c), (0x2b50, 0x2b50), (0x2b55, 0x2b55), (0x2e80, 0x2e99), (0x2e9b, 0x2ef3), (0x2f00, 0x2fd5), (0x2ff0, 0x3029), (0x302e, 0x303e), (0x3041, 0x3096),
  (0x309b, 0x30ff), (0x3105, 0x312f), (0x3131, 0x318e), (0x3190, 0x31e3), (0x31f0, 0x321e), (0x3220, 0x3247), (0x3250, 0x4dbf), (0x4e00, 0xa48c), (0xa490, 0xa4c6), (0xa960, 0xa97c),
  (0xac00, 0xd7a3), (0xf900, 0xfaff), (0xfe10, 0xfe19), (0xfe30, 0xfe52), (0xfe54, 0xfe66), (0xfe68, 0xfe6b), (0xff01, 0xff60), (0xffe0, 0xffe6), (0x1f004, 0x1f004), (0x1f0cf, 0x1f0cf),
  (0x1f18e, 0x1f18e), (0x1f191, 0x1f19a), (0x1f1e6, 0x1f202), (0x1f300, 0x1f320), (0x1f32d, 0x1f335), (0x1f337, 0x1f37c), (0x1f37e, 0x1f393), (0x1f3a0, 0x1f3ca), (0x1f3cf, 0x1f3d3), (0x1f3e0, 0x1f3f0),
  (0x1f3f4, 0x1f3f4), (0x1f3f8, 0x1f43e), (0x1f440, 0x1f440), (0x1f442, 0x1f4fc), (0x1f4ff, 0x1f53d), (0x1f54b, 0x1f54e), (0x1f550, 0x1f567), (0x1f57a, 0x1f57a), (0x1f595, 0x1f596), (0x1f5a4, 0x1f5a4),
  (0x1f5fb, 0x1f64f), (0x1f680, 0x1f6c5), (0x1f6cc, 0x1f6cc), (0x1f6d0, 0x1f6d2), (0x1f6eb, 0x1f6ec), (0x1f6f4, 0x1f6fc), (0x1f90c, 0x1f93a), (0x1f93c, 0x1f945), (0x1f947, 0x1f9ff), (0x1fa70, 0x1faff),
  (0x20000, 0x2fffd), (0x30000, 0x3fffd)]
def narrowE : List Int := endsL narrowS
def wideE : List Int := endsL wideS
theorem narrowE_rises : risesI narrowE = true := by kernel_rfl
theorem wideE_rises : risesI wideE = true := by kernel_rfl
theorem narrowE_len : narrowE.length = 90 := by kernel_rfl
theorem wideE_len : wideE.length = 184 := by kernel_rfl
/-- P4.1, as a function. -/
def slotsV (n w : Bool) : Int := if n = true then 0 else if w = true then 2 else 1
def slotsT (c : Int) : Int := slotsV (inS narrowS c) (inS wideS c)
theorem slotsV_bounds (n w : Bool) : 0 ≤ slotsV n w ∧ slotsV n w ≤ 2 := by cases n <;> cases w <;> decide
theorem slotsT_bounds (c : Int) : 0 ≤ slotsT c ∧ slotsT c ≤ 2 := slotsV_bounds _ _
end Go.Proofs.YtlocnjenkanmpaaDoor.Co

/-
  Plain facts on where kinds begin: the last one that begins at a number or ahead of it; the document's spans of each kind, and of pictographs; both tell the same; how many of one kind stand side by side; no program here.
-/
namespace Go.Proofs.YtlocnjenkanmpaaDoor.Gc
open Go.Proofs.YtlocnjenkanmpaaDoor.Co
/-- Where a kind begins, and the kind. -/
abbrev GB := Int × Int
def lastB : List GB → GB → Int → GB
  | [], d, _ => d
  | e :: l, d, c => if e.1 ≤ c then lastB l e c else d
def froms (l : List GB) : List Int := l.map Prod.fst
theorem lastB_at : ∀ (l : List GB) (d : GB) (c : Int), (d :: l)[Co.ahead (froms l) c]? = some (lastB l d c)
  | [], d, c => rfl
  | e :: l, d, c => by
    have h := lastB_at l e c
    unfold froms at h ⊢
    simp only [List.map_cons, Co.ahead, lastB]
    split
    · simpa using h
    · rfl
theorem lastB_none {l : List GB} {d : GB} {c : Int} (h : Co.ahead (froms l) c = 0) : lastB l d c = d := by
  have := lastB_at l d c
  rw [h] at this
  simpa using this.symm
theorem lastB_some {l : List GB} {d : GB} {c : Int} {k : Nat} (h : Co.ahead (froms l) c = k + 1) (hk : k < l.length) : lastB l d c = l[k] := by
  have := lastB_at l d c
  rw [h] at this
  simp [hk] at this
  exact this.symm
def rowS : List (Int × List CSpan) := [
  (1, [  (0xd, 0xd)]),
  (2, [  (0xa, 0xa)]),
  (3, [  (0x0, 0x9), (0xb, 0xc), (0xe, 0x1f), (0x7f, 0x9f), (0xad, 0xad), (0x61c, 0x61c), (0x180e, 0x180e), (0x200b, 0x200b), (0x200e, 0x200f), (0x2028, 0x202e),  (0x2060, 0x206f), (0xfeff, 0xfeff), (0xfff0, 0xfffb), (0xe0000, 0xe001f), (0xe0080, 0xe00ff)]),
  (4, [  (0x300, 0x36f), (0x483, 0x489), (0x591, 0x5bd), (0x5bf, 0x5bf), (0x5c1, 0x5c2), (0x5c4, 0x5c5), (0x5c7, 0x5c7), (0x610, 0x61a), (0x64b, 0x65f), (0x670, 0x670),  (0x6d6, 0x6dc), (0x6df, 0x6e4), (0x6e7, 0x6e8), (0x6ea, 0x6ed), (0x93a, 0x93a), (0x93c, 0x93c), (0x941, 0x948), (0x94d, 0x94d), (0x9be, 0x9be), (0xe31, 0xe31),  (0xe34, 0xe3a), (0xe47, 0xe4e), (0x1ab0, 0x1ace), (0x1dc0, 0x1dff), (0x200c, 0x200c), (0x20d0, 0x20f0), (0x302a, 0x302f), (0x3099, 0x309a), (0xa66f, 0xa672), (0xfb1e, 0xfb1e),  (0xfe00, 0xfe0f), (0xfe20, 0xfe2f), (0xff9e, 0xff9f), (0x1f3fb, 0x1f3ff), (0xe0020, 0xe007f), (0xe0100, 0xe01ef)]),
  (5, [  (0x200d, 0x200d)]),
  (6, [  (0x1f1e6, 0x1f1ff)]),
  (7, [  (0x600, 0x605), (0x6dd, 0x6dd), (0x70f, 0x70f), (0x8e2, 0x8e2), (0xd4e, 0xd4e)]),
  (8, [  (0x903, 0x903), (0x93b, 0x93b), (0x93e, 0x940), (0x949, 0x94c), (0x94e, 0x94f), (0x982, 0x983), (0xe33, 0xe33), (0xeb3, 0xeb3)]),
  (9, [  (0x1100, 0x115f), (0xa960, 0xa97c)]),
  (10, [  (0x1160, 0x11a7), (0xd7b0, 0xd7c6)]),
  (11, [  (0x11a8, 0x11ff), (0xd7cb, 0xd7fb)])]
def pictS : List CSpan := [
  (0xa9, 0xa9), (0xae, 0xae), (0x203c, 0x203c), (0x2049, 0x2049), (0x2122, 0x2122), (0x2139, 0x2139), (0x2194, 0x2199), (0x21a9, 0x21aa), (0x231a, 0x231b), (0x2328, 0x2328),
  (0x23cf, 0x23cf), (0x23e9, 0x23f3), (0x23f8, 0x23fa), (0x24c2, 0x24c2), (0x25aa, 0x25ab), (0x25b6, 0x25b6), (0x25c0, 0x25c0), (0x25fb, 0x25fe), (0x2600, 0x2605), (0x2607, 0x2612),
  (0x2614, 0x2685), (0x2690, 0x2705), (0x2708, 0x2712), (0x2714, 0x2714), (0x2716, 0x2716), (0x271d, 0x271d), (0x2721, 0x2721), (0x2728, 0x2728), (0x2733, 0x2734), (0x2744, 0x2744),
  (0x2747, 0x2747), (0x274c, 0x274c), (0x274e, 0x274e), (0x2753, 0x2755), (0x2757, 0x2757), (0x2763, 0x2767), (0x2795, 0x2797), (0x27a1, 0x27a1), (0x27b0, 0x27b0), (0x27bf, 0x27bf),
  (0x2934, 0x2935), (0x2b05, 0x2b07), (0x2b1b, 0x2b1c), (0x2b50, 0x2b50), (0x2b55, 0x2b55), (0x3030, 0x3030), (0x303d, 0x303d), (0x3297, 0x3297), (0x3299, 0x3299), (0x1f000, 0x1f0ff),
  (0x1f10d, 0x1f10f), (0x1f12f, 0x1f12f), (0x1f16c, 0x1f171), (0x1f17e, 0x1f17f), (0x1f18e, 0x1f18e), (0x1f191, 0x1f19a), (0x1f1ad, 0x1f1e5), (0x1f201, 0x1f20f), (0x1f21a, 0x1f21a), (0x1f22f, 0x1f22f),
  (0x1f232, 0x1f23a), (0x1f23c, 0x1f23f), (0x1f249, 0x1f3fa), (0x1f400, 0x1f53d), (0x1f546, 0x1f64f), (0x1f680, 0x1f6ff), (0x1f774, 0x1f77f), (0x1f7d5, 0x1f7ff), (0x1f80c, 0x1f80f), (0x1f848, 0x1f84f),
  (0x1f85a, 0x1f85f), (0x1f888, 0x1f88f), (0x1f8ae, 0x1f8ff), (0x1f90c, 0x1f93a), (0x1f93c, 0x1f945), (0x1f947, 0x1faff), (0x1fc00, 0x1fffd)]
def bgs : List GB := [
  (0x0, 3), (0xa, 2), (0xb, 3), (0xd, 1), (0xe, 3), (0x20, 0), (0x7f, 3), (0xa0, 0), (0xad, 3), (0xae, 0),
  (0x300, 4), (0x370, 0), (0x483, 4), (0x48a, 0), (0x591, 4), (0x5be, 0), (0x5bf, 4), (0x5c0, 0), (0x5c1, 4), (0x5c3, 0),
  (0x5c4, 4), (0x5c6, 0), (0x5c7, 4), (0x5c8, 0), (0x600, 7), (0x606, 0), (0x610, 4), (0x61b, 0), (0x61c, 3), (0x61d, 0),
  (0x64b, 4), (0x660, 0), (0x670, 4), (0x671, 0), (0x6d6, 4), (0x6dd, 7), (0x6de, 0), (0x6df, 4), (0x6e5, 0), (0x6e7, 4),
  (0x6e9, 0), (0x6ea, 4), (0x6ee, 0), (0x70f, 7), (0x710, 0), (0x8e2, 7), (0x8e3, 0), (0x903, 8), (0x904, 0), (0x93a, 4),
  (0x93b, 8), (0x93c, 4), (0x93d, 0), (0x93e, 8), (0x941, 4), (0x949, 8), (0x94d, 4), (0x94e, 8), (0x950, 0), (0x982, 8),
  (0x984, 0), (0x9be, 4), (0x9bf, 0), (0xd4e, 7), (0xd4f, 0), (0xe31, 4), (0xe32, 0), (0xe33, 8), (0xe34, 4), (0xe3b, 0),
  (0xe47, 4), (0xe4f, 0), (0xeb3, 8), (0xeb4, 0), (0x1100, 9), (0x1160, 10), (0x11a8, 11), (0x1200, 0), (0x180e, 3), (0x180f, 0),
  (0x1ab0, 4), (0x1acf, 0), (0x1dc0, 4), (0x1e00, 0), (0x200b, 3), (0x200c, 4), (0x200d, 5), (0x200e, 3), (0x2010, 0), (0x2028, 3),
  (0x202f, 0), (0x2060, 3), (0x2070, 0), (0x20d0, 4), (0x20f1, 0), (0x302a, 4), (0x3030, 0), (0x3099, 4), (0x309b, 0), (0xa66f, 4),
  (0xa673, 0), (0xa960, 9), (0xa97d, 0), (0xac00, 14), (0xd7a4, 0), (0xd7b0, 10), (0xd7c7, 0), (0xd7cb, 11), (0xd7fc, 0), (0xfb1e, 4),
  (0xfb1f, 0), (0xfe00, 4), (0xfe10, 0), (0xfe20, 4), (0xfe30, 0), (0xfeff, 3), (0xff00, 0), (0xff9e, 4), (0xffa0, 0), (0xfff0, 3),
  (0xfffc, 0), (0x1f1e6, 6), (0x1f200, 0), (0x1f3fb, 4), (0x1f400, 0), (0xe0000, 3), (0xe0020, 4), (0xe0080, 3), (0xe0100, 4), (0xe01f0, 0)]
def pts : List GB := [
  (0xa9, 15), (0xaa, 16), (0xae, 15), (0xaf, 16), (0x203c, 15), (0x203d, 16), (0x2049, 15), (0x204a, 16), (0x2122, 15), (0x2123, 16),
  (0x2139, 15), (0x213a, 16), (0x2194, 15), (0x219a, 16), (0x21a9, 15), (0x21ab, 16), (0x231a, 15), (0x231c, 16), (0x2328, 15), (0x2329, 16),
  (0x23cf, 15), (0x23d0, 16), (0x23e9, 15), (0x23f4, 16), (0x23f8, 15), (0x23fb, 16), (0x24c2, 15), (0x24c3, 16), (0x25aa, 15), (0x25ac, 16),
  (0x25b6, 15), (0x25b7, 16), (0x25c0, 15), (0x25c1, 16), (0x25fb, 15), (0x25ff, 16), (0x2600, 15), (0x2606, 16), (0x2607, 15), (0x2613, 16),
  (0x2614, 15), (0x2686, 16), (0x2690, 15), (0x2706, 16), (0x2708, 15), (0x2713, 16), (0x2714, 15), (0x2715, 16), (0x2716, 15), (0x2717, 16),
  (0x271d, 15), (0x271e, 16), (0x2721, 15), (0x2722, 16), (0x2728, 15), (0x2729, 16), (0x2733, 15), (0x2735, 16), (0x2744, 15), (0x2745, 16),
  (0x2747, 15), (0x2748, 16), (0x274c, 15), (0x274d, 16), (0x274e, 15), (0x274f, 16), (0x2753, 15), (0x2756, 16), (0x2757, 15), (0x2758, 16),
  (0x2763, 15), (0x2768, 16), (0x2795, 15), (0x2798, 16), (0x27a1, 15), (0x27a2, 16), (0x27b0, 15), (0x27b1, 16), (0x27bf, 15), (0x27c0, 16),
  (0x2934, 15), (0x2936, 16), (0x2b05, 15), (0x2b08, 16), (0x2b1b, 15), (0x2b1d, 16), (0x2b50, 15), (0x2b51, 16), (0x2b55, 15), (0x2b56, 16),
  (0x3030, 15), (0x3031, 16), (0x303d, 15), (0x303e, 16), (0x3297, 15), (0x3298, 16), (0x3299, 15), (0x329a, 16), (0x1f000, 15), (0x1f100, 16),
  (0x1f10d, 15), (0x1f110, 16), (0x1f12f, 15), (0x1f130, 16), (0x1f16c, 15), (0x1f172, 16), (0x1f17e, 15), (0x1f180, 16), (0x1f18e, 15), (0x1f18f, 16),
  (0x1f191, 15), (0x1f19b, 16), (0x1f1ad, 15), (0x1f1e6, 16), (0x1f201, 15), (0x1f210, 16), (0x1f21a, 15), (0x1f21b, 16), (0x1f22f, 15), (0x1f230, 16),
  (0x1f232, 15), (0x1f23b, 16), (0x1f23c, 15), (0x1f240, 16), (0x1f249, 15), (0x1f3fb, 16), (0x1f400, 15), (0x1f53e, 16), (0x1f546, 15), (0x1f650, 16),
  (0x1f680, 15), (0x1f700, 16), (0x1f774, 15), (0x1f780, 16), (0x1f7d5, 15), (0x1f800, 16), (0x1f80c, 15), (0x1f810, 16), (0x1f848, 15), (0x1f850, 16),
  (0x1f85a, 15), (0x1f860, 16), (0x1f888, 15), (0x1f890, 16), (0x1f8ae, 15), (0x1f900, 16), (0x1f90c, 15), (0x1f93b, 16), (0x1f93c, 15), (0x1f946, 16),
  (0x1f947, 15), (0x1fb00, 16), (0x1fc00, 15), (0x1fffe, 16)]
def firstIn : List (Int × List CSpan) → Int → Int
  | [], _ => 0
  | r :: l, c => if inS r.2 c = true then r.1 else firstIn l c
/-- P5.1, the document's answer. -/
def refT (c : Int) : Int := if 44032 ≤ c ∧ c ≤ 55203 then (if (c - 44032) % 28 = 0 then 12 else 13) else firstIn rowS c
def pictT (c : Int) : Bool := inS pictS c
/-- The code's. -/
def ofK (k c : Int) : Int := if k = 14 then (if (c - 44032) % 28 = 0 then 12 else 13) else k
def kindT (c : Int) : Int := ofK (lastB bgs (0, 0) c).2 c
def inAll (l : List CSpan) (a b : Int) : Bool := l.any fun s => decide (s.1 ≤ a) && decide (b ≤ s.2 + 1)
def outAll (l : List CSpan) (a b : Int) : Bool := l.all fun s => decide (s.2 < a) || decide (b ≤ s.1)
def outTop (l : List CSpan) (a : Int) : Bool := l.all fun s => decide (s.2 < a)
def outLow (l : List CSpan) (b : Int) : Bool := l.all fun s => decide (b ≤ s.1)
theorem inAll_in {l : List CSpan} {a b c : Int} (h : inAll l a b = true) (h1 : a ≤ c) (h2 : c < b) : inS l c = true := by
  unfold inAll at h
  unfold inS
  rw [List.any_eq_true] at h ⊢
  obtain ⟨s, hs, h⟩ := h
  simp only [Bool.and_eq_true, decide_eq_true_eq] at h
  refine ⟨s, hs, ?_⟩
  simp only [Bool.and_eq_true, decide_eq_true_eq]
  omega
theorem inS_no {l : List CSpan} {c : Int} (h : ∀ s ∈ l, c < s.1 ∨ s.2 < c) : inS l c = false := by
  unfold inS
  rw [List.any_eq_false]
  intro s hs
  have := h s hs
  simp only [Bool.and_eq_true, decide_eq_true_eq]
  omega
theorem outAll_out {l : List CSpan} {a b c : Int} (h : outAll l a b = true) (h1 : a ≤ c) (h2 : c < b) : inS l c = false := by
  refine inS_no fun s hs => ?_
  have := List.all_eq_true.1 h s hs
  simp only [Bool.or_eq_true, decide_eq_true_eq] at this
  omega
theorem outTop_out {l : List CSpan} {a c : Int} (h : outTop l a = true) (h1 : a ≤ c) : inS l c = false := by
  refine inS_no fun s hs => ?_
  have := List.all_eq_true.1 h s hs
  simp only [decide_eq_true_eq] at this
  omega
theorem outLow_out {l : List CSpan} {b c : Int} (h : outLow l b = true) (h1 : c < b) : inS l c = false := by
  refine inS_no fun s hs => ?_
  have := List.all_eq_true.1 h s hs
  simp only [decide_eq_true_eq] at this
  omega
def okFirst : List (Int × List CSpan) → Int → Int → Int → Bool
  | [], _, _, k => k == 0
  | r :: l, a, b, k => if r.1 = k then inAll r.2 a b else outAll r.2 a b && okFirst l a b k
theorem okFirst_is : ∀ {l : List (Int × List CSpan)} {a b k c : Int}, okFirst l a b k = true → a ≤ c → c < b → firstIn l c = k
  | [], a, b, k, c, h, _, _ => by
    have : k = 0 := by simpa [okFirst] using h
    simp [firstIn, this]
  | r :: l, a, b, k, c, h, h1, h2 => by
    unfold okFirst at h
    unfold firstIn
    split at h
    · rename_i e
      rw [if_pos (inAll_in h h1 h2), e]
    · rw [Bool.and_eq_true] at h
      rw [if_neg (by rw [outAll_out h.1 h1 h2]; decide)]
      exact okFirst_is h.2 h1 h2
def okMid (a b k : Int) : Bool := if k = 14 then decide (44032 ≤ a) && decide (b ≤ 55204) else (decide (b ≤ 44032) || decide (55204 ≤ a)) && okFirst rowS a b k
theorem okMid_is {a b k c : Int} (h : okMid a b k = true) (h1 : a ≤ c) (h2 : c < b) : refT c = ofK k c := by
  unfold okMid at h
  unfold refT ofK
  split at h
  · rename_i e
    simp only [Bool.and_eq_true, decide_eq_true_eq] at h
    rw [if_pos (by omega), if_pos e]
  · rename_i e
    simp only [Bool.and_eq_true, Bool.or_eq_true, decide_eq_true_eq] at h
    rw [if_neg (by omega), if_neg e, okFirst_is h.2 h1 h2]
def okTop (a k : Int) : Bool := k == 0 && (decide (55204 ≤ a) && rowS.all fun r => outTop r.2 a)
theorem firstIn_none : ∀ {l : List (Int × List CSpan)} {c : Int}, (∀ r ∈ l, inS r.2 c = false) → firstIn l c = 0
  | [], _, _ => rfl
  | r :: l, c, h => by
    unfold firstIn
    rw [if_neg (by rw [h r (by simp)]; decide)]
    exact firstIn_none fun x hx => h x (by simp [hx])
theorem okTop_is {a k c : Int} (h : okTop a k = true) (h1 : a ≤ c) : refT c = ofK k c := by
  simp only [okTop, Bool.and_eq_true, beq_iff_eq, decide_eq_true_eq, List.all_eq_true] at h
  obtain ⟨rfl, h2, h3⟩ := h
  unfold refT ofK
  rw [if_neg (by omega), if_neg (by decide), firstIn_none fun r hr => outTop_out (h3 r hr) h1]
def chk : List GB → Int → Int → Bool
  | [], a, k => okTop a k
  | e :: l, a, k => okMid a e.1 k && chk l e.1 e.2
theorem chk_is : ∀ {l : List GB} {a k c : Int}, chk l a k = true → a ≤ c → refT c = ofK (lastB l (a, k) c).2 c
  | [], a, k, c, h, h1 => okTop_is h h1
  | e :: l, a, k, c, h, h1 => by
    unfold chk at h
    rw [Bool.and_eq_true] at h
    unfold lastB
    split
    · rename_i h2
      exact chk_is h.2 h2
    · rename_i h2
      exact okMid_is h.1 h1 (by omega)
theorem bgs_ok : chk bgs.tail 0 3 = true := by kernel_rfl
theorem bgs_low : (rowS.all fun r => outLow r.2 0) = true := by kernel_rfl
theorem bgs_head : bgs = (0, 3) :: bgs.tail := by kernel_rfl
theorem ref_kind (c : Int) : refT c = kindT c := by
  unfold kindT
  rw [bgs_head]
  unfold lastB
  split
  · rename_i h
    exact chk_is bgs_ok h
  · rename_i h
    have h' : c < 0 := by simpa using h
    unfold refT ofK
    rw [if_neg (by omega), if_neg (by decide), firstIn_none fun r hr => outLow_out (List.all_eq_true.1 bgs_low r hr) h']
def chkP : List GB → Int → Int → Bool
  | [], a, k => !(k == 15) && outTop pictS a
  | e :: l, a, k => (if k = 15 then inAll pictS a e.1 else outAll pictS a e.1) && chkP l e.1 e.2
theorem chkP_is : ∀ {l : List GB} {a k c : Int}, chkP l a k = true → a ≤ c → pictT c = ((lastB l (a, k) c).2 == 15)
  | [], a, k, c, h, h1 => by
    simp only [chkP, Bool.and_eq_true] at h
    unfold pictT lastB
    rw [outTop_out h.2 h1]
    have := h.1
    cases e : (k == 15) with
    | false => rfl
    | true => rw [e] at this; cases this
  | e :: l, a, k, c, h, h1 => by
    simp only [chkP, Bool.and_eq_true] at h
    unfold lastB
    split
    · rename_i h2
      exact chkP_is h.2 h2
    · rename_i h2
      have h3 := h.1
      unfold pictT
      split at h3
      · rename_i e
        rw [inAll_in h3 h1 (by omega), e]
        rfl
      · rename_i e
        rw [outAll_out h3 h1 (by omega)]
        symm
        simpa using e
theorem pts_ok : chkP pts.tail 169 15 = true := by kernel_rfl
theorem pts_low : outLow pictS 169 = true := by kernel_rfl
theorem pts_head : pts = (169, 15) :: pts.tail := by kernel_rfl
theorem pict_last (c : Int) : pictT c = ((lastB pts (0, 0) c).2 == 15) := by
  rw [pts_head]
  unfold lastB
  split
  · rename_i h
    exact chkP_is pts_ok h
  · rename_i h
    have h' : c < 169 := by simpa using h
    unfold pictT
    rw [outLow_out pts_low h']
    rfl
theorem bgs_len : bgs.length = 130 := by kernel_rfl
theorem pts_len : pts.length = 154 := by kernel_rfl
theorem bgs_rises : risesI (froms bgs) = true := by kernel_rfl
theorem pts_rises : risesI (froms pts) = true := by kernel_rfl
def okB (e : GB) : Bool := decide (0 ≤ e.1) && decide (e.1 ≤ 1000000) && decide (0 ≤ e.2) && decide (e.2 ≤ 16)
theorem bgs_small : bgs.all okB = true := by kernel_rfl
theorem pts_small : pts.all okB = true := by kernel_rfl
theorem okB_is {e : GB} (h : okB e = true) : 0 ≤ e.1 ∧ e.1 ≤ 1000000 ∧ 0 ≤ e.2 ∧ e.2 ≤ 16 := by
  simp only [okB, Bool.and_eq_true, decide_eq_true_eq] at h
  omega
theorem lastB_ok : ∀ {l : List GB} {d : GB} {c : Int}, l.all okB = true → okB d = true → okB (lastB l d c) = true
  | [], _, _, _, h => h
  | e :: l, d, c, h, hd => by
    rw [List.all_cons, Bool.and_eq_true] at h
    unfold lastB
    split
    · exact lastB_ok h.2 h.1
    · exact hd
theorem kind_bounds (c : Int) : 0 ≤ kindT c ∧ kindT c ≤ 16 := by
  have h := okB_is (lastB_ok (l := bgs) (d := (0, 0)) (c := c) bgs_small (by decide))
  unfold kindT ofK
  split
  · split <;> omega
  · omega
/-- Syllables are told of numbers from AC00 to D7A3 alone. -/
theorem kind_syl {c : Int} (h : (lastB bgs (0, 0) c).2 = 14) : 44032 ≤ c ∧ c ≤ 55203 := by
  have h1 := ref_kind c
  unfold kindT ofK at h1
  rw [if_pos h] at h1
  by_cases h2 : 44032 ≤ c ∧ c ≤ 55203
  · exact h2
  · unfold refT at h1
    rw [if_neg h2] at h1
    have h3 : ∀ (l : List (Int × List CSpan)), (∀ r ∈ l, r.1 ≤ 11) → firstIn l c ≤ 11 := by
      intro l
      induction l with
      | nil => intro _; unfold firstIn; omega
      | cons r l ih =>
        intro hl
        unfold firstIn
        split
        · exact hl r (by simp)
        · exact ih fun x hx => hl x (by simp [hx])
    have h4 := h3 rowS (by decide +kernel)
    split at h1 <;> omega
end Go.Proofs.YtlocnjenkanmpaaDoor.Gc

/-
  A rune as three numbers. No program in it.
-/
set_option linter.unusedVariables false
namespace Go.Proofs.YtlocnjenkanmpaaDoor.Ku
/-- A rune: where it begins, its size, its number. -/
abbrev R3 := Int × Int × Int
/-- A number that an int holds. -/
def okN (n : Int) : Prop := -9223372036854775808 ≤ n ∧ n ≤ 9223372036854775807
end Go.Proofs.YtlocnjenkanmpaaDoor.Ku

/-
  Plain facts on clusters: which code points join, how wide a cluster is, the clusters of runes; no program here.
-/
set_option linter.unusedVariables false
namespace Go.Proofs.YtlocnjenkanmpaaDoor.Ku
open Go.Proofs.YtlocnjenkanmpaaDoor.Co Go.Proofs.YtlocnjenkanmpaaDoor.Gc
/-- A pictograph is of the kind Other; each kind is one of 0 to 13. -/
def noPict : List GB → Int → Int → Bool
  | [], a, k => (k == 0) || outTop pictS a
  | e :: l, a, k => ((k == 0) || outAll pictS a e.1) && noPict l e.1 e.2
theorem noPict_is : ∀ {l : List GB} {a k c : Int}, noPict l a k = true → a ≤ c → pictT c = true → (lastB l (a, k) c).2 = 0
  | [], a, k, c, h, h1, hp => by
    simp only [noPict, Bool.or_eq_true, beq_iff_eq] at h
    rcases h with h | h
    · exact h
    · unfold pictT at hp
      rw [outTop_out h h1] at hp
      cases hp
  | e :: l, a, k, c, h, h1, hp => by
    simp only [noPict, Bool.or_eq_true, Bool.and_eq_true, beq_iff_eq] at h
    unfold lastB
    split
    · rename_i h2
      exact noPict_is h.2 h2 hp
    · rename_i h2
      rcases h.1 with h3 | h3
      · exact h3
      · unfold pictT at hp
        rw [outAll_out h3 h1 (by omega)] at hp
        cases hp
theorem bgs_noPict : noPict bgs.tail 0 3 = true := by kernel_rfl
theorem picts_low : outLow pictS 0 = true := by kernel_rfl
theorem pict_kind {c : Int} (h : pictT c = true) : kindT c = 0 := by
  unfold kindT
  rw [bgs_head]
  unfold lastB
  split
  · rename_i h1
    rw [noPict_is bgs_noPict h1 h]
    rfl
  · rename_i h1
    have h' : c < 0 := by simpa using h1
    unfold pictT at h
    rw [outLow_out picts_low h'] at h
    cases h
theorem bgs_kinds : (bgs.all fun e => decide (e.2 ≤ 14)) = true := by kernel_rfl
theorem last_kinds : ∀ {l : List GB} {d : GB} {c : Int}, (l.all fun e => decide (e.2 ≤ 14)) = true → d.2 ≤ 14 → (lastB l d c).2 ≤ 14
  | [], _, _, _, h => h
  | e :: l, d, c, h, hd => by
    rw [List.all_cons, Bool.and_eq_true] at h
    unfold lastB
    split
    · exact last_kinds h.2 (by simpa using h.1)
    · exact hd
theorem kind_le (c : Int) : 0 ≤ kindT c ∧ kindT c ≤ 13 := by
  refine ⟨(kind_bounds c).1, ?_⟩
  have h := last_kinds (l := bgs) (d := (0, 0)) (c := c) bgs_kinds (by decide)
  unfold kindT ofK
  split
  · split <;> omega
  · omega
theorem kind_0 : kindT 0 = 3 := by kernel_rfl
theorem pict_0 : pictT 0 = false := by kernel_rfl
theorem kind_pic : kindT 65039 = 4 := by kernel_rfl
/-- A kind that joins nothing, but LF behind CR. -/
def alone (k : Int) : Bool := k == 1 || (k == 2 || k == 3)
/-- Rule 3. -/
def syl (a b : Int) : Bool := if a = 9 then b == 9 || (b == 10 || (b == 12 || b == 13)) else if a = 12 ∨ a = 10 then b == 10 || b == 11 else (a == 13 || a == 11) && b == 11
/-- Rule 2. -/
def trail (a b : Int) : Bool := (!alone a && !alone b) && (b == 4 || (b == 5 || (b == 8 || a == 7)))
/-- Rules 1 to 3. -/
def rules (a b : Int) : Bool := (a == 1 && b == 2) || (trail a b || syl a b)
/-- What was seen: the code point ahead, whether it is the last of an odd number of RI, whether a pictograph stands ahead of it. -/
structure Sg where
  c : Int
  o : Bool
  p : Bool
def none0 : Sg := ⟨0, false, false⟩
def stepO (σ : Sg) (c : Int) : Bool := if kindT c = 6 then !σ.o else false
def stepP (σ : Sg) (c : Int) : Bool := if kindT c = 4 ∨ kindT c = 5 then pictT σ.c || (kindT σ.c == 4 && σ.p) else false
def step (σ : Sg) (c : Int) : Sg := ⟨c, stepO σ c, stepP σ c⟩
def joins (σ : Sg) (c : Int) : Bool := rules (kindT σ.c) (kindT c) || (if kindT σ.c = 5 then σ.p && pictT c else kindT c == 6 && σ.o)
def wideC (p c : Int) : Int := if c = 65039 ∧ pictT p = true then 2 else slotsT c
def wide (σ : Sg) (c : Int) : Int := if alone (kindT c) = true then 0 else wideC σ.c c
theorem wideC_bounds (p c : Int) : 0 ≤ wideC p c ∧ wideC p c ≤ 2 := by
  unfold wideC
  split
  · omega
  · exact slotsT_bounds c
theorem wide_bounds (σ : Sg) (c : Int) : 0 ≤ wide σ c ∧ wide σ c ≤ 2 := by
  unfold wide
  split
  · omega
  · exact wideC_bounds _ _
structure C6 where
  a : Int
  z : Int
  f : Int
  t : Int
  w : Int
  c : Int
deriving DecidableEq
def new (n : Nat) (r : R3) : C6 := ⟨r.1, 0, n, 0, 0, r.2.2⟩
def ext (σ : Sg) (x : C6) (n : Nat) (r : R3) : C6 := ⟨x.a, IntKind.i64.wrap (x.z + r.2.1), x.f, (n : Int) + 1, max x.w (wide σ r.2.2), x.c⟩
def run : Sg → Nat → C6 → List R3 → List C6
  | _, _, x, [] => [x]
  | σ, n, x, r :: l => if joins σ r.2.2 = true then run (step σ r.2.2) (n + 1) (ext σ x n r) l else x :: run (step σ r.2.2) (n + 1) (ext σ (new n r) n r) l
def runN (σ : Sg) (n : Nat) : List R3 → List C6
  | [] => []
  | r :: l => run (step σ r.2.2) (n + 1) (ext σ (new n r) n r) l
/-- P6.1: the clusters of runes. -/
def ofC (l : List R3) : List C6 := runN none0 0 l
theorem run_yes {σ : Sg} {n : Nat} {x : C6} {r : R3} {l : List R3} (h : joins σ r.2.2 = true) : run σ n x (r :: l) = run (step σ r.2.2) (n + 1) (ext σ x n r) l := if_pos h
theorem run_no {σ : Sg} {n : Nat} {x : C6} {r : R3} {l : List R3} (h : joins σ r.2.2 = false) : run σ n x (r :: l) = x :: run (step σ r.2.2) (n + 1) (ext σ (new n r) n r) l := if_neg (by rw [h]; decide)
/-- The states are sound: an odd number of RI stands behind one alone. -/
def Sg.ok (σ : Sg) : Prop := σ.o = true → kindT σ.c = 6
theorem none0_ok : none0.ok := fun h => by cases h
theorem step_ok (σ : Sg) (c : Int) : (step σ c).ok := by
  intro h
  unfold step stepO at h
  simp only at h
  split at h
  · assumption
  · cases h
theorem joins_none (c : Int) : joins none0 c = false := by
  unfold joins none0
  simp only [kind_0]
  have hr : rules 3 (kindT c) = false := by
    unfold rules trail syl alone
    simp
  rw [hr]
  simp
def all14 (p : Int → Bool) : Bool := (List.range 14).all fun k => p k
theorem all14_is {p : Int → Bool} (h : all14 p = true) {c : Int} (hc : 0 ≤ c ∧ c ≤ 13) : p c = true := by
  have := List.all_eq_true.1 h c.toNat (List.mem_range.2 (by omega))
  rwa [show ((c.toNat : Nat) : Int) = c from by omega] at this
theorem rules_alone0 : (all14 fun a => all14 fun b => !rules a b || (alone a == alone b)) = true := by decide +kernel
theorem rules_alone {a b : Int} (ha : 0 ≤ a ∧ a ≤ 13) (hb : 0 ≤ b ∧ b ≤ 13) (h : rules a b = true) : alone a = alone b := by
  have := all14_is (all14_is rules_alone0 ha) hb
  rw [h] at this
  simpa using this
theorem joins_alone {σ : Sg} {c : Int} (hs : σ.ok) (h : joins σ c = true) : alone (kindT σ.c) = alone (kindT c) := by
  unfold joins at h
  rw [Bool.or_eq_true] at h
  rcases h with h | h
  · exact rules_alone (kind_le _) (kind_le _) h
  · split at h
    · rename_i e
      rw [Bool.and_eq_true] at h
      rw [e, pict_kind h.2]
      rfl
    · rw [Bool.and_eq_true, beq_iff_eq] at h
      rw [h.1, hs h.2]
/-- What joins nothing begins with the widest of its own. -/
theorem rules_pic {σ : Sg} {c : Int} (h : joins σ c = false) : ¬ (c = 65039 ∧ pictT σ.c = true) := by
  rintro ⟨rfl, hp⟩
  unfold joins at h
  rw [pict_kind hp, kind_pic] at h
  rw [show rules 0 4 = true from by decide] at h
  cases h
theorem wide_first {σ : Sg} {c : Int} (h : joins σ c = false) : wide σ c = if alone (kindT c) = true then 0 else slotsT c := by
  unfold wide wideC
  rw [if_neg (rules_pic h)]
def paR : List Int → Bool
  | [] => false
  | c :: l => if kindT c = 4 then paR l else pictT c
def riR : List Int → Nat
  | [] => 0
  | c :: l => if kindT c = 6 then riR l + 1 else 0
theorem riR_cons (c : Int) (l : List Int) : riR (c :: l) = if kindT c = 6 then riR l + 1 else 0 := rfl
/-- The state behind code points, the last one first. -/
def stR : List Int → Sg
  | [] => none0
  | c :: l => step (stR l) c
theorem stR_ok : ∀ l, (stR l).ok
  | [] => none0_ok
  | c :: l => step_ok _ _
theorem stR_p : ∀ (c : Int) (l : List Int), kindT c = 4 ∨ kindT c = 5 → (stR (c :: l)).p = paR l
  | c, [], h => by
    show stepP none0 c = false
    unfold stepP none0
    rw [if_pos h, pict_0, kind_0]
    rfl
  | c, d :: l, h => by
    show stepP (stR (d :: l)) c = _
    unfold stepP
    rw [if_pos h, show (stR (d :: l)).c = d from rfl]
    unfold paR
    by_cases hd : kindT d = 4
    · have hp : pictT d = false := by
        cases hp : pictT d with
        | false => rfl
        | true => rw [pict_kind hp] at hd; cases hd
      rw [if_pos hd, hp, stR_p d l (.inl hd), hd]
      rfl
    · rw [if_neg hd]
      have : (kindT d == 4) = false := by simpa using hd
      rw [this, Bool.false_and, Bool.or_false]
theorem stR_o : ∀ (l : List Int), (stR l).o = decide (riR l % 2 = 1)
  | [] => rfl
  | c :: l => by
    show stepO (stR l) c = _
    unfold stepO riR
    by_cases h : kindT c = 6
    · rw [if_pos h, if_pos h, stR_o l]
      by_cases h1 : riR l % 2 = 1
      · rw [decide_eq_true h1, decide_eq_false (by omega)]
        rfl
      · rw [decide_eq_false h1, decide_eq_true (by omega)]
        rfl
    · rw [if_neg h, if_neg h]
      rfl
/-- The document's rules 4 and 5, of the code points ahead (the last one first). -/
theorem joins_read (d c : Int) (l : List Int) : joins (stR (d :: l)) c = (rules (kindT d) (kindT c) || ((kindT d == 5 && pictT c && paR l) || (kindT d == 6 && kindT c == 6 && decide (riR l % 2 = 0)))) := by
  unfold joins
  rw [show (stR (d :: l)).c = d from rfl]
  by_cases h5 : kindT d = 5
  · rw [if_pos h5, stR_p d l (.inr h5), h5]
    cases pictT c <;> cases paR l <;> simp
  · rw [if_neg h5, stR_o]
    have e5 : (kindT d == 5) = false := by simpa using h5
    rw [e5, Bool.false_and, Bool.false_and, Bool.false_or]
    congr 1
    rw [riR_cons]
    by_cases h6 : kindT d = 6
    · rw [if_pos h6, h6]
      by_cases h1 : riR l % 2 = 0
      · rw [decide_eq_true h1, decide_eq_true (by omega : (riR l + 1) % 2 = 1)]
        simp
      · rw [decide_eq_false h1, decide_eq_false (by omega : ¬ (riR l + 1) % 2 = 1)]
        simp
    · rw [if_neg h6]
      have e6 : (kindT d == 6) = false := by simpa using h6
      rw [e6]
      simp
end Go.Proofs.YtlocnjenkanmpaaDoor.Ku

/-
  Plain facts on clusters: a cluster as the document reckons it; runes that are cut ahead of a cluster; runes that follow one another without a gap; which cluster has a byte; no program here.
-/
set_option linter.unusedVariables false
namespace Go.Proofs.YtlocnjenkanmpaaDoor.Ku
open Go.Proofs.YtlocnjenkanmpaaDoor.Co Go.Proofs.YtlocnjenkanmpaaDoor.Gc
def szF (l : List R3) : Int := l.foldl (fun z r => IntKind.i64.wrap (z + r.2.1)) 0
theorem szF_snoc (l : List R3) (r : R3) : szF (l ++ [r]) = IntKind.i64.wrap (szF l + r.2.1) := by
  unfold szF; rw [List.foldl_append]; rfl
def wl : Int → Int → List Int → Int
  | _, n, [] => n
  | p, n, c :: l => wl c (max n (wideC p c)) l
theorem wl_snoc : ∀ (l : List Int) (p n c : Int), wl p n (l ++ [c]) = max (wl p n l) (wideC (l.getLastD p) c)
  | [], p, n, c => rfl
  | d :: l, p, n, c => by
    show wl d _ (l ++ [c]) = _
    rw [wl_snoc l]
    show max (wl d _ l) _ = max (wl d _ l) _
    congr 2
    cases l <;> rfl
theorem wl_bounds : ∀ (l : List Int) (p n : Int), 0 ≤ n → n ≤ 2 → 0 ≤ wl p n l ∧ wl p n l ≤ 2
  | [], p, n, h1, h2 => ⟨h1, h2⟩
  | c :: l, p, n, h1, h2 => by
    have := wideC_bounds p c
    exact wl_bounds l c _ (by omega) (by omega)
/-- Nothing gets wider than two. -/
theorem wl_two : ∀ (l : List Int) (p : Int), wl p 2 l = 2
  | [], p => rfl
  | c :: l, p => by
    have := wideC_bounds p c
    show wl c (max 2 (wideC p c)) l = 2
    rw [show max (2 : Int) (wideC p c) = 2 from by omega]
    exact wl_two l c
def wideR (l : List Int) : Int := if alone (kindT (l.headD 0)) = true then 0 else wl 0 0 l
def codes (l : List R3) : List Int := l.map fun r => r.2.2
theorem codes_len (l : List R3) : (codes l).length = l.length := by simp [codes]
def seg (l : List R3) (f i : Nat) : List R3 := (l.drop f).take (i - f)
theorem seg_snoc (l : List R3) (f i : Nat) (hf : f ≤ i) (hi : i < l.length) : seg l f (i + 1) = seg l f i ++ [l[i]] := by
  unfold seg
  rw [show i + 1 - f = (i - f) + 1 from by omega, List.take_succ_eq_append_getElem (by simp; omega)]
  simp [show f + (i - f) = i from by omega]
theorem seg_none (l : List R3) (f : Nat) : seg l f f = [] := by unfold seg; simp
theorem seg_head (l : List R3) (f i : Nat) (hf : f < i) (hi : i ≤ l.length) : ∃ t, seg l f i = l[f] :: t := by
  unfold seg
  rw [List.drop_eq_getElem_cons (by omega), show i - f = (i - f - 1) + 1 from by omega, List.take_succ_cons]
  exact ⟨_, rfl⟩
theorem seg_last (l : List R3) (f i : Nat) (hf : f < i) (hi : i ≤ l.length) (d : Int) : (codes (seg l f i)).getLastD d = (l[i - 1]).2.2 := by
  obtain ⟨j, rfl⟩ : ∃ j, i = j + 1 := ⟨i - 1, by omega⟩
  rw [seg_snoc l f j (by omega) (by omega)]
  simp [codes]
/-- The state ahead of a place. -/
def stAt (l : List R3) (i : Nat) : Sg := stR (codes (l.take i)).reverse
theorem stAt_zero (l : List R3) : stAt l 0 = none0 := rfl
theorem stAt_succ (l : List R3) (i : Nat) (hi : i < l.length) : stAt l (i + 1) = step (stAt l i) (l[i]).2.2 := by
  unfold stAt
  rw [List.take_succ_eq_append_getElem hi]
  unfold codes
  rw [List.map_append, List.reverse_append]
  rfl
theorem stAt_c (l : List R3) (i : Nat) (h0 : 0 < i) (hi : i ≤ l.length) : (stAt l i).c = (l[i - 1]).2.2 := by
  obtain ⟨j, rfl⟩ : ∃ j, i = j + 1 := ⟨i - 1, by omega⟩
  rw [stAt_succ l j (by omega)]
  rfl
theorem stAt_ok (l : List R3) (i : Nat) : (stAt l i).ok := stR_ok _
/-- The cluster from one place to another, by the document's words. -/
def refX (l : List R3) (f i : Nat) (h : f < l.length) : C6 := ⟨(l[f]).1, szF (seg l f i), f, i, wideR (codes (seg l f i)), (l[f]).2.2⟩
/-- What stands from one place to another is one cluster, or its beginning. -/
def Cur (l : List R3) (f i : Nat) (x : C6) : Prop := ∃ (h : f < i) (h2 : i ≤ l.length), x = refX l f i (by omega) ∧ alone (kindT (l[f]).2.2) = alone (kindT (l[i - 1]).2.2)
theorem cur_new (l : List R3) (i : Nat) (hi : i < l.length) (h : joins (stAt l i) (l[i]).2.2 = false) : Cur l i (i + 1) (ext (stAt l i) (new i l[i]) i l[i]) := by
  refine ⟨Nat.lt_succ_self _, hi, ?_, rfl⟩
  unfold refX
  rw [seg_snoc l i i (Nat.le_refl _) hi, seg_none]
  unfold ext new
  simp only [wide_first h]
  congr 1
  show max 0 (if alone (kindT (l[i]).2.2) = true then 0 else slotsT (l[i]).2.2) = if alone (kindT (l[i]).2.2) = true then 0 else max 0 (wideC 0 (l[i]).2.2)
  have hs := slotsT_bounds (l[i]).2.2
  have : wideC 0 (l[i]).2.2 = slotsT (l[i]).2.2 := by
    unfold wideC
    rw [if_neg (by rw [pict_0]; rintro ⟨_, h⟩; cases h)]
  rw [this]
  split <;> omega
theorem cur_ext (l : List R3) (f i : Nat) (x : C6) (hi : i < l.length) (hc : Cur l f i x) (h : joins (stAt l i) (l[i]).2.2 = true) : Cur l f (i + 1) (ext (stAt l i) x i l[i]) := by
  obtain ⟨hf, h2, rfl, ha⟩ := hc
  have hal := joins_alone (stAt_ok l i) h
  rw [stAt_c l i (by omega) (by omega)] at hal
  refine ⟨by omega, hi, ?_, by rw [ha, hal]; rfl⟩
  unfold refX ext
  rw [seg_snoc l f i (by omega) hi, szF_snoc]
  congr 1
  simp only
  unfold wideR wide
  obtain ⟨t, ht⟩ := seg_head l f i hf h2
  have hh : (codes (seg l f i)).headD 0 = (l[f]).2.2 := by rw [ht]; rfl
  have hh2 : (codes (seg l f i ++ [l[i]])).headD 0 = (l[f]).2.2 := by rw [ht]; rfl
  rw [hh, hh2, ← hal, ← ha, stAt_c l i (by omega) (by omega)]
  split
  · rfl
  · rw [show codes (seg l f i ++ [l[i]]) = codes (seg l f i) ++ [(l[i]).2.2] from by simp [codes], wl_snoc, seg_last l f i hf h2]
theorem run_at (l : List R3) (i : Nat) (hi : i < l.length) (x : C6) (h : joins (stAt l i) (l[i]).2.2 = true) : run (stAt l i) i x (l.drop i) = run (stAt l (i + 1)) (i + 1) (ext (stAt l i) x i l[i]) (l.drop (i + 1)) := by
  rw [List.drop_eq_getElem_cons hi, run_yes h, stAt_succ l i hi]
theorem run_at_no (l : List R3) (i : Nat) (hi : i < l.length) (x : C6) (h : joins (stAt l i) (l[i]).2.2 = false) : run (stAt l i) i x (l.drop i) = x :: run (stAt l (i + 1)) (i + 1) (ext (stAt l i) (new i l[i]) i l[i]) (l.drop (i + 1)) := by
  rw [List.drop_eq_getElem_cons hi, run_no h, stAt_succ l i hi]
theorem run_end (l : List R3) (i : Nat) (hi : l.length ≤ i) (σ : Sg) (x : C6) : run σ i x (l.drop i) = [x] := by
  rw [List.drop_of_length_le hi]; rfl
theorem ofC_start (l : List R3) (h : 0 < l.length) : ofC l = run (stAt l 1) 1 (ext (stAt l 0) (new 0 l[0]) 0 l[0]) (l.drop 1) := by
  cases l with
  | nil => simp at h
  | cons r l => rfl
theorem cur_start (l : List R3) (h : 0 < l.length) : Cur l 0 1 (ext (stAt l 0) (new 0 l[0]) 0 l[0]) := cur_new l 0 h (joins_none _)
theorem run_wide : ∀ (l : List R3) (σ : Sg) (n : Nat) (x : C6), 0 ≤ x.w ∧ x.w ≤ 2 → ∀ y ∈ run σ n x l, 0 ≤ y.w ∧ y.w ≤ 2
  | [], σ, n, x, h, y, hy => by
    rw [show run σ n x [] = [x] from rfl, List.mem_singleton] at hy
    rw [hy]
    exact h
  | r :: l, σ, n, x, h, y, hy => by
    have hw := wide_bounds σ r.2.2
    unfold run at hy
    split at hy
    · exact run_wide l _ _ _ (by unfold ext; simp only; omega) y hy
    · rw [List.mem_cons] at hy
      rcases hy with rfl | hy
      · exact h
      · exact run_wide l _ _ _ (by unfold ext new; simp only; omega) y hy
theorem ofC_wide (l : List R3) : ∀ y ∈ ofC l, 0 ≤ y.w ∧ y.w ≤ 2 := by
  cases l with
  | nil => intro y hy; simp [ofC, runN] at hy
  | cons r l =>
    have hw := wide_bounds none0 r.2.2
    exact run_wide l _ _ _ (by unfold ext new; simp only; omega)
end Go.Proofs.YtlocnjenkanmpaaDoor.Ku

/-
  Rows of ints in memory, of the call's own or of what came in: small facts.
-/
set_option linter.unusedVariables false
namespace Go.Proofs.YtlocnjenkanmpaaDoor.Cl
open Go.RowKit Go.Lib
theorem info_parts {P : Program} {t : TypeId} {z : Value} {s b : Nat} (h : (P.info? t).map (fun i => (i.zero, i.size, i.bytes)) = some (some z, s, b)) : ∃ i, P.info? t = some i ∧ i.zero = some z ∧ i.size = s ∧ i.bytes = b := by
  cases hi : P.info? t with
  | none => rw [hi] at h; cases h
  | some i =>
    rw [hi] at h
    simp only [Option.map_some, Option.some.injEq, Prod.mk.injEq] at h
    exact ⟨i, rfl, h.1, h.2.1, h.2.2⟩
/-- A row of ints that came in: nil, or cells below the heap's end. -/
def IntsAt (w : World) (A : Option Addr) (zs : List Int) : Prop :=
  zs = [] ∨ ∃ b off, A = some ⟨b, off, none⟩ ∧ b < w.heap.size ∧ ∀ j z, zs[j]? = some z → w.cell? ⟨b, off + j, none⟩ = some (.int .i64 z)
theorem infoInt : (Tryd.prog.info? 3).map (fun i => (i.zero, i.size, i.bytes)) = some (some (.int .i64 0), 1, 8) := by kernel_rfl
theorem IntsAt.below {w w' : World} {A : Option Addr} {zs : List Int} (h : IntsAt w A zs) (hb : Below w.heap.size w w') : IntsAt w' A zs := by
  rcases h with h | ⟨b, off, hA, hlt, hc⟩
  · exact .inl h
  · exact .inr ⟨b, off, hA, Nat.lt_of_lt_of_le hlt hb.size, fun j z hz => (hb.cell (p := ⟨b, off + j, none⟩) hlt).trans (hc j z hz)⟩
theorem intsAt_own {w : World} {B : Nat} {v : Value} {zs : List Int} (h : w.ownsRow B 3 1 v zs.length (zs.map (Value.int .i64))) : ∃ A c, v = .slice A zs.length c ∧ IntsAt w A zs := by
  have hc := @World.ownsRow.cells _ _ _ _ _ _ _ h
  rcases h.2 with ⟨rfl, hn⟩ | ⟨g, cap, cur, rfl, _, hg, _⟩
  · exact ⟨none, 0, by rw [hn], .inl (List.eq_nil_of_length_eq_zero hn)⟩
  · refine ⟨_, cap, rfl, .inr ⟨g, 0, rfl, (Array.getElem?_eq_some_iff.1 hg).1, fun j z hz => ?_⟩⟩
    have := hc (g := g) rfl j (.int .i64 z) (by simp [hz])
    have hadd : (⟨g, 0, none⟩ : Addr).add j = ⟨g, 0 + j, none⟩ := by unfold Addr.add; split <;> simp_all
    rw [← hadd]
    exact this
theorem IntsAt.at_ {w : World} {A : Option Addr} {zs : List Int} (h : IntsAt w A zs) {k : Nat} (hk : k < zs.length) : ∃ b off, A = some ⟨b, off, none⟩ ∧ w.cell? ⟨b, off + k, none⟩ = some (.int .i64 zs[k]) := by
  rcases h with rfl | ⟨b, off, hA, hlt, hc⟩
  · simp at hk
  · exact ⟨b, off, hA, hc k _ (List.getElem?_eq_getElem hk)⟩
theorem IntsAt.nil_len {w : World} {A : Option Addr} {zs : List Int} (h : IntsAt w A zs) : A = none → zs.length = 0 := by
  rintro rfl
  rcases h with rfl | ⟨b, off, hA, _⟩
  · rfl
  · cases hA
theorem IntsAt.news {w : World} {ad : Addr} {zs : List Int} (h : IntsAt w (some ad) zs) : ∀ j u, (zs.map (Value.int .i64))[j]? = some u → w.cell? (ad.add j) = some u := by
  intro j u hu
  rcases h with rfl | ⟨b, off, hA, hlt, hc⟩
  · simp at hu
  · injection hA with hA
    subst hA
    have hadd : (⟨b, off, none⟩ : Addr).add j = ⟨b, off + j, none⟩ := by unfold Addr.add; split <;> simp_all
    rw [hadd]
    simp only [List.getElem?_map, Option.map_eq_some_iff] at hu
    obtain ⟨z, hz, rfl⟩ := hu
    exact hc j z hz
theorem ownsRow_mono {w : World} {b b' : Nat} {t : TypeId} {n m : Nat} {v : Value} {xs : List Value} (h : w.ownsRow b t n v m xs) (hb : b' ≤ b) : w.ownsRow b' t n v m xs := by
  refine ⟨h.1, ?_⟩
  rcases h.2 with h2 | ⟨g, cap, cur, e1, e2, e3⟩
  · exact .inl h2
  · exact .inr ⟨g, cap, cur, e1, Nat.le_trans hb e2, e3⟩
theorem ownsRow_below {w w' : World} {b : Nat} {t : TypeId} {n m : Nat} {v : Value} {xs : List Value} (h : w.ownsRow b t n v m xs) (hb : Below w.heap.size w w') : w'.ownsRow b t n v m xs := by
  refine ⟨h.1, ?_⟩
  rcases h.2 with h2 | ⟨g, cap, cur, e1, e2, e3, e4⟩
  · exact .inl h2
  · exact .inr ⟨g, cap, cur, e1, e2, (hb.block g (Array.getElem?_eq_some_iff.1 e3).1).trans e3, e4⟩
theorem ints_one (zs : List Int) : ∀ u ∈ zs.map (Value.int .i64), u.oneCell' = true := by
  intro u hu
  simp only [List.mem_map] at hu
  obtain ⟨x, _, rfl⟩ := hu
  rfl
end Go.Proofs.YtlocnjenkanmpaaDoor.Cl

/-
  Rows of runes in memory, of the call's own or of what came in: small facts.
-/
set_option linter.unusedVariables false
namespace Go.Proofs.YtlocnjenkanmpaaDoor.Ku
open Go.RowKit Go.Lib
def cellsR (l : List R3) : List Value := l.flatMap fun r => [.int .i64 r.1, .int .i64 r.2.1, .int .i64 r.2.2]
theorem cellsR_len (l : List R3) : (cellsR l).length = l.length * 3 := by
  induction l with
  | nil => rfl
  | cons r l ih => simp [cellsR] at ih ⊢; omega
theorem cellsR_snoc (l : List R3) (r : R3) : cellsR (l ++ [r]) = cellsR l ++ [.int .i64 r.1, .int .i64 r.2.1, .int .i64 r.2.2] := by simp [cellsR]
theorem cellsR_at : ∀ (l : List R3) (k : Nat) (hk : k < l.length), (cellsR l)[k * 3]? = some (.int .i64 l[k].1) ∧ (cellsR l)[k * 3 + 1]? = some (.int .i64 l[k].2.1) ∧ (cellsR l)[k * 3 + 2]? = some (.int .i64 l[k].2.2)
  | r :: l, 0, _ => ⟨rfl, rfl, rfl⟩
  | r :: l, k + 1, hk => by
    have := cellsR_at l k (by simpa using hk)
    rw [show (k + 1) * 3 = k * 3 + 3 from by omega]
    exact this
theorem cellsR_one (l : List R3) : ∀ u ∈ cellsR l, u.oneCell' = true := by
  intro u hu
  simp only [cellsR, List.mem_flatMap] at hu
  obtain ⟨x, _, hu⟩ := hu
  simp at hu
  rcases hu with rfl | rfl | rfl <;> rfl
/-- A row of runes: nothing, or cells below the heap's end. -/
def RuAt (w : World) (A : Option Addr) (l : List R3) : Prop :=
  l = [] ∨ ∃ b off, A = some ⟨b, off, none⟩ ∧ b < w.heap.size ∧ ∀ k (hk : k < l.length), w.cell? ⟨b, off + k * 3, none⟩ = some (.int .i64 l[k].1) ∧ w.cell? ⟨b, off + k * 3 + 1, none⟩ = some (.int .i64 l[k].2.1) ∧ w.cell? ⟨b, off + k * 3 + 2, none⟩ = some (.int .i64 l[k].2.2)
theorem RuAt.below {w w' : World} {A : Option Addr} {l : List R3} (h : RuAt w A l) (hb : Below w.heap.size w w') : RuAt w' A l := by
  rcases h with h | ⟨b, off, hA, hlt, hc⟩
  · exact .inl h
  · refine .inr ⟨b, off, hA, Nat.lt_of_lt_of_le hlt hb.size, fun k hk => ?_⟩
    obtain ⟨h0, h1, h2⟩ := hc k hk
    exact ⟨(hb.cell (p := ⟨b, off + k * 3, none⟩) hlt).trans h0, (hb.cell (p := ⟨b, off + k * 3 + 1, none⟩) hlt).trans h1, (hb.cell (p := ⟨b, off + k * 3 + 2, none⟩) hlt).trans h2⟩
theorem RuAt.at_ {w : World} {A : Option Addr} {l : List R3} (h : RuAt w A l) {k : Nat} (hk : k < l.length) : ∃ b off, A = some ⟨b, off, none⟩ ∧ b < w.heap.size ∧ w.cell? ⟨b, off + k * 3, none⟩ = some (.int .i64 l[k].1) ∧ w.cell? ⟨b, off + k * 3 + 1, none⟩ = some (.int .i64 l[k].2.1) ∧ w.cell? ⟨b, off + k * 3 + 2, none⟩ = some (.int .i64 l[k].2.2) := by
  rcases h with rfl | ⟨b, off, hA, hlt, hc⟩
  · simp at hk
  · obtain ⟨h0, h1, h2⟩ := hc k hk
    exact ⟨b, off, hA, hlt, h0, h1, h2⟩
theorem RuAt.heap {w w' : World} {A : Option Addr} {l : List R3} (h : RuAt w A l) (e : w'.heap = w.heap) : RuAt w' A l := by
  unfold RuAt World.cell? at h ⊢
  rw [e]
  exact h
theorem add_off (b off k : Nat) : (⟨b, off, none⟩ : Addr).add k = ⟨b, off + k, none⟩ := by unfold Addr.add; split <;> simp_all
theorem ruAt_own {w : World} {B : Nat} {t : TypeId} {v : Value} {l : List R3} (h : w.ownsRow B t 3 v l.length (cellsR l)) : ∃ A c, v = .slice A l.length c ∧ RuAt w A l := by
  have hc := @World.ownsRow.cells _ _ _ _ _ _ _ h
  rcases h.2 with ⟨rfl, hn⟩ | ⟨g, cap, cur, rfl, _, hg, _⟩
  · exact ⟨none, 0, by rw [hn], .inl (List.eq_nil_of_length_eq_zero hn)⟩
  · refine ⟨_, cap, rfl, .inr ⟨g, 0, rfl, (Array.getElem?_eq_some_iff.1 hg).1, fun k hk => ?_⟩⟩
    obtain ⟨h0, h1, h2⟩ := cellsR_at l k hk
    refine ⟨?_, ?_, ?_⟩
    · have := hc (g := g) rfl _ _ h0; rw [add_off] at this; exact this
    · have := hc (g := g) rfl _ _ h1; rw [add_off] at this; exact this
    · have := hc (g := g) rfl _ _ h2; rw [add_off] at this; exact this
theorem RuAt.news {w : World} {ad : Addr} {l : List R3} (h : RuAt w (some ad) l) : ∀ j u, (cellsR l)[j]? = some u → w.cell? (ad.add j) = some u := by
  intro j u hu
  rcases h with rfl | ⟨b, off, hA, hlt, hc⟩
  · simp [cellsR] at hu
  · injection hA with hA
    subst hA
    have hlen := cellsR_len l
    have hj : j < l.length * 3 := by
      have := (List.getElem?_eq_some_iff.1 hu).1
      omega
    have hk : j / 3 < l.length := by omega
    obtain ⟨h0, h1, h2⟩ := hc (j / 3) hk
    obtain ⟨g0, g1, g2⟩ := cellsR_at l (j / 3) hk
    rw [add_off]
    have : j = j / 3 * 3 ∨ j = j / 3 * 3 + 1 ∨ j = j / 3 * 3 + 2 := by omega
    rcases this with e | e | e
    · rw [e, g0] at hu; rw [e]; rw [← hu]; exact h0
    · rw [e, g1] at hu; rw [e]; rw [← hu]; exact h1
    · rw [e, g2] at hu; rw [e]; rw [← hu]; exact h2
theorem infoR : (Tryd.prog.info? 36).map (fun i => (i.zero, i.size, i.bytes)) = some (some (.agg #[.int .i64 0, .int .i64 0, .int .i64 0]), 3, 24) := by kernel_rfl
end Go.Proofs.YtlocnjenkanmpaaDoor.Ku

/-
  Rows of lines in memory: their cells, as they are read; a line as a value, its five cells in a block. No program in it but its type.
-/
set_option linter.unusedVariables false
namespace Go.Proofs.YtlocnjenkanmpaaDoor.Wr
open Go Go.RowKit Go.Lib Go.Proofs.YtlocnjenkanmpaaDoor.Ku
/-- A line: from, to, show, hard, dots. -/
structure L5 where
  f : Int
  t : Int
  s : Int
  h : Int
  d : Int
deriving DecidableEq
/-- A row of lines. -/
def LiAt (w : World) (A : Option Addr) (l : List L5) : Prop :=
  l = [] ∨ ∃ b off, A = some ⟨b, off, none⟩ ∧ b < w.heap.size ∧ ∀ k (hk : k < l.length), w.cell? ⟨b, off + k * 5, none⟩ = some (.int .i64 l[k].f) ∧ w.cell? ⟨b, off + k * 5 + 1, none⟩ = some (.int .i64 l[k].t) ∧ w.cell? ⟨b, off + k * 5 + 2, none⟩ = some (.int .i64 l[k].s) ∧ w.cell? ⟨b, off + k * 5 + 3, none⟩ = some (.int .i64 l[k].h) ∧ w.cell? ⟨b, off + k * 5 + 4, none⟩ = some (.int .i64 l[k].d)
theorem LiAt.below {w w' : World} {A : Option Addr} {l : List L5} (h : LiAt w A l) (hb : Below w.heap.size w w') : LiAt w' A l := by
  rcases h with h | ⟨b, off, hA, hlt, hc⟩
  · exact .inl h
  · refine .inr ⟨b, off, hA, Nat.lt_of_lt_of_le hlt hb.size, fun k hk => ?_⟩
    obtain ⟨h0, h1, h2, h3, h4⟩ := hc k hk
    exact ⟨(hb.cell (p := ⟨b, off + k * 5, none⟩) hlt).trans h0, (hb.cell (p := ⟨b, off + k * 5 + 1, none⟩) hlt).trans h1, (hb.cell (p := ⟨b, off + k * 5 + 2, none⟩) hlt).trans h2, (hb.cell (p := ⟨b, off + k * 5 + 3, none⟩) hlt).trans h3, (hb.cell (p := ⟨b, off + k * 5 + 4, none⟩) hlt).trans h4⟩
theorem LiAt.at_ {w : World} {A : Option Addr} {l : List L5} (h : LiAt w A l) {k : Nat} (hk : k < l.length) : ∃ b off, A = some ⟨b, off, none⟩ ∧ b < w.heap.size ∧ w.cell? ⟨b, off + k * 5, none⟩ = some (.int .i64 l[k].f) ∧ w.cell? ⟨b, off + k * 5 + 1, none⟩ = some (.int .i64 l[k].t) ∧ w.cell? ⟨b, off + k * 5 + 2, none⟩ = some (.int .i64 l[k].s) ∧ w.cell? ⟨b, off + k * 5 + 3, none⟩ = some (.int .i64 l[k].h) ∧ w.cell? ⟨b, off + k * 5 + 4, none⟩ = some (.int .i64 l[k].d) := by
  rcases h with rfl | ⟨b, off, hA, hlt, hc⟩
  · simp at hk
  · obtain ⟨h0, h1, h2, h3, h4⟩ := hc k hk
    exact ⟨b, off, hA, hlt, h0, h1, h2, h3, h4⟩
def lnV (x : L5) : Value := .agg #[.int .i64 x.f, .int .i64 x.t, .int .i64 x.s, .int .i64 x.h, .int .i64 x.d]
theorem cell5 {U : World} {b : Nat} {t : TypeId} {a0 a1 a2 a3 a4 : Value} (h : U.heap[b]? = some (.cells #[a0, a1, a2, a3, a4] t (0, 0))) :
    (U.cell? ⟨b, 0, none⟩ = some a0 ∧ U.cell? ⟨b, 1, none⟩ = some a1 ∧ U.cell? ⟨b, 2, none⟩ = some a2 ∧ U.cell? ⟨b, 3, none⟩ = some a3 ∧ U.cell? ⟨b, 4, none⟩ = some a4) ∧
    U.frozen? ⟨b, 0, none⟩ = false ∧ U.frozen? ⟨b, 1, none⟩ = false ∧ U.frozen? ⟨b, 2, none⟩ = false ∧ U.frozen? ⟨b, 3, none⟩ = false ∧ U.frozen? ⟨b, 4, none⟩ = false :=
  ⟨⟨cell_of_row U b 0 _ _ _ h, cell_of_row U b 1 _ _ _ h, cell_of_row U b 2 _ _ _ h, cell_of_row U b 3 _ _ _ h, cell_of_row U b 4 _ _ _ h⟩, frozen_of_row U b 0 _ _ h, frozen_of_row U b 1 _ _ h, frozen_of_row U b 2 _ _ h, frozen_of_row U b 3 _ _ h, frozen_of_row U b 4 _ _ h⟩
theorem two_newW (w : World) (o1 o2 : Obj) : ((w.alloc o1).alloc o2).heap[w.heap.size]? = some o1 ∧ ((w.alloc o1).alloc o2).heap[w.heap.size + 1]? = some o2 ∧ Below w.heap.size w ((w.alloc o1).alloc o2) ∧ ((w.alloc o1).alloc o2).heap.size = w.heap.size + 2 :=
  ⟨heap_alloc2_old w o1 o2, heap_alloc2_new w o1 o2, ((Below.refl _ _).alloc (Nat.le_refl _) _).alloc (by simp) _, by simp⟩
end Go.Proofs.YtlocnjenkanmpaaDoor.Wr

/-
  Lines, plainly, by two functions of the place (how wide, 0 or more; whether blank): what fits, the first line from a place on, the lines: there is just one row of them; they follow one another; what is not shown are blanks; a line takes no more than fits, or is one cluster; with what stands first behind it it would take more. No program in it.
-/
set_option linter.unusedVariables false
namespace Go.Proofs.YtlocnjenkanmpaaDoor.Wr
/-- Of k clusters from f on, how many fit into w slots. -/
def fitK (W : Nat → Int) : Nat → Nat → Int → Nat
  | 0, _, _ => 0
  | k + 1, f, w => if w < W f then 0 else fitK W k (f + 1) (w - W f) + 1
theorem fitK_le (W : Nat → Int) : ∀ (k f : Nat) (w : Int), fitK W k f w ≤ k
  | 0, _, _ => Nat.le_refl _
  | k + 1, f, w => by
    unfold fitK
    split
    · omega
    · have := fitK_le W k (f + 1) (w - W f)
      omega
theorem fitK_min (W : Nat → Int) : ∀ (k j f : Nat) (w : Int), j ≤ k → fitK W j f w = min j (fitK W k f w)
  | _, 0, _, _, _ => by simp [fitK]
  | 0, j + 1, _, _, h => by omega
  | k + 1, j + 1, f, w, h => by
    unfold fitK
    split
    · simp
    · rw [fitK_min W k j (f + 1) (w - W f) (by omega)]
      omega
/-- Do k clusters from f on take more than w? -/
def moreK (W : Nat → Int) (k f : Nat) (w : Int) : Bool := decide (fitK W k f w < k)
theorem moreK_at (W : Nat → Int) {k j f : Nat} {w : Int} (h : j ≤ k) : moreK W j f w = decide (fitK W k f w < j) := by
  unfold moreK
  rw [fitK_min W k j f w h, decide_eq_decide]
  omega
/-- Where what fits from f on ends. -/
def endF (W : Nat → Int) (n f : Nat) (w : Int) : Nat := f + fitK W (n - f) f w
theorem endF_le (W : Nat → Int) {n f : Nat} (w : Int) (h : f ≤ n) : f ≤ endF W n f w ∧ endF W n f w ≤ n := by
  unfold endF
  have := fitK_le W (n - f) f w
  omega
/-- A blank that a line may end ahead of: of the places from f up to e one that is blank, with one that is none ahead of it. -/
def Gap (B : Nat → Bool) (f e b : Nat) : Prop := f ≤ b ∧ b ≤ e ∧ B b = true ∧ ∃ j, f ≤ j ∧ j < b ∧ B j = false
/-- The first line from f on: up to t, shown up to s. -/
inductive First (W : Nat → Int) (B : Nat → Bool) (n f : Nat) (w : Int) : Nat → Nat → Prop
  | all : endF W n f w = n → First W B n f w n n
  | gap (b t s : Nat) : endF W n f w < n → Gap B f (endF W n f w) b → (∀ i, b < i → ¬ Gap B f (endF W n f w) i) → s ≤ b → (∀ k, s ≤ k → k < t → B k = true) → 0 < s → B (s - 1) = false → b < t → t ≤ n → (t < n → B t = false) → First W B n f w t s
  | cut : endF W n f w < n → (∀ i, ¬ Gap B f (endF W n f w) i) → First W B n f w (max (endF W n f w) (f + 1)) (max (endF W n f w) (f + 1))
theorem Gap.shown {B : Nat → Bool} {f e b s t : Nat} (h : Gap B f e b) (hb : b < t) (ha : ∀ k, s ≤ k → k < t → B k = true) : f < s := by
  obtain ⟨_, _, _, j, h1, h2, h3⟩ := h
  by_cases hj : s ≤ j
  · have := ha j hj (by omega)
    rw [h3] at this
    cases this
  · omega
/-- It goes on, within what there is. -/
theorem First.goes {W : Nat → Int} {B : Nat → Bool} {n f : Nat} {w : Int} {t s : Nat} (h : First W B n f w t s) (hf : f < n) : f < t ∧ t ≤ n ∧ f ≤ s ∧ s ≤ t ∧ f < s := by
  have he := endF_le W w (Nat.le_of_lt hf)
  cases h with
  | all e => omega
  | gap b _ _ e hg hl hsb ha h0 hz hbt htn hte =>
    have := hg.shown hbt ha
    omega
  | cut e hn => omega
/-- With the word, or the cluster, that stands first behind it, it would take more. -/
theorem First.wide {W : Nat → Int} {B : Nat → Bool} {n f : Nat} {w : Int} {t s : Nat} (h : First W B n f w t s) (hf : f < n) (ht : t < n) {e : Nat} (h1 : t < e) (h2 : e ≤ n) (h3 : ∀ k, t < k → k < e → B k = false) (h4 : e < n → B e = true) : moreK W (e - f) f w = true := by
  have he := endF_le W w (Nat.le_of_lt hf)
  have hg := h.goes hf
  rw [moreK_at W (k := n - f) (by omega)]
  refine decide_eq_true ?_
  cases h with
  | all e' => omega
  | cut e' hn => unfold endF at *; omega
  | gap b _ _ e' hgp hl hsb ha h0 hz hbt htn hte =>
    have ht' := hte ht
    unfold endF at *
    by_cases hh : fitK W (n - f) f w < e - f
    · exact hh
    · exfalso
      have hen : e < n := by omega
      obtain ⟨g1, g2, g3, j, g4, g5, g6⟩ := hgp
      exact hl e (by omega) ⟨by omega, by omega, h4 hen, t, by omega, h1, ht'⟩
/-- The lines from f on: from, to, show of each. -/
inductive Lns (W : Nat → Int) (B : Nat → Bool) (n : Nat) (w : Int) : Nat → List (Nat × Nat × Nat) → Prop
  | last (f s : Nat) : First W B n f w n s → Lns W B n w f [(f, n, s)]
  | more (f t s : Nat) (r : List (Nat × Nat × Nat)) : First W B n f w t s → t < n → Lns W B n w t r → Lns W B n w f ((f, t, s) :: r)
/-- What is so of each line, by where it stands. -/
theorem Lns.at_ {W : Nat → Int} {B : Nat → Bool} {n : Nat} {w : Int} {f : Nat} {L : List (Nat × Nat × Nat)} (h : Lns W B n w f L) (hf : f < n) : ∀ {i : Nat} {x : Nat × Nat × Nat}, L[i]? = some x → x.1 < n ∧ First W B n x.1 w x.2.1 x.2.2 ∧ (i = 0 → x.1 = f) ∧ (x.2.1 = n ↔ i + 1 = L.length) ∧ (∀ y, L[i + 1]? = some y → y.1 = x.2.1) := by
  induction h with
  | last f s h1 =>
    intro i x hx
    cases i with
    | zero => simp at hx; subst hx; exact ⟨hf, h1, fun _ => rfl, by simp, by simp⟩
    | succ i => simp at hx
  | more f t s r h1 h2 h3 ih =>
    intro i x hx
    have hr : 0 < r.length := by cases h3 <;> simp
    cases i with
    | zero =>
      simp at hx; subst hx
      refine ⟨hf, h1, fun _ => rfl, ⟨fun e => by dsimp only at e; omega, fun e => by simp only [List.length_cons] at e; omega⟩, ?_⟩
      · intro y hy
        exact (ih h2 (i := 0) (x := y) (by simpa using hy)).2.2.1 rfl
    | succ i =>
      obtain ⟨a, b, c, d, e⟩ := ih h2 (i := i) (x := x) (by simpa using hx)
      refine ⟨a, b, fun h0 => by omega, by simp [d], fun y hy => e y (by simpa using hy)⟩
end Go.Proofs.YtlocnjenkanmpaaDoor.Wr
