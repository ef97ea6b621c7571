/-
  Plain facts on rows of numbers that rise, in which spans begin and end in turns: how many stand ahead of a number, and whether a span has it; how many slots a number takes; no program here.
-/
import Derived.KernelRfl
namespace Go.Proofs.Ytikjchebffohdaa.Co

/-- A span: its first number, its last one. -/
abbrev CSpan := Int × Int
def endsL (l : List CSpan) : List Int := l.flatMap fun s => [s.1, s.2 + 1]
def flatL (l : List CSpan) : List Int := l.flatMap fun s => [s.1, s.2]
def inS (l : List CSpan) (c : Int) : Bool := l.any fun s => decide (s.1 ≤ c) && decide (c ≤ s.2)
/-- How many of a row stand ahead of what is above a number. -/
def ahead : List Int → Int → Nat
  | [], _ => 0
  | e :: l, c => if e ≤ c then ahead l c + 1 else 0
def risesI : List Int → Bool
  | [] => true
  | [_] => true
  | a :: b :: l => decide (a ≤ b) && risesI (b :: l)

theorem risesI_cons {a b : Int} {l : List Int} (h : risesI (a :: b :: l) = true) : a ≤ b ∧ risesI (b :: l) = true := by
  simpa [risesI] using h
theorem risesI_tail {a : Int} {l : List Int} (h : risesI (a :: l) = true) : risesI l = true := by
  cases l with
  | nil => rfl
  | cons b l => exact (risesI_cons h).2
theorem risesI_head : ∀ {l : List Int} {a : Int}, risesI (a :: l) = true → ∀ x ∈ l, a ≤ x
  | [], _, _, _, hx => by cases hx
  | b :: l, a, h, x, hx => by
    obtain ⟨h1, h2⟩ := risesI_cons h
    rcases List.mem_cons.1 hx with rfl | hx
    · exact h1
    · have := risesI_head h2 x hx
      omega
theorem risesI_le : ∀ {l : List Int}, risesI l = true → ∀ (i j : Nat) (hi : i < l.length) (hj : j < l.length), i ≤ j → l[i] ≤ l[j]
  | a :: l, h, 0, 0, _, _, _ => Int.le_refl _
  | a :: l, h, 0, j + 1, _, hj, _ => risesI_head h _ (List.getElem_mem (by simpa using hj))
  | a :: l, h, i + 1, j + 1, hi, hj, hij => by
    have := risesI_le (risesI_tail h) i j (by simpa using hi) (by simpa using hj) (by omega)
    simpa using this
theorem ahead_le : ∀ (l : List Int) (c : Int), ahead l c ≤ l.length
  | [], _ => Nat.le_refl _
  | e :: l, c => by
    have := ahead_le l c
    unfold ahead
    split <;> simp <;> omega
theorem ahead_is : ∀ (l : List Int) (c : Int) (i : Nat), i ≤ l.length → (∀ k (hk : k < l.length), k < i → l[k] ≤ c) → (∀ (hi : i < l.length), c < l[i]) → ahead l c = i
  | [], c, i, hi, _, _ => by simp only [List.length_nil] at hi; unfold ahead; omega
  | e :: l, c, 0, _, _, h => by
    have := h (by simp)
    unfold ahead
    rw [if_neg (by simpa using this)]
  | e :: l, c, i + 1, hi, hlo, hhi => by
    have h0 := hlo 0 (by simp) (by omega)
    unfold ahead
    rw [if_pos (by simpa using h0), ahead_is l c i (by simpa using hi) (fun k hk hki => hlo (k + 1) (Nat.succ_lt_succ hk) (by omega)) (fun h => hhi (Nat.succ_lt_succ h))]

theorem inS_below {l : List CSpan} {a c : Int} (hr : risesI (a :: endsL l) = true) (h : c < a) : inS l c = false := by
  have hh := risesI_head hr
  unfold inS
  rw [List.any_eq_false]
  intro s hs
  have h1 := hh s.1 (List.mem_flatMap.2 ⟨s, hs, by simp⟩)
  simp only [Bool.and_eq_true, decide_eq_true_eq, not_and]
  omega
theorem odd_in : ∀ (l : List CSpan) (c : Int), risesI (endsL l) = true → (ahead (endsL l) c % 2 == 1) = inS l c
  | [], c, _ => rfl
  | s :: l, c, h => by
    have e : endsL (s :: l) = s.1 :: (s.2 + 1) :: endsL l := rfl
    have e2 : inS (s :: l) c = (decide (s.1 ≤ c) && decide (c ≤ s.2) || inS l c) := rfl
    rw [e] at h
    rw [e, e2]
    obtain ⟨h1, h2⟩ := risesI_cons h
    simp only [ahead]
    by_cases h3 : s.1 ≤ c
    · rw [if_pos h3]
      by_cases h4 : s.2 + 1 ≤ c
      · rw [if_pos h4, decide_eq_false (show ¬ c ≤ s.2 by omega), ← odd_in l c (risesI_tail h2)]
        rw [show (ahead (endsL l) c + 1 + 1) % 2 = ahead (endsL l) c % 2 from by omega]
        simp
      · rw [if_neg h4, decide_eq_true h3, decide_eq_true (show c ≤ s.2 by omega)]
        rfl
    · rw [if_neg h3, decide_eq_false h3, inS_below h2 (by omega)]
      rfl

def narrowS : List CSpan := [
  (0x0, 0x1f), (0x7f, 0x9f), (0xad, 0xad), (0x300, 0x36f), (0x483, 0x489), (0x591, 0x5bd), (0x5bf, 0x5bf), (0x5c1, 0x5c2), (0x5c4, 0x5c5), (0x5c7, 0x5c7),
  (0x600, 0x605), (0x610, 0x61a), (0x61c, 0x61c), (0x64b, 0x65f), (0x670, 0x670), (0x6d6, 0x6dd), (0x6df, 0x6e4), (0x6e7, 0x6e8), (0x6ea, 0x6ed), (0x8e2, 0x8e2),
  (0x93a, 0x93a), (0x93c, 0x93c), (0x941, 0x948), (0x94d, 0x94d), (0xe31, 0xe31), (0xe34, 0xe3a), (0xe47, 0xe4e), (0x1160, 0x11ff), (0x1ab0, 0x1ace), (0x1dc0, 0x1dff),
  (0x200b, 0x200f), (0x2028, 0x202e), (0x2060, 0x206f), (0x20d0, 0x20f0), (0x302a, 0x302d), (0x3099, 0x309a), (0xa66f, 0xa672), (0xd7b0, 0xd7fb), (0xfb1e, 0xfb1e), (0xfe00, 0xfe0f),
  (0xfe20, 0xfe2f), (0xfeff, 0xfeff), (0xfff9, 0xfffb), (0xe0001, 0xe007f), (0xe0100, 0xe01ef)]
def wideS : List CSpan := [
  (0x1100, 0x115f), (0x231a, 0x231b), (0x23e9, 0x23ec), (0x23f0, 0x23f0), (0x23f3, 0x23f3), (0x25fd, 0x25fe), (0x2614, 0x2615), (0x2648, 0x2653), (0x267f, 0x267f), (0x2693, 0x2693),
  (0x26a1, 0x26a1), (0x26aa, 0x26ab), (0x26bd, 0x26be), (0x26c4, 0x26c5), (0x26ce, 0x26ce), (0x26d4, 0x26d4), (0x26ea, 0x26ea), (0x26f2, 0x26f3), (0x26f5, 0x26f5), (0x26fa, 0x26fa),
  (0x26fd, 0x26fd), (0x2705, 0x2705), (0x270a, 0x270b), (0x2728, 0x2728), (0x274c, 0x274c), (0x274e, 0x274e), (0x2753, 0x2755), (0x2757, 0x2757), (0x2795, 0x2797), (0x27b0, 0x27b0),
  (0x27bf, 0x27bf), (0x2b1b, 0x2b1c), (0x2b50, 0x2b50), (0x2b55, 0x2b55), (0x2e80, 0x2e99), (0x2e9b, 0x2ef3), (0x2f00, 0x2fd5), (0x2ff0, 0x3029), (0x302e, 0x303e), (0x3041, 0x3096),
  (0x309b, 0x30ff), (0x3105, 0x312f), (0x3131, 0x318e), (0x3190, 0x31e3), (0x31f0, 0x321e), (0x3220, 0x3247), (0x3250, 0x4dbf), (0x4e00, 0xa48c), (0xa490, 0xa4c6), (0xa960, 0xa97c),
  (0xac00, 0xd7a3), (0xf900, 0xfaff), (0xfe10, 0xfe19), (0xfe30, 0xfe52), (0xfe54, 0xfe66), (0xfe68, 0xfe6b), (0xff01, 0xff60), (0xffe0, 0xffe6), (0x1f004, 0x1f004), (0x1f0cf, 0x1f0cf),
  (0x1f18e, 0x1f18e), (0x1f191, 0x1f19a), (0x1f1e6, 0x1f202), (0x1f300, 0x1f320), (0x1f32d, 0x1f335), (0x1f337, 0x1f37c), (0x1f37e, 0x1f393), (0x1f3a0, 0x1f3ca), (0x1f3cf, 0x1f3d3), (0x1f3e0, 0x1f3f0),
  (0x1f3f4, 0x1f3f4), (0x1f3f8, 0x1f43e), (0x1f440, 0x1f440), (0x1f442, 0x1f4fc), (0x1f4ff, 0x1f53d), (0x1f54b, 0x1f54e), (0x1f550, 0x1f567), (0x1f57a, 0x1f57a), (0x1f595, 0x1f596), (0x1f5a4, 0x1f5a4),
  (0x1f5fb, 0x1f64f), (0x1f680, 0x1f6c5), (0x1f6cc, 0x1f6cc), (0x1f6d0, 0x1f6d2), (0x1f6eb, 0x1f6ec), (0x1f6f4, 0x1f6fc), (0x1f90c, 0x1f93a), (0x1f93c, 0x1f945), (0x1f947, 0x1f9ff), (0x1fa70, 0x1faff),
  (0x20000, 0x2fffd), (0x30000, 0x3fffd)]
def narrowE : List Int := endsL narrowS
def wideE : List Int := endsL wideS
theorem narrowE_rises : risesI narrowE = true := by kernel_rfl
theorem wideE_rises : risesI wideE = true := by kernel_rfl
theorem narrowE_len : narrowE.length = 90 := by kernel_rfl
theorem wideE_len : wideE.length = 184 := by kernel_rfl

/-- P4.1, as a function. -/
def slotsV (n w : Bool) : Int := if n = true then 0 else if w = true then 2 else 1
def slotsT (c : Int) : Int := slotsV (inS narrowS c) (inS wideS c)
def sumT (l : List Int) : Int := (l.map slotsT).sum
theorem slotsV_bounds (n w : Bool) : 0 ≤ slotsV n w ∧ slotsV n w ≤ 2 := by cases n <;> cases w <;> decide
theorem slotsT_bounds (c : Int) : 0 ≤ slotsT c ∧ slotsT c ≤ 2 := slotsV_bounds _ _
theorem sumT_append (l m : List Int) : sumT (l ++ m) = sumT l + sumT m := by
  unfold sumT
  rw [List.map_append, List.sum_append]
theorem sumT_next (l : List Int) (k : Nat) (hk : k < l.length) : sumT (l.take (k + 1)) = sumT (l.take k) + slotsT l[k] := by
  rw [List.take_succ_eq_append_getElem hk, sumT_append]
  simp [sumT]
theorem sumT_bounds : ∀ (l : List Int), 0 ≤ sumT l ∧ sumT l ≤ 2 * l.length
  | [] => by simp [sumT]
  | c :: l => by
    have h1 := sumT_bounds l
    have h2 := slotsT_bounds c
    have e : sumT (c :: l) = slotsT c + sumT l := by simp [sumT]
    rw [e]
    simp only [List.length_cons]
    omega

/-- P4.5. -/
def plainW (c : Int) : Int := if c < 32 ∨ c = 127 then 0 else 1
theorem plain_all : ((List.range 128).all fun k => slotsT (k : Int) == plainW (k : Int)) = true := by kernel_rfl
theorem plain_of {c : Int} (h0 : 0 ≤ c) (h1 : c < 128) : slotsT c = plainW c := by
  have := List.all_eq_true.1 plain_all c.toNat (List.mem_range.2 (by omega))
  simp only [beq_iff_eq] at this
  rwa [Int.toNat_of_nonneg h0] at this
theorem spans_in : (narrowS ++ wideS).all (fun s => decide (0 ≤ s.1) && decide (s.2 < 0x110000)) = true := by kernel_rfl
theorem inS_out {l : List CSpan} {c : Int} (h : l.all (fun s => decide (0 ≤ s.1) && decide (s.2 < 0x110000)) = true) (hc : ¬ (0 ≤ c ∧ c < 0x110000)) : inS l c = false := by
  unfold inS
  rw [List.any_eq_false]
  intro s hs
  have := List.all_eq_true.1 h s hs
  simp only [Bool.and_eq_true, decide_eq_true_eq] at this ⊢
  omega
theorem out_one {c : Int} (hc : ¬ (0 ≤ c ∧ c < 0x110000)) : slotsT c = 1 := by
  have h := spans_in
  rw [List.all_append, Bool.and_eq_true] at h
  unfold slotsT
  rw [inS_out h.1 hc, inS_out h.2 hc]
  rfl
end Go.Proofs.Ytikjchebffohdaa.Co
