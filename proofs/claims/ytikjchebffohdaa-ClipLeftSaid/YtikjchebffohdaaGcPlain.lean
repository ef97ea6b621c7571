/-
  Plain facts on where kinds begin: the last one that begins at a number or ahead of it; the document's spans of each kind, and of pictographs; both tell the same; how many of one kind stand side by side; no program here.
-/
import Derived.Test.YtikjchebffohdaaCoPlain
namespace Go.Proofs.Ytikjchebffohdaa.Gc
open Go.Proofs.Ytikjchebffohdaa.Co

/-- Where a kind begins, and the kind. -/
abbrev GB := Int × Int
def lastB : List GB → GB → Int → GB
  | [], d, _ => d
  | e :: l, d, c => if e.1 ≤ c then lastB l e c else d
def froms (l : List GB) : List Int := l.map Prod.fst
theorem lastB_at : ∀ (l : List GB) (d : GB) (c : Int), (d :: l)[Co.ahead (froms l) c]? = some (lastB l d c)
  | [], d, c => rfl
  | e :: l, d, c => by
    have h := lastB_at l e c
    unfold froms at h ⊢
    simp only [List.map_cons, Co.ahead, lastB]
    split
    · simpa using h
    · rfl
theorem lastB_none {l : List GB} {d : GB} {c : Int} (h : Co.ahead (froms l) c = 0) : lastB l d c = d := by
  have := lastB_at l d c
  rw [h] at this
  simpa using this.symm
theorem lastB_some {l : List GB} {d : GB} {c : Int} {k : Nat} (h : Co.ahead (froms l) c = k + 1) (hk : k < l.length) : lastB l d c = l[k] := by
  have := lastB_at l d c
  rw [h] at this
  simp [hk] at this
  exact this.symm

def rowS : List (Int × List CSpan) := [
  (1, [  (0xd, 0xd)]),
  (2, [  (0xa, 0xa)]),
  (3, [  (0x0, 0x9), (0xb, 0xc), (0xe, 0x1f), (0x7f, 0x9f), (0xad, 0xad), (0x61c, 0x61c), (0x180e, 0x180e), (0x200b, 0x200b), (0x200e, 0x200f), (0x2028, 0x202e),  (0x2060, 0x206f), (0xfeff, 0xfeff), (0xfff0, 0xfffb), (0xe0000, 0xe001f), (0xe0080, 0xe00ff)]),
  (4, [  (0x300, 0x36f), (0x483, 0x489), (0x591, 0x5bd), (0x5bf, 0x5bf), (0x5c1, 0x5c2), (0x5c4, 0x5c5), (0x5c7, 0x5c7), (0x610, 0x61a), (0x64b, 0x65f), (0x670, 0x670),  (0x6d6, 0x6dc), (0x6df, 0x6e4), (0x6e7, 0x6e8), (0x6ea, 0x6ed), (0x93a, 0x93a), (0x93c, 0x93c), (0x941, 0x948), (0x94d, 0x94d), (0x9be, 0x9be), (0xe31, 0xe31),  (0xe34, 0xe3a), (0xe47, 0xe4e), (0x1ab0, 0x1ace), (0x1dc0, 0x1dff), (0x200c, 0x200c), (0x20d0, 0x20f0), (0x302a, 0x302f), (0x3099, 0x309a), (0xa66f, 0xa672), (0xfb1e, 0xfb1e),  (0xfe00, 0xfe0f), (0xfe20, 0xfe2f), (0xff9e, 0xff9f), (0x1f3fb, 0x1f3ff), (0xe0020, 0xe007f), (0xe0100, 0xe01ef)]),
  (5, [  (0x200d, 0x200d)]),
  (6, [  (0x1f1e6, 0x1f1ff)]),
  (7, [  (0x600, 0x605), (0x6dd, 0x6dd), (0x70f, 0x70f), (0x8e2, 0x8e2), (0xd4e, 0xd4e)]),
  (8, [  (0x903, 0x903), (0x93b, 0x93b), (0x93e, 0x940), (0x949, 0x94c), (0x94e, 0x94f), (0x982, 0x983), (0xe33, 0xe33), (0xeb3, 0xeb3)]),
  (9, [  (0x1100, 0x115f), (0xa960, 0xa97c)]),
  (10, [  (0x1160, 0x11a7), (0xd7b0, 0xd7c6)]),
  (11, [  (0x11a8, 0x11ff), (0xd7cb, 0xd7fb)])]
def pictS : List CSpan := [
  (0xa9, 0xa9), (0xae, 0xae), (0x203c, 0x203c), (0x2049, 0x2049), (0x2122, 0x2122), (0x2139, 0x2139), (0x2194, 0x2199), (0x21a9, 0x21aa), (0x231a, 0x231b), (0x2328, 0x2328),
  (0x23cf, 0x23cf), (0x23e9, 0x23f3), (0x23f8, 0x23fa), (0x24c2, 0x24c2), (0x25aa, 0x25ab), (0x25b6, 0x25b6), (0x25c0, 0x25c0), (0x25fb, 0x25fe), (0x2600, 0x2605), (0x2607, 0x2612),
  (0x2614, 0x2685), (0x2690, 0x2705), (0x2708, 0x2712), (0x2714, 0x2714), (0x2716, 0x2716), (0x271d, 0x271d), (0x2721, 0x2721), (0x2728, 0x2728), (0x2733, 0x2734), (0x2744, 0x2744),
  (0x2747, 0x2747), (0x274c, 0x274c), (0x274e, 0x274e), (0x2753, 0x2755), (0x2757, 0x2757), (0x2763, 0x2767), (0x2795, 0x2797), (0x27a1, 0x27a1), (0x27b0, 0x27b0), (0x27bf, 0x27bf),
  (0x2934, 0x2935), (0x2b05, 0x2b07), (0x2b1b, 0x2b1c), (0x2b50, 0x2b50), (0x2b55, 0x2b55), (0x3030, 0x3030), (0x303d, 0x303d), (0x3297, 0x3297), (0x3299, 0x3299), (0x1f000, 0x1f0ff),
  (0x1f10d, 0x1f10f), (0x1f12f, 0x1f12f), (0x1f16c, 0x1f171), (0x1f17e, 0x1f17f), (0x1f18e, 0x1f18e), (0x1f191, 0x1f19a), (0x1f1ad, 0x1f1e5), (0x1f201, 0x1f20f), (0x1f21a, 0x1f21a), (0x1f22f, 0x1f22f),
  (0x1f232, 0x1f23a), (0x1f23c, 0x1f23f), (0x1f249, 0x1f3fa), (0x1f400, 0x1f53d), (0x1f546, 0x1f64f), (0x1f680, 0x1f6ff), (0x1f774, 0x1f77f), (0x1f7d5, 0x1f7ff), (0x1f80c, 0x1f80f), (0x1f848, 0x1f84f),
  (0x1f85a, 0x1f85f), (0x1f888, 0x1f88f), (0x1f8ae, 0x1f8ff), (0x1f90c, 0x1f93a), (0x1f93c, 0x1f945), (0x1f947, 0x1faff), (0x1fc00, 0x1fffd)]
def bgs : List GB := [
  (0x0, 3), (0xa, 2), (0xb, 3), (0xd, 1), (0xe, 3), (0x20, 0), (0x7f, 3), (0xa0, 0), (0xad, 3), (0xae, 0),
  (0x300, 4), (0x370, 0), (0x483, 4), (0x48a, 0), (0x591, 4), (0x5be, 0), (0x5bf, 4), (0x5c0, 0), (0x5c1, 4), (0x5c3, 0),
  (0x5c4, 4), (0x5c6, 0), (0x5c7, 4), (0x5c8, 0), (0x600, 7), (0x606, 0), (0x610, 4), (0x61b, 0), (0x61c, 3), (0x61d, 0),
  (0x64b, 4), (0x660, 0), (0x670, 4), (0x671, 0), (0x6d6, 4), (0x6dd, 7), (0x6de, 0), (0x6df, 4), (0x6e5, 0), (0x6e7, 4),
  (0x6e9, 0), (0x6ea, 4), (0x6ee, 0), (0x70f, 7), (0x710, 0), (0x8e2, 7), (0x8e3, 0), (0x903, 8), (0x904, 0), (0x93a, 4),
  (0x93b, 8), (0x93c, 4), (0x93d, 0), (0x93e, 8), (0x941, 4), (0x949, 8), (0x94d, 4), (0x94e, 8), (0x950, 0), (0x982, 8),
  (0x984, 0), (0x9be, 4), (0x9bf, 0), (0xd4e, 7), (0xd4f, 0), (0xe31, 4), (0xe32, 0), (0xe33, 8), (0xe34, 4), (0xe3b, 0),
  (0xe47, 4), (0xe4f, 0), (0xeb3, 8), (0xeb4, 0), (0x1100, 9), (0x1160, 10), (0x11a8, 11), (0x1200, 0), (0x180e, 3), (0x180f, 0),
  (0x1ab0, 4), (0x1acf, 0), (0x1dc0, 4), (0x1e00, 0), (0x200b, 3), (0x200c, 4), (0x200d, 5), (0x200e, 3), (0x2010, 0), (0x2028, 3),
  (0x202f, 0), (0x2060, 3), (0x2070, 0), (0x20d0, 4), (0x20f1, 0), (0x302a, 4), (0x3030, 0), (0x3099, 4), (0x309b, 0), (0xa66f, 4),
  (0xa673, 0), (0xa960, 9), (0xa97d, 0), (0xac00, 14), (0xd7a4, 0), (0xd7b0, 10), (0xd7c7, 0), (0xd7cb, 11), (0xd7fc, 0), (0xfb1e, 4),
  (0xfb1f, 0), (0xfe00, 4), (0xfe10, 0), (0xfe20, 4), (0xfe30, 0), (0xfeff, 3), (0xff00, 0), (0xff9e, 4), (0xffa0, 0), (0xfff0, 3),
  (0xfffc, 0), (0x1f1e6, 6), (0x1f200, 0), (0x1f3fb, 4), (0x1f400, 0), (0xe0000, 3), (0xe0020, 4), (0xe0080, 3), (0xe0100, 4), (0xe01f0, 0)]
def pts : List GB := [
  (0xa9, 15), (0xaa, 16), (0xae, 15), (0xaf, 16), (0x203c, 15), (0x203d, 16), (0x2049, 15), (0x204a, 16), (0x2122, 15), (0x2123, 16),
  (0x2139, 15), (0x213a, 16), (0x2194, 15), (0x219a, 16), (0x21a9, 15), (0x21ab, 16), (0x231a, 15), (0x231c, 16), (0x2328, 15), (0x2329, 16),
  (0x23cf, 15), (0x23d0, 16), (0x23e9, 15), (0x23f4, 16), (0x23f8, 15), (0x23fb, 16), (0x24c2, 15), (0x24c3, 16), (0x25aa, 15), (0x25ac, 16),
  (0x25b6, 15), (0x25b7, 16), (0x25c0, 15), (0x25c1, 16), (0x25fb, 15), (0x25ff, 16), (0x2600, 15), (0x2606, 16), (0x2607, 15), (0x2613, 16),
  (0x2614, 15), (0x2686, 16), (0x2690, 15), (0x2706, 16), (0x2708, 15), (0x2713, 16), (0x2714, 15), (0x2715, 16), (0x2716, 15), (0x2717, 16),
  (0x271d, 15), (0x271e, 16), (0x2721, 15), (0x2722, 16), (0x2728, 15), (0x2729, 16), (0x2733, 15), (0x2735, 16), (0x2744, 15), (0x2745, 16),
  (0x2747, 15), (0x2748, 16), (0x274c, 15), (0x274d, 16), (0x274e, 15), (0x274f, 16), (0x2753, 15), (0x2756, 16), (0x2757, 15), (0x2758, 16),
  (0x2763, 15), (0x2768, 16), (0x2795, 15), (0x2798, 16), (0x27a1, 15), (0x27a2, 16), (0x27b0, 15), (0x27b1, 16), (0x27bf, 15), (0x27c0, 16),
  (0x2934, 15), (0x2936, 16), (0x2b05, 15), (0x2b08, 16), (0x2b1b, 15), (0x2b1d, 16), (0x2b50, 15), (0x2b51, 16), (0x2b55, 15), (0x2b56, 16),
  (0x3030, 15), (0x3031, 16), (0x303d, 15), (0x303e, 16), (0x3297, 15), (0x3298, 16), (0x3299, 15), (0x329a, 16), (0x1f000, 15), (0x1f100, 16),
  (0x1f10d, 15), (0x1f110, 16), (0x1f12f, 15), (0x1f130, 16), (0x1f16c, 15), (0x1f172, 16), (0x1f17e, 15), (0x1f180, 16), (0x1f18e, 15), (0x1f18f, 16),
  (0x1f191, 15), (0x1f19b, 16), (0x1f1ad, 15), (0x1f1e6, 16), (0x1f201, 15), (0x1f210, 16), (0x1f21a, 15), (0x1f21b, 16), (0x1f22f, 15), (0x1f230, 16),
  (0x1f232, 15), (0x1f23b, 16), (0x1f23c, 15), (0x1f240, 16), (0x1f249, 15), (0x1f3fb, 16), (0x1f400, 15), (0x1f53e, 16), (0x1f546, 15), (0x1f650, 16),
  (0x1f680, 15), (0x1f700, 16), (0x1f774, 15), (0x1f780, 16), (0x1f7d5, 15), (0x1f800, 16), (0x1f80c, 15), (0x1f810, 16), (0x1f848, 15), (0x1f850, 16),
  (0x1f85a, 15), (0x1f860, 16), (0x1f888, 15), (0x1f890, 16), (0x1f8ae, 15), (0x1f900, 16), (0x1f90c, 15), (0x1f93b, 16), (0x1f93c, 15), (0x1f946, 16),
  (0x1f947, 15), (0x1fb00, 16), (0x1fc00, 15), (0x1fffe, 16)]

def firstIn : List (Int × List CSpan) → Int → Int
  | [], _ => 0
  | r :: l, c => if inS r.2 c = true then r.1 else firstIn l c
/-- P5.1, the document's answer. -/
def refT (c : Int) : Int := if 44032 ≤ c ∧ c ≤ 55203 then (if (c - 44032) % 28 = 0 then 12 else 13) else firstIn rowS c
def pictT (c : Int) : Bool := inS pictS c
/-- The code's. -/
def ofK (k c : Int) : Int := if k = 14 then (if (c - 44032) % 28 = 0 then 12 else 13) else k
def kindT (c : Int) : Int := ofK (lastB bgs (0, 0) c).2 c

def inAll (l : List CSpan) (a b : Int) : Bool := l.any fun s => decide (s.1 ≤ a) && decide (b ≤ s.2 + 1)
def outAll (l : List CSpan) (a b : Int) : Bool := l.all fun s => decide (s.2 < a) || decide (b ≤ s.1)
def outTop (l : List CSpan) (a : Int) : Bool := l.all fun s => decide (s.2 < a)
def outLow (l : List CSpan) (b : Int) : Bool := l.all fun s => decide (b ≤ s.1)
theorem inAll_in {l : List CSpan} {a b c : Int} (h : inAll l a b = true) (h1 : a ≤ c) (h2 : c < b) : inS l c = true := by
  unfold inAll at h
  unfold inS
  rw [List.any_eq_true] at h ⊢
  obtain ⟨s, hs, h⟩ := h
  simp only [Bool.and_eq_true, decide_eq_true_eq] at h
  refine ⟨s, hs, ?_⟩
  simp only [Bool.and_eq_true, decide_eq_true_eq]
  omega
theorem inS_no {l : List CSpan} {c : Int} (h : ∀ s ∈ l, c < s.1 ∨ s.2 < c) : inS l c = false := by
  unfold inS
  rw [List.any_eq_false]
  intro s hs
  have := h s hs
  simp only [Bool.and_eq_true, decide_eq_true_eq]
  omega
theorem outAll_out {l : List CSpan} {a b c : Int} (h : outAll l a b = true) (h1 : a ≤ c) (h2 : c < b) : inS l c = false := by
  refine inS_no fun s hs => ?_
  have := List.all_eq_true.1 h s hs
  simp only [Bool.or_eq_true, decide_eq_true_eq] at this
  omega
theorem outTop_out {l : List CSpan} {a c : Int} (h : outTop l a = true) (h1 : a ≤ c) : inS l c = false := by
  refine inS_no fun s hs => ?_
  have := List.all_eq_true.1 h s hs
  simp only [decide_eq_true_eq] at this
  omega
theorem outLow_out {l : List CSpan} {b c : Int} (h : outLow l b = true) (h1 : c < b) : inS l c = false := by
  refine inS_no fun s hs => ?_
  have := List.all_eq_true.1 h s hs
  simp only [decide_eq_true_eq] at this
  omega

def okFirst : List (Int × List CSpan) → Int → Int → Int → Bool
  | [], _, _, k => k == 0
  | r :: l, a, b, k => if r.1 = k then inAll r.2 a b else outAll r.2 a b && okFirst l a b k
theorem okFirst_is : ∀ {l : List (Int × List CSpan)} {a b k c : Int}, okFirst l a b k = true → a ≤ c → c < b → firstIn l c = k
  | [], a, b, k, c, h, _, _ => by
    have : k = 0 := by simpa [okFirst] using h
    simp [firstIn, this]
  | r :: l, a, b, k, c, h, h1, h2 => by
    unfold okFirst at h
    unfold firstIn
    split at h
    · rename_i e
      rw [if_pos (inAll_in h h1 h2), e]
    · rw [Bool.and_eq_true] at h
      rw [if_neg (by rw [outAll_out h.1 h1 h2]; decide)]
      exact okFirst_is h.2 h1 h2
def okMid (a b k : Int) : Bool := if k = 14 then decide (44032 ≤ a) && decide (b ≤ 55204) else (decide (b ≤ 44032) || decide (55204 ≤ a)) && okFirst rowS a b k
theorem okMid_is {a b k c : Int} (h : okMid a b k = true) (h1 : a ≤ c) (h2 : c < b) : refT c = ofK k c := by
  unfold okMid at h
  unfold refT ofK
  split at h
  · rename_i e
    simp only [Bool.and_eq_true, decide_eq_true_eq] at h
    rw [if_pos (by omega), if_pos e]
  · rename_i e
    simp only [Bool.and_eq_true, Bool.or_eq_true, decide_eq_true_eq] at h
    rw [if_neg (by omega), if_neg e, okFirst_is h.2 h1 h2]
def okTop (a k : Int) : Bool := k == 0 && (decide (55204 ≤ a) && rowS.all fun r => outTop r.2 a)
theorem firstIn_none : ∀ {l : List (Int × List CSpan)} {c : Int}, (∀ r ∈ l, inS r.2 c = false) → firstIn l c = 0
  | [], _, _ => rfl
  | r :: l, c, h => by
    unfold firstIn
    rw [if_neg (by rw [h r (by simp)]; decide)]
    exact firstIn_none fun x hx => h x (by simp [hx])
theorem okTop_is {a k c : Int} (h : okTop a k = true) (h1 : a ≤ c) : refT c = ofK k c := by
  simp only [okTop, Bool.and_eq_true, beq_iff_eq, decide_eq_true_eq, List.all_eq_true] at h
  obtain ⟨rfl, h2, h3⟩ := h
  unfold refT ofK
  rw [if_neg (by omega), if_neg (by decide), firstIn_none fun r hr => outTop_out (h3 r hr) h1]
def chk : List GB → Int → Int → Bool
  | [], a, k => okTop a k
  | e :: l, a, k => okMid a e.1 k && chk l e.1 e.2
theorem chk_is : ∀ {l : List GB} {a k c : Int}, chk l a k = true → a ≤ c → refT c = ofK (lastB l (a, k) c).2 c
  | [], a, k, c, h, h1 => okTop_is h h1
  | e :: l, a, k, c, h, h1 => by
    unfold chk at h
    rw [Bool.and_eq_true] at h
    unfold lastB
    split
    · rename_i h2
      exact chk_is h.2 h2
    · rename_i h2
      exact okMid_is h.1 h1 (by omega)
theorem bgs_ok : chk bgs.tail 0 3 = true := by kernel_rfl
theorem bgs_low : (rowS.all fun r => outLow r.2 0) = true := by kernel_rfl
theorem bgs_head : bgs = (0, 3) :: bgs.tail := by kernel_rfl
theorem ref_kind (c : Int) : refT c = kindT c := by
  unfold kindT
  rw [bgs_head]
  unfold lastB
  split
  · rename_i h
    exact chk_is bgs_ok h
  · rename_i h
    have h' : c < 0 := by simpa using h
    unfold refT ofK
    rw [if_neg (by omega), if_neg (by decide), firstIn_none fun r hr => outLow_out (List.all_eq_true.1 bgs_low r hr) h']

def chkP : List GB → Int → Int → Bool
  | [], a, k => !(k == 15) && outTop pictS a
  | e :: l, a, k => (if k = 15 then inAll pictS a e.1 else outAll pictS a e.1) && chkP l e.1 e.2
theorem chkP_is : ∀ {l : List GB} {a k c : Int}, chkP l a k = true → a ≤ c → pictT c = ((lastB l (a, k) c).2 == 15)
  | [], a, k, c, h, h1 => by
    simp only [chkP, Bool.and_eq_true] at h
    unfold pictT lastB
    rw [outTop_out h.2 h1]
    have := h.1
    cases e : (k == 15) with
    | false => rfl
    | true => rw [e] at this; cases this
  | e :: l, a, k, c, h, h1 => by
    simp only [chkP, Bool.and_eq_true] at h
    unfold lastB
    split
    · rename_i h2
      exact chkP_is h.2 h2
    · rename_i h2
      have h3 := h.1
      unfold pictT
      split at h3
      · rename_i e
        rw [inAll_in h3 h1 (by omega), e]
        rfl
      · rename_i e
        rw [outAll_out h3 h1 (by omega)]
        symm
        simpa using e
theorem pts_ok : chkP pts.tail 169 15 = true := by kernel_rfl
theorem pts_low : outLow pictS 169 = true := by kernel_rfl
theorem pts_head : pts = (169, 15) :: pts.tail := by kernel_rfl
theorem pict_last (c : Int) : pictT c = ((lastB pts (0, 0) c).2 == 15) := by
  rw [pts_head]
  unfold lastB
  split
  · rename_i h
    exact chkP_is pts_ok h
  · rename_i h
    have h' : c < 169 := by simpa using h
    unfold pictT
    rw [outLow_out pts_low h']
    rfl

theorem bgs_len : bgs.length = 130 := by kernel_rfl
theorem pts_len : pts.length = 154 := by kernel_rfl
theorem bgs_rises : risesI (froms bgs) = true := by kernel_rfl
theorem pts_rises : risesI (froms pts) = true := by kernel_rfl
def okB (e : GB) : Bool := decide (0 ≤ e.1) && decide (e.1 ≤ 1000000) && decide (0 ≤ e.2) && decide (e.2 ≤ 16)
theorem bgs_small : bgs.all okB = true := by kernel_rfl
theorem pts_small : pts.all okB = true := by kernel_rfl
theorem okB_is {e : GB} (h : okB e = true) : 0 ≤ e.1 ∧ e.1 ≤ 1000000 ∧ 0 ≤ e.2 ∧ e.2 ≤ 16 := by
  simp only [okB, Bool.and_eq_true, decide_eq_true_eq] at h
  omega
theorem lastB_ok : ∀ {l : List GB} {d : GB} {c : Int}, l.all okB = true → okB d = true → okB (lastB l d c) = true
  | [], _, _, _, h => h
  | e :: l, d, c, h, hd => by
    rw [List.all_cons, Bool.and_eq_true] at h
    unfold lastB
    split
    · exact lastB_ok h.2 h.1
    · exact hd
theorem kind_bounds (c : Int) : 0 ≤ kindT c ∧ kindT c ≤ 16 := by
  have h := okB_is (lastB_ok (l := bgs) (d := (0, 0)) (c := c) bgs_small (by decide))
  unfold kindT ofK
  split
  · split <;> omega
  · omega
/-- Syllables are told of numbers from AC00 to D7A3 alone. -/
theorem kind_syl {c : Int} (h : (lastB bgs (0, 0) c).2 = 14) : 44032 ≤ c ∧ c ≤ 55203 := by
  have h1 := ref_kind c
  unfold kindT ofK at h1
  rw [if_pos h] at h1
  by_cases h2 : 44032 ≤ c ∧ c ≤ 55203
  · exact h2
  · unfold refT at h1
    rw [if_neg h2] at h1
    have h3 : ∀ (l : List (Int × List CSpan)), (∀ r ∈ l, r.1 ≤ 11) → firstIn l c ≤ 11 := by
      intro l
      induction l with
      | nil => intro _; unfold firstIn; omega
      | cons r l ih =>
        intro hl
        unfold firstIn
        split
        · exact hl r (by simp)
        · exact ih fun x hx => hl x (by simp [hx])
    have h4 := h3 rowS (by decide +kernel)
    split at h1 <;> omega
end Go.Proofs.Ytikjchebffohdaa.Gc
