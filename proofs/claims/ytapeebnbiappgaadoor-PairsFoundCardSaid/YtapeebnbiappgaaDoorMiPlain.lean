/-
  Plain facts on rows of pairs: what a row has, the counterpart, the first row that has a number; the brackets and the other mirrored signs of the document; no program here.
-/
import Derived.KernelRfl
namespace Go.Proofs.YtapeebnbiappgaaDoor.Mi

/-- A row: its first number, its last one, the step between two that belong together. -/
abbrev MRow := Int × Int × Int
def hasB (r : MRow) (c : Int) : Bool := decide (r.1 ≤ c) && (decide (c ≤ r.2.1) && ((c - r.1) % r.2.2 == 0))
def pairR (r : MRow) (c : Int) : Int × Int := if (c - r.1) / r.2.2 % 2 = 0 then (1, c + r.2.2) else (2, c - r.2.2)
def inR : List MRow → Int → Int × Int
  | [], _ => (0, 0)
  | r :: l, c => if hasB r c = true then pairR r c else inR l c

def brRows : List MRow := [(0x28, 0x29, 1), (0xf3a, 0xf3d, 1), (0x169b, 0x169c, 1), (0x2045, 0x2046, 1), (0x207d, 0x207e, 1), (0x208d, 0x208e, 1), (0x2308, 0x230b, 1), (0x2329, 0x232a, 1),
  (0x2768, 0x2775, 1), (0x27c5, 0x27c6, 1), (0x27e6, 0x27ef, 1), (0x2983, 0x298c, 1), (0x2991, 0x2998, 1), (0x29d8, 0x29db, 1), (0x29fc, 0x29fd, 1), (0x2e22, 0x2e29, 1),
  (0x3008, 0x3011, 1), (0x3014, 0x301b, 1), (0xfe59, 0xfe5e, 1), (0xff08, 0xff09, 1), (0xff5f, 0xff60, 1), (0xff62, 0xff63, 1)]
def brPairs : List MRow := [(0x5b, 0x5d, 2), (0x7b, 0x7d, 2), (0xff3b, 0xff3d, 2), (0xff5b, 0xff5d, 2)]
def sgRows : List MRow := [(0x2264, 0x226b, 1), (0x226e, 0x2281, 1), (0x2282, 0x2289, 1), (0x228f, 0x2292, 1), (0x22b2, 0x22b5, 1), (0x22d6, 0x22df, 1), (0x22e0, 0x22ed, 1)]
def sgPairs : List MRow := [(0x3c, 0x3e, 2), (0xab, 0xbb, 0x10), (0x2039, 0x203a, 1), (0x2208, 0x220b, 3), (0x2209, 0x220c, 3), (0x220a, 0x220d, 3), (0x223c, 0x223d, 1), (0x22a2, 0x22a3, 1), (0x22d0, 0x22d1, 1)]
def brL : List MRow := brRows ++ brPairs
def sgL : List MRow := sgRows ++ sgPairs

/-- P3.1 to P3.4, as functions. -/
def pairT (c : Int) : Int × Int := inR brL c
def formT (c : Int) : Int := if c = 0x2329 then 0x3008 else if c = 0x232a then 0x3009 else c
def meetT (a b : Int) : Bool := (pairT a).1 == 1 && ((pairT b).1 == 2 && (formT (pairT a).2 == formT b))
def glyphT (c : Int) : Int := if (pairT c).1 = 0 then (if (inR sgL c).1 = 0 then c else (inR sgL c).2) else (pairT c).2

theorem inR_append : ∀ (l m : List MRow) (c : Int), inR (l ++ m) c = if (inR l c).1 = 0 then inR m c else inR l c
  | [], m, c => rfl
  | r :: l, m, c => by
    simp only [List.cons_append, inR]
    split
    · rw [if_neg]
      unfold pairR
      split <;> simp
    · exact inR_append l m c
theorem inR_none : ∀ (l : List MRow) (c : Int), (∀ r ∈ l, hasB r c = false) → inR l c = (0, 0)
  | [], _, _ => rfl
  | r :: l, c, h => by
    have h0 := h r (by simp)
    simp only [inR]
    rw [h0]
    exact inR_none l c (fun x hx => h x (by simp [hx]))
theorem inR_at : ∀ (l : List MRow) (c : Int) (i : Nat) (hi : i < l.length), (∀ j (hj : j < l.length), j < i → hasB l[j] c = false) → hasB l[i] c = true → inR l c = pairR l[i] c
  | r :: l, c, 0, hi, hlo, h => by
    simp only [inR]
    rw [if_pos (by simpa using h)]
    rfl
  | r :: l, c, i + 1, hi, hlo, h => by
    have h0 := hlo 0 (by simp) (by omega)
    simp only [inR]
    rw [if_neg (by simpa using h0)]
    exact inR_at l c i (by simpa using hi) (fun j hj hji => hlo (j + 1) (Nat.succ_lt_succ hj) (by omega)) h
theorem inR_zero : ∀ (l : List MRow) (c : Int), (inR l c).1 = 0 → (inR l c) = (0, 0)
  | [], c, _ => rfl
  | r :: l, c, h => by
    simp only [inR] at h ⊢
    split at h
    · unfold pairR at h
      split at h <;> simp at h
    · rename_i h0
      rw [if_neg h0]
      exact inR_zero l c h

/-- Rows as they are here: small, their steps from 1 on. -/
def okR (r : MRow) : Bool := decide (0 ≤ r.1) && decide (r.1 ≤ r.2.1) && decide (r.2.1 ≤ 100000) && decide (1 ≤ r.2.2) && decide (r.2.2 ≤ 100) && decide ((r.2.1 - r.1) % r.2.2 = 0)
theorem okR_is {r : MRow} (h : okR r = true) : 0 ≤ r.1 ∧ r.1 ≤ r.2.1 ∧ r.2.1 ≤ 100000 ∧ 1 ≤ r.2.2 ∧ r.2.2 ≤ 100 ∧ (r.2.1 - r.1) % r.2.2 = 0 := by
  simp only [okR, Bool.and_eq_true, decide_eq_true_eq] at h
  omega
theorem brL_ok : ∀ r ∈ brL, okR r = true := by decide +kernel
theorem sgL_ok : ∀ r ∈ sgL, okR r = true := by decide +kernel

/-- The numbers of a row. -/
def nums (r : MRow) : List Int := (List.range ((r.2.1 - r.1).toNat + 1)).map fun (k : Nat) => r.1 + (k : Int)
theorem nums_of {r : MRow} {c : Int} (h : hasB r c = true) : c ∈ nums r := by
  simp only [hasB, Bool.and_eq_true, decide_eq_true_eq] at h
  exact List.mem_map.2 ⟨(c - r.1).toNat, List.mem_range.2 (by omega), by omega⟩
def codes : List Int := (brL ++ sgL).flatMap nums
theorem codes_out {c : Int} (h : c ∉ codes) : pairT c = (0, 0) ∧ inR sgL c = (0, 0) := by
  have hh : ∀ r ∈ brL ++ sgL, hasB r c = false := fun r hr => by
    cases hb : hasB r c with
    | false => rfl
    | true => exact absurd (List.mem_flatMap.2 ⟨r, hr, nums_of hb⟩) h
  exact ⟨inR_none _ _ fun r hr => hh r (List.mem_append_left _ hr), inR_none _ _ fun r hr => hh r (List.mem_append_right _ hr)⟩

/-- What follows, number by number. -/
def turnB (c : Int) : Bool :=
  glyphT (glyphT c) == c && decide (0 ≤ (pairT c).1) && decide ((pairT c).1 ≤ 2) && decide (0 ≤ (pairT c).2) && decide ((pairT c).2 ≤ 200000) &&
  (if (pairT c).1 = 0 then (pairT c).2 == 0 else
    ((pairT (pairT c).2).1 + (pairT c).1 == 3 && (pairT (pairT c).2).2 == c && glyphT c == (pairT c).2 &&
     (if (pairT c).1 = 2 then meetT (pairT c).2 c && !meetT c (pairT c).2 else meetT c (pairT c).2 && !meetT (pairT c).2 c)))
theorem turn_codes : codes.all turnB = true := by kernel_rfl
theorem turn_all (c : Int) : turnB c = true := by
  by_cases h : c ∈ codes
  · exact List.all_eq_true.1 turn_codes c h
  · obtain ⟨h1, h2⟩ := codes_out h
    have hg : glyphT c = c := by unfold glyphT; rw [h1, h2]; rfl
    unfold turnB
    rw [hg, hg, h1]
    simp
theorem glyph_glyph (c : Int) : glyphT (glyphT c) = c := by
  have := turn_all c
  simp only [turnB, Bool.and_eq_true, beq_iff_eq] at this
  exact this.1.1.1.1.1
theorem pair_bounds (c : Int) : 0 ≤ (pairT c).1 ∧ (pairT c).1 ≤ 2 ∧ 0 ≤ (pairT c).2 ∧ (pairT c).2 ≤ 200000 := by
  have := turn_all c
  simp only [turnB, Bool.and_eq_true, decide_eq_true_eq] at this
  exact ⟨this.1.1.1.1.2, this.1.1.1.2, this.1.1.2, this.1.2⟩
theorem pair_other {c : Int} (h : (pairT c).1 ≠ 0) : (pairT (pairT c).2).1 + (pairT c).1 = 3 ∧ (pairT (pairT c).2).2 = c ∧ glyphT c = (pairT c).2 ∧
    ((pairT c).1 = 2 → meetT (pairT c).2 c = true ∧ meetT c (pairT c).2 = false) ∧ ((pairT c).1 ≠ 2 → meetT c (pairT c).2 = true ∧ meetT (pairT c).2 c = false) := by
  have := turn_all c
  simp only [turnB, Bool.and_eq_true, beq_iff_eq] at this
  have h2 := this.2
  rw [if_neg h] at h2
  simp only [Bool.and_eq_true, beq_iff_eq] at h2
  refine ⟨h2.1.1.1, h2.1.1.2, h2.1.2, fun h3 => ?_, fun h3 => ?_⟩
  · have h4 := h2.2
    rw [if_pos h3] at h4
    simpa using h4
  · have h4 := h2.2
    rw [if_neg h3] at h4
    simpa using h4
theorem form_form (c : Int) : formT (formT c) = formT c := by
  unfold formT
  split
  · rfl
  · split
    · rfl
    · rfl
end Go.Proofs.YtapeebnbiappgaaDoor.Mi
