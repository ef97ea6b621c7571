/-
  Plain facts on clusters: a cluster as the document reckons it; runes that are cut ahead of a cluster; runes that follow one another without a gap; which cluster has a byte; no program here.
-/
import Derived.Test.YtikjchebffohdaaKuPlain
set_option linter.unusedVariables false
namespace Go.Proofs.Ytikjchebffohdaa.Ku
open Go.Proofs.Ytikjchebffohdaa.Co Go.Proofs.Ytikjchebffohdaa.Gc

/-! The document's reckoning of one cluster. -/
def szF (l : List R3) : Int := l.foldl (fun z r => IntKind.i64.wrap (z + r.2.1)) 0
theorem szF_snoc (l : List R3) (r : R3) : szF (l ++ [r]) = IntKind.i64.wrap (szF l + r.2.1) := by
  unfold szF; rw [List.foldl_append]; rfl
def wl : Int → Int → List Int → Int
  | _, n, [] => n
  | p, n, c :: l => wl c (max n (wideC p c)) l
theorem wl_snoc : ∀ (l : List Int) (p n c : Int), wl p n (l ++ [c]) = max (wl p n l) (wideC (l.getLastD p) c)
  | [], p, n, c => rfl
  | d :: l, p, n, c => by
    show wl d _ (l ++ [c]) = _
    rw [wl_snoc l]
    show max (wl d _ l) _ = max (wl d _ l) _
    congr 2
    cases l <;> rfl
theorem wl_bounds : ∀ (l : List Int) (p n : Int), 0 ≤ n → n ≤ 2 → 0 ≤ wl p n l ∧ wl p n l ≤ 2
  | [], p, n, h1, h2 => ⟨h1, h2⟩
  | c :: l, p, n, h1, h2 => by
    have := wideC_bounds p c
    exact wl_bounds l c _ (by omega) (by omega)
/-- Nothing gets wider than two. -/
theorem wl_two : ∀ (l : List Int) (p : Int), wl p 2 l = 2
  | [], p => rfl
  | c :: l, p => by
    have := wideC_bounds p c
    show wl c (max 2 (wideC p c)) l = 2
    rw [show max (2 : Int) (wideC p c) = 2 from by omega]
    exact wl_two l c
def wideR (l : List Int) : Int := if alone (kindT (l.headD 0)) = true then 0 else wl 0 0 l
def codes (l : List R3) : List Int := l.map fun r => r.2.2
theorem codes_len (l : List R3) : (codes l).length = l.length := by simp [codes]
def seg (l : List R3) (f i : Nat) : List R3 := (l.drop f).take (i - f)
theorem seg_snoc (l : List R3) (f i : Nat) (hf : f ≤ i) (hi : i < l.length) : seg l f (i + 1) = seg l f i ++ [l[i]] := by
  unfold seg
  rw [show i + 1 - f = (i - f) + 1 from by omega, List.take_succ_eq_append_getElem (by simp; omega)]
  simp [show f + (i - f) = i from by omega]
theorem seg_none (l : List R3) (f : Nat) : seg l f f = [] := by unfold seg; simp
theorem seg_head (l : List R3) (f i : Nat) (hf : f < i) (hi : i ≤ l.length) : ∃ t, seg l f i = l[f] :: t := by
  unfold seg
  rw [List.drop_eq_getElem_cons (by omega), show i - f = (i - f - 1) + 1 from by omega, List.take_succ_cons]
  exact ⟨_, rfl⟩
theorem seg_last (l : List R3) (f i : Nat) (hf : f < i) (hi : i ≤ l.length) (d : Int) : (codes (seg l f i)).getLastD d = (l[i - 1]).2.2 := by
  obtain ⟨j, rfl⟩ : ∃ j, i = j + 1 := ⟨i - 1, by omega⟩
  rw [seg_snoc l f j (by omega) (by omega)]
  simp [codes]
/-- The state ahead of a place. -/
def stAt (l : List R3) (i : Nat) : Sg := stR (codes (l.take i)).reverse
theorem stAt_zero (l : List R3) : stAt l 0 = none0 := rfl
theorem stAt_succ (l : List R3) (i : Nat) (hi : i < l.length) : stAt l (i + 1) = step (stAt l i) (l[i]).2.2 := by
  unfold stAt
  rw [List.take_succ_eq_append_getElem hi]
  unfold codes
  rw [List.map_append, List.reverse_append]
  rfl
theorem stAt_c (l : List R3) (i : Nat) (h0 : 0 < i) (hi : i ≤ l.length) : (stAt l i).c = (l[i - 1]).2.2 := by
  obtain ⟨j, rfl⟩ : ∃ j, i = j + 1 := ⟨i - 1, by omega⟩
  rw [stAt_succ l j (by omega)]
  rfl
theorem stAt_ok (l : List R3) (i : Nat) : (stAt l i).ok := stR_ok _

/-- The cluster from one place to another, by the document's words. -/
def refX (l : List R3) (f i : Nat) (h : f < l.length) : C6 := ⟨(l[f]).1, szF (seg l f i), f, i, wideR (codes (seg l f i)), (l[f]).2.2⟩
/-- What stands from one place to another is one cluster, or its beginning. -/
def Cur (l : List R3) (f i : Nat) (x : C6) : Prop := ∃ (h : f < i) (h2 : i ≤ l.length), x = refX l f i (by omega) ∧ alone (kindT (l[f]).2.2) = alone (kindT (l[i - 1]).2.2)
theorem cur_new (l : List R3) (i : Nat) (hi : i < l.length) (h : joins (stAt l i) (l[i]).2.2 = false) : Cur l i (i + 1) (ext (stAt l i) (new i l[i]) i l[i]) := by
  refine ⟨Nat.lt_succ_self _, hi, ?_, rfl⟩
  unfold refX
  rw [seg_snoc l i i (Nat.le_refl _) hi, seg_none]
  unfold ext new
  simp only [wide_first h]
  congr 1
  show max 0 (if alone (kindT (l[i]).2.2) = true then 0 else slotsT (l[i]).2.2) = if alone (kindT (l[i]).2.2) = true then 0 else max 0 (wideC 0 (l[i]).2.2)
  have hs := slotsT_bounds (l[i]).2.2
  have : wideC 0 (l[i]).2.2 = slotsT (l[i]).2.2 := by
    unfold wideC
    rw [if_neg (by rw [pict_0]; rintro ⟨_, h⟩; cases h)]
  rw [this]
  split <;> omega
theorem cur_ext (l : List R3) (f i : Nat) (x : C6) (hi : i < l.length) (hc : Cur l f i x) (h : joins (stAt l i) (l[i]).2.2 = true) : Cur l f (i + 1) (ext (stAt l i) x i l[i]) := by
  obtain ⟨hf, h2, rfl, ha⟩ := hc
  have hal := joins_alone (stAt_ok l i) h
  rw [stAt_c l i (by omega) (by omega)] at hal
  refine ⟨by omega, hi, ?_, by rw [ha, hal]; rfl⟩
  unfold refX ext
  rw [seg_snoc l f i (by omega) hi, szF_snoc]
  congr 1
  simp only
  unfold wideR wide
  obtain ⟨t, ht⟩ := seg_head l f i hf h2
  have hh : (codes (seg l f i)).headD 0 = (l[f]).2.2 := by rw [ht]; rfl
  have hh2 : (codes (seg l f i ++ [l[i]])).headD 0 = (l[f]).2.2 := by rw [ht]; rfl
  rw [hh, hh2, ← hal, ← ha, stAt_c l i (by omega) (by omega)]
  split
  · rfl
  · rw [show codes (seg l f i ++ [l[i]]) = codes (seg l f i) ++ [(l[i]).2.2] from by simp [codes], wl_snoc, seg_last l f i hf h2]
theorem run_at (l : List R3) (i : Nat) (hi : i < l.length) (x : C6) (h : joins (stAt l i) (l[i]).2.2 = true) : run (stAt l i) i x (l.drop i) = run (stAt l (i + 1)) (i + 1) (ext (stAt l i) x i l[i]) (l.drop (i + 1)) := by
  rw [List.drop_eq_getElem_cons hi, run_yes h, stAt_succ l i hi]
theorem run_at_no (l : List R3) (i : Nat) (hi : i < l.length) (x : C6) (h : joins (stAt l i) (l[i]).2.2 = false) : run (stAt l i) i x (l.drop i) = x :: run (stAt l (i + 1)) (i + 1) (ext (stAt l i) (new i l[i]) i l[i]) (l.drop (i + 1)) := by
  rw [List.drop_eq_getElem_cons hi, run_no h, stAt_succ l i hi]
theorem run_end (l : List R3) (i : Nat) (hi : l.length ≤ i) (σ : Sg) (x : C6) : run σ i x (l.drop i) = [x] := by
  rw [List.drop_of_length_le hi]; rfl
theorem ofC_start (l : List R3) (h : 0 < l.length) : ofC l = run (stAt l 1) 1 (ext (stAt l 0) (new 0 l[0]) 0 l[0]) (l.drop 1) := by
  cases l with
  | nil => simp at h
  | cons r l => rfl
theorem cur_start (l : List R3) (h : 0 < l.length) : Cur l 0 1 (ext (stAt l 0) (new 0 l[0]) 0 l[0]) := cur_new l 0 h (joins_none _)

/-! Clusters are no more than runes. -/
theorem run_len : ∀ (l : List R3) (σ : Sg) (n : Nat) (x : C6), (run σ n x l).length ≤ l.length + 1 ∧ 0 < (run σ n x l).length
  | [], σ, n, x => by simp [run]
  | r :: l, σ, n, x => by
    unfold run
    split
    · have := run_len l (step σ r.2.2) (n + 1) (ext σ x n r)
      simp only [List.length_cons]
      omega
    · have := run_len l (step σ r.2.2) (n + 1) (ext σ (new n r) n r)
      simp only [List.length_cons]
      omega
theorem ofC_len (l : List R3) : (ofC l).length ≤ l.length := by
  cases l with
  | nil => simp [ofC, runN]
  | cons r l =>
    have := (run_len l (step none0 r.2.2) (0 + 1) (ext none0 (new 0 r) 0 r)).1
    simp only [ofC, runN, List.length_cons]
    omega
theorem ofC_pos (l : List R3) (h : 0 < l.length) : 0 < (ofC l).length := by
  cases l with
  | nil => simp at h
  | cons r l => exact (run_len l (step none0 r.2.2) (0 + 1) (ext none0 (new 0 r) 0 r)).2
theorem run_wide : ∀ (l : List R3) (σ : Sg) (n : Nat) (x : C6), 0 ≤ x.w ∧ x.w ≤ 2 → ∀ y ∈ run σ n x l, 0 ≤ y.w ∧ y.w ≤ 2
  | [], σ, n, x, h, y, hy => by
    rw [show run σ n x [] = [x] from rfl, List.mem_singleton] at hy
    rw [hy]
    exact h
  | r :: l, σ, n, x, h, y, hy => by
    have hw := wide_bounds σ r.2.2
    unfold run at hy
    split at hy
    · exact run_wide l _ _ _ (by unfold ext; simp only; omega) y hy
    · rw [List.mem_cons] at hy
      rcases hy with rfl | hy
      · exact h
      · exact run_wide l _ _ _ (by unfold ext new; simp only; omega) y hy
theorem ofC_wide (l : List R3) : ∀ y ∈ ofC l, 0 ≤ y.w ∧ y.w ≤ 2 := by
  cases l with
  | nil => intro y hy; simp [ofC, runN] at hy
  | cons r l =>
    have hw := wide_bounds none0 r.2.2
    exact run_wide l _ _ _ (by unfold ext new; simp only; omega)

/-! P6.6: cut ahead of a cluster. -/
def shift (d : Nat) (x : C6) : C6 := ⟨x.a, x.z, x.f + d, x.t + d, x.w, x.c⟩
theorem ext_shift (σ : Sg) (x : C6) (n d : Nat) (r : R3) : ext σ (shift d x) (n + d) r = shift d (ext σ x n r) := by
  unfold ext shift
  congr 1
  push_cast
  omega
theorem new_shift (σ : Sg) (n d : Nat) (r : R3) : ext σ (new (n + d) r) (n + d) r = shift d (ext σ (new n r) n r) := by
  unfold ext shift new
  congr 1
  push_cast
  omega
theorem run_shift (d : Nat) : ∀ (l : List R3) (σ : Sg) (n : Nat) (x : C6), run σ (n + d) (shift d x) l = (run σ n x l).map (shift d)
  | [], σ, n, x => rfl
  | r :: l, σ, n, x => by
    unfold run
    split
    · rw [ext_shift, show n + d + 1 = (n + 1) + d from by omega]
      exact run_shift d l _ _ _
    · rw [new_shift, show n + d + 1 = (n + 1) + d from by omega, List.map_cons, run_shift d l]
/-- Behind a cut the state is as at the beginning. -/
theorem step_cut {σ : Sg} {c : Int} (hs : σ.ok) (h : joins σ c = false) : step σ c = step none0 c := by
  have h0 := h
  unfold joins at h
  rw [Bool.or_eq_false_iff] at h
  obtain ⟨h1, h2⟩ := h
  unfold step
  congr 1
  · unfold stepO none0
    by_cases h6 : kindT c = 6
    · rw [if_pos h6, if_pos h6]
      split at h2
      · rename_i e
        cases ho : σ.o with
        | false => rfl
        | true => rw [hs ho] at e; cases e
      · rw [h6] at h2
        simp at h2
        rw [h2]
    · rw [if_neg h6, if_neg h6]
  · unfold stepP none0
    by_cases h45 : kindT c = 4 ∨ kindT c = 5
    · rw [if_pos h45, if_pos h45, pict_0, kind_0]
      have ha : alone (kindT σ.c) = true := by
        cases ha : alone (kindT σ.c) with
        | true => rfl
        | false =>
          exfalso
          have : rules (kindT σ.c) (kindT c) = true := by
            unfold rules trail
            rw [ha]
            rcases h45 with e | e <;> rw [e] <;> simp [alone]
          rw [this] at h1
          cases h1
      have hp : pictT σ.c = false := by
        cases hp : pictT σ.c with
        | false => rfl
        | true => rw [pict_kind hp] at ha; cases ha
      have h4 : (kindT σ.c == 4) = false := by
        cases h4 : (kindT σ.c == 4) with
        | false => rfl
        | true => rw [beq_iff_eq.1 h4] at ha; cases ha
      rw [hp, h4]
      rfl
    · rw [if_neg h45, if_neg h45]
theorem wide_cut {σ : Sg} {c : Int} (h : joins σ c = false) : wide σ c = wide none0 c := by
  rw [wide_first h, wide_first (joins_none c)]
theorem runN_cut {σ : Sg} (hs : σ.ok) (n : Nat) (r : R3) (l : List R3) (h : joins σ r.2.2 = false) : runN σ n (r :: l) = (ofC (r :: l)).map (shift n) := by
  show run _ _ _ _ = (run _ _ _ _).map _
  rw [← run_shift, step_cut hs h]
  congr 1
  · omega
  · unfold ext new shift
    simp only [wide_cut h]
    congr 1
    · push_cast; omega
    · push_cast; omega
/-- Where a cluster begins, runes can be cut. -/
theorem run_split : ∀ (l : List R3) (σ : Sg) (n : Nat) (x : C6) (k : Nat), σ.ok → 1 ≤ k → k < (run σ n x l).length →
    ∃ m, m < l.length ∧ ((run σ n x l).getD k x).f = (n + m : Nat) ∧ (run σ n x l).take k = run σ n x (l.take m) ∧ (run σ n x l).drop k = (ofC (l.drop m)).map (shift (n + m))
  | [], σ, n, x, k, hs, h1, h2 => by simp [run] at h2; omega
  | r :: l, σ, n, x, k, hs, h1, h2 => by
    cases hj : joins σ r.2.2 with
    | true =>
      rw [run_yes hj] at h2 ⊢
      obtain ⟨m, hm, hf, ht, hd⟩ := run_split l (step σ r.2.2) (n + 1) (ext σ x n r) k (step_ok _ _) h1 h2
      refine ⟨m + 1, by simpa using hm, ?_, ?_, ?_⟩
      · have e : (run (step σ r.2.2) (n + 1) (ext σ x n r) l).getD k x = (run (step σ r.2.2) (n + 1) (ext σ x n r) l).getD k (ext σ x n r) := by
          simp [h2]
        rw [e, hf]
        congr 1
        omega
      · rw [List.take_succ_cons, run_yes hj]
        exact ht
      · rw [List.drop_succ_cons, hd, show n + 1 + m = n + (m + 1) from by omega]
    | false =>
      rw [run_no hj] at h2 ⊢
      by_cases hk : k = 1
      · subst hk
        refine ⟨0, by simp, ?_, ?_, ?_⟩
        · simp only [List.getD_cons_succ]
          have : ∀ (l : List R3) (σ : Sg) (n' : Nat) (y x : C6), ((run σ n' y l).getD 0 x).f = y.f := by
            intro l
            induction l with
            | nil => intro σ n' y x; rfl
            | cons r l ih =>
              intro σ n' y x
              unfold run
              split
              · rw [ih]; rfl
              · rfl
          rw [this]
          rfl
        · rfl
        · rw [Nat.add_zero]
          have := runN_cut hs n r l hj
          simpa [runN] using this
      · obtain ⟨j, rfl⟩ : ∃ j, k = j + 1 := ⟨k - 1, by omega⟩
        simp only [List.length_cons] at h2
        obtain ⟨m, hm, hf, ht, hd⟩ := run_split l (step σ r.2.2) (n + 1) (ext σ (new n r) n r) j (step_ok _ _) (by omega) (by omega)
        refine ⟨m + 1, by simpa using hm, ?_, ?_, ?_⟩
        · rw [List.getD_cons_succ]
          have hj2 : j < (run (step σ r.2.2) (n + 1) (ext σ (new n r) n r) l).length := by omega
          have e : (run (step σ r.2.2) (n + 1) (ext σ (new n r) n r) l).getD j x = (run (step σ r.2.2) (n + 1) (ext σ (new n r) n r) l).getD j (ext σ (new n r) n r) := by
            simp [hj2]
          rw [e, hf]
          congr 1
          omega
        · rw [List.take_succ_cons, List.take_succ_cons, run_no hj, ht]
        · rw [List.drop_succ_cons, List.drop_succ_cons, hd, show n + 1 + m = n + (m + 1) from by omega]
theorem map_shift0 (l : List C6) : l.map (shift 0) = l := by
  induction l with
  | nil => rfl
  | cons x l ih => rw [List.map_cons, ih]; unfold shift; simp
theorem ofC_cut (l : List R3) (k : Nat) (hk : k < (ofC l).length) : ∃ m, m < l.length ∧ ((ofC l)[k]).f = (m : Nat) ∧ (ofC l).take k = ofC (l.take m) ∧ (ofC l).drop k = (ofC (l.drop m)).map (shift m) := by
  cases l with
  | nil => simp [ofC, runN] at hk
  | cons r l =>
    by_cases h0 : k = 0
    · subst h0
      refine ⟨0, by simp, ?_, rfl, (map_shift0 _).symm⟩
      have : ∀ (l : List R3) (σ : Sg) (n' : Nat) (y : C6) (h : 0 < (run σ n' y l).length), ((run σ n' y l)[0]).f = y.f := by
        intro l
        induction l with
        | nil => intro σ n' y h; rfl
        | cons r l ih =>
          intro σ n' y h
          cases hj : joins σ r.2.2 with
          | true => simp only [run_yes hj]; rw [ih]; rfl
          | false => simp only [run_no hj]; rfl
      exact this _ _ _ _ hk
    · obtain ⟨m, hm, hf, ht, hd⟩ := run_split l (step none0 r.2.2) (0 + 1) (ext none0 (new 0 r) 0 r) k (step_ok _ _) (by omega) hk
      refine ⟨m + 1, by simpa using hm, ?_, ?_, ?_⟩
      · have e : (run (step none0 r.2.2) (0 + 1) (ext none0 (new 0 r) 0 r) l).getD k (ext none0 (new 0 r) 0 r) = (ofC (r :: l))[k] := by
          simp only [ofC, runN] at hk ⊢
          simp [hk]
        rw [← e, hf]
        congr 1
        omega
      · exact ht
      · rw [List.drop_succ_cons]
        have := hd
        rw [show 0 + 1 + m = m + 1 from by omega] at this
        exact this
end Go.Proofs.Ytikjchebffohdaa.Ku
