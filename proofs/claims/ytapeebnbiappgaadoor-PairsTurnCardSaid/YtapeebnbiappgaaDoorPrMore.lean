/-
  Brackets, plainly, place by place: what walks over the document's answer keep: the stack as a row of places, pairs put in order one place behind the other, letters told one class behind the other, places set one behind the other, marks. No program in it.
-/
import Derived.Test.YtapeebnbiappgaaDoorPrSettle
set_option linter.unusedVariables false
namespace Go.Proofs.YtapeebnbiappgaaDoor.Pr
open Go.Proofs.YtapeebnbiappgaaDoor.Mi

theorem zip_drop {T C : List Int} {i : Nat} {t c : Int} (hT : T[i]? = some t) (hC : C[i]? = some c) : (T.zip C).drop i = (t, c) :: (T.zip C).drop (i + 1) := by
  obtain ⟨h1, rfl⟩ := List.getElem?_eq_some_iff.1 hT
  obtain ⟨h2, rfl⟩ := List.getElem?_eq_some_iff.1 hC
  rw [List.drop_eq_getElem_cons (by rw [List.length_zip]; omega)]
  simp
theorem zip_done {T C : List Int} (h : T.length = C.length) : (T.zip C).drop C.length = [] := List.drop_eq_nil_of_le (by rw [List.length_zip]; omega)

/-- The stack as a row of places, from the bottom up. -/
def stI (st : List (Nat × Int)) : List Int := (st.map fun x => (x.1 : Int)).reverse
theorem stI_len (st : List (Nat × Int)) : (stI st).length = st.length := by simp [stI]
theorem stI_push (i : Nat) (c : Int) (st : List (Nat × Int)) : stI ((i, c) :: st) = stI st ++ [(i : Int)] := by simp [stI]
theorem stI_split (s1 s2 : List (Nat × Int)) : stI (s1 ++ s2) = stI s2 ++ stI s1 := by simp [stI]
theorem stI_at (s1 s2 : List (Nat × Int)) (k : Nat) (o : Int) : (stI (s1 ++ (k, o) :: s2))[s2.length]? = some (k : Int) := by
  rw [stI_split, List.getElem?_append_left (by rw [stI_len]; simp), stI_push, List.getElem?_append_right (by rw [stI_len]; exact Nat.le_refl _), stI_len, Nat.sub_self]
  rfl
theorem stI_take (s1 s2 : List (Nat × Int)) (k : Nat) (o : Int) : (stI (s1 ++ (k, o) :: s2)).take s2.length = stI s2 := by
  rw [stI_split, stI_push, List.append_assoc, List.take_append_of_le_length (by rw [stI_len]; exact Nat.le_refl _), List.take_of_length_le (by rw [stI_len]; exact Nat.le_refl _)]

/-! In order, one place behind the other. -/
theorem inOrder_zero (L : List (Nat × Nat)) : inOrder 0 L = [] := rfl
theorem inOrder_succ (n : Nat) (L : List (Nat × Nat)) : inOrder (n + 1) L = inOrder n L ++ L.filter fun p => decide (p.1 = n) := by
  unfold inOrder
  rw [List.range_succ, List.flatMap_append]
  simp
theorem filter_step {L : List (Nat × Nat)} {i : Nat} {p : Nat × Nat} (h : L[i]? = some p) (a : Nat) : (L.take (i + 1)).filter (fun p => decide (p.1 = a)) = (L.take i).filter (fun p => decide (p.1 = a)) ++ (if p.1 = a then [p] else []) := by
  obtain ⟨hi, rfl⟩ := List.getElem?_eq_some_iff.1 h
  rw [List.take_succ_eq_append_getElem hi, List.filter_append]
  congr 1
  by_cases e : L[i].1 = a
  · rw [if_pos e]; simp [e]
  · rw [if_neg e]; simp [e]
theorem filter_lt (n : Nat) : ∀ L : List (Nat × Nat), (L.filter fun p => decide (p.1 < n + 1)).length = (L.filter fun p => decide (p.1 < n)).length + (L.filter fun p => decide (p.1 = n)).length
  | [] => rfl
  | p :: L => by
    have ih := filter_lt n L
    rw [List.filter_cons, List.filter_cons, List.filter_cons]
    by_cases h1 : p.1 < n
    · rw [if_pos (by simp; omega), if_pos (by simpa using h1), if_neg (by simp; omega), List.length_cons, List.length_cons, ih]
      omega
    · by_cases h2 : p.1 = n
      · rw [if_pos (by simp; omega), if_neg (by simpa using h1), if_pos (by simpa using h2), List.length_cons, List.length_cons, ih]
        omega
      · rw [if_neg (by simp; omega), if_neg (by simpa using h1), if_neg (by simpa using h2), ih]
theorem inOrder_count (L : List (Nat × Nat)) : ∀ n, (inOrder n L).length = (L.filter fun p => decide (p.1 < n)).length
  | 0 => by
    have : (L.filter fun p => decide (p.1 < 0)) = [] := List.filter_eq_nil_iff.2 (by simp)
    rw [this]
    rfl
  | n + 1 => by rw [inOrder_succ, List.length_append, inOrder_count L n, filter_lt]
theorem inOrder_len (n : Nat) (L : List (Nat × Nat)) : (inOrder n L).length ≤ L.length := by
  rw [inOrder_count]
  exact List.length_filter_le _ _

/-! Letters, one class behind the other. -/
theorem aheadZ_snoc (l : List Int) (c s : Int) : aheadZ (l ++ [c]) s = if 0 ≤ letZ c then letZ c else aheadZ l s := by simp [aheadZ]
theorem hasZ_snoc (l : List Int) (c x : Int) : hasZ (l ++ [c]) x = (hasZ l x || decide (letZ c = x)) := by simp [hasZ]
theorem hasZ_yes {l : List Int} {x c : Int} (h : c ∈ l) (hc : letZ c = x) : hasZ l x = true := List.any_eq_true.2 ⟨c, h, by simpa using hc⟩

/-! Places set, one behind the other. -/
def setUp (own : List Int) (p : Nat × Nat) (c : Int) (l : List Int) (k : Nat) : List Int := (setZ own p c l).take k ++ l.drop k
theorem setUp_zero (own : List Int) (p : Nat × Nat) (c : Int) (l : List Int) : setUp own p c l 0 = l := by simp [setUp]
theorem setUp_all (own : List Int) (p : Nat × Nat) (c : Int) (l : List Int) : setUp own p c l l.length = setZ own p c l := by
  unfold setUp
  rw [List.drop_length, List.append_nil, List.take_of_length_le (by rw [setZ_len]; exact Nat.le_refl _)]
theorem setUp_len (own : List Int) (p : Nat × Nat) (c : Int) (l : List Int) {k : Nat} (hk : k ≤ l.length) : (setUp own p c l k).length = l.length := by
  unfold setUp
  rw [List.length_append, List.length_take, List.length_drop, setZ_len]
  omega
theorem setUp_parts (own : List Int) (p : Nat × Nat) (c : Int) (l : List Int) {k : Nat} {x : Int} (h : l[k]? = some x) : setUp own p c l k = (setZ own p c l).take k ++ x :: l.drop (k + 1) := by
  obtain ⟨hk, rfl⟩ := List.getElem?_eq_some_iff.1 h
  unfold setUp
  rw [List.drop_eq_getElem_cons hk]
theorem setUp_step (own : List Int) (p : Nat × Nat) (c : Int) (l : List Int) {k : Nat} {x : Int} (h : l[k]? = some x) : setUp own p c l (k + 1) = (setZ own p c l).take k ++ (if mayZ own p k = true then c else x) :: l.drop (k + 1) := by
  have h2 := setZ_at own p c l k x h
  obtain ⟨hk, h3⟩ := List.getElem?_eq_some_iff.1 h2
  unfold setUp
  rw [List.take_succ_eq_append_getElem hk, h3, List.append_assoc]
  rfl

/-! Marks. -/
theorem marksZ_iff {own : List Int} {a t : Nat} (ht : t < own.length) : marksZ own a t = true ↔ a < t ∧ ∀ i, a < i → i ≤ t → own[i]? = some 8 := by
  unfold marksZ
  rw [Bool.and_eq_true, decide_eq_true_eq, List.all_eq_true]
  constructor
  · rintro ⟨h1, h2⟩
    refine ⟨h1, fun i hi hit => ?_⟩
    have hin : i < own.length := by omega
    have hm : own[i] ∈ (own.take (t + 1)).drop (a + 1) := by
      rw [List.mem_iff_getElem?]
      refine ⟨i - (a + 1), ?_⟩
      rw [List.getElem?_drop, List.getElem?_take, if_pos (by omega), show a + 1 + (i - (a + 1)) = i from by omega]
      exact List.getElem?_eq_getElem hin
    rw [List.getElem?_eq_getElem hin]
    have := h2 _ hm
    simp only [decide_eq_true_eq] at this
    rw [this]
  · rintro ⟨h1, h2⟩
    refine ⟨h1, fun c hc => ?_⟩
    obtain ⟨j, hj⟩ := List.mem_iff_getElem?.1 hc
    rw [List.getElem?_drop, List.getElem?_take] at hj
    by_cases hjt : a + 1 + j < t + 1
    · rw [if_pos hjt, h2 (a + 1 + j) (by omega) (by omega)] at hj
      injection hj with hj
      simp [← hj]
    · rw [if_neg hjt] at hj
      cases hj
theorem marksZ_no {own : List Int} {a t i : Nat} {c : Int} (ht : t < own.length) (h1 : a < i) (h2 : i ≤ t) (hc : own[i]? = some c) (h8 : c ≠ 8) : marksZ own a t = false := by
  cases h : marksZ own a t with
  | false => rfl
  | true =>
    have := ((marksZ_iff ht).1 h).2 i h1 h2
    rw [hc] at this
    injection this with this
    exact absurd this h8
theorem marksZ_short {own : List Int} {a t : Nat} (h : t ≤ a) : marksZ own a t = false := by
  unfold marksZ
  rw [decide_eq_false (by omega), Bool.false_and]
/-- A run of marks that is set from behind a place on, one behind the other, ends where the marks do. -/
theorem marksZ_next {own : List Int} {a t : Nat} (ht : t + 1 < own.length) (hat : a ≤ t) (h : t = a ∨ marksZ own a t = true) : marksZ own a (t + 1) = decide (own[t + 1]? = some 8) := by
  by_cases h8 : own[t + 1]? = some 8
  · rw [decide_eq_true h8, marksZ_iff ht]
    refine ⟨by omega, fun i h1 h2 => ?_⟩
    by_cases e : i = t + 1
    · rw [e]; exact h8
    · rcases h with h | h
      · omega
      · exact ((marksZ_iff (by omega)).1 h).2 i h1 (by omega)
  · rw [decide_eq_false h8]
    have hx : own[t + 1]? = some own[t + 1] := List.getElem?_eq_getElem ht
    exact marksZ_no ht (by omega) (Nat.le_refl _) hx (fun e => h8 (by rw [hx, e]))
theorem marksZ_stop {own : List Int} {a t u : Nat} (hu : u < own.length) (hat : a ≤ t) (htu : t < u) (h : marksZ own a (t + 1) = false) : marksZ own a u = false := by
  cases hm : marksZ own a u with
  | false => rfl
  | true =>
    have h1 := (marksZ_iff hu).1 hm
    have : marksZ own a (t + 1) = true := (marksZ_iff (by omega)).2 ⟨by omega, fun i h2 h3 => h1.2 i h2 (by omega)⟩
    rw [h] at this
    cases this
end Go.Proofs.YtapeebnbiappgaaDoor.Pr
