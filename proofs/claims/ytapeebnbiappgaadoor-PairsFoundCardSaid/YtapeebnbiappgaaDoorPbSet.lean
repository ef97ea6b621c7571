/-
  One bracket of a pair, and the marks right behind it, set, plainly; place by place. No program in it.
-/
import Derived.Test.YtapeebnbiappgaaDoorPrMore
set_option linter.unusedVariables false
namespace Go.Proofs.YtapeebnbiappgaaDoor.Pr

/-- A bracket, and the marks behind it, set. -/
def setOne (own : List Int) (a : Nat) (x : Int) (l : List Int) : List Int := l.mapIdx fun k y => if (decide (k = a) || marksZ own a k) = true then x else y
theorem setOne_len (own : List Int) (a : Nat) (x : Int) (l : List Int) : (setOne own a x l).length = l.length := by simp [setOne]
theorem setZ_two (own : List Int) (p : Nat × Nat) (c : Int) (l : List Int) : setZ own p c l = setOne own p.2 c (setOne own p.1 c l) := by
  apply List.ext_getElem?
  intro i
  unfold setZ setOne mayZ
  rw [List.getElem?_mapIdx, List.getElem?_mapIdx, List.getElem?_mapIdx]
  cases l[i]? with
  | none => rfl
  | some y =>
    simp only [Option.map_some]
    congr 1
    by_cases h1 : i = p.1 <;> by_cases h2 : i = p.2 <;> cases h3 : marksZ own p.1 i <;> cases h4 : marksZ own p.2 i <;> simp [h1, h2] <;> simp_all
/-- A run of places, set. -/
def setRun (a t : Nat) (x : Int) (l : List Int) : List Int := l.mapIdx fun k y => if a ≤ k ∧ k < t then x else y
theorem setRun_len (a t : Nat) (x : Int) (l : List Int) : (setRun a t x l).length = l.length := by simp [setRun]
theorem setRun_first (a : Nat) (x : Int) (l : List Int) : setRun a (a + 1) x l = l.set a x := by
  apply List.ext_getElem?
  intro i
  unfold setRun
  rw [List.getElem?_mapIdx, List.getElem?_set]
  by_cases h : a = i
  · subst h
    rw [if_pos rfl]
    by_cases hl : a < l.length
    · rw [if_pos hl, List.getElem?_eq_getElem hl, Option.map_some, if_pos (by omega)]
    · rw [if_neg hl, List.getElem?_eq_none (by omega)]
      rfl
  · rw [if_neg h]
    cases l[i]? with
    | none => rfl
    | some y => rw [Option.map_some, if_neg (by omega)]
theorem setRun_step {a t : Nat} (hat : a ≤ t) (x : Int) (l : List Int) : setRun a (t + 1) x l = (setRun a t x l).set t x := by
  apply List.ext_getElem?
  intro i
  rw [List.getElem?_set, setRun_len]
  unfold setRun
  rw [List.getElem?_mapIdx, List.getElem?_mapIdx]
  by_cases h : t = i
  · subst h
    rw [if_pos rfl]
    by_cases hl : t < l.length
    · rw [if_pos hl, List.getElem?_eq_getElem hl, Option.map_some, if_pos (by omega)]
    · rw [if_neg hl, List.getElem?_eq_none (by omega)]
      rfl
  · rw [if_neg h]
    cases l[i]? with
    | none => rfl
    | some y =>
      rw [Option.map_some, Option.map_some]
      congr 1
      by_cases h2 : a ≤ i ∧ i < t
      · rw [if_pos h2, if_pos (by omega)]
      · rw [if_neg h2, if_neg (by omega)]
theorem setRun_end {own l : List Int} {a t : Nat} (x : Int) (hl : l.length = own.length) (hat : a < t) (hm : ∀ i, a < i → i < t → own[i]? = some 8) (hs : own.length ≤ t ∨ ∃ c, own[t]? = some c ∧ c ≠ 8) : setRun a t x l = setOne own a x l := by
  apply List.ext_getElem?
  intro i
  unfold setRun setOne
  rw [List.getElem?_mapIdx, List.getElem?_mapIdx]
  by_cases hi : i < l.length
  · rw [List.getElem?_eq_getElem hi, Option.map_some, Option.map_some]
    congr 1
    have hio : i < own.length := by omega
    have e : (a ≤ i ∧ i < t) ↔ (decide (i = a) || marksZ own a i) = true := by
      rw [Bool.or_eq_true, decide_eq_true_eq, marksZ_iff hio]
      constructor
      · rintro ⟨h1, h2⟩
        by_cases e : i = a
        · exact .inl e
        · exact .inr ⟨by omega, fun j h3 h4 => hm j h3 (by omega)⟩
      · rintro (h | ⟨h1, h2⟩)
        · omega
        · refine ⟨by omega, ?_⟩
          rcases hs with hs | ⟨c, hc, h8⟩
          · omega
          · by_cases hti : t ≤ i
            · have := h2 t hat hti
              rw [hc] at this
              injection this with this
              exact absurd this h8
            · omega
    by_cases h : a ≤ i ∧ i < t
    · rw [if_pos h, if_pos (e.1 h)]
    · rw [if_neg h, if_neg (fun g => h (e.2 g))]
  · rw [List.getElem?_eq_none (by omega)]
    rfl
theorem applyZ_two (own : List Int) (way s : Int) (l : List Int) (p : Nat × Nat) {z : Int} (hz : becZ l p way s = z) (h : 0 ≤ z) : applyZ own way s l p = setOne own p.2 z (setOne own p.1 z l) := by
  unfold applyZ
  rw [hz, if_neg (by omega), setZ_two]
theorem applyZ_no (own : List Int) (way s : Int) (l : List Int) (p : Nat × Nat) (h : becZ l p way s < 0) : applyZ own way s l p = l := by
  unfold applyZ
  rw [if_pos h]
end Go.Proofs.YtapeebnbiappgaaDoor.Pr
