/-
  The level of classes, plainly. No program in it.
-/
import Derived.Test.YtehndhkcmccpmaaBaPlain
set_option linter.unusedVariables false
namespace Go.Proofs.Ytehndhkcmccpmaa.Ba

/-- The level of classes, behind so many open isolates; whether there is a letter. -/
def levL : List Int → Nat → Int × Bool
  | [], _ => (0, false)
  | c :: l, d => if isI c then levL l (d + 1) else if isP c then levL l (d - 1) else if d = 0 ∧ c = 0 then (0, true) else if d = 0 ∧ (c = 1 ∨ c = 2) then (1, true) else levL l d
theorem levL_I {l : List Int} {k d : Nat} (h : k < l.length) (hi : isI l[k] = true) : levL (l.drop k) d = levL (l.drop (k + 1)) (d + 1) := by
  rw [List.drop_eq_getElem_cons h]
  simp only [levL]
  rw [if_pos hi]
theorem levL_P {l : List Int} {k d : Nat} (h : k < l.length) (hp : isP l[k] = true) : levL (l.drop k) d = levL (l.drop (k + 1)) (d - 1) := by
  have hi : ¬ isI l[k] = true := fun h1 => by rw [isI_not_isP h1] at hp; cases hp
  rw [List.drop_eq_getElem_cons h]
  simp only [levL]
  rw [if_neg hi, if_pos hp]
theorem levL_N {l : List Int} {k d : Nat} (h : k < l.length) (hp : isP l[k] = false) (hi : isI l[k] = false) : levL (l.drop k) d = if d = 0 ∧ l[k] = 0 then (0, true) else if d = 0 ∧ (l[k] = 1 ∨ l[k] = 2) then (1, true) else levL (l.drop (k + 1)) d := by
  rw [List.drop_eq_getElem_cons h]
  simp only [levL]
  rw [if_neg (by rw [hi]; decide), if_neg (by rw [hp]; decide)]
end Go.Proofs.Ytehndhkcmccpmaa.Ba
