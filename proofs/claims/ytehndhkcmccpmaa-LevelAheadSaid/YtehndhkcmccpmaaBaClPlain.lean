/-
  What is closed among classes, plainly; what stands between an initiator and a PDI, closed, changes nothing of the level around. No program in it.
-/
import Derived.Test.YtehndhkcmccpmaaBaLevPlain
set_option linter.unusedVariables false
namespace Go.Proofs.Ytehndhkcmccpmaa.Ba

def closedL : List Int → Nat → Bool
  | [], d => d == 0
  | c :: l, d => if isI c then closedL l (d + 1) else if isP c then (match d with | 0 => false | d + 1 => closedL l d) else closedL l d
theorem closedL_I {l : List Int} {k d : Nat} (h : k < l.length) (hi : isI l[k] = true) : closedL (l.drop k) d = closedL (l.drop (k + 1)) (d + 1) := by
  rw [List.drop_eq_getElem_cons h]
  simp only [closedL]
  rw [if_pos hi]
theorem closedL_P {l : List Int} {k d : Nat} (h : k < l.length) (hp : isP l[k] = true) : closedL (l.drop k) (d + 1) = closedL (l.drop (k + 1)) d := by
  have hi : ¬ isI l[k] = true := fun h1 => by rw [isI_not_isP h1] at hp; cases hp
  rw [List.drop_eq_getElem_cons h]
  simp only [closedL]
  rw [if_neg hi, if_pos hp]
theorem closedL_P0 {l : List Int} {k : Nat} (h : k < l.length) (hp : isP l[k] = true) : closedL (l.drop k) 0 = false := by
  have hi : ¬ isI l[k] = true := fun h1 => by rw [isI_not_isP h1] at hp; cases hp
  rw [List.drop_eq_getElem_cons h]
  simp only [closedL]
  rw [if_neg hi, if_pos hp]
theorem closedL_N {l : List Int} {k d : Nat} (h : k < l.length) (hp : isP l[k] = false) (hi : isI l[k] = false) : closedL (l.drop k) d = closedL (l.drop (k + 1)) d := by
  rw [List.drop_eq_getElem_cons h]
  simp only [closedL]
  rw [if_neg (by rw [hi]; decide), if_neg (by rw [hp]; decide)]

/-- What stands in an isolate, closed, is passed over. -/
theorem levL_closed : ∀ (zs b : List Int) (d e : Nat), closedL zs e = true → levL (zs ++ b) (d + 1 + e) = levL b (d + 1)
  | [], b, d, e, h => by
    have : e = 0 := by simpa [closedL] using h
    subst this
    rfl
  | c :: zs, b, d, e, h => by
    simp only [closedL] at h
    simp only [List.cons_append, levL]
    by_cases hi : isI c = true
    · rw [if_pos hi] at h ⊢
      exact levL_closed zs b d (e + 1) h
    · rw [if_neg hi] at h ⊢
      by_cases hp : isP c = true
      · rw [if_pos hp] at h ⊢
        cases e with
        | zero => cases h
        | succ e => exact levL_closed zs b d e h
      · rw [if_neg hp] at h ⊢
        rw [if_neg (by omega), if_neg (by omega)]
        exact levL_closed zs b d e h
theorem levL_same (r r' : List Int) (h : ∀ d, levL r d = levL r' d) : ∀ (a : List Int) (d : Nat), levL (a ++ r) d = levL (a ++ r') d
  | [], d => h d
  | c :: a, d => by
    simp only [List.cons_append, levL]
    rw [levL_same r r' h a, levL_same r r' h a, levL_same r r' h a]
theorem levL_skips (a zs b : List Int) (z : Int) (hz : isI z = true) (hc : closedL zs 0 = true) : levL ((((a ++ [z]) ++ zs) ++ [22]) ++ b) 0 = levL (a ++ b) 0 := by
  have e : (((a ++ [z]) ++ zs) ++ [22]) ++ b = a ++ (z :: (zs ++ (22 :: b))) := by simp
  rw [e]
  refine levL_same _ _ (fun d => ?_) a 0
  have h1 : levL (z :: (zs ++ (22 :: b))) d = levL (zs ++ (22 :: b)) (d + 1) := by
    simp only [levL]
    rw [if_pos hz]
  rw [h1]
  have h2 := levL_closed zs (22 :: b) d 0 hc
  rw [Nat.add_zero] at h2
  rw [h2]
  rfl
end Go.Proofs.Ytehndhkcmccpmaa.Ba
