/-
  Rows of runes that a text has, as rows of any runes. No program in it.
-/
import Derived.Test.YtikjchebffohdaaRnRows
import Derived.Test.YtikjchebffohdaaKuChain
import Derived.Test.YtikjchebffohdaaRuRows
set_option linter.unusedVariables false
namespace Go.Proofs.Ytikjchebffohdaa.Ku
open Go.RowKit Go.Lib

theorem ruAt_runes {w : World} {A : Option Addr} {l : List (Nat × Nat × Nat)} (h : Rn.RunesAt w A l) : RuAt w A (ints3 l) := by
  by_cases h0 : l.length = 0
  · exact .inl (by rw [List.eq_nil_of_length_eq_zero h0]; rfl)
  · obtain ⟨g, rfl, hg, _⟩ := h 0 (by omega)
    refine .inr ⟨g, 0, rfl, hg, fun k hk => ?_⟩
    rw [ints3_len] at hk
    obtain ⟨g', hA, _, c0, c1, c2⟩ := h k hk
    injection hA with hA
    injection hA with hA
    subst hA
    simp only [ints3, List.getElem_map, Nat.zero_add]
    exact ⟨c0, c1, c2⟩
end Go.Proofs.Ytikjchebffohdaa.Ku
