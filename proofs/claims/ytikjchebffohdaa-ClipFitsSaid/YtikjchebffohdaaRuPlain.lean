/-
  A rune as three numbers. No program in it.
-/
import Derived.Test.YtikjchebffohdaaRows
set_option linter.unusedVariables false
namespace Go.Proofs.Ytikjchebffohdaa.Ku
/-- A rune: where it begins, its size, its number. -/
abbrev R3 := Int × Int × Int
/-- A number that an int holds. -/
def okN (n : Int) : Prop := -9223372036854775808 ≤ n ∧ n ≤ 9223372036854775807
end Go.Proofs.Ytikjchebffohdaa.Ku
