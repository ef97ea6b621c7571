/-
  Small facts on where a text ends; no condition.
-/
import Derived.Test.YtikjchebffohdaaRnPlain
import Derived.LoopTactic
import Derived.Deep.LoopGhost
import Derived.Lib.OthersKept
import Derived.Lib.Hide
import Derived.Below
set_option linter.unusedVariables false
namespace Go.Proofs.Ytikjchebffohdaa.Rn
open Go.RowKit Go.Lib

theorem drop_ne (s : ByteArray) (p : Nat) (h : p < s.size) : s.data.toList.drop p ≠ [] := by
  rw [Lib.size_eq] at h
  intro e
  have := congrArg List.length e
  rw [List.length_drop, List.length_nil] at this
  omega
theorem drop_end (s : ByteArray) (p : Nat) (h : ¬ p < s.size) : s.data.toList.drop p = [] := by
  rw [Lib.size_eq] at h
  exact List.drop_of_length_le (by omega)
end Go.Proofs.Ytikjchebffohdaa.Rn
