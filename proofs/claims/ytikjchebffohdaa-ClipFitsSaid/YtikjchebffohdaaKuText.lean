/-
  The clusters of a text, plainly. No program in it.
-/
import Derived.Test.YtikjchebffohdaaKuChain
set_option linter.unusedVariables false
namespace Go.Proofs.Ytikjchebffohdaa.Ku
open Go.RowKit Go.Lib

/-- The clusters of a text. -/
def ofS (s : ByteArray) : List C6 := ofC (ints3 (Rn.splitA s.data.toList 0))
theorem ofS_len (s : ByteArray) : (ofS s).length ≤ s.size := by
  unfold ofS
  have h1 := ofC_len (ints3 (Rn.splitA s.data.toList 0))
  have h2 := Rn.splitA_len s.data.toList.length s.data.toList 0 (Nat.le_refl _)
  rw [ints3_len] at h1
  rw [← Lib.size_eq] at h2
  omega
theorem cut_len (zs : List Int) (a m : Nat) (ha : a + m ≤ zs.length) : ((zs.drop a).take m).length = m := by simp; omega
end Go.Proofs.Ytikjchebffohdaa.Ku
