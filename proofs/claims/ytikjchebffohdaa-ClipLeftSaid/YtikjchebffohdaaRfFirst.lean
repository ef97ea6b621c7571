/-
  Proved here: what the document's own reading of a text's first rune (first of the reference) returns, for every text that is not empty; it leaves what was in memory.
-/
import Derived.Test.YtikjchebffohdaaRfFirst1
import Derived.Test.YtikjchebffohdaaRfFirst2
import Derived.Test.YtikjchebffohdaaRfFirst3
import Derived.Test.YtikjchebffohdaaRfFirst4
set_option linter.unusedVariables false
namespace Go.Proofs.Ytikjchebffohdaa.Rn
open Go.RowKit Go.Lib

theorem first_any (s : ByteArray) (w : World) (hs0 : 0 < s.size) (hs1 : s.size ≤ 4611686018427387904) :
    Calls Try.prog 28 #[.string s] w fun e w' => e = .returned (.tuple #[.int .i64 (dec s.data.toList).1, .int .i64 (dec s.data.toList).2]) ∧ Below w.heap.size w w' := by
  have hb0 := getD_zero s hs0
  have hne : s.data.toList ≠ [] := drop_ne s 0 hs0
  have hnum : numOf s.data.toList = accC (cOf s[0].toNat) ((s.data.toList.drop 1).take (nOf s[0].toNat - 1)) := by unfold numOf; rw [hb0]
  have hno := fun h => first_no hne h
  rw [hnum, hb0] at hno
  have hlt := s[0].toNat_lt
  by_cases h1 : 240 ≤ s[0].toNat
  · exact first4 s w hs0 hs1 _ _ (by simp [nOf, h1]) (by simp [cOf, h1]) h1 hlt (Lib.hid hno)
  · by_cases h2 : 224 ≤ s[0].toNat
    · exact first3 s w hs0 hs1 _ _ (by simp [nOf, h1, h2]) (by simp [cOf, h1, h2]) h2 (by omega) hlt (Lib.hid hno)
    · by_cases h3 : 192 ≤ s[0].toNat
      · exact first2 s w hs0 hs1 _ _ (by simp [nOf, h1, h2, h3]) (by simp [cOf, h1, h2, h3]) h3 (by omega) hlt (Lib.hid hno)
      · exact first1 s w hs0 hs1 _ _ (by simp [nOf, h1, h2, h3]) (by simp [cOf, h1, h2, h3]) (by omega) hlt (Lib.hid hno)
end Go.Proofs.Ytikjchebffohdaa.Rn
