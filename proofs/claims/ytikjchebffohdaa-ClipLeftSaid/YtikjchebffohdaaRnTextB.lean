/-
  Rows of ints, the bytes of numbers, bytes of the call's own as a string: small facts.
-/
import Derived.Test.YtikjchebffohdaaRnRows
import Derived.Lib.BufferRead
import Derived.Laws.IdiomStrings
set_option linter.unusedVariables false
namespace Go.Proofs.Ytikjchebffohdaa.Rn
open Go.RowKit Go.Lib

/-- A row of ints that came in: nil, or cells below the heap's end. -/
def IntsAt (w : World) (A : Option Addr) (zs : List Int) : Prop :=
  zs = [] ∨ ∃ b off, A = some ⟨b, off, none⟩ ∧ b < w.heap.size ∧ ∀ j z, zs[j]? = some z → w.cell? ⟨b, off + j, none⟩ = some (.int .i64 z)

/-- The bytes of numbers. -/
def textB (zs : List Int) : List UInt8 := zs.flatMap fun z => Lib.encodeRune (fitZ z)
theorem textB_snoc (zs : List Int) (z : Int) : textB (zs ++ [z]) = textB zs ++ Lib.encodeRune (fitZ z) := by simp [textB]
theorem encodeRune_len (r : Int) : (Lib.encodeRune r).length ≤ 4 := by
  have := (Lib.encodeRuneZ_length r).2
  simpa [Lib.encodeRune] using this
theorem runeCells_len (r : Int) : (Lib.runeCells r).length = (Lib.encodeRune r).length := by simp [Lib.runeCells, Lib.encodeRune]
theorem fitZ_range (c : Int) : 0 ≤ fitZ c ∧ fitZ c ≤ 1114111 := by
  unfold fitZ
  split
  · rename_i h
    simp [isPoint] at h
    omega
  · omega

theorem convert_own {w : World} {B : Nat} {v : Value} {l : List UInt8} (h : w.ownsRow B 5 1 v l.length (Lib.byteCells l)) :
    (convert 65 9 v).run Try.prog w = .ok (.string ⟨l.toArray⟩) w := by
  rcases h.2 with ⟨rfl, hn⟩ | ⟨g, cap, cur, rfl, _, hg, _, _, _, htk⟩
  · have : l = [] := List.eq_nil_of_length_eq_zero hn
    subst this
    exact Lib.run_convert_nil_bytes w 65 9 5 0 Try.underlying65 Try.underlying5 Try.underlying9
  · rw [Nat.mul_one] at htk
    exact run_convert_bytes_back w 65 9 5 _ cap l Try.underlying65 Try.underlying5 Try.underlying9 (Lib.bytes_of_row hg htk)

end Go.Proofs.Ytikjchebffohdaa.Rn
