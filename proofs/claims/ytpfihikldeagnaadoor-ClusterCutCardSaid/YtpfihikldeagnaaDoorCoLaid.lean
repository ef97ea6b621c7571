/-
  Two arrays laid one behind the other, as their readers find them; no program's function here.
-/
import Derived.Test.YtpfihikldeagnaaDoorCoSearch
set_option linter.unusedVariables false
namespace Go.Proofs.YtpfihikldeagnaaDoor.Co
open Go.RowKit Go.Lib Go.Proofs.YtpfihikldeagnaaDoor.Tab Go.Proofs.YtpfihikldeagnaaDoor.Arr

/-- Two arrays, laid one behind the other, as their readers find them. -/
def Laid2 (w w' : World) (b : Nat) : Prop := LitAt w' b narrowE ∧ LitAt w' (b + 1) wideE ∧ Below w.heap.size w w' ∧ w.heap.size ≤ b

theorem laid2 {w w1 : World} (hb : Below w.heap.size w w1) : Laid2 w ((w1.alloc (.cells (iC narrowE) 60)).alloc (.cells (iC wideE) 62)) w1.heap.size := by
  have h1 : LitAt (w1.alloc (.cells (iC narrowE) 60)) w1.heap.size narrowE := litAt_made narrowE _ w1
  have h2 := litAt_made wideE 62 (w1.alloc (.cells (iC narrowE) 60))
  have hs : (w1.alloc (.cells (iC narrowE) 60)).heap.size = w1.heap.size + 1 := by simp
  rw [hs] at h2
  exact ⟨h1.below ((Below.refl _ _).alloc (Nat.le_refl _) _), h2, (hb.alloc hb.size _).alloc (by have := hb.size; simp; omega) _, hb.size⟩
end Go.Proofs.YtpfihikldeagnaaDoor.Co
