/-
  What the laws of stage 14 have in common: a row of ints held against one that holds the same; a row of the call's own, begun.
-/
import Derived.Test.YtapeebnbiappgaaDoorPbAwake
import Derived.Test.YtapeebnbiappgaaDoorRcSame
set_option linter.unusedVariables false
namespace Go.Proofs.YtapeebnbiappgaaDoor.Pb
open Go Go.RowKit Go.Lib Go.Proofs.YtapeebnbiappgaaDoor.Cl Go.Proofs.YtapeebnbiappgaaDoor.Pr

theorem same_n (A B : Option Addr) (zs : List Int) (n c d : Nat) (w : World) (hl : zs.length = n) (ha : IntsAt w A zs) (hb : IntsAt w B zs) (hn : n ≤ 1099511627776) :
    Calls Tryd.prog 12 #[.slice A n c, .slice B n d] w fun e w' => e = .returned (.bool true) ∧ Below w.heap.size w w' := by
  subst hl
  exact Rc.same_ints A B zs c d w ha hb hn
theorem made_nil (w : World) : (w.alloc (.cells #[] 3)).ownsRow w.heap.size 3 1 (.slice (some ⟨w.heap.size, 0, none⟩) 0 0) 0 (icl []) := World.ownsRow_made w #[] 0 (Nat.le_refl _) (Nat.zero_le _) rfl
end Go.Proofs.YtapeebnbiappgaaDoor.Pb
