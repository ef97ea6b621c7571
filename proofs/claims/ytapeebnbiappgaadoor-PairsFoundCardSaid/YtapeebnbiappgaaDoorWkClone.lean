/-
  Proved here: what slices.Clone returns for a row of ints: a row of the call's own with the same numbers (nil for nil). It leaves what was in memory.
-/
import Derived.Test.YtapeebnbiappgaaDoorAddInts
import Derived.Test.YtapeebnbiappgaaDoorShelf
set_option linter.unusedVariables false
namespace Go.Proofs.YtapeebnbiappgaaDoor.Wk
open Go Go.RowKit Go.Lib Go.Proofs.YtapeebnbiappgaaDoor.Cl

theorem clone_any (A : Option Addr) (zs : List Int) (n c : Nat) (w : World) (hR : IntsAt w A zs) (hl : zs.length = n) (hn : n ≤ 1099511627776) :
    Calls Tryd.prog 28 #[.slice A n c] w fun e w' => ∃ A' c', e = .returned (.slice A' n c') ∧ w'.ownsRow w.heap.size 3 1 (.slice A' n c') n (icl zs) ∧ Below w.heap.size w w' := by
  cases A with
  | none =>
    have h0 : n = 0 := by rw [← hl]; exact hR.nil_len rfl
    subst h0
    obtain rfl : zs = [] := List.eq_nil_of_length_eq_zero hl
    refine (Tryd.slices_Clone_int_nil 0 c w).mono ?_
    rintro e w' ⟨rfl, rfl⟩
    exact ⟨_, _, rfl, World.ownsRow_nil _ _ _ _, Below.refl _ _⟩
  | some ad =>
    rcases hR with rfl | ⟨b, off, e, hb, hz⟩
    · obtain rfl : n = 0 := hl.symm
      refine (Tryd.slices_Clone_int_zero ad c w).mono ?_
      rintro e w' ⟨v', rfl, h1, -, h2⟩
      obtain ⟨A', c', rfl, -⟩ := intsAt_icl (zs := []) (n := 0) h1 rfl
      exact ⟨_, _, rfl, h1, h2⟩
    · injection e with e
      subst e
      refine (Tryd.slices_Clone_int b off n c zs w (by omega) (by omega) (fun j hj => hz j _ (by rw [List.getElem?_eq_getElem hj, List.getD_eq_getElem?_getD, List.getElem?_eq_getElem hj]; rfl))).mono ?_
      rintro e w' ⟨v', rfl, h1, -, h2⟩
      rw [← hl, List.take_length] at h1
      obtain ⟨A', c', rfl, -⟩ := intsAt_icl (zs := zs) (n := zs.length) h1 rfl
      rw [hl] at h1 ⊢
      exact ⟨_, _, rfl, h1, h2⟩
end Go.Proofs.YtapeebnbiappgaaDoor.Wk
