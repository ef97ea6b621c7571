/-
  Proved here: what parquetryref03.brackets, lone return: slices of their numbers; they leave what was in memory. No condition.
-/
import Derived.Test.YtapeebnbiappgaaDoorTabInts
import Derived.Test.YtapeebnbiappgaaDoorMiPlain
set_option linter.unusedVariables false
namespace Go.Proofs.YtapeebnbiappgaaDoor.Mr
open Go.RowKit Go.Lib Go.Proofs.YtapeebnbiappgaaDoor.Mi Go.Proofs.YtapeebnbiappgaaDoor.Tab

def flatR (l : List MRow) : List Int := l.flatMap fun r => [r.1, r.2.1]
theorem flatR_len : ∀ (l : List MRow), (flatR l).length = 2 * l.length
  | [] => rfl
  | r :: l => by
    have := flatR_len l
    unfold flatR at this ⊢
    rw [List.flatMap_cons, List.length_append, this]
    simp
    omega
theorem flatR_at : ∀ (l : List MRow) (k : Nat) (hk : k < l.length), (flatR l)[2 * k]? = some l[k].1 ∧ (flatR l)[2 * k + 1]? = some l[k].2.1
  | r :: l, 0, hk => ⟨rfl, rfl⟩
  | r :: l, k + 1, hk => by
    have := flatR_at l k (by simpa using hk)
    rw [show flatR (r :: l) = r.1 :: r.2.1 :: flatR l from rfl, show 2 * (k + 1) = 2 * k + 1 + 1 from by omega]
    simpa using this

set_option maxRecDepth 100000 in
theorem brackets_any (w : World) :
    Calls Tryd.prog 43 #[] w fun e w' => e = .returned (.slice (some ⟨w.heap.size, 0, none⟩) 44 44) ∧ LitAt w' w.heap.size (flatR brRows) ∧ Below w.heap.size w w' := by
  go_enter Tryd.func43, Tryd.ntmps43
  refine wp_seq (wp_region_lit (l := [_]) (wpList_assignTo rfl _ rfl ?_))
  show Exit.then _ _ _ _ _
  refine wp_seq ?_
  refine wp_ints 1 0 22 3 (flatR brRows) 44 Tryd.underlying22 infoI1 infoI2 (by kernel_rfl) (by decide) (by decide) (by kernel_rfl) ?_
  refine wp_ret ?_
  go_ret
  exact ⟨rfl, litAt_made _ _ _, (Below.refl _ _).alloc (Nat.le_refl _) _⟩
set_option maxRecDepth 100000 in
theorem lone_true (w : World) :
    Calls Tryd.prog 45 #[.bool true] w fun e w' => e = .returned (.slice (some ⟨w.heap.size, 0, none⟩) 8 8) ∧ LitAt w' w.heap.size (flatR brPairs) ∧ Below w.heap.size w w' := by
  go_enter Tryd.func45, Tryd.ntmps45
  go_wp2
  go_ret
  exact ⟨rfl, litAt_made (flatR brPairs) _ _, (Below.refl _ _).alloc (Nat.le_refl _) _⟩
set_option maxRecDepth 100000 in
theorem lone_false (w : World) :
    Calls Tryd.prog 45 #[.bool false] w fun e w' => e = .returned (.slice (some ⟨w.heap.size, 0, none⟩) 18 18) ∧ LitAt w' w.heap.size (flatR sgPairs) ∧ Below w.heap.size w w' := by
  go_enter Tryd.func45, Tryd.ntmps45
  go_wp2
  go_ret
  exact ⟨rfl, litAt_made (flatR sgPairs) _ _, (Below.refl _ _).alloc (Nat.le_refl _) _⟩
end Go.Proofs.YtapeebnbiappgaaDoor.Mr
