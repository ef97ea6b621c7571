/-
  The built-in clear of a row of ints of the call's own: no other block changes.
-/
import Derived.Test.YtkhhfodbldemeaaDoorClInts
set_option linter.unusedVariables false
namespace Go.Proofs.YtkhhfodbldemeaaDoor
open Go.RowKit Go.Lib

theorem clr_grown (w : World) (g : Nat) (cs : Array Value) : w.grownBy (w.setRow g cs) (some g) := by
  refine ⟨rfl, rfl, rfl, by simp [World.setRow], fun k _ hne => ?_⟩
  simp only [World.setRow, Array.getElem?_modify]
  rw [if_neg (fun e => hne (by rw [e]))]
theorem clr_one (n : Nat) : ∀ v ∈ (Builtin.zeroCells (Value.int .i64 0).cells n).toList, v.oneCell' = true := by
  intro v hv
  simp [Builtin.zeroCells, Value.cells] at hv
  first
  | (obtain ⟨_, rfl⟩ := hv; rfl)
  | (obtain ⟨a, _, rfl⟩ := hv; rw [Nat.mod_one]; rfl)
theorem clr_len (n : Nat) : (Builtin.zeroCells (Value.int .i64 0).cells n).toList.length = n := by
  simp [Builtin.zeroCells, Value.cells]

theorem clear_ints {w : World} {B : Nat} {v : Value} {n : Nat} {xs : List Value} (h : w.ownsRow B 3 1 v n xs) :
    ∃ w', (∀ ty, (Builtin.clear_ #[22] ty #[v]).run Tryd.prog w = .ok (.tuple #[]) w') ∧ w.grownBy w' v.ownBlock := by
  rcases h.2 with ⟨rfl, hn⟩ | ⟨g, cap, cur, rfl, _, hg, hnc, _, hsz, _⟩
  · exact ⟨w, fun ty => by simp [Builtin.clear_, run_underlying Tryd.underlying22], World.grownBy.refl w _⟩
  · rcases Nat.eq_zero_or_pos n with h0 | h0
    · subst h0
      exact ⟨w, fun ty => by simp [Builtin.clear_, run_underlying Tryd.underlying22], World.grownBy.refl w _⟩
    · obtain ⟨CS, hst⟩ : ∃ CS, (storeCells ⟨g, 0, none⟩ (Builtin.zeroCells (Value.int .i64 0).cells n).toList 0).run Tryd.prog w = .ok () (w.setRow g CS) :=
        ⟨_, run_storeCells_at Tryd.prog g 0 3 _ 0 cur w hg (by rw [clr_len, hsz]; omega) (clr_one n)⟩
      have hzv : ∀ w, (zeroValue 3).run Tryd.prog w = .ok (.int .i64 0) w := fun _ => by kernel_rfl
      refine ⟨w.setRow g CS, fun ty => ?_, clr_grown w g CS⟩
      obtain ⟨m, rfl⟩ : ∃ m, n = m + 1 := ⟨n - 1, by omega⟩
      simp [Builtin.clear_, run_underlying Tryd.underlying22, hzv, hst]
end Go.Proofs.YtkhhfodbldemeaaDoor
