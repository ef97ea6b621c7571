/-
  Records in memory that has just been made. No program in it.
-/
import Derived.Test.YtafpddpeffpnfaaDoorCvText
import Derived.Test.YtafpddpeffpnfaaDoorCvRows
set_option linter.unusedVariables false
namespace Go.Proofs.YtafpddpeffpnfaaDoor.Cv
open Go Go.RowKit Go.Lib Go.Proofs.YtafpddpeffpnfaaDoor.Cl

theorem vAt_new (w : World) (vals : List Value) (t : TypeId) : VAt (w.alloc (.cells vals.toArray t)) (some ⟨w.heap.size, 0, none⟩) vals := by
  refine .inr ⟨_, 0, rfl, by simp, fun j u hj => ?_⟩
  rw [cell_of_row _ w.heap.size (0 + j) vals.toArray t _ (heap_alloc_new w _), Nat.zero_add]
  simpa using hj
theorem recV_new (w : World) (r : List Bs) (t : TypeId) (n c : Nat) (hn : n = r.length) : RecV (w.alloc (.cells (rowC r).toArray t)) (.slice (some ⟨w.heap.size, 0, none⟩) n c) r :=
  ⟨_, c, by rw [hn], vAt_new w (rowC r) t⟩
theorem recs_new1 (w : World) (x : Value) (r : List Bs) (t : TypeId) (hx : RecV w x r) : RecsAt (w.alloc (.cells #[x] t)) (some ⟨w.heap.size, 0, none⟩) [r] := by
  refine ⟨[x], rfl, vAt_new w [x] t, fun i hi y hy => ?_⟩
  have hb : Below w.heap.size w (w.alloc (.cells #[x] t)) := (Below.refl _ _).alloc (Nat.le_refl _) _
  match i, hi with
  | 0, _ => simp at hy; subst hy; exact hx.below hb
theorem recs_new2 (w : World) (x y : Value) (r q : List Bs) (t : TypeId) (hx : RecV w x r) (hy : RecV w y q) : RecsAt (w.alloc (.cells #[x, y] t)) (some ⟨w.heap.size, 0, none⟩) [r, q] := by
  refine ⟨[x, y], rfl, vAt_new w [x, y] t, fun i hi v hv => ?_⟩
  have hb : Below w.heap.size w (w.alloc (.cells #[x, y] t)) := (Below.refl _ _).alloc (Nat.le_refl _) _
  match i, hi with
  | 0, _ => simp at hv; subst hv; exact hx.below hb
  | 1, _ => simp at hv; subst hv; exact hy.below hb
theorem below_one (w : World) (o : Obj) : Below w.heap.size w (w.alloc o) := (Below.refl _ _).alloc (Nat.le_refl _) _

theorem size_alloc (w : World) (o : Obj) : (w.alloc o).heap.size = w.heap.size + 1 := by simp
theorem held_alloc {w : World} (h : Held w) (o : Obj) : Held (w.alloc o) := h.below h.1 (below_one w o |>.mono (Nat.le_refl _))
end Go.Proofs.YtafpddpeffpnfaaDoor.Cv
