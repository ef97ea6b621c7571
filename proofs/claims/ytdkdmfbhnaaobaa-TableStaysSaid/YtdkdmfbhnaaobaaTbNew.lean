/-
  Tables in memory that has just been made of literals. No program in it.
-/
import Derived.Test.YtdkdmfbhnaaobaaTbRows
set_option linter.unusedVariables false
namespace Go.Proofs.Ytdkdmfbhnaaobaa.Tb
open Go Go.RowKit Go.Lib Go.Proofs.Ytdkdmfbhnaaobaa.Cv

theorem vAt_new (w : World) (vals : List Value) (t : TypeId) : VAt (w.alloc (.cells vals.toArray t)) (some ⟨w.heap.size, 0, none⟩) vals := by
  refine .inr ⟨_, 0, rfl, by simp, fun j u hj => ?_⟩
  rw [cell_of_row _ w.heap.size (0 + j) vals.toArray t _ (heap_alloc_new w _), Nat.zero_add]
  simpa using hj
theorem recC_new (w : World) (r : List Bs) (t : TypeId) (n : Nat) (hn : n = r.length) : RecC (w.alloc (.cells (rowC r).toArray t)) (.slice (some ⟨w.heap.size, 0, none⟩) n n) r :=
  ⟨_, n, by rw [hn], by omega, vAt_new w (rowC r) t⟩
theorem recsC_new1 (w : World) (x : Value) (r : List Bs) (t : TypeId) (hx : RecC w x r) : RecsC (w.alloc (.cells #[x] t)) (some ⟨w.heap.size, 0, none⟩) [r] := by
  refine ⟨[x], rfl, vAt_new w [x] t, fun i hi y hy => ?_⟩
  have hb : Below w.heap.size w (w.alloc (.cells #[x] t)) := (Below.refl _ _).alloc (Nat.le_refl _) _
  match i, hi with
  | 0, _ => simp at hy; subst hy; exact hx.below hb
theorem recsC_new2 (w : World) (x y : Value) (r q : List Bs) (t : TypeId) (hx : RecC w x r) (hy : RecC w y q) : RecsC (w.alloc (.cells #[x, y] t)) (some ⟨w.heap.size, 0, none⟩) [r, q] := by
  refine ⟨[x, y], rfl, vAt_new w [x, y] t, fun i hi v hv => ?_⟩
  have hb : Below w.heap.size w (w.alloc (.cells #[x, y] t)) := (Below.refl _ _).alloc (Nat.le_refl _) _
  match i, hi with
  | 0, _ => simp at hv; subst hv; exact hx.below hb
  | 1, _ => simp at hv; subst hv; exact hy.below hb
theorem size_alloc (w : World) (o : Obj) : (w.alloc o).heap.size = w.heap.size + 1 := by simp
/-- One record of one field without text, as a literal. -/
theorem recsC_one (w : World) (r : List Bs) (n : Nat) (hn : n = r.length) : RecsC ((w.alloc (.cells (rowC r).toArray 9)).alloc (.cells #[.slice (some ⟨w.heap.size, 0, none⟩) n n] 31)) (some ⟨w.heap.size + 1, 0, none⟩) [r] := by
  have h := recsC_new1 _ _ r 31 (recC_new w r 9 n hn)
  rw [size_alloc] at h
  exact h
/-- Two records, as literals. -/
theorem recsC_two (w : World) (r q : List Bs) (n m : Nat) (hn : n = r.length) (hm : m = q.length) :
    RecsC (((w.alloc (.cells (rowC r).toArray 9)).alloc (.cells (rowC q).toArray 9)).alloc (.cells #[.slice (some ⟨w.heap.size, 0, none⟩) n n, .slice (some ⟨w.heap.size + 1, 0, none⟩) m m] 31)) (some ⟨w.heap.size + 1 + 1, 0, none⟩) [r, q] := by
  have h1 := recC_new w r 9 n hn
  have h2 := recC_new (w.alloc (.cells (rowC r).toArray 9)) q 9 m hm
  rw [size_alloc] at h2
  have hb : Below (w.alloc (.cells (rowC r).toArray 9)).heap.size (w.alloc (.cells (rowC r).toArray 9)) ((w.alloc (.cells (rowC r).toArray 9)).alloc (.cells (rowC q).toArray 9)) := (Below.refl _ _).alloc (Nat.le_refl _) _
  have h := recsC_new2 _ _ _ r q 31 (h1.below hb) h2
  rw [size_alloc, size_alloc] at h
  exact h
theorem below_two (w : World) (a b : Obj) : Below w.heap.size w ((w.alloc a).alloc b) := ((Below.refl _ _).alloc (Nat.le_refl _) _).alloc (by simp) _
theorem below_three (w : World) (a b c : Obj) : Below w.heap.size w (((w.alloc a).alloc b).alloc c) := (below_two w a b).alloc (by simp; omega) _
end Go.Proofs.Ytdkdmfbhnaaobaa.Tb
