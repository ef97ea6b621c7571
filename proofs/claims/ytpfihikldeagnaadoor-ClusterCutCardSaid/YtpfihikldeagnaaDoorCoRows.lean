/-
  Proved here: what cols.narrowest and cols.widest return: the arrays of their spans' ends; they leave what was in memory. No condition.
-/
import Derived.Test.YtpfihikldeagnaaDoorArrKit
import Derived.Test.YtpfihikldeagnaaDoorCoPlain
set_option linter.unusedVariables false
namespace Go.Proofs.YtpfihikldeagnaaDoor.Co
open Go.RowKit Go.Lib Go.Proofs.YtpfihikldeagnaaDoor.Arr

def iC (zs : List Int) : Array Value := (zs.map (Value.int .i64)).toArray
theorem infoN : (Tryd.prog.info? 60).map (fun i => (i.zero, i.size)) = some (some (.agg (List.replicate 90 (.int .i64 0)).toArray), 90) := by kernel_rfl
theorem infoW : (Tryd.prog.info? 62).map (fun i => (i.zero, i.size)) = some (some (.agg (List.replicate 184 (.int .i64 0)).toArray), 184) := by kernel_rfl
theorem iC_size (zs : List Int) : (iC zs).size = zs.length := by simp [iC]
theorem iC_one (zs : List Int) : (iC zs).all (·.oneCell') = true := ints_allOne zs
theorem n_size : (iC narrowE).size = 90 := by kernel_rfl
theorem w_size : (iC wideE).size = 184 := by kernel_rfl

set_option maxHeartbeats 4000000 in
set_option maxRecDepth 1000000 in
theorem narrow_any (w : World) :
    Calls Tryd.prog 34 #[] w fun e w' => e = .returned (.agg (iC narrowE)) ∧ Below w.heap.size w w' := by
  obtain ⟨hz, hi⟩ := zero_of_info infoN
  rw [← n_size] at hi
  go_enter Tryd.func34, Tryd.ntmps34
  refine wp_seq (wp_region_lit (l := [_]) (wpList_allocVar rfl _ rfl (some 0) rfl _ hz ?_))
  show Exit.then _ _ _ _ _
  refine wp_seq ?_
  refine wp_stored 1 ⟨#[.pointer (some ⟨w.heap.size, 0, none⟩), .agg (iC narrowE)], []⟩ (by kernel_rfl) (.tmp 0) (.tmp 1) 60 (by kernel_rfl) _ (iC narrowE) (by kernel_rfl) (by kernel_rfl) hi (by kernel_rfl) (iC_one _) ?_
  refine wp_ret ?_
  exact bodyPost_ret (results_cell_row Tryd.results34 _ _ w.heap.size 60 _ (0, 0) _ (by kernel_rfl) (heap_alloc_last w _) Tryd.underlying60 rfl hi) (by kernel_rfl) ⟨rfl, (Below.refl _ _).alloc (Nat.le_refl _) _⟩

set_option maxHeartbeats 4000000 in
set_option maxRecDepth 1000000 in
theorem wide_any (w : World) :
    Calls Tryd.prog 35 #[] w fun e w' => e = .returned (.agg (iC wideE)) ∧ Below w.heap.size w w' := by
  obtain ⟨hz, hi⟩ := zero_of_info infoW
  rw [← w_size] at hi
  go_enter Tryd.func35, Tryd.ntmps35
  refine wp_seq (wp_region_lit (l := [_]) (wpList_allocVar rfl _ rfl (some 0) rfl _ hz ?_))
  show Exit.then _ _ _ _ _
  refine wp_seq ?_
  refine wp_stored 1 ⟨#[.pointer (some ⟨w.heap.size, 0, none⟩), .agg (iC wideE)], []⟩ (by kernel_rfl) (.tmp 0) (.tmp 1) 62 (by kernel_rfl) _ (iC wideE) (by kernel_rfl) (by kernel_rfl) hi (by kernel_rfl) (iC_one _) ?_
  refine wp_ret ?_
  exact bodyPost_ret (results_cell_row Tryd.results35 _ _ w.heap.size 62 _ (0, 0) _ (by kernel_rfl) (heap_alloc_last w _) Tryd.underlying62 rfl hi) (by kernel_rfl) ⟨rfl, (Below.refl _ _).alloc (Nat.le_refl _) _⟩
end Go.Proofs.YtpfihikldeagnaaDoor.Co
