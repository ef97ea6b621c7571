/-
  Proved here: what gcb.kinds and gcb.pictographs return: the arrays of where kinds begin; they leave what was in memory. No condition.
-/
import Derived.Test.YtlocnjenkanmpaaDoorM2
import Derived.Test.YtlocnjenkanmpaaDoorM0
set_option linter.unusedVariables false
namespace Go.Proofs.YtlocnjenkanmpaaDoor.Gc
open Go.RowKit Go.Lib Go.Proofs.YtlocnjenkanmpaaDoor.Arr Go.Proofs.YtlocnjenkanmpaaDoor.Co
def begV (e : GB) : Value := .agg #[.int .i32 e.1, .int .u8 e.2]
def begC (l : List GB) : List Value := l.flatMap fun e => [.int .i32 e.1, .int .u8 e.2]
theorem infoK : (Tryd.prog.info? 95).map (fun i => (i.zero, i.size)) = some (some (.agg (begC (List.replicate 130 (0, 0))).toArray), 260) := by kernel_rfl
theorem infoP : (Tryd.prog.info? 99).map (fun i => (i.zero, i.size)) = some (some (.agg (begC (List.replicate 154 (0, 0))).toArray), 308) := by kernel_rfl
theorem k_size : (begC bgs).toArray.size = 260 := by kernel_rfl
theorem p_size : (begC pts).toArray.size = 308 := by kernel_rfl
theorem k_one : (begC bgs).toArray.all (·.oneCell') = true := by kernel_rfl
theorem p_one : (begC pts).toArray.all (·.oneCell') = true := by kernel_rfl
def frameOf (g : Nat) (l : List GB) : Act := ⟨((Value.pointer (some ⟨g, 0, none⟩) :: l.map begV) ++ [Value.agg (begC l).toArray]).toArray, []⟩
set_option maxHeartbeats 4000000 in
set_option maxRecDepth 1000000 in
theorem kinds_any (w : World) :
    Calls Tryd.prog 62 #[] w fun e w' => e = .returned (.agg (begC bgs).toArray) ∧ Below w.heap.size w w' := by
  obtain ⟨hz, hi⟩ := zero_of_info infoK
  rw [← k_size] at hi
  go_enter Tryd.func62, Tryd.ntmps62
  refine wp_seq (wp_region_lit (l := [_]) (wpList_allocVar rfl _ rfl (some 0) rfl _ hz ?_))
  show Exit.then _ _ _ _ _
  refine wp_seq ?_
  refine wp_stored 131 (frameOf w.heap.size bgs) (by kernel_rfl) (.tmp 0) (.tmp 131) 95 (by kernel_rfl) _ (begC bgs).toArray (by kernel_rfl) (by kernel_rfl) hi (by kernel_rfl) k_one ?_
  refine wp_ret ?_
  exact bodyPost_ret (results_cell_row Tryd.results62 _ _ w.heap.size 95 _ (0, 0) _ (by kernel_rfl) (heap_alloc_last w _) Tryd.underlying95 rfl hi) (by kernel_rfl) ⟨rfl, (Below.refl _ _).alloc (Nat.le_refl _) _⟩
set_option maxHeartbeats 4000000 in
set_option maxRecDepth 1000000 in
theorem picts_any (w : World) :
    Calls Tryd.prog 65 #[] w fun e w' => e = .returned (.agg (begC pts).toArray) ∧ Below w.heap.size w w' := by
  obtain ⟨hz, hi⟩ := zero_of_info infoP
  rw [← p_size] at hi
  go_enter Tryd.func65, Tryd.ntmps65
  refine wp_seq (wp_region_lit (l := [_]) (wpList_allocVar rfl _ rfl (some 0) rfl _ hz ?_))
  show Exit.then _ _ _ _ _
  refine wp_seq ?_
  refine wp_stored 155 (frameOf w.heap.size pts) (by kernel_rfl) (.tmp 0) (.tmp 155) 99 (by kernel_rfl) _ (begC pts).toArray (by kernel_rfl) (by kernel_rfl) hi (by kernel_rfl) p_one ?_
  refine wp_ret ?_
  exact bodyPost_ret (results_cell_row Tryd.results65 _ _ w.heap.size 99 _ (0, 0) _ (by kernel_rfl) (heap_alloc_last w _) Tryd.underlying99 rfl hi) (by kernel_rfl) ⟨rfl, (Below.refl _ _).alloc (Nat.le_refl _) _⟩
end Go.Proofs.YtlocnjenkanmpaaDoor.Gc
