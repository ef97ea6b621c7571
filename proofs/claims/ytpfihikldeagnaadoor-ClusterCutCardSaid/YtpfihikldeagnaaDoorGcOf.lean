/-
  Proved here: what gcb.Of and gcb.Pict return, for every number; they leave what was in memory. No condition.
-/
import Derived.Test.YtpfihikldeagnaaDoorGcSearch
set_option linter.unusedVariables false
namespace Go.Proofs.YtpfihikldeagnaaDoor.Gc
open Go.RowKit Go.Lib Go.Proofs.YtpfihikldeagnaaDoor.Arr

theorem field_kind (y0 y1 : Int) (w : World) : (Instr.field 79 (.agg #[.int .i32 y0, .int .u8 y1]) 1).run Tryd.prog w = .ok (.int .u8 y1) w := by kernel_rfl

set_option maxHeartbeats 1000000 in
set_option maxRecDepth 100000 in
theorem gOf_any (c : Int) (w : World) :
    Calls Tryd.prog 37 #[.int .i64 c] w fun e w' => e = .returned (.int .i64 (kindT c)) ∧ Below w.heap.size w w' := by
  have HK := Lib.hid (fun W => kinds_any W)
  have HS := Lib.hid (fun b W (h : BegAt W b bgs) => last_any bgs c b 130 W bgs_len.symm h (by rw [bgs_len]; decide) bgs_rises bgs_small)
  have hok := okB_is (lastB_ok (l := bgs) (d := (0, 0)) (c := c) bgs_small (by decide))
  have HO := Lib.hid (fun W => of_any (lastB bgs (0, 0) c).2 c hok.2.2.1 hok.2.2.2 (fun h => kind_syl h) W)
  obtain ⟨hz, hi⟩ := zero_of_info infoK
  have HZ := Lib.hid hz
  rw [← k_size] at hi
  have HI := Lib.hid hi
  have HN := Lib.hid k_size
  have HC := Lib.hid k_one
  have HL := Lib.hid (fun W => begAt_made bgs 80 W)
  clear hz hi hok
  unfold kindT
  generalize ofK (lastB bgs (0, 0) c).2 c = v at *
  generalize lastB bgs (0, 0) c = y at *
  obtain ⟨y0, y1⟩ := y
  simp only at HS HO
  have hf := field_kind y0 y1
  generalize (begC bgs).toArray = cs at *
  go_enter Tryd.func37, Tryd.ntmps37
  go_wp2_with fail
  rename_i Q0 K1 hK1 K2 hK2
  refine (HK.out _).mono ?_
  rintro e w1 ⟨rfl, hb1⟩
  refine hK2 _ _ ?_
  refine wpList_allocVar rfl _ rfl (some 3) rfl _ HZ.out ?_
  refine wpList_store_rowTo rfl _ _ _ rfl rfl w1.heap.size cs rfl rfl 80 _ (heap_alloc_last _ _) HI.out (by rw [HN.out]; rfl) HC.out ?_
  rw [World.setRow_alloc_new]
  refine wpList_nil (hK1 _ _ ?_)
  have hL := HL.out w1
  have hb2 := hb1.alloc hb1.size (.cells cs 80)
  have HB := Lib.hid hb2
  clear hb1 hb2 HI HZ HC HN HK HL
  have HX := Lib.hid hL
  clear hL
  generalize w1.alloc (.cells cs 80) = w2 at *
  generalize w1.heap.size = b at *
  go_wp2_with fail
  refine (HS.out _ _ HX.out).mono ?_
  rintro e w3 ⟨rfl, hb3⟩
  go_wp2_with fail
  refine (HO.out _).mono ?_
  rintro e w4 ⟨rfl, hb4⟩
  go_wp2
  go_ret
  have h3 := HB.out.trans (hb3.mono HB.out.size)
  exact ⟨rfl, h3.trans (hb4.mono h3.size)⟩

set_option maxHeartbeats 1000000 in
set_option maxRecDepth 100000 in
theorem gPict_any (c : Int) (w : World) :
    Calls Tryd.prog 38 #[.int .i64 c] w fun e w' => e = .returned (.bool (pictT c)) ∧ Below w.heap.size w w' := by
  have HK := Lib.hid (fun W => picts_any W)
  have HS := Lib.hid (fun b W (h : BegAt W b pts) => last_any pts c b 154 W pts_len.symm h (by rw [pts_len]; decide) pts_rises pts_small)
  obtain ⟨hz, hi⟩ := zero_of_info infoP
  have HZ := Lib.hid hz
  rw [← p_size] at hi
  have HI := Lib.hid hi
  have HN := Lib.hid p_size
  have HC := Lib.hid p_one
  have HL := Lib.hid (fun W => begAt_made pts 84 W)
  clear hz hi
  rw [pict_last c]
  generalize lastB pts (0, 0) c = y at *
  obtain ⟨y0, y1⟩ := y
  simp only at HS
  have hf := field_kind y0 y1
  generalize (begC pts).toArray = cs at *
  go_enter Tryd.func38, Tryd.ntmps38
  go_wp2_with fail
  rename_i Q0 K1 hK1 K2 hK2
  refine (HK.out _).mono ?_
  rintro e w1 ⟨rfl, hb1⟩
  refine hK2 _ _ ?_
  refine wpList_allocVar rfl _ rfl (some 3) rfl _ HZ.out ?_
  refine wpList_store_rowTo rfl _ _ _ rfl rfl w1.heap.size cs rfl rfl 84 _ (heap_alloc_last _ _) HI.out (by rw [HN.out]; rfl) HC.out ?_
  rw [World.setRow_alloc_new]
  refine wpList_nil (hK1 _ _ ?_)
  have hL := HL.out w1
  have hb2 := hb1.alloc hb1.size (.cells cs 84)
  have HB := Lib.hid hb2
  clear hb1 hb2 HI HZ HC HN HK HL
  have HX := Lib.hid hL
  clear hL
  generalize w1.alloc (.cells cs 84) = w2 at *
  generalize w1.heap.size = b at *
  go_wp2_with fail
  refine (HS.out _ _ HX.out).mono ?_
  rintro e w3 ⟨rfl, hb3⟩
  go_wp2
  go_ret
  exact ⟨rfl, HB.out.trans (hb3.mono HB.out.size)⟩
end Go.Proofs.YtpfihikldeagnaaDoor.Gc
