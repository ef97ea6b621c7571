/-
  Proved here: what cols.Of returns, for every number; it leaves what was in memory. No condition.
-/
import Derived.Test.YtefonpkihfmpjaaCoSearch
import Derived.Deep.RegionWith
set_option linter.unusedVariables false
namespace Go.Proofs.Ytefonpkihfmpjaa.Co
open Go.RowKit Go.Lib Go.Proofs.Ytefonpkihfmpjaa.Tab Go.Proofs.Ytefonpkihfmpjaa.Arr

/-- Two arrays, laid one behind the other, as their readers find them. -/
def Laid2 (w w' : World) (b : Nat) : Prop := LitAt w' b narrowE ∧ LitAt w' (b + 1) wideE ∧ Below w.heap.size w w' ∧ w.heap.size ≤ b

theorem laid2 {w w1 : World} (hb : Below w.heap.size w w1) : Laid2 w ((w1.alloc (.cells (iC narrowE) 31)).alloc (.cells (iC wideE) 33)) w1.heap.size := by
  have h1 : LitAt (w1.alloc (.cells (iC narrowE) 31)) w1.heap.size narrowE := litAt_made narrowE _ w1
  have h2 := litAt_made wideE 33 (w1.alloc (.cells (iC narrowE) 31))
  have hs : (w1.alloc (.cells (iC narrowE) 31)).heap.size = w1.heap.size + 1 := by simp
  rw [hs] at h2
  exact ⟨h1.below ((Below.refl _ _).alloc (Nat.le_refl _) _), h2, (hb.alloc hb.size _).alloc (by have := hb.size; simp; omega) _, hb.size⟩

set_option maxHeartbeats 1000000 in
set_option maxRecDepth 100000 in
theorem cOf_any (c : Int) (w : World) :
    Calls Try.prog 7 #[.int .i64 c] w fun e w' => e = .returned (.int .i64 (slotsT c)) ∧ Below w.heap.size w w' := by
  have HC := Lib.hid (fun W => narrow_any W)
  have HD := Lib.hid (fun W => wide_any W)
  have HS := Lib.hid (fun b1 b2 W (h1 : LitAt W b1 narrowE) (h2 : LitAt W b2 wideE) => slotsBy_any c b1 b2 W h1 h2)
  have HL := Lib.hid (fun w1 (h : Below w.heap.size w w1) => laid2 h)
  obtain ⟨hz1, hi1⟩ := zero_of_info infoN
  obtain ⟨hz2, hi2⟩ := zero_of_info infoW
  have HZ1 := Lib.hid hz1
  have HZ2 := Lib.hid hz2
  rw [← n_size] at hi1
  rw [← w_size] at hi2
  have HI1 := Lib.hid hi1
  have HI2 := Lib.hid hi2
  have HN1 := Lib.hid n_size
  have HN2 := Lib.hid w_size
  have HO1 := Lib.hid (iC_one narrowE)
  have HO2 := Lib.hid (iC_one wideE)
  clear hz1 hz2 hi1 hi2
  generalize iC narrowE = cs at *
  generalize iC wideE = ds at *
  generalize slotsT c = v at *
  go_enter Try.func7, Try.ntmps7
  go_wp2_with fail
  refine (HC.out _).mono ?_
  rintro e w1 ⟨rfl, hb1⟩
  go_wp2_with fail
  rename_i Q0 K1 hK1 K2 hK2
  refine (HD.out _).mono ?_
  rintro e w2 ⟨rfl, hb2⟩
  have hb12 := hb1.trans (hb2.mono hb1.size)
  have HB := Lib.hid (HL.out _ hb12)
  refine hK2 _ _ ?_
  refine wpList_two 31 33 3 4 (.tmp 5) (.tmp 6) cs ds _ _ rfl HZ1.out HZ2.out _ rfl rfl rfl rfl rfl HI1.out HI2.out (by rw [HN1.out]; rfl) (by rw [HN2.out]; rfl) HO1.out HO2.out ?_
  refine wpList_nil (hK1 _ _ ?_)
  clear hb1 hb2 hb12 HI1 HI2 HO1 HO2 HZ1 HZ2 HN1 HN2 HC HD HL
  generalize (w2.alloc (.cells cs 31)).alloc (.cells ds 33) = w3 at *
  generalize w2.heap.size = b at *
  obtain ⟨H1, H2, H3, -⟩ := HB.out
  have G := Lib.hid (fun W (e : W.heap = w3.heap) => HS.out b (b + 1) W (litAt_heap H1 e) (litAt_heap H2 e))
  have G3 := Lib.hid H3
  clear H1 H2 H3 HB HS
  go_wp2
  go_region_with (go_at_call 15; refine (G.out _ (by rfl)).mono ?_; rintro e w4 ⟨rfl, hb4⟩)
  all_goals go_wp2
  all_goals go_ret
  all_goals exact ⟨rfl, (below_heap G3.out (by rfl) (by rfl) (by rfl) (by rfl)).trans (hb4.mono G3.out.size)⟩
end Go.Proofs.Ytefonpkihfmpjaa.Co
