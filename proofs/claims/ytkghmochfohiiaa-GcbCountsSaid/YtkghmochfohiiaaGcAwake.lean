/-
  Proved here: parquetrylaw05.awake (the chapter's examples) returns true; it leaves what was in memory. No condition.
-/
import Derived.Test.YtkghmochfohiiaaGcRuns
import Derived.Test.YtkghmochfohiiaaTabInts
set_option linter.unusedVariables false
namespace Go.Proofs.Ytkghmochfohiiaa.Gc
open Go.RowKit Go.Lib Go.Proofs.Ytkghmochfohiiaa.Tab Go.Proofs.Ytkghmochfohiiaa.Arr Go.Proofs.Ytkghmochfohiiaa.Gu
open Go.Proofs.Ytkghmochfohiiaa.Cl (IntsAt)

theorem of_as (c v : Int) (h : kindT c = v) (w : World) :
    Calls Try.prog 7 #[.int .i64 c] w fun e w' => e = .returned (.int .i64 v) ∧ Below w.heap.size w w' := h ▸ gOf_any c w
theorem pict_as (c : Int) (v : Bool) (h : pictT c = v) (w : World) :
    Calls Try.prog 9 #[.int .i64 c] w fun e w' => e = .returned (.bool v) ∧ Below w.heap.size w w' := h ▸ gPict_any c w
theorem a1 : kindT 0xd = 1 := by kernel_rfl
theorem a2 : kindT 0x41 = 0 := by kernel_rfl
theorem a3 : kindT 0x301 = 4 := by kernel_rfl
theorem a4 : kindT 0x200d = 5 := by kernel_rfl
theorem a5 : kindT 0x1f1e6 = 6 := by kernel_rfl
theorem a6 : kindT (-1) = 0 := by kernel_rfl
theorem a7 : kindT 0x1100 = 9 := by kernel_rfl
theorem a8 : kindT 0xac00 = 12 := by kernel_rfl
theorem a9 : kindT 0xac01 = 13 := by kernel_rfl
theorem aa : kindT 0xd7a3 = 13 := by kernel_rfl
theorem ab : kindT 0x11a8 = 11 := by kernel_rfl
theorem p1 : pictT 0xa9 = true := by kernel_rfl
theorem p2 : pictT 0x1f600 = true := by kernel_rfl
theorem p3 : pictT 0x1f3fb = false := by kernel_rfl
theorem p4 : pictT 0x41 = false := by kernel_rfl
theorem r1 : runsT (kindsOf [65, 66, 769, 770, 65]) = [2, 2, 1] := by kernel_rfl
def five : Array Value := #[.int .i64 65, .int .i64 66, .int .i64 769, .int .i64 770, .int .i64 65]
theorem runs5 (w : World) : Calls Try.prog 12 #[.slice (some ⟨w.heap.size, 0, none⟩) 5 5] (w.alloc (.cells #[.int .i64 65, .int .i64 66, .int .i64 769, .int .i64 770, .int .i64 65] 3)) fun e w' =>
    ∃ g cap, e = .returned (.slice (some ⟨g, 0, none⟩) 3 cap) ∧ g < w'.heap.size ∧ (w'.cell? ⟨g, 0, none⟩ = some (.int .i64 2) ∧ w'.cell? ⟨g, 1, none⟩ = some (.int .i64 2) ∧ w'.cell? ⟨g, 2, none⟩ = some (.int .i64 1)) ∧ Below w.heap.size w w' := by
  have hL : LitAt (w.alloc (.cells #[.int .i64 65, .int .i64 66, .int .i64 769, .int .i64 770, .int .i64 65] 3)) w.heap.size [65, 66, 769, 770, 65] := litAt_made [65, 66, 769, 770, 65] 3 w
  have hI : IntsAt (w.alloc (.cells #[.int .i64 65, .int .i64 66, .int .i64 769, .int .i64 770, .int .i64 65] 3)) (some ⟨w.heap.size, 0, none⟩) [65, 66, 769, 770, 65] :=
    .inr ⟨w.heap.size, 0, rfl, hL.1, fun j z hz => by
      have hj := (List.getElem?_eq_some_iff.1 hz)
      obtain ⟨hj, rfl⟩ := hj
      rw [Nat.zero_add]
      exact hL.2 j hj⟩
  refine (runs_any (some ⟨w.heap.size, 0, none⟩) [65, 66, 769, 770, 65] 5 _ hI (by decide)).mono ?_
  rintro e w' ⟨v, rfl, hown, hb⟩
  rw [r1] at hown
  obtain ⟨g, cap, rfl, hg1, hg2⟩ := own_shape hown (by decide)
  have h1 : Below w.heap.size w (w.alloc (.cells #[.int .i64 65, .int .i64 66, .int .i64 769, .int .i64 770, .int .i64 65] 3)) := (Below.refl _ _).alloc (Nat.le_refl _) _
  exact ⟨g, cap, rfl, hg2, ⟨hown.cellAt 0 (by decide), hown.cellAt 1 (by decide), hown.cellAt 2 (by decide)⟩, h1.trans (hb.mono h1.size)⟩

set_option maxHeartbeats 2000000 in
set_option maxRecDepth 100000 in
theorem awake_any (w : World) :
    Calls Try.prog 11 #[] w fun e w' => e = .returned (.bool true) ∧ Below w.heap.size w w' := by
  go_enter Try.func11, Try.ntmps11
  go_wp2_with fail
  refine (runs5 _).mono ?_
  rintro e w1 ⟨g, cap, rfl, hg, hc, hb1⟩
  have HCS := Lib.hid (fun V (h : Below w1.heap.size w1 V) => (⟨(h.cell (p := ⟨g, 0, none⟩) hg).trans hc.1, (h.cell (p := ⟨g, 1, none⟩) hg).trans hc.2.1, (h.cell (p := ⟨g, 2, none⟩) hg).trans hc.2.2⟩ : V.cell? ⟨g, 0, none⟩ = some (.int .i64 2) ∧ V.cell? ⟨g, 1, none⟩ = some (.int .i64 2) ∧ V.cell? ⟨g, 2, none⟩ = some (.int .i64 1)))
  clear hc
  go_wp2_with fail
  refine (of_as _ _ a1 _).mono ?_
  rintro e x0 ⟨rfl, hx0⟩
  have c0 := hx0
  go_wp2_with fail
  refine (of_as _ _ a2 _).mono ?_
  rintro e x1 ⟨rfl, hx1⟩
  have c1 := c0.trans (hx1.mono c0.size)
  clear c0 hx1
  go_wp2_with fail
  refine (of_as _ _ a3 _).mono ?_
  rintro e x2 ⟨rfl, hx2⟩
  have c2 := c1.trans (hx2.mono c1.size)
  clear c1 hx2
  go_wp2_with fail
  refine (of_as _ _ a4 _).mono ?_
  rintro e x3 ⟨rfl, hx3⟩
  have c3 := c2.trans (hx3.mono c2.size)
  clear c2 hx3
  go_wp2_with fail
  refine (of_as _ _ a5 _).mono ?_
  rintro e x4 ⟨rfl, hx4⟩
  have c4 := c3.trans (hx4.mono c3.size)
  clear c3 hx4
  go_wp2_with fail
  refine (of_as _ _ a6 _).mono ?_
  rintro e x5 ⟨rfl, hx5⟩
  have c5 := c4.trans (hx5.mono c4.size)
  clear c4 hx5
  go_wp2_with fail
  refine (of_as _ _ a7 _).mono ?_
  rintro e x6 ⟨rfl, hx6⟩
  have c6 := c5.trans (hx6.mono c5.size)
  clear c5 hx6
  go_wp2_with fail
  refine (of_as _ _ a8 _).mono ?_
  rintro e x7 ⟨rfl, hx7⟩
  have c7 := c6.trans (hx7.mono c6.size)
  clear c6 hx7
  go_wp2_with fail
  refine (of_as _ _ a9 _).mono ?_
  rintro e x8 ⟨rfl, hx8⟩
  have c8 := c7.trans (hx8.mono c7.size)
  clear c7 hx8
  go_wp2_with fail
  refine (of_as _ _ aa _).mono ?_
  rintro e x9 ⟨rfl, hx9⟩
  have c9 := c8.trans (hx9.mono c8.size)
  clear c8 hx9
  go_wp2_with fail
  refine (of_as _ _ ab _).mono ?_
  rintro e x10 ⟨rfl, hx10⟩
  have c10 := c9.trans (hx10.mono c9.size)
  clear c9 hx10
  go_wp2_with fail
  refine (pict_as _ _ p1 _).mono ?_
  rintro e x11 ⟨rfl, hx11⟩
  have c11 := c10.trans (hx11.mono c10.size)
  clear c10 hx11
  go_wp2_with fail
  refine (pict_as _ _ p2 _).mono ?_
  rintro e x12 ⟨rfl, hx12⟩
  have c12 := c11.trans (hx12.mono c11.size)
  clear c11 hx12
  go_wp2_with fail
  refine (pict_as _ _ p3 _).mono ?_
  rintro e x13 ⟨rfl, hx13⟩
  have c13 := c12.trans (hx13.mono c12.size)
  clear c12 hx13
  go_wp2_with fail
  refine (pict_as _ _ p4 _).mono ?_
  rintro e x14 ⟨rfl, hx14⟩
  have cf := c13.trans (hx14.mono c13.size)
  clear c13 hx14
  obtain ⟨q0, q1, q2⟩ := HCS.out _ cf
  go_wp2
  go_ret
  exact ⟨rfl, hb1.trans (cf.mono hb1.size)⟩
end Go.Proofs.Ytkghmochfohiiaa.Gc
