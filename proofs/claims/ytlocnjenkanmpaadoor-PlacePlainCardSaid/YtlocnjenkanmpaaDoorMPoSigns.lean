/-
  Proved here: what place.signs returns, for every cluster of at most two slots, and every number as its level: the cluster's slots. It leaves what was in memory.
-/
import Derived.Laws.OwnMore
import Derived.Test.YtlocnjenkanmpaaDoorM25
import Derived.Test.YtlocnjenkanmpaaDoorM2
set_option linter.unusedVariables false
namespace Go.Proofs.YtlocnjenkanmpaaDoor.Pl
open Go Go.RowKit Go.Lib Go.Proofs.YtlocnjenkanmpaaDoor.Ku Go.Proofs.YtlocnjenkanmpaaDoor.Wr Go.Proofs.YtlocnjenkanmpaaDoor.Bi Go.Proofs.YtlocnjenkanmpaaDoor.Arr
theorem infoSlot : sixInfo 42 := by unfold sixInfo; kernel_rfl
theorem infoSlot6 : (Tryd.prog.info? 42).map (·.size) = some 6 := by kernel_rfl
set_option maxHeartbeats 8000000 in
set_option maxRecDepth 100000 in
theorem signs_any (x : C6) (lv : Int) (w : World) (hw0 : 0 ≤ x.w) (hw2 : x.w ≤ 2) :
    Calls Tryd.prog 35 #[.agg #[.int .i64 x.a, .int .i64 x.z, .int .i64 x.f, .int .i64 x.t, .int .i64 x.w, .int .i64 x.c], .int .i64 lv] w fun e w' => ∃ v, e = .returned v ∧ w'.ownsRow w.heap.size 42 6 v x.w.toNat (cellsC (blkP (x, lv))) ∧ Below w.heap.size w w' := by
  obtain ⟨i0, hi, hz0, hz1, hz2⟩ := Cl.info_parts infoSlot
  have HI6 := Lib.hid infoSlot6
  have HSH := Lib.hid (fun W => shown_any x.c lv W)
  unfold blkP
  simp only
  obtain ⟨N, hN⟩ : ∃ N : Nat, x.w = N := ⟨x.w.toNat, by omega⟩
  rw [hN, Int.toNat_natCast]
  have HBL := Lib.hid (fun k => blk_len (x, lv) k)
  have HBS := Lib.hid (fun k => (show blkK (x, lv) (k + 1) = blkK (x, lv) k ++ [txtS x.a k (shownP x.c lv)] from rfl))
  generalize shownP x.c lv = sg at *
  generalize blkK (x, lv) = bk at *
  have h0 : bk 0 = [] := List.eq_nil_of_length_eq_zero (HBL.out 0)
  have hB0 := (Below.refl w.heap.size w).alloc (Nat.le_refl _) (.cells #[.int .i64 x.a, .int .i64 x.z, .int .i64 x.f, .int .i64 x.t, .int .i64 N, .int .i64 x.c] 40)
  have hE0 := heap_alloc_new w (.cells #[.int .i64 x.a, .int .i64 x.z, .int .i64 x.f, .int .i64 x.t, .int .i64 N, .int .i64 x.c] 40)
  have hS0 : (w.alloc (.cells #[.int .i64 x.a, .int .i64 x.z, .int .i64 x.f, .int .i64 x.t, .int .i64 N, .int .i64 x.c] 40)).heap.size = w.heap.size + 1 := by rw [World.size_alloc]
  have hN2 : N ≤ 2 := by omega
  clear hw0 hw2
  go_enter Tryd.func35, Tryd.ntmps35
  go_wp2_with (refine wpList_make_full _ rfl _ _ 27 rfl (w.heap.size + 1) 42 i0 (.agg #[.int .i64 0, .int .i64 0, .int .i64 0, .int .i64 0, .int .i64 0, .int .i64 0]) 6 Tryd.underlying27 hi hz0 hz1 .i64 .i64 _ _ N rfl rfl rfl rfl ?c1 ?c2 ?c3 ?_)
  case c1 => rw [hz2]; omega
  case c2 => unfold maxLen; omega
  case c3 => rw [World.size_alloc]; exact Nat.le_refl _
  intro w1 hown hgr
  have hown : w1.ownsRow (w.heap.size + 1) 42 6 (.slice (some ⟨w.heap.size + 1, 0, none⟩) N N) N (cellsC (List.replicate N d6)) := by
    rw [← made_six]
    exact hown
  have hb1 : Below (w.heap.size + 1) (w.alloc (.cells #[.int .i64 x.a, .int .i64 x.z, .int .i64 x.f, .int .i64 x.t, .int .i64 N, .int .i64 x.c] 40)) w1 := by
    have := (Below.refl (w.heap.size + 1) (w.alloc (.cells #[.int .i64 x.a, .int .i64 x.z, .int .i64 x.f, .int .i64 x.t, .int .i64 N, .int .i64 x.c] 40))).grown hgr (by rw [hS0]; exact Nat.le_refl _) (fun k e => by cases e)
    exact this
  have hE1 : w1.heap[w.heap.size]? = some (.cells #[.int .i64 x.a, .int .i64 x.z, .int .i64 x.f, .int .i64 x.t, .int .i64 N, .int .i64 x.c] 40 (0, 0)) := (hb1.block w.heap.size (by omega)).trans hE0
  have HBW := Lib.hid (hB0.trans (hb1.mono (by omega)))
  have HE1 := Lib.hid hE1
  have HOWN := Lib.hid hown
  clear hown hgr hB0 hE0 hS0 hb1 hE1 hN hi hz0 hz1 hz2
  go_wp2_with fail
  go_loopw [6, 12] (fun s6 s12 wx => ∃ k : Nat, k ≤ N ∧ s12 = .int .i64 k ∧ wx.ownsRow (w.heap.size + 1) 42 6 (.slice (some ⟨w.heap.size + 1, 0, none⟩) N N) N (cellsC (bk k ++ List.replicate (N - k) d6)) ∧ Below (w.heap.size + 1) w1 wx) (fun _ s12 _ => N - (RowKit.intOf s12).toNat)
  case atStart => exact ⟨0, Nat.zero_le _, rfl, by rw [h0]; exact HOWN.out, Below.refl _ _⟩
  case round =>
    obtain ⟨k, hk, rfl, hown, hb⟩ := hrel
    have HO := Lib.hid hown
    have HB := Lib.hid hb
    by_cases hlt : k < N
    · have hlen : (bk k ++ List.replicate (N - k) d6).length = N := by rw [List.length_append, HBL.out, List.length_replicate]; omega
      have HST := Lib.hid (fill_set (X := bk k) (HBL.out k) hlt (txtS x.a k sg))
      rw [← HBS.out] at HST
      have HLEN := Lib.hid hlen
      have HC := Lib.hid (fun (V : World) (h : Below (w.heap.size + 1) w1 V) (ho : V.ownsRow (w.heap.size + 1) 42 6 (.slice (some ⟨w.heap.size + 1, 0, none⟩) N N) N (cellsC (bk k ++ List.replicate (N - k) d6))) => And.intro (cell_of_row V w.heap.size 0 _ _ _ ((h.block w.heap.size (by omega)).trans HE1.out)) (And.intro (cell_of_row V w.heap.size 5 _ _ _ ((h.block w.heap.size (by omega)).trans HE1.out)) (own_six ho HLEN.out (k := k) (by rw [HLEN.out]; exact hlt))))
      generalize bk k ++ List.replicate (N - k) d6 = Z at *
      have HHELD := Lib.hid (fun (V V' : World) (hV : Below wr.heap.size wr V) (h : Below V.heap.size V V') => (show Below (w.heap.size + 1) w1 V' ∧ V'.ownsRow (w.heap.size + 1) 42 6 (.slice (some ⟨w.heap.size + 1, 0, none⟩) N N) N (cellsC Z) from by
        have hb2 : Below wr.heap.size wr V' := hV.trans (h.mono hV.size)
        exact ⟨HB.out.trans (hb2.mono ((HO.out.lt _ rfl).2 |> Nat.le_of_lt)), Cl.ownsRow_below HO.out hb2⟩))
      obtain ⟨z0, z5, -⟩ := HC.out wr HB.out HO.out
      have i0 : (0 : Int) ≤ (k : Int) := by omega
      have i1 : (k : Int) < (N : Int) := by omega
      clear hown hb hlen
      go_wp2_with fail
      go_region_with (go_at_call 49; refine (HSH.out _).mono ?_; rintro e w5 ⟨rfl, hb5⟩; obtain ⟨hq1, hq2⟩ := HHELD.out _ _ (by first | exact Below.refl _ _ | exact below_drew (Below.refl _ _) | exact below_drewN (Below.refl _ _) _) hb5; obtain ⟨p0, p5, ⟨c0, c1, c2, c3, c4, c5⟩, f0, f1, f2, f3, f4, f5⟩ := HC.out _ hq1 hq2)
      all_goals
        have HS6 := Lib.hid (six_stored hq2 (k := k) (by rw [HLEN.out]; exact hlt) (txtS x.a k sg))
        have HB6 := Lib.hid (fun x0 x1 x2 x3 x4 x5 => below_six hq1 (g := w.heap.size + 1) (Nat.le_refl _) (k * 6) (k * 6 + 1) (k * 6 + 2) (k * 6 + 3) (k * 6 + 4) (k * 6 + 5) x0 x1 x2 x3 x4 x5)
        clear hq1 hq2 hb5 p0 p5 c0 c1 c2 c3 c4 c5 f0 f1 f2 f3 f4 f5 z0 z5
        go_wp2_with fail
        exact ⟨⟨k + 1, by omega, by go_num, by rw [← HST.out]; exact HS6.out, HB6.out _ _ _ _ _ _⟩, by simp [RowKit.intOf]; omega⟩
    · obtain rfl : k = N := by omega
      have j1 : decide ((k : Int) < (k : Int)) = false := decide_eq_false (by omega)
      rw [Nat.sub_self, List.replicate_zero, List.append_nil] at hown
      have HO2 := Lib.hid hown
      clear hown hb HO
      go_wp2_with fail
      go_ret
      exact ⟨_, rfl, HO2.out.mono (by omega), HBW.out.trans (HB.out.mono (by omega))⟩
end Go.Proofs.YtlocnjenkanmpaaDoor.Pl
