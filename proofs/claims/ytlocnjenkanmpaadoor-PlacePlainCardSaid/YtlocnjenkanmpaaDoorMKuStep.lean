/-
  Proved here: what (cluster.seen).step returns; it leaves what was in memory. Condition: a count of flags that is far from the ints' end.
-/
import Derived.Deep.RegionWith
import Derived.Deep.RegionHeld3
import Derived.Test.YtlocnjenkanmpaaDoorM14
import Derived.Test.YtlocnjenkanmpaaDoorM11
import Derived.Test.YtlocnjenkanmpaaDoorM16
set_option linter.unusedVariables false
namespace Go.Proofs.YtlocnjenkanmpaaDoor.Ku
open Go.RowKit Go.Lib Go.Proofs.YtlocnjenkanmpaaDoor.Arr Go.Proofs.YtlocnjenkanmpaaDoor.Gc
theorem step_below {wr V W : World} (h : Below wr.heap.size wr V) (hb : Below V.heap.size V W) : Below wr.heap.size wr W := h.trans (hb.mono h.size)
theorem then_mono {K K1 : Act → World → Prop} {Q : Exit → Act → World → Prop} (h : ∀ a w, K1 a w → K a w) : ∀ e a w, Exit.then K1 Q e a w → Exit.then K Q e a w := by
  intro e a w
  cases e <;> first | exact h a w | exact id
/-- Three new variables. -/
theorem three_new (w : World) (o1 o2 o3 : Obj) : (((w.alloc o1).alloc o2).alloc o3).heap[w.heap.size]? = some o1 ∧ (((w.alloc o1).alloc o2).alloc o3).heap[w.heap.size + 1]? = some o2 ∧ (((w.alloc o1).alloc o2).alloc o3).heap[w.heap.size + 1 + 1]? = some o3 ∧ Below w.heap.size w (((w.alloc o1).alloc o2).alloc o3) ∧ (((w.alloc o1).alloc o2).alloc o3).heap.size = w.heap.size + 1 + 1 + 1 := by
  have s1 : (w.alloc o1).heap.size = w.heap.size + 1 := by simp
  have s2 : ((w.alloc o1).alloc o2).heap.size = w.heap.size + 1 + 1 := by simp
  have b1 : Below (w.alloc o1).heap.size (w.alloc o1) (((w.alloc o1).alloc o2).alloc o3) := ((Below.refl _ _).alloc (Nat.le_refl _) _).alloc (by simp) _
  have b2 : Below ((w.alloc o1).alloc o2).heap.size ((w.alloc o1).alloc o2) (((w.alloc o1).alloc o2).alloc o3) := (Below.refl _ _).alloc (Nat.le_refl _) _
  refine ⟨(b1.block _ (by simp)).trans (heap_alloc_last _ _), ?_, ?_, (((Below.refl _ _).alloc (Nat.le_refl _) _).alloc (by simp) _).alloc (by simp; omega) _, by simp⟩
  · have := heap_alloc_last (w.alloc o1) o2
    rw [s1] at this
    exact (b2.block _ (by rw [s2]; omega)).trans this
  · have := heap_alloc_last ((w.alloc o1).alloc o2) o3
    rw [s2] at this
    exact this
set_option maxHeartbeats 4000000 in
set_option maxRecDepth 100000 in
theorem step_any (a1 z1 c1 k1 : Int) (f1 : Nat) (p1 : Bool) (a z c : Int) (w : World) (hf : f1 ≤ 1099511627776) (hk : k1 = kindT c1) :
    Calls Tryd.prog 29 #[.agg #[.int .i64 a1, .int .i64 z1, .int .i64 c1, .int .i64 k1, .int .i64 f1, .bool p1], .agg #[.int .i64 a, .int .i64 z, .int .i64 c]] w fun e w' =>
      e = .returned (.agg #[.int .i64 a, .int .i64 z, .int .i64 c, .int .i64 (kindT c), .int .i64 (if kindT c = 6 then f1 + 1 else 0 : Nat), .bool (stepP ⟨c1, false, p1⟩ c)]) ∧ Below w.heap.size w w' := by
  have HG := Lib.hid (fun W => gOf_any c W)
  have HP := Lib.hid (fun W => gPict_any c1 W)
  have hi := infoS
  unfold stepP
  simp only
  rw [← hk]
  clear hk
  generalize kindT c = k at *
  generalize pictT c1 = q at *
  obtain ⟨F, hF⟩ : ∃ F : Nat, (if k = 6 then f1 + 1 else 0) = F := ⟨_, rfl⟩
  obtain ⟨B, hB⟩ : ∃ B : Bool, (if k = 4 ∨ k = 5 then q || k1 == 4 && p1 else false) = B := ⟨_, rfl⟩
  rw [hF, hB]
  have HF := Lib.hid hF
  have HBB := Lib.hid hB
  clear hF hB
  go_enter Tryd.func29, Tryd.ntmps29
  go_wp2_with fail
  obtain ⟨e0, e1, e2, hb, hsz⟩ := three_new w (.cells #[.int .i64 a1, .int .i64 z1, .int .i64 c1, .int .i64 k1, .int .i64 f1, .bool p1] 63) (.cells #[.int .i64 a, .int .i64 z, .int .i64 c] 36) (.cells #[.int .i64 0, .int .i64 0, .int .i64 0, .int .i64 0, .int .i64 0, .bool false] 63)
  generalize (((w.alloc (.cells #[.int .i64 a1, .int .i64 z1, .int .i64 c1, .int .i64 k1, .int .i64 f1, .bool p1] 63)).alloc (.cells #[.int .i64 a, .int .i64 z, .int .i64 c] 36)).alloc (.cells #[.int .i64 0, .int .i64 0, .int .i64 0, .int .i64 0, .int .i64 0, .bool false] 63)) = W at *
  have hlt1 : w.heap.size + 1 < W.heap.size := by omega
  have q0 := cell_of_row W _ 0 _ _ _ e1
  have q1 := cell_of_row W _ 1 _ _ _ e1
  have q2 := cell_of_row W _ 2 _ _ _ e1
  simp at q0 q1 q2
  have HC := Lib.hid (fun V (h : Below W.heap.size W V) => (⟨(h.cell (p := ⟨w.heap.size + 1, 0, none⟩) hlt1).trans q0, (h.cell (p := ⟨w.heap.size + 1, 1, none⟩) hlt1).trans q1, (h.cell (p := ⟨w.heap.size + 1, 2, none⟩) hlt1).trans q2, h⟩ : V.cell? ⟨w.heap.size + 1, 0, none⟩ = some (.int .i64 a) ∧ V.cell? ⟨w.heap.size + 1, 1, none⟩ = some (.int .i64 z) ∧ V.cell? ⟨w.heap.size + 1, 2, none⟩ = some (.int .i64 c) ∧ Below W.heap.size W V))
  have H0 := Lib.hid e0
  have H2 := Lib.hid e2
  have HB := Lib.hid hb
  have HS := Lib.hid hsz
  clear e0 e1 e2 hb hsz q0 q1 q2
  obtain ⟨q0, q1, q2, -⟩ := HC.out W (Below.refl _ _)
  rename_i Q0 K0 hK0
  obtain ⟨K1, hQ1⟩ : ∃ K1 : Act → World → Prop, ∀ y Z, K1 y Z ↔ (∃ B5, y = ⟨#[.agg #[.int .i64 a1, .int .i64 z1, .int .i64 c1, .int .i64 k1, .int .i64 f1, .bool p1], .agg #[.int .i64 a, .int .i64 z, .int .i64 c], .pointer (some ⟨w.heap.size, 0, none⟩), .pointer (some ⟨w.heap.size + 1, 0, none⟩), .pointer (some ⟨w.heap.size + 1 + 1, 0, none⟩), .pointer (some ⟨B5, 0, none⟩), .agg #[.int .i64 a, .int .i64 z, .int .i64 c], .pointer (some ⟨w.heap.size + 1, 2, none⟩), .int .i64 c, .int .i64 k, .agg #[.int .i64 a, .int .i64 z, .int .i64 c, .int .i64 k, .int .i64 0, .bool false], undef, undef, undef, undef, undef, undef, undef, undef, undef, undef, undef, undef, undef, undef, undef, undef, undef, undef, undef, undef, undef, undef, undef, undef, undef, undef], []⟩ ∧ Z.heap[B5]? = some (.cells #[.int .i64 a, .int .i64 z, .int .i64 c, .int .i64 k, .int .i64 0, .bool false] 63) ∧ W.heap.size ≤ B5 ∧ Below W.heap.size W Z) := ⟨_, fun _ _ => Iff.rfl⟩
  have HQ := Lib.hid hQ1
  clear hQ1
  refine wp_mono (Q := Exit.then K1 Q0) ?_ (then_mono ?_)
  · clear H0 H2 HB HS HP
    go_region_with (
      go_at_call 45
      refine (HG.out _).mono ?_
      rintro e w7 ⟨rfl, hb7⟩
      obtain ⟨q0', q1', q2', hb8⟩ := HC.out w7 (step_below (by first | exact below_drew (Below.refl _ _) | exact (below_drew (Below.refl _ _)).alloc (by exact Nat.le_refl _) _) hb7)
      have hlt7 : w.heap.size + 1 < w7.heap.size := Nat.lt_of_lt_of_le hlt1 hb8.size
      try (have hrow : w7.heap[W.heap.size]? = some (.cells #[.int .i64 0, .int .i64 0, .int .i64 0, .int .i64 0, .int .i64 0, .bool false] 63) := (hb7.block W.heap.size (by simp)).trans (by exact heap_alloc_last W.drew _)
           have r0 := cell_of_row w7 _ 0 _ _ _ hrow
           have r1 := cell_of_row w7 _ 1 _ _ _ hrow
           have r2 := cell_of_row w7 _ 2 _ _ _ hrow
           have r3 := cell_of_row w7 _ 3 _ _ _ hrow
           have r4 := cell_of_row w7 _ 4 _ _ _ hrow
           have r5 := cell_of_row w7 _ 5 _ _ _ hrow
           have g0 := frozen_of_row w7 _ 0 _ _ hrow
           have g1 := frozen_of_row w7 _ 1 _ _ hrow
           have g2 := frozen_of_row w7 _ 2 _ _ hrow
           have g3 := frozen_of_row w7 _ 3 _ _ hrow
           have g4 := frozen_of_row w7 _ 4 _ _ hrow
           have g5 := frozen_of_row w7 _ 5 _ _ hrow
           simp at r0 r1 r2 r3 r4 r5
           have HROW := Lib.hid hrow
           clear hrow))
    all_goals show K1 _ _
    all_goals refine (HQ.out _ _).2 ?_
    all_goals first
      | (have hs := HROW.out; exact ⟨_, rfl, six_set _ _ _ _ _ _ hs, Nat.le_refl _, six_below _ _ _ _ _ _ hb8 (Nat.le_refl _)⟩)
      | exact ⟨_, rfl, heap_alloc_last _ _, hb8.size, hb8.alloc hb8.size _⟩
  rintro y Z hh
  obtain ⟨B5, rfl, hz, hB5, hbz⟩ := (HQ.out _ _).1 hh
  clear hh HQ
  refine hK0 _ _ ?_
  have h0 := (hbz.block w.heap.size (by omega)).trans H0.out
  have h2 := (hbz.block (w.heap.size + 1 + 1) (by have := HS.out; omega)).trans H2.out
  have hbw := HB.out.trans (hbz.mono HB.out.size)
  have hlz : w.heap.size ≤ w.heap.size + 1 + 1 := by omega
  have hl5 : w.heap.size ≤ B5 := by have := HB.out.size; omega
  have hn0 : w.heap.size ≠ B5 := by have := HS.out; omega
  have hn2 : w.heap.size + 1 + 1 ≠ B5 := by have := HS.out; omega
  have hB5Z : B5 < Z.heap.size := (Array.getElem?_eq_some_iff.1 hz).1
  have h0Z : w.heap.size < Z.heap.size := (Array.getElem?_eq_some_iff.1 h0).1
  have h2Z : w.heap.size + 1 + 1 < Z.heap.size := (Array.getElem?_eq_some_iff.1 h2).1
  have HBW := Lib.hid hbw
  clear H0 H2 HS HC hB5 hbz hlt1 q0 q1 q2 hbw HB HG
  generalize w.heap.size + 1 + 1 = b2 at *
  obtain ⟨⟨-, -, c2, c3, c4, c5⟩, -⟩ := six h0
  obtain ⟨⟨d0, d1, d2, d3, d4, d5⟩, -, -, -, -, g4, g5⟩ := six hz
  obtain ⟨⟨e0, e1, e2, e3, e4, e5⟩, f0', f1', f2', f3', f4', f5'⟩ := six h2
  have HZ := Lib.hid hz
  have H2 := Lib.hid h2
  have H0 := Lib.hid h0
  have HI := Lib.hid hi
  clear hz h2 h0 hi
  cases k6 : (k == 6) with
  | true =>
    obtain rfl : k = 6 := by simpa using k6
    have hF := HF.out
    have hB := HBB.out
    rw [if_pos rfl] at hF
    rw [if_neg (by omega)] at hB
    subst hF hB
    clear HF HBB k6
    go_wp2
    refine bodyPost_ret (results_cell_row Tryd.results29 _ _ b2 63 _ (0, 0) _ rfl (six_set _ _ _ _ _ _ ((heap_setCell_other _ _ _ _ (by exact hn2)).trans H2.out)) Tryd.underlying63 rfl HI.out) rfl ?_
    exact ⟨rfl, six_below _ _ _ _ _ _ (HBW.out.setCell (by exact hl5) _) (by exact hlz)⟩
  | false =>
    have hF := HF.out
    rw [if_neg (by simpa using k6)] at hF
    subst hF
    clear HF
    cases k4 : (k == 4 || k == 5) with
    | false =>
      have hB := HBB.out
      rw [if_neg (by simpa using k4)] at hB
      subst hB
      clear HBB
      rw [Bool.or_eq_false_iff] at k4
      obtain ⟨k4, k5⟩ := k4
      go_wp2
      refine bodyPost_ret (results_cell_row Tryd.results29 _ _ b2 63 _ (0, 0) _ rfl (six_set _ _ _ _ _ _ (H2.out)) Tryd.underlying63 rfl HI.out) rfl ?_
      exact ⟨rfl, six_below _ _ _ _ _ _ HBW.out (by exact hlz)⟩
    | true =>
      have hB := HBB.out
      rw [if_pos (by simpa using k4)] at hB
      subst hB
      clear HBB
      have k45 : (k == 4) = true ∨ ((k == 4) = false ∧ (k == 5) = true) := by
        cases h : (k == 4)
        · rw [h] at k4
          exact .inr ⟨rfl, by simpa using k4⟩
        · exact .inl rfl
      clear k4
      have HC2 := Lib.hid (fun V (hb : Below Z.heap.size Z V) => (⟨(hb.block _ hB5Z).trans HZ.out, (hb.block _ h2Z).trans H2.out, (hb.block _ h0Z).trans H0.out⟩ : V.heap[B5]? = _ ∧ V.heap[b2]? = _ ∧ V.heap[w.heap.size]? = _))
      rcases k45 with k4 | ⟨k4, k5⟩
      all_goals
        cases q with
        | true =>
          go_wp2_with fail
          refine (HP.out _).mono ?_
          rintro e Z2 ⟨rfl, hb2⟩
          obtain ⟨hz', h2', h0'⟩ := HC2.out Z2 hb2
          have HBW2 := Lib.hid (HBW.out.trans (hb2.mono HBW.out.size))
          clear hb2 HC2 HBW c2 c3 c4 c5 d0 d1 d2 d3 d4 d5 g4 g5 e0 e1 e2 e3 e4 e5 f0' f1' f2' f3' f4' f5'
          obtain ⟨⟨-, -, c2, c3, c4, c5⟩, -⟩ := six h0'
          obtain ⟨⟨d0, d1, d2, d3, d4, d5⟩, -, -, -, -, g4, g5⟩ := six hz'
          obtain ⟨⟨e0, e1, e2, e3, e4, e5⟩, f0', f1', f2', f3', f4', f5'⟩ := six h2'
          have H2' := Lib.hid h2'
          clear hz' h2' h0' HZ H2 H0
          go_wp2
          refine bodyPost_ret (results_cell_row Tryd.results29 _ _ b2 63 _ (0, 0) _ rfl (six_set _ _ _ _ _ _ ((heap_setCell_other _ _ _ _ (by exact hn2)).trans H2'.out)) Tryd.underlying63 rfl HI.out) rfl ?_
          exact ⟨rfl, six_below _ _ _ _ _ _ (HBW2.out.setCell (by exact hl5) _) (by exact hlz)⟩
        | false =>
          cases g1 : (k1 == 4)
          all_goals
            go_wp2_with fail
            refine (HP.out _).mono ?_
            rintro e Z2 ⟨rfl, hb2⟩
            obtain ⟨hz', h2', h0'⟩ := HC2.out Z2 hb2
            have HBW2 := Lib.hid (HBW.out.trans (hb2.mono HBW.out.size))
            clear hb2 HC2 HBW c2 c3 c4 c5 d0 d1 d2 d3 d4 d5 g4 g5 e0 e1 e2 e3 e4 e5 f0' f1' f2' f3' f4' f5'
            obtain ⟨⟨-, -, c2, c3, c4, c5⟩, -⟩ := six h0'
            obtain ⟨⟨d0, d1, d2, d3, d4, d5⟩, -, -, -, -, g4, g5⟩ := six hz'
            obtain ⟨⟨e0, e1, e2, e3, e4, e5⟩, f0', f1', f2', f3', f4', f5'⟩ := six h2'
            have H2' := Lib.hid h2'
            clear hz' h2' h0' HZ H2 H0
            go_wp2
            refine bodyPost_ret (results_cell_row Tryd.results29 _ _ b2 63 _ (0, 0) _ rfl (six_set _ _ _ _ _ _ ((heap_setCell_other _ _ _ _ (by exact hn2)).trans H2'.out)) Tryd.underlying63 rfl HI.out) rfl ?_
            exact ⟨by rw [g1]; rfl, six_below _ _ _ _ _ _ (HBW2.out.setCell (by exact hl5) _) (by exact hlz)⟩
end Go.Proofs.YtlocnjenkanmpaaDoor.Ku
