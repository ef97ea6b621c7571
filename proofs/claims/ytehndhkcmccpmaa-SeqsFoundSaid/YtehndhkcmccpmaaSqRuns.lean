/-
  Proved here: what seqs' runs returns: a new row of the runs. It leaves what was in memory.
-/
import Derived.Test.YtehndhkcmccpmaaSqMid
set_option linter.unusedVariables false
set_option linter.unusedSimpArgs false
namespace Go.Proofs.Ytehndhkcmccpmaa.Sq
open List renaming getElem_toArray → ga, getElem_cons_zero → gz, getElem_cons_succ → gs, setIfInBounds_toArray → sa, set_cons_zero → sz, set_cons_succ → ss
open Go Go.RowKit Go.Lib Go.Proofs.Ytehndhkcmccpmaa.Cl Go.Proofs.Ytehndhkcmccpmaa.Ba Go.Shelf
attribute [local go_sem] Oper.semAt_some

/-- What lies in memory behind each place. -/
def RunsAt (lv : Int) (s1 s2 : Value) (c z : List Int) (w : World) (pre : List Nat) (W : World) : Prop :=
  ∃ v X, Boxed W (w.heap.size + 1) 55 v ∧ W.heap[w.heap.size]? = some (.cells #[.int .i64 lv, s1, s2] 48 (0, 0)) ∧ SqI 51 (w.heap.size + 2) W v (runsTo c z lv pre) X ∧ Below w.heap.size w W
theorem cells_row {W W' : World} {row : Option Nat} (hg : W.grownBy W' row) (hr : ∀ r, row = some r → ∃ o : Obj, W.heap[r]? = some o ∧ o.isCells = false) {k : Nat} {b : Array Value} {t : TypeId} {f : Nat × Nat} (h : W.heap[k]? = some (.cells b t f)) : W'.heap[k]? = some (.cells b t f) :=
  (grownBy_keeps_cells hg hr h rfl).trans h
theorem no_cells {W : World} {row : Option Nat} (hr : ∀ r, row = some r → ∃ o : Obj, W.heap[r]? = some o ∧ o.isCells = false) : ∀ r, row = some r → ∀ b t' f, W.heap[r]? ≠ some (.cells b t' f) := by
  intro r e b t f h
  obtain ⟨o, ho, hc⟩ := hr r e
  rw [h] at ho
  cases ho
  cases hc
theorem RunsAt.own (lv : Int) (s1 s2 : Value) (c z : List Int) (w : World) (B : Nat) (hB : w.heap.size ≤ B) : OwnFrom B (RunsAt lv s1 s2 c z w) := by
  rintro pre W W' row ⟨v, X, h1, h2, h3, h4⟩ hg hr
  have hr' : ∀ r, row = some r → ∃ o : Obj, W.heap[r]? = some o ∧ o.isCells = false := fun r e => (hr r e).2
  exact ⟨v, X, cells_row hg hr' h1, cells_row hg hr' h2, h3.other hg (no_cells hr'), h4.grown hg h4.size (fun k e => by have := (hr k e).1; omega)⟩
set_option maxHeartbeats 8000000 in
set_option maxRecDepth 100000 in
theorem runs_any (lv : Int) (A1 A2 : Option Addr) (N c1 M c2 : Nat) (c z : List Int) (w : World) (hz : z.length = N) (hc : c.length = M) (hR1 : IntsAt w A1 z) (hR2 : IntsAt w A2 (matchL c)) (hM : M ≤ 1000000) (hNM : N ≤ M) :
    Calls Try.prog 33 #[.agg #[.int .i64 lv, .slice A1 N c1, .slice A2 M c2]] w fun e w' => ∃ v X, e = .returned v ∧ SqI 51 w.heap.size w' v (runsL c z lv) X ∧ Below w.heap.size w w' := by
  obtain ⟨i0, hi, hz0, hz1, hz2⟩ := info_parts infoRun
  have HR1 := Lib.hid hR1
  have HR2 := Lib.hid hR2
  have HZ := Lib.hid hz
  have HC := Lib.hid hc
  clear hR1 hR2 hz hc
  refine (callsIn_wide (n := 6)).1 ?_
  refine callsIn_of_wp_marks Try.func33 rfl trivial ?_ rfl
  simp only [Try.ntmps33, List.size_toArray, List.length_cons, List.length_nil, Nat.reduceAdd, Nat.reduceSub, Array.replicate_succ, Array.replicate_zero, List.push_toArray, List.append_toArray, List.nil_append, List.cons_append]
  gi_wp2_with fail
  obtain ⟨wL, hwL⟩ : ∃ W, ((w.alloc (Obj.cells #[Value.int IntKind.i64 lv, Value.slice A1 N c1, Value.slice A2 M c2] 48)).alloc (Obj.cells #[Value.slice none 0 0] 55)) = W := ⟨_, rfl⟩
  have hvL : Boxed wL (w.heap.size + 1) 55 (.slice none 0 0) := by
    rw [← hwL]
    have h := Boxed.new (w.alloc (Obj.cells #[Value.int IntKind.i64 lv, Value.slice A1 N c1, Value.slice A2 M c2] 48)) 55 (.slice none 0 0)
    rwa [World.size_alloc] at h
  have hpL : wL.heap[w.heap.size]? = some (.cells #[.int .i64 lv, .slice A1 N c1, .slice A2 M c2] 48 (0, 0)) := by
    rw [← hwL]
    exact (Below.heap_alloc _ _ _ (by simp)).trans (heap_alloc_last w _)
  have hbL : Below w.heap.size w wL := by rw [← hwL]; exact ((Below.refl _ _).alloc (Nat.le_refl _) _).alloc (by simp) _
  have hsL : wL.heap.size = w.heap.size + 2 := by rw [← hwL]; simp
  rw [hwL]
  clear hwL
  have HI := Lib.hid (RunsAt.own lv (.slice A1 N c1) (.slice A2 M c2) c z w wL.heap.size (by omega))
  have H0 := Lib.hid (show RunsAt lv (.slice A1 N c1) (.slice A2 M c2) c z w [] wL from ⟨_, _, hvL, hpL, SqI.nil _ _ (by decide), hbL⟩)
  clear hvL hpL
  refine wp_rangeMethod (by omega) (gf := 52) (la := #[.agg #[.int .i64 lv, .slice A1 N c1, .slice A2 M c2]]) rfl (enters_of Try.func52 (by kernel_rfl) rfl) (kept_gives _ (by omega) lv A1 N c1 z A2 M c2 w w HZ.out HR1.out (by omega) (Below.refl _ _)) hbL (by omega) (fun _ => rfl)
    (RunsAt lv (.slice A1 N c1) (.slice A2 M c2) c z w) HI.out H0.out
    (fun x : Nat => { tmps := #[.agg #[.int .i64 lv, .slice A1 N c1, .slice A2 M c2], .pointer (some ⟨w.heap.size, 0, none⟩), .slice none 0 0, .pointer (some ⟨w.heap.size + 1, 0, none⟩), .int .i64 x, undef, undef, .agg #[.int .i64 lv, .slice A1 N c1, .slice A2 M c2], .func (.func 52) #[.agg #[.int .i64 lv, .slice A1 N c1, .slice A2 M c2]] #[], .int .i64 x, undef, undef, undef, undef, undef, undef, undef, undef, undef, undef, undef, undef, undef, undef, undef, undef, undef, undef, undef, undef, undef, undef, undef, undef, undef, undef, undef, undef, undef, undef, undef, undef, undef, undef, undef, undef, undef, undef, undef, undef, undef, undef, undef, undef, undef, undef, undef, undef, undef, undef, undef, undef, undef, undef, undef, undef, undef, undef, undef, undef, undef, undef, undef, undef, undef, undef, undef, undef, undef], defers := [] }) ?assign ?body ?done
  case assign =>
    intro l x W K hK
    gi_wp2_with fail
    exact hK
  case done =>
    rintro D W hD ⟨v, X, hv, hp, hs, hb⟩ hK
    obtain ⟨A, cp, hve, _⟩ := hs.reads
    have hc := hv.cell
    rw [hve] at hc
    gi_wp2_with fail
    refine ⟨by simp, .inl ⟨_, _, rfl, run_takeDeferred hK, ?_⟩⟩
    exact ⟨_, results_tmp rfl _ _ _, v, X, by rw [hve]; rfl, (hs.other (grownBy_putObj' W D _) (fun r e => by cases e; exact fun b t f h => by rw [hK] at h; cases h)).mono (by omega), hb.trans (belowK_b (w := w) (Nat.le_refl _) W D _ _ (by omega) hK rfl rfl)⟩
  case body =>
    rintro l pre x W ⟨v, X, hv, hp, hs, hb⟩ hpre
    have hxk : x ∈ kept z := hpre.subset (by simp)
    obtain ⟨-, hxz, hxl⟩ := kf_mem.1 hxk
    have hlen : pre.length < N := by
      have := hpre.length_le
      have h2 : (kept z).length ≤ z.length := by
        unfold kept kf
        refine Nat.le_trans (List.length_filter_le _ _) ?_
        simp
      have h3 := HZ.out
      simp at this
      omega
    obtain ⟨h0, h1, h2⟩ := three' hp
    obtain ⟨b1, o1, rfl, hq⟩ := (HR1.out.below (hb)).at_ hxz
    have hLx : L z x = z[x] := L_at hxz
    have hxN : x < N := by rw [← HZ.out]; exact hxz
    have hxi : (0 : Int) ≤ (x : Int) := by omega
    have hxi2 : (x : Int) < (N : Int) := by omega
    generalize hqe : z[x] = q at *
    have hM0 : Mid lv (.slice (some ⟨b1, o1, none⟩) N c1) (.slice A2 M c2) w W W v (runsTo c z lv pre) X := ⟨hv, hp, hs, hb, KeepsFrom.refl _ _, Below.refl _ _⟩
    have hsh : Short pre.length (fun p => p < N) (runsTo c z lv pre) := runsTo_short c z lv _ _ rfl (fun y hy => by
      obtain ⟨-, h, -⟩ := kf_mem.1 (hpre.subset (List.mem_append_left _ hy))
      rw [← HZ.out]
      exact h)
    have hstep := runsTo_snoc c z lv pre x
    generalize runsTo c z lv pre = R at *
    obtain ⟨A, cp, hve, _⟩ := hs.reads
    have hA := hv.cell
    rcases List.eq_nil_or_concat R with rfl | ⟨D, r0, rfl⟩
    · have hfin : runsTo c z lv (pre ++ [x]) = [] ++ [⟨q, lv, lv, [] ++ [x]⟩] := by
        rw [hstep]
        simp [stepR, room, putIn, hLx]
      have hve : v = .slice A 0 cp := hve
      subst hve
      have HM := Lib.hid hM0
      have HF := Lib.hid hfin
      clear hM0 hs hv hsh hstep hfin
      gi_wp2_with fail
      refine round_drawn (S := fun V => V.cell? ⟨w.heap.size, 1, none⟩ = some (.slice (some ⟨b1, o1, none⟩) N c1) ∧ V.cell? ⟨b1, o1 + x, none⟩ = some (.int .i64 q) ∧ V.cell? ⟨w.heap.size + 1, 0, none⟩ = some (.slice A 0 cp)) (by kernel_rfl) (by kernel_rfl) (by rintro ⟨_, _, h⟩; exact h) (⟨h1, hq, hA⟩) (fun hHeld => ?_)
      change wpAnyH _ _ _ _ _ 10 #[false, false, false, false, false, false, false, false, false, false] _ _
      refine wpAnyH_take (i := 0) (v := ?_) rfl (by kernel_rfl) (by kernel_rfl) (by kernel_rfl) (fun _ _ _ h => h) (Or.inl ⟨by rfl, ?_⟩) (by assumption) ?_
      rotate_left
      · intro w h; try dsimp only at h
        first | (go_simp; done) | (go_simp; with_reducible rfl)
      simp only [ga, gz, gs, Act.put, sa, sz, ss]
      refine wpAnyH_take (i := 1) (v := ?_) rfl (by kernel_rfl) (by kernel_rfl) (by kernel_rfl) (fun _ _ _ h => h) (Or.inl ⟨by rfl, ?_⟩) (by assumption) ?_
      rotate_left
      · intro w h; try dsimp only at h
        first | (go_simp; done) | (go_simp; with_reducible rfl)
      simp only [ga, gz, gs, Act.put, sa, sz, ss]
      refine wpAnyH_take (i := 2) (v := ?_) rfl (by kernel_rfl) (by kernel_rfl) (by kernel_rfl) (fun _ _ _ h => h) (Or.inl ⟨by rfl, ?_⟩) (by assumption) ?_
      rotate_left
      · intro w h; try dsimp only at h
        first | (go_simp; done) | (go_simp; with_reducible rfl)
      simp only [ga, gz, gs, Act.put, sa, sz, ss]
      refine wpAnyH_take (i := 3) (v := ?_) rfl (by kernel_rfl) (by kernel_rfl) (by kernel_rfl) (fun _ _ _ h => h) (Or.inl ⟨by rfl, ?_⟩) (by assumption) ?_
      rotate_left
      · intro w h; try dsimp only at h
        first | (go_simp; done) | (go_simp; with_reducible rfl)
      simp only [ga, gz, gs, Act.put, sa, sz, ss]
      refine wpAnyH_take (i := 4) (v := ?_) rfl (by kernel_rfl) (by kernel_rfl) (by kernel_rfl) (fun _ _ _ h => h) (Or.inl ⟨by rfl, ?_⟩) (by assumption) ?_
      rotate_left
      · intro w h; try dsimp only at h
        first | (go_simp; done) | (go_simp; with_reducible rfl)
      simp only [ga, gz, gs, Act.put, sa, sz, ss]
      refine wpAnyH_take (i := 5) (v := ?_) rfl (by kernel_rfl) (by kernel_rfl) (by kernel_rfl) (fun _ _ _ h => h) (Or.inl ⟨by rfl, ?_⟩) (by assumption) ?_
      rotate_left
      · intro w h; try dsimp only at h
        first | (go_simp; done) | (go_simp; with_reducible rfl)
      simp only [ga, gz, gs, Act.put, sa, sz, ss]
      refine wpAnyH_take (i := 6) (v := ?_) rfl (by kernel_rfl) (by kernel_rfl) (by kernel_rfl) (fun _ _ _ h => h) (Or.inl ⟨by rfl, ?_⟩) (by assumption) ?_
      rotate_left
      · intro w h; try dsimp only at h
        first | (go_simp; done) | (go_simp; with_reducible rfl)
      simp only [ga, gz, gs, Act.put, sa, sz, ss]
      refine wpAnyH_take (i := 7) (v := ?_) rfl (by kernel_rfl) (by kernel_rfl) (by kernel_rfl) (fun _ _ _ h => h) (Or.inl ⟨by rfl, ?_⟩) (by assumption) ?_
      rotate_left
      · intro w h; try dsimp only at h
        first | (go_simp; done) | (go_simp; with_reducible rfl)
      simp only [ga, gz, gs, Act.put, sa, sz, ss]
      refine wpAnyH_take (i := 8) (v := ?_) rfl (by kernel_rfl) (by kernel_rfl) (by kernel_rfl) (fun _ _ _ h => h) (Or.inl ⟨by rfl, ?_⟩) (by assumption) ?_
      rotate_left
      · intro w h; try dsimp only at h
        first | (go_simp; done) | (go_simp; with_reducible rfl)
      simp only [ga, gz, gs, Act.put, sa, sz, ss]
      refine wpAnyH_take (i := 9) (v := ?_) rfl (by kernel_rfl) (by kernel_rfl) (by kernel_rfl) (fun _ _ _ h => h) (Or.inl ⟨by rfl, ?_⟩) (by assumption) ?_
      rotate_left
      · intro w h; try dsimp only at h
        first | (go_simp; done) | (go_simp; with_reducible rfl)
      simp only [ga, gz, gs, Act.put, sa, sz, ss]
      refine wpAnyH_done (by kernel_rfl) ?_ _
      gi_wp2_with (gi_at_builtin; refine wpListIn_append_own _ rfl _ _ 55 rfl (w.heap.size + 2) 51 i0 _ 4 48 Try.underlying55 hi hz0 hz1 hz2 rfl (by decide) _ _ _ rfl (HM.out.drew.alloc _).hs.row ⟨W.heap.size, 0, none⟩ 1 1 (c4 ⟨q, lv, lv, []⟩ (.slice none 0 0)) rfl rfl new_cells (fun u hu => by simp [c4] at hu; rcases hu with rfl | rfl | rfl | rfl <;> rfl) (by unfold maxLen; simp) (by simp) (by have := HM.out.size; simp; omega) ?_; intro v' w1 hown' hgrow _; obtain ⟨g, cap, rfl⟩ := ownsRow_succ hown'; obtain ⟨hbx, -, hMV⟩ := (HM.out.drew.alloc _).pushed ⟨q, lv, lv, []⟩ rfl hown' hgrow; have hc1 := hbx.cell; have hf1 := hbx.frozen; have hc2 := hMV.hv.cell)
      obtain ⟨r, hr⟩ : ∃ r, r = (⟨q, lv, lv, []⟩ : S4) := ⟨_, rfl⟩
      have HF := Lib.hid (show runsTo c z lv (pre ++ [x]) = [] ++ [⟨r.a, r.b, r.c, r.p ++ [x]⟩] from by rw [hr]; exact HF.out)
      have hrl : r.p.length ≤ 1000000 := by rw [hr]; simp
      rw [← hr] at hMV
      have hDm : ([] : List S4).length = 0 := rfl
      have hMV : Mid lv (.slice (some ⟨b1, o1, none⟩) N c1) (.slice A2 M c2) w W (w1.setCell ⟨w.heap.size + 1, 0, none⟩ (.slice (some ⟨g, 0, none⟩) 1 cap)) (.slice (some ⟨g, 0, none⟩) (0 + 1) cap) ([] ++ [r]) (X ++ [.slice none 0 0]) := hMV
      clear hr hown' hgrow hbx hc1 hf1 hc2 HM hA
      generalize w1.setCell ⟨w.heap.size + 1, 0, none⟩ (.slice (some ⟨g, 0, none⟩) 1 cap) = V at *
      generalize X ++ [.slice none 0 0] = X1 at *
      obtain ⟨g', cap', x0, A0, k0, ev, hg2, hX, ex0, hI0, c0, c1', c2', c3, hfr, hox⟩ := hMV.last hDm
      obtain ⟨rfl, rfl⟩ : g = g' ∧ cap = cap' := by injection ev with e1 e2 e3; injection e1 with e1; injection e1 with e1; exact ⟨e1, e3⟩
      have c3 : V.cell? ⟨g, 3, none⟩ = some x0 := c3
      rw [ex0] at c3
      have c3a : ∀ o, (V.alloc o).cell? ⟨g, 3, none⟩ = some (.slice A0 r.p.length k0) := fun o => (World.cell?_alloc_lt V _ _ (World.block_lt_of_cell? V _ c3)).trans c3
      have hbox : V.cell? ⟨w.heap.size + 1, 0, none⟩ = some (.slice (some ⟨g, 0, none⟩) (1) cap) := hMV.hv.cell
      refine round_drawn (S := fun V' => V'.cell? ⟨w.heap.size + 1, 0, none⟩ = some (.slice (some ⟨g, 0, none⟩) (1) cap)) (by kernel_rfl) (by kernel_rfl) (by rintro ⟨_, _, h⟩; exact h) (hbox) (fun hHeld => ?_)
      change wpAnyH _ _ _ _ _ 13 #[false, false, false, false, false, false, false, false, false, false, false, false, false] _ _
      refine wpAnyH_take (i := 0) (v := ?_) rfl (by kernel_rfl) (by kernel_rfl) (by kernel_rfl) (fun _ _ _ h => h) (Or.inl ⟨by rfl, ?_⟩) (by assumption) ?_
      rotate_left
      · intro w h; try dsimp only at h
        first | (go_simp; done) | (go_simp; with_reducible rfl)
      simp only [ga, gz, gs, Act.put, sa, sz, ss]
      refine wpAnyH_take (i := 1) (v := ?_) rfl (by kernel_rfl) (by kernel_rfl) (by kernel_rfl) (fun _ _ _ h => h) (Or.inl ⟨by rfl, ?_⟩) (by assumption) ?_
      rotate_left
      · intro w h; try dsimp only at h
        first | (go_simp; done) | (go_simp; with_reducible rfl)
      simp only [ga, gz, gs, Act.put, sa, sz, ss]
      refine wpAnyH_take (i := 2) (v := ?_) rfl (by kernel_rfl) (by kernel_rfl) (by kernel_rfl) (fun _ _ _ h => h) (Or.inl ⟨by rfl, ?_⟩) (by assumption) ?_
      rotate_left
      · intro w h; try dsimp only at h
        first | (go_simp; done) | (go_simp; with_reducible rfl)
      simp only [ga, gz, gs, Act.put, sa, sz, ss]
      refine wpAnyH_take (i := 3) (v := ?_) rfl (by kernel_rfl) (by kernel_rfl) (by kernel_rfl) (fun _ _ _ h => h) (Or.inl ⟨by rfl, ?_⟩) (by assumption) ?_
      rotate_left
      · intro w h; try dsimp only at h
        first | (go_simp; done) | (go_simp; with_reducible rfl)
      simp only [ga, gz, gs, Act.put, sa, sz, ss]
      refine wpAnyH_take (i := 4) (v := ?_) rfl (by kernel_rfl) (by kernel_rfl) (by kernel_rfl) (fun _ _ _ h => h) (Or.inl ⟨by rfl, ?_⟩) (by assumption) ?_
      rotate_left
      · intro w h; try dsimp only at h
        first | (go_simp; done) | (go_simp; with_reducible rfl)
      simp only [ga, gz, gs, Act.put, sa, sz, ss]
      refine wpAnyH_take (i := 5) (v := ?_) rfl (by kernel_rfl) (by kernel_rfl) (by kernel_rfl) (fun _ _ _ h => h) (Or.inl ⟨by rfl, ?_⟩) (by assumption) ?_
      rotate_left
      · intro w h; try dsimp only at h
        first | (go_simp; done) | (go_simp; with_reducible rfl)
      simp only [ga, gz, gs, Act.put, sa, sz, ss]
      refine wpAnyH_take (i := 7) (v := ?_) rfl (by kernel_rfl) (by kernel_rfl) (by kernel_rfl) (fun _ _ _ h => h) (Or.inl ⟨by rfl, ?_⟩) (by assumption) ?_
      rotate_left
      · intro w h; try dsimp only at h
        first | (go_simp; done) | (go_simp; with_reducible rfl)
      simp only [ga, gz, gs, Act.put, sa, sz, ss]
      refine wpAnyH_ready (rs := [6, 8]) (by kernel_rfl) (by simp) ?_
      refine AllReadyH.cons rfl (fun K hK => ?_) (AllReadyH.cons rfl (fun K hK => ?_) AllReadyH.nil)
      · go_simp
        refine hK.out _ _ (hMV.drew.hv.cell) (fun hHeld => ?_)
        simp only [ga, gz, gs, Act.put, sa, sz, ss]
        refine wpAnyH_ready (rs := [8]) (by kernel_rfl) (by simp) ?_
        refine AllReadyH.cons rfl (fun K hK => ?_) AllReadyH.nil
        go_simp
        refine hK.out _ _ ((hMV.drew.alloc _).hv.cell) (fun hHeld => ?_)
        simp only [ga, gz, gs, Act.put, sa, sz, ss]
        refine wpAnyH_ready (rs := [9]) (by kernel_rfl) (by simp) ?_
        refine AllReadyH.cons rfl (fun K hK => ?_) AllReadyH.nil
        refine step_one rfl _ _ rfl (w.heap.size + 2) x0 _ (ns r.p) (x : Int) (by rw [ex0]; rfl) ⟨V.heap.size, 0, none⟩ rfl ((hMV.drew.alloc _).rowOf hDm hX) (cell_new1 _ _ _) (by rfl) (by omega) (by have := hMV.size; simp; omega) ?_
        intro v' w2 ho' hg' hw'
        obtain ⟨d1, d2, d3, hMF⟩ := (hMV.drew.alloc _).placed hDm hX x ho' hg' hw'
        have d1 : w2.cell? ⟨g, 3, none⟩ = some x0 := d1
        have d2 : w2.frozen? ⟨g, 3, none⟩ = false := d2
        rw [ex0] at d1
        obtain ⟨g2, cap2, rfl⟩ := ownsRow_succ ho'
        refine hK.out _ _ (d3) (fun hHeld => ?_)
        simp only [ga, gz, gs, Act.put, sa, sz, ss]
        refine wpAnyH_take (i := 10) (v := ?_) rfl (by kernel_rfl) (by kernel_rfl) (by kernel_rfl) (fun _ _ _ h => h) (Or.inl ⟨by rfl, ?_⟩) (by assumption) ?_
        rotate_left
        · intro w h; try dsimp only at h
          first | (go_simp; done) | (go_simp; with_reducible rfl)
        simp only [ga, gz, gs, Act.put, sa, sz, ss]
        refine wpAnyH_take (i := 11) (v := ?_) rfl (by kernel_rfl) (by kernel_rfl) (by kernel_rfl) (fun _ _ _ h => h) (Or.inl ⟨by rfl, ?_⟩) (by assumption) ?_
        rotate_left
        · intro w h; try dsimp only at h
          first | (go_simp; done) | (go_simp; with_reducible rfl)
        simp only [ga, gz, gs, Act.put, sa, sz, ss]
        refine wpAnyH_ready (rs := [12]) (by kernel_rfl) (by simp) ?_
        refine AllReadyH.cons rfl (fun K hK => ?_) AllReadyH.nil
        go_simp
        refine hK.out _ _ (hMF.hv.cell) (fun hHeld => ?_)
        simp only [ga, gz, gs, Act.put, sa, sz, ss]
        refine wpAnyH_done (by kernel_rfl) ?_ _
        gi_wp2_with fail
        exact ⟨by first | exact hMF.kf | (rw [hsL]; exact hMF.kf), hMF.bw, _, _, hMF.hv, hMF.hp, by rw [HF.out]; exact hMF.hs, hMF.hb⟩
      · go_simp
        refine hK.out _ _ ((hMV.drew.alloc _).hv.cell) (fun hHeld => ?_)
        simp only [ga, gz, gs, Act.put, sa, sz, ss]
        have c3b := c3a (Obj.cells #[.int .i64 (x : Int)] 3)
        refine wpAnyH_ready (rs := [6]) (by kernel_rfl) (by simp) ?_
        refine AllReadyH.cons rfl (fun K hK => ?_) AllReadyH.nil
        go_simp
        refine hK.out _ _ ((hMV.drew.alloc _).hv.cell) (fun hHeld => ?_)
        simp only [ga, gz, gs, Act.put, sa, sz, ss]
        refine wpAnyH_ready (rs := [9]) (by kernel_rfl) (by simp) ?_
        refine AllReadyH.cons rfl (fun K hK => ?_) AllReadyH.nil
        refine step_one rfl _ _ rfl (w.heap.size + 2) x0 _ (ns r.p) (x : Int) (by rw [ex0]; rfl) ⟨V.heap.size, 0, none⟩ rfl ((hMV.drew.alloc _).rowOf hDm hX) (cell_new1 _ _ _) (by rfl) (by omega) (by have := hMV.size; simp; omega) ?_
        intro v' w2 ho' hg' hw'
        obtain ⟨d1, d2, d3, hMF⟩ := (hMV.drew.alloc _).placed hDm hX x ho' hg' hw'
        have d1 : w2.cell? ⟨g, 3, none⟩ = some x0 := d1
        have d2 : w2.frozen? ⟨g, 3, none⟩ = false := d2
        rw [ex0] at d1
        obtain ⟨g2, cap2, rfl⟩ := ownsRow_succ ho'
        refine hK.out _ _ (d3) (fun hHeld => ?_)
        simp only [ga, gz, gs, Act.put, sa, sz, ss]
        refine wpAnyH_take (i := 10) (v := ?_) rfl (by kernel_rfl) (by kernel_rfl) (by kernel_rfl) (fun _ _ _ h => h) (Or.inl ⟨by rfl, ?_⟩) (by assumption) ?_
        rotate_left
        · intro w h; try dsimp only at h
          first | (go_simp; done) | (go_simp; with_reducible rfl)
        simp only [ga, gz, gs, Act.put, sa, sz, ss]
        refine wpAnyH_take (i := 11) (v := ?_) rfl (by kernel_rfl) (by kernel_rfl) (by kernel_rfl) (fun _ _ _ h => h) (Or.inl ⟨by rfl, ?_⟩) (by assumption) ?_
        rotate_left
        · intro w h; try dsimp only at h
          first | (go_simp; done) | (go_simp; with_reducible rfl)
        simp only [ga, gz, gs, Act.put, sa, sz, ss]
        refine wpAnyH_ready (rs := [12]) (by kernel_rfl) (by simp) ?_
        refine AllReadyH.cons rfl (fun K hK => ?_) AllReadyH.nil
        go_simp
        refine hK.out _ _ (hMF.hv.cell) (fun hHeld => ?_)
        simp only [ga, gz, gs, Act.put, sa, sz, ss]
        refine wpAnyH_done (by kernel_rfl) ?_ _
        gi_wp2_with fail
        exact ⟨by first | exact hMF.kf | (rw [hsL]; exact hMF.kf), hMF.bw, _, _, hMF.hv, hMF.hp, by rw [HF.out]; exact hMF.hs, hMF.hb⟩
    · clear hve hA
      rw [List.concat_eq_append] at hM0 hsh hstep
      obtain ⟨m0, hDm⟩ : ∃ m, D.length = m := ⟨_, rfl⟩
      obtain ⟨g, cap, x00, A00, k00, ev, hg2, hX0, ex00, hI00, c0, c1', c2', c3, hfr, hox⟩ := hM0.last hDm
      have hve := ev
      subst hve
      rw [ex00] at c3
      have hA : W.cell? ⟨w.heap.size + 1, 0, none⟩ = some (.slice (some ⟨g, 0, none⟩) (m0 + 1) cap) := hM0.hv.cell
      obtain ⟨hs1, hs2⟩ := hsh
      have hDl : D.length + 1 ≤ pre.length := by simpa using hs1
      obtain ⟨hp1, hp2, hp3⟩ := hs2 r0 (by simp)
      have hm6 : m0 ≤ 1000000 := by omega
      have hrl : r0.p.length ≤ 1000000 := by omega
      have hw1 : IntKind.i64.wrap ((m0 : Int) + 1 - 1) = (m0 : Int) := by rw [IntKind.wrap_i64]; omega
      have hw2 : IntKind.i64.wrap (m0 : Int) = (m0 : Int) := by rw [IntKind.wrap_i64]; omega
      have hmi : (0 : Int) ≤ (m0 : Int) := by omega
      have hmi2 : (m0 : Int) < (m0 : Int) + 1 := by omega
      have hmi3 : (m0 : Int) < ((m0 + 1 : Nat) : Int) := by omega
      have HM := Lib.hid hM0
      clear hs hv hs1 hs2 ev
      by_cases he : r0.a = q
      · have kne : (r0.a != q) = false := by simpa using he
        have HF := Lib.hid (show runsTo c z lv (pre ++ [x]) = D ++ [⟨r0.a, r0.b, r0.c, r0.p ++ [x]⟩] from by
          rw [hstep]
          unfold stepR
          rw [room_snoc, if_pos (by rw [hLx]; exact he), putIn_snoc])
        have HDm := Lib.hid hDm
        clear hM0 hstep hDm hDl he
        gi_wp2_with fail
        refine round_drawn (S := fun V => V.cell? ⟨w.heap.size, 1, none⟩ = some (.slice (some ⟨b1, o1, none⟩) N c1) ∧ V.cell? ⟨b1, o1 + x, none⟩ = some (.int .i64 q) ∧ V.cell? ⟨w.heap.size + 1, 0, none⟩ = some (.slice (some ⟨g, 0, none⟩) (m0 + 1) cap)) (by kernel_rfl) (by kernel_rfl) (by rintro ⟨_, _, h⟩; exact h) (⟨h1, hq, hA⟩) (fun hHeld => ?_)
        change wpAnyH _ _ _ _ _ 10 #[false, false, false, false, false, false, false, false, false, false] _ _
        refine wpAnyH_take (i := 0) (v := ?_) rfl (by kernel_rfl) (by kernel_rfl) (by kernel_rfl) (fun _ _ _ h => h) (Or.inl ⟨by rfl, ?_⟩) (by assumption) ?_
        rotate_left
        · intro w h; try dsimp only at h
          first | (go_simp; done) | (go_simp; with_reducible rfl)
        simp only [ga, gz, gs, Act.put, sa, sz, ss]
        refine wpAnyH_take (i := 1) (v := ?_) rfl (by kernel_rfl) (by kernel_rfl) (by kernel_rfl) (fun _ _ _ h => h) (Or.inl ⟨by rfl, ?_⟩) (by assumption) ?_
        rotate_left
        · intro w h; try dsimp only at h
          first | (go_simp; done) | (go_simp; with_reducible rfl)
        simp only [ga, gz, gs, Act.put, sa, sz, ss]
        refine wpAnyH_take (i := 2) (v := ?_) rfl (by kernel_rfl) (by kernel_rfl) (by kernel_rfl) (fun _ _ _ h => h) (Or.inl ⟨by rfl, ?_⟩) (by assumption) ?_
        rotate_left
        · intro w h; try dsimp only at h
          first | (go_simp; done) | (go_simp; with_reducible rfl)
        simp only [ga, gz, gs, Act.put, sa, sz, ss]
        refine wpAnyH_take (i := 3) (v := ?_) rfl (by kernel_rfl) (by kernel_rfl) (by kernel_rfl) (fun _ _ _ h => h) (Or.inl ⟨by rfl, ?_⟩) (by assumption) ?_
        rotate_left
        · intro w h; try dsimp only at h
          first | (go_simp; done) | (go_simp; with_reducible rfl)
        simp only [ga, gz, gs, Act.put, sa, sz, ss]
        refine wpAnyH_take (i := 4) (v := ?_) rfl (by kernel_rfl) (by kernel_rfl) (by kernel_rfl) (fun _ _ _ h => h) (Or.inl ⟨by rfl, ?_⟩) (by assumption) ?_
        rotate_left
        · intro w h; try dsimp only at h
          first | (go_simp; done) | (go_simp; with_reducible rfl)
        simp only [ga, gz, gs, Act.put, sa, sz, ss]
        refine wpAnyH_take (i := 5) (v := ?_) rfl (by kernel_rfl) (by kernel_rfl) (by kernel_rfl) (fun _ _ _ h => h) (Or.inl ⟨by rfl, ?_⟩) (by assumption) ?_
        rotate_left
        · intro w h; try dsimp only at h
          first | (go_simp; done) | (go_simp; with_reducible rfl)
        simp only [ga, gz, gs, Act.put, sa, sz, ss]
        refine wpAnyH_take (i := 6) (v := ?_) rfl (by kernel_rfl) (by kernel_rfl) (by kernel_rfl) (fun _ _ _ h => h) (Or.inl ⟨by rfl, ?_⟩) (by assumption) ?_
        rotate_left
        · intro w h; try dsimp only at h
          first | (go_simp; done) | (go_simp; with_reducible rfl)
        simp only [ga, gz, gs, Act.put, sa, sz, ss]
        refine wpAnyH_take (i := 7) (v := ?_) rfl (by kernel_rfl) (by kernel_rfl) (by kernel_rfl) (fun _ _ _ h => h) (Or.inl ⟨by rfl, ?_⟩) (by assumption) ?_
        rotate_left
        · intro w h; try dsimp only at h
          first | (go_simp; done) | (go_simp; with_reducible rfl)
        simp only [ga, gz, gs, Act.put, sa, sz, ss]
        refine wpAnyH_take (i := 8) (v := ?_) rfl (by kernel_rfl) (by kernel_rfl) (by kernel_rfl) (fun _ _ _ h => h) (Or.inl ⟨by rfl, ?_⟩) (by assumption) ?_
        rotate_left
        · intro w h; try dsimp only at h
          first | (go_simp; done) | (go_simp; with_reducible rfl)
        simp only [ga, gz, gs, Act.put, sa, sz, ss]
        refine wpAnyH_take (i := 9) (v := ?_) rfl (by kernel_rfl) (by kernel_rfl) (by kernel_rfl) (fun _ _ _ h => h) (Or.inl ⟨by rfl, ?_⟩) (by assumption) ?_
        rotate_left
        · intro w h; try dsimp only at h
          first | (go_simp; done) | (go_simp; with_reducible rfl)
        simp only [ga, gz, gs, Act.put, sa, sz, ss]
        refine wpAnyH_done (by kernel_rfl) ?_ _
        gi_wp2_with fail
        have hMV := HM.out.drew
        have hDm := HDm.out
        clear HM hX0 ex00 hI00 c0 c1' c2' c3 hfr hox hA
        generalize W.drew = V at *
        generalize hr : r0 = r at *
        obtain ⟨g', cap', x0, A0, k0, ev, hg2, hX, ex0, hI0, c0, c1', c2', c3, hfr, hox⟩ := hMV.last hDm
        obtain ⟨rfl, rfl⟩ : g = g' ∧ cap = cap' := by injection ev with e1 e2 e3; injection e1 with e1; injection e1 with e1; exact ⟨e1, e3⟩
        have c3 : V.cell? ⟨g, m0 * 4 + 3, none⟩ = some x0 := c3
        rw [ex0] at c3
        have c3a : ∀ o, (V.alloc o).cell? ⟨g, m0 * 4 + 3, none⟩ = some (.slice A0 r.p.length k0) := fun o => (World.cell?_alloc_lt V _ _ (World.block_lt_of_cell? V _ c3)).trans c3
        have hbox : V.cell? ⟨w.heap.size + 1, 0, none⟩ = some (.slice (some ⟨g, 0, none⟩) (m0 + 1) cap) := hMV.hv.cell
        refine round_drawn (S := fun V' => V'.cell? ⟨w.heap.size + 1, 0, none⟩ = some (.slice (some ⟨g, 0, none⟩) (m0 + 1) cap)) (by kernel_rfl) (by kernel_rfl) (by rintro ⟨_, _, h⟩; exact h) (hbox) (fun hHeld => ?_)
        change wpAnyH _ _ _ _ _ 13 #[false, false, false, false, false, false, false, false, false, false, false, false, false] _ _
        refine wpAnyH_take (i := 0) (v := ?_) rfl (by kernel_rfl) (by kernel_rfl) (by kernel_rfl) (fun _ _ _ h => h) (Or.inl ⟨by rfl, ?_⟩) (by assumption) ?_
        rotate_left
        · intro w h; try dsimp only at h
          first | (go_simp; done) | (go_simp; with_reducible rfl)
        simp only [ga, gz, gs, Act.put, sa, sz, ss]
        refine wpAnyH_take (i := 1) (v := ?_) rfl (by kernel_rfl) (by kernel_rfl) (by kernel_rfl) (fun _ _ _ h => h) (Or.inl ⟨by rfl, ?_⟩) (by assumption) ?_
        rotate_left
        · intro w h; try dsimp only at h
          first | (go_simp; done) | (go_simp; with_reducible rfl)
        simp only [ga, gz, gs, Act.put, sa, sz, ss]
        refine wpAnyH_take (i := 2) (v := ?_) rfl (by kernel_rfl) (by kernel_rfl) (by kernel_rfl) (fun _ _ _ h => h) (Or.inl ⟨by rfl, ?_⟩) (by assumption) ?_
        rotate_left
        · intro w h; try dsimp only at h
          first | (go_simp; done) | (go_simp; with_reducible rfl)
        simp only [ga, gz, gs, Act.put, sa, sz, ss]
        refine wpAnyH_take (i := 3) (v := ?_) rfl (by kernel_rfl) (by kernel_rfl) (by kernel_rfl) (fun _ _ _ h => h) (Or.inl ⟨by rfl, ?_⟩) (by assumption) ?_
        rotate_left
        · intro w h; try dsimp only at h
          first | (go_simp; done) | (go_simp; with_reducible rfl)
        simp only [ga, gz, gs, Act.put, sa, sz, ss]
        refine wpAnyH_take (i := 4) (v := ?_) rfl (by kernel_rfl) (by kernel_rfl) (by kernel_rfl) (fun _ _ _ h => h) (Or.inl ⟨by rfl, ?_⟩) (by assumption) ?_
        rotate_left
        · intro w h; try dsimp only at h
          first | (go_simp; done) | (go_simp; with_reducible rfl)
        simp only [ga, gz, gs, Act.put, sa, sz, ss]
        refine wpAnyH_take (i := 5) (v := ?_) rfl (by kernel_rfl) (by kernel_rfl) (by kernel_rfl) (fun _ _ _ h => h) (Or.inl ⟨by rfl, ?_⟩) (by assumption) ?_
        rotate_left
        · intro w h; try dsimp only at h
          first | (go_simp; done) | (go_simp; with_reducible rfl)
        simp only [ga, gz, gs, Act.put, sa, sz, ss]
        refine wpAnyH_take (i := 7) (v := ?_) rfl (by kernel_rfl) (by kernel_rfl) (by kernel_rfl) (fun _ _ _ h => h) (Or.inl ⟨by rfl, ?_⟩) (by assumption) ?_
        rotate_left
        · intro w h; try dsimp only at h
          first | (go_simp; done) | (go_simp; with_reducible rfl)
        simp only [ga, gz, gs, Act.put, sa, sz, ss]
        refine wpAnyH_ready (rs := [6, 8]) (by kernel_rfl) (by simp) ?_
        refine AllReadyH.cons rfl (fun K hK => ?_) (AllReadyH.cons rfl (fun K hK => ?_) AllReadyH.nil)
        · go_simp
          refine hK.out _ _ (hMV.drew.hv.cell) (fun hHeld => ?_)
          simp only [ga, gz, gs, Act.put, sa, sz, ss]
          refine wpAnyH_ready (rs := [8]) (by kernel_rfl) (by simp) ?_
          refine AllReadyH.cons rfl (fun K hK => ?_) AllReadyH.nil
          go_simp
          refine hK.out _ _ ((hMV.drew.alloc _).hv.cell) (fun hHeld => ?_)
          simp only [ga, gz, gs, Act.put, sa, sz, ss]
          refine wpAnyH_ready (rs := [9]) (by kernel_rfl) (by simp) ?_
          refine AllReadyH.cons rfl (fun K hK => ?_) AllReadyH.nil
          refine step_one rfl _ _ rfl (w.heap.size + 2) x0 _ (ns r.p) (x : Int) (by rw [ex0]; rfl) ⟨V.heap.size, 0, none⟩ rfl ((hMV.drew.alloc _).rowOf hDm hX) (cell_new1 _ _ _) (by rfl) (by omega) (by have := hMV.size; simp; omega) ?_
          intro v' w2 ho' hg' hw'
          obtain ⟨d1, d2, d3, hMF⟩ := (hMV.drew.alloc _).placed hDm hX x ho' hg' hw'
          have d1 : w2.cell? ⟨g, m0 * 4 + 3, none⟩ = some x0 := d1
          have d2 : w2.frozen? ⟨g, m0 * 4 + 3, none⟩ = false := d2
          rw [ex0] at d1
          obtain ⟨g2, cap2, rfl⟩ := ownsRow_succ ho'
          refine hK.out _ _ (d3) (fun hHeld => ?_)
          simp only [ga, gz, gs, Act.put, sa, sz, ss]
          refine wpAnyH_take (i := 10) (v := ?_) rfl (by kernel_rfl) (by kernel_rfl) (by kernel_rfl) (fun _ _ _ h => h) (Or.inl ⟨by rfl, ?_⟩) (by assumption) ?_
          rotate_left
          · intro w h; try dsimp only at h
            first | (go_simp; done) | (go_simp; with_reducible rfl)
          simp only [ga, gz, gs, Act.put, sa, sz, ss]
          refine wpAnyH_take (i := 11) (v := ?_) rfl (by kernel_rfl) (by kernel_rfl) (by kernel_rfl) (fun _ _ _ h => h) (Or.inl ⟨by rfl, ?_⟩) (by assumption) ?_
          rotate_left
          · intro w h; try dsimp only at h
            first | (go_simp; done) | (go_simp; with_reducible rfl)
          simp only [ga, gz, gs, Act.put, sa, sz, ss]
          refine wpAnyH_ready (rs := [12]) (by kernel_rfl) (by simp) ?_
          refine AllReadyH.cons rfl (fun K hK => ?_) AllReadyH.nil
          go_simp
          refine hK.out _ _ (hMF.hv.cell) (fun hHeld => ?_)
          simp only [ga, gz, gs, Act.put, sa, sz, ss]
          refine wpAnyH_done (by kernel_rfl) ?_ _
          gi_wp2_with fail
          exact ⟨by first | exact hMF.kf | (rw [hsL]; exact hMF.kf), hMF.bw, _, _, hMF.hv, hMF.hp, by rw [HF.out]; exact hMF.hs, hMF.hb⟩
        · go_simp
          refine hK.out _ _ ((hMV.drew.alloc _).hv.cell) (fun hHeld => ?_)
          simp only [ga, gz, gs, Act.put, sa, sz, ss]
          have c3b := c3a (Obj.cells #[.int .i64 (x : Int)] 3)
          refine wpAnyH_ready (rs := [6]) (by kernel_rfl) (by simp) ?_
          refine AllReadyH.cons rfl (fun K hK => ?_) AllReadyH.nil
          go_simp
          refine hK.out _ _ ((hMV.drew.alloc _).hv.cell) (fun hHeld => ?_)
          simp only [ga, gz, gs, Act.put, sa, sz, ss]
          refine wpAnyH_ready (rs := [9]) (by kernel_rfl) (by simp) ?_
          refine AllReadyH.cons rfl (fun K hK => ?_) AllReadyH.nil
          refine step_one rfl _ _ rfl (w.heap.size + 2) x0 _ (ns r.p) (x : Int) (by rw [ex0]; rfl) ⟨V.heap.size, 0, none⟩ rfl ((hMV.drew.alloc _).rowOf hDm hX) (cell_new1 _ _ _) (by rfl) (by omega) (by have := hMV.size; simp; omega) ?_
          intro v' w2 ho' hg' hw'
          obtain ⟨d1, d2, d3, hMF⟩ := (hMV.drew.alloc _).placed hDm hX x ho' hg' hw'
          have d1 : w2.cell? ⟨g, m0 * 4 + 3, none⟩ = some x0 := d1
          have d2 : w2.frozen? ⟨g, m0 * 4 + 3, none⟩ = false := d2
          rw [ex0] at d1
          obtain ⟨g2, cap2, rfl⟩ := ownsRow_succ ho'
          refine hK.out _ _ (d3) (fun hHeld => ?_)
          simp only [ga, gz, gs, Act.put, sa, sz, ss]
          refine wpAnyH_take (i := 10) (v := ?_) rfl (by kernel_rfl) (by kernel_rfl) (by kernel_rfl) (fun _ _ _ h => h) (Or.inl ⟨by rfl, ?_⟩) (by assumption) ?_
          rotate_left
          · intro w h; try dsimp only at h
            first | (go_simp; done) | (go_simp; with_reducible rfl)
          simp only [ga, gz, gs, Act.put, sa, sz, ss]
          refine wpAnyH_take (i := 11) (v := ?_) rfl (by kernel_rfl) (by kernel_rfl) (by kernel_rfl) (fun _ _ _ h => h) (Or.inl ⟨by rfl, ?_⟩) (by assumption) ?_
          rotate_left
          · intro w h; try dsimp only at h
            first | (go_simp; done) | (go_simp; with_reducible rfl)
          simp only [ga, gz, gs, Act.put, sa, sz, ss]
          refine wpAnyH_ready (rs := [12]) (by kernel_rfl) (by simp) ?_
          refine AllReadyH.cons rfl (fun K hK => ?_) AllReadyH.nil
          go_simp
          refine hK.out _ _ (hMF.hv.cell) (fun hHeld => ?_)
          simp only [ga, gz, gs, Act.put, sa, sz, ss]
          refine wpAnyH_done (by kernel_rfl) ?_ _
          gi_wp2_with fail
          exact ⟨by first | exact hMF.kf | (rw [hsL]; exact hMF.kf), hMF.bw, _, _, hMF.hv, hMF.hp, by rw [HF.out]; exact hMF.hs, hMF.hb⟩
      · have kne : (r0.a != q) = true := by simpa using he
        have hne0 : r0.p ≠ [] := hp2
        have htN : lst r0.p < N := hp3 _ (lst_mem hp2)
        have htc : lst r0.p < c.length := by rw [HC.out]; omega
        obtain ⟨mm, hmm⟩ : ∃ mm, (matchL c)[lst r0.p]? = some mm := ⟨_, List.getElem?_eq_getElem (by rw [matchL_len]; exact htc)⟩
        have HO := Lib.hid (show opn c (lst r0.p) = (mm == (M : Int)) from by rw [opn_match htc mm hmm, HC.out])
        have HLAST := Lib.hid (fun V' (h : Below W.heap.size W V') => last_any r0.a r0.b r0.c A00 k00 r0.p.length r0.p V' rfl hne0 (hI00.below h) (by omega))
        have HOPEN := Lib.hid (fun V' (h : Below w.heap.size w V') => open_any lv mm (.slice (some ⟨b1, o1, none⟩) N c1) A2 c2 M (lst r0.p) (matchL c) V' (by rw [matchL_len]; exact HC.out) (HR2.out.below h) hmm (by omega) ⟨_, _, _, rfl⟩)
        have HS8 := Lib.hid (fun V' (h : Below W.heap.size W V') => (show V'.cell? ⟨w.heap.size, 0, none⟩ = some (.int .i64 lv) ∧ V'.cell? ⟨w.heap.size, 1, none⟩ = some (.slice (some ⟨b1, o1, none⟩) N c1) ∧ V'.cell? ⟨w.heap.size, 2, none⟩ = some (.slice A2 M c2) ∧ V'.cell? ⟨w.heap.size + 1, 0, none⟩ = some (.slice (some ⟨g, 0, none⟩) (m0 + 1) cap) ∧ V'.cell? ⟨g, m0 * 4, none⟩ = some (.int .i64 r0.a) ∧ V'.cell? ⟨g, m0 * 4 + 1, none⟩ = some (.int .i64 r0.b) ∧ V'.cell? ⟨g, m0 * 4 + 2, none⟩ = some (.int .i64 r0.c) ∧ V'.cell? ⟨g, m0 * 4 + 3, none⟩ = some (.slice A00 r0.p.length k00) from
          ⟨(h.cell (p := ⟨w.heap.size, 0, none⟩) (World.block_lt_of_cell? W _ h0)).trans h0, (h.cell (p := ⟨w.heap.size, 1, none⟩) (World.block_lt_of_cell? W _ h1)).trans h1, (h.cell (p := ⟨w.heap.size, 2, none⟩) (World.block_lt_of_cell? W _ h2)).trans h2, (h.cell (p := ⟨w.heap.size + 1, 0, none⟩) (World.block_lt_of_cell? W _ hA)).trans hA, (h.cell (p := ⟨g, m0 * 4, none⟩) (World.block_lt_of_cell? W _ c0)).trans c0, (h.cell (p := ⟨g, m0 * 4 + 1, none⟩) (World.block_lt_of_cell? W _ c1')).trans c1', (h.cell (p := ⟨g, m0 * 4 + 2, none⟩) (World.block_lt_of_cell? W _ c2')).trans c2', (h.cell (p := ⟨g, m0 * 4 + 3, none⟩) (World.block_lt_of_cell? W _ c3)).trans c3⟩))
        have HDm := Lib.hid hDm
        have HST := Lib.hid (show ∀ y, y = (if opn c (lst r0.p) = true then r0.c else q) → runsTo c z lv (pre ++ [x]) = (D ++ [⟨r0.a, r0.b, y, r0.p⟩]) ++ [⟨q, r0.a, lv, [x]⟩] from by
          intro y hy
          rw [hstep]
          unfold stepR
          rw [room_snoc, if_neg (by rw [hLx]; exact he), putIn_snoc, hy, hLx]
          rfl)
        have c0a := c0
        have hba : Below W.heap.size W W.drew := (Below.refl _ _).drew
        clear hM0 hstep hDm hDl he hp1 hp2 hp3 htN htc hmm hI00 hne0 c1' c2' c3 hox
        gi_wp2_with fail
        refine round_drawn (S := fun V => V.cell? ⟨w.heap.size, 1, none⟩ = some (.slice (some ⟨b1, o1, none⟩) N c1) ∧ V.cell? ⟨b1, o1 + x, none⟩ = some (.int .i64 q) ∧ V.cell? ⟨w.heap.size + 1, 0, none⟩ = some (.slice (some ⟨g, 0, none⟩) (m0 + 1) cap)) (by kernel_rfl) (by kernel_rfl) (by rintro ⟨_, _, h⟩; exact h) (⟨h1, hq, hA⟩) (fun hHeld => ?_)
        change wpAnyH _ _ _ _ _ 10 #[false, false, false, false, false, false, false, false, false, false] _ _
        refine wpAnyH_take (i := 0) (v := ?_) rfl (by kernel_rfl) (by kernel_rfl) (by kernel_rfl) (fun _ _ _ h => h) (Or.inl ⟨by rfl, ?_⟩) (by assumption) ?_
        rotate_left
        · intro w h; try dsimp only at h
          first | (go_simp; done) | (go_simp; with_reducible rfl)
        simp only [ga, gz, gs, Act.put, sa, sz, ss]
        refine wpAnyH_take (i := 1) (v := ?_) rfl (by kernel_rfl) (by kernel_rfl) (by kernel_rfl) (fun _ _ _ h => h) (Or.inl ⟨by rfl, ?_⟩) (by assumption) ?_
        rotate_left
        · intro w h; try dsimp only at h
          first | (go_simp; done) | (go_simp; with_reducible rfl)
        simp only [ga, gz, gs, Act.put, sa, sz, ss]
        refine wpAnyH_take (i := 2) (v := ?_) rfl (by kernel_rfl) (by kernel_rfl) (by kernel_rfl) (fun _ _ _ h => h) (Or.inl ⟨by rfl, ?_⟩) (by assumption) ?_
        rotate_left
        · intro w h; try dsimp only at h
          first | (go_simp; done) | (go_simp; with_reducible rfl)
        simp only [ga, gz, gs, Act.put, sa, sz, ss]
        refine wpAnyH_take (i := 3) (v := ?_) rfl (by kernel_rfl) (by kernel_rfl) (by kernel_rfl) (fun _ _ _ h => h) (Or.inl ⟨by rfl, ?_⟩) (by assumption) ?_
        rotate_left
        · intro w h; try dsimp only at h
          first | (go_simp; done) | (go_simp; with_reducible rfl)
        simp only [ga, gz, gs, Act.put, sa, sz, ss]
        refine wpAnyH_take (i := 4) (v := ?_) rfl (by kernel_rfl) (by kernel_rfl) (by kernel_rfl) (fun _ _ _ h => h) (Or.inl ⟨by rfl, ?_⟩) (by assumption) ?_
        rotate_left
        · intro w h; try dsimp only at h
          first | (go_simp; done) | (go_simp; with_reducible rfl)
        simp only [ga, gz, gs, Act.put, sa, sz, ss]
        refine wpAnyH_take (i := 5) (v := ?_) rfl (by kernel_rfl) (by kernel_rfl) (by kernel_rfl) (fun _ _ _ h => h) (Or.inl ⟨by rfl, ?_⟩) (by assumption) ?_
        rotate_left
        · intro w h; try dsimp only at h
          first | (go_simp; done) | (go_simp; with_reducible rfl)
        simp only [ga, gz, gs, Act.put, sa, sz, ss]
        refine wpAnyH_take (i := 6) (v := ?_) rfl (by kernel_rfl) (by kernel_rfl) (by kernel_rfl) (fun _ _ _ h => h) (Or.inl ⟨by rfl, ?_⟩) (by assumption) ?_
        rotate_left
        · intro w h; try dsimp only at h
          first | (go_simp; done) | (go_simp; with_reducible rfl)
        simp only [ga, gz, gs, Act.put, sa, sz, ss]
        refine wpAnyH_take (i := 7) (v := ?_) rfl (by kernel_rfl) (by kernel_rfl) (by kernel_rfl) (fun _ _ _ h => h) (Or.inl ⟨by rfl, ?_⟩) (by assumption) ?_
        rotate_left
        · intro w h; try dsimp only at h
          first | (go_simp; done) | (go_simp; with_reducible rfl)
        simp only [ga, gz, gs, Act.put, sa, sz, ss]
        refine wpAnyH_take (i := 8) (v := ?_) rfl (by kernel_rfl) (by kernel_rfl) (by kernel_rfl) (fun _ _ _ h => h) (Or.inl ⟨by rfl, ?_⟩) (by assumption) ?_
        rotate_left
        · intro w h; try dsimp only at h
          first | (go_simp; done) | (go_simp; with_reducible rfl)
        simp only [ga, gz, gs, Act.put, sa, sz, ss]
        refine wpAnyH_take (i := 9) (v := ?_) rfl (by kernel_rfl) (by kernel_rfl) (by kernel_rfl) (fun _ _ _ h => h) (Or.inl ⟨by rfl, ?_⟩) (by assumption) ?_
        rotate_left
        · intro w h; try dsimp only at h
          first | (go_simp; done) | (go_simp; with_reducible rfl)
        simp only [ga, gz, gs, Act.put, sa, sz, ss]
        refine wpAnyH_done (by kernel_rfl) ?_ _
        gi_wp2_with fail
        cases ho : (mm == (M : Int)) with
        | true =>
          refine round_drawn (S := fun V' => V'.cell? ⟨w.heap.size, 0, none⟩ = some (.int .i64 lv) ∧ V'.cell? ⟨w.heap.size, 1, none⟩ = some (.slice (some ⟨b1, o1, none⟩) N c1) ∧ V'.cell? ⟨w.heap.size, 2, none⟩ = some (.slice A2 M c2) ∧ V'.cell? ⟨w.heap.size + 1, 0, none⟩ = some (.slice (some ⟨g, 0, none⟩) (m0 + 1) cap) ∧ V'.cell? ⟨g, m0 * 4, none⟩ = some (.int .i64 r0.a) ∧ V'.cell? ⟨g, m0 * 4 + 1, none⟩ = some (.int .i64 r0.b) ∧ V'.cell? ⟨g, m0 * 4 + 2, none⟩ = some (.int .i64 r0.c) ∧ V'.cell? ⟨g, m0 * 4 + 3, none⟩ = some (.slice A00 r0.p.length k00)) (by kernel_rfl) (by kernel_rfl) (by rintro ⟨_, _, h⟩; exact h) (HS8.out _ (Below.refl _ _).drew.drew) (fun hHeld => ?_)
          change wpAnyH _ _ _ _ _ 8 #[false, false, false, false, false, false, false, false] _ _
          refine wpAnyH_take (i := 0) (v := ?_) rfl (by kernel_rfl) (by kernel_rfl) (by kernel_rfl) (fun _ _ _ h => h) (Or.inl ⟨by rfl, ?_⟩) (by assumption) ?_
          rotate_left
          · intro w h; try dsimp only at h
            first | (go_simp; done) | (go_simp; with_reducible rfl)
          simp only [ga, gz, gs, Act.put, sa, sz, ss]
          refine wpAnyH_take (i := 1) (v := ?_) rfl (by kernel_rfl) (by kernel_rfl) (by kernel_rfl) (fun _ _ _ h => h) (Or.inl ⟨by rfl, ?_⟩) (by assumption) ?_
          rotate_left
          · intro w h; try dsimp only at h
            first | (go_simp; done) | (go_simp; with_reducible rfl)
          simp only [ga, gz, gs, Act.put, sa, sz, ss]
          refine wpAnyH_take (i := 2) (v := ?_) rfl (by kernel_rfl) (by kernel_rfl) (by kernel_rfl) (fun _ _ _ h => h) (Or.inl ⟨by rfl, ?_⟩) (by assumption) ?_
          rotate_left
          · intro w h; try dsimp only at h
            first | (go_simp; done) | (go_simp; with_reducible rfl)
          simp only [ga, gz, gs, Act.put, sa, sz, ss]
          refine wpAnyH_take (i := 3) (v := ?_) rfl (by kernel_rfl) (by kernel_rfl) (by kernel_rfl) (fun _ _ _ h => h) (Or.inl ⟨by rfl, ?_⟩) (by assumption) ?_
          rotate_left
          · intro w h; try dsimp only at h
            first | (go_simp; done) | (go_simp; with_reducible rfl)
          simp only [ga, gz, gs, Act.put, sa, sz, ss]
          refine wpAnyH_take (i := 4) (v := ?_) rfl (by kernel_rfl) (by kernel_rfl) (by kernel_rfl) (fun _ _ _ h => h) (Or.inl ⟨by rfl, ?_⟩) (by assumption) ?_
          rotate_left
          · intro w h; try dsimp only at h
            first | (go_simp; done) | (go_simp; with_reducible rfl)
          simp only [ga, gz, gs, Act.put, sa, sz, ss]
          refine wpAnyH_ready (rs := [5]) (by kernel_rfl) (by simp) ?_
          refine AllReadyH.cons rfl (fun K hK => ?_) AllReadyH.nil
          go_simp
          go_at_call 32
          refine (HLAST.out _ (Below.refl _ _).drew.drew).mono ?_
          rintro e w5 ⟨rfl, hb5⟩
          have hB5 : Below W.heap.size W w5 := (Below.refl _ _).drew.drew.trans hb5
          refine hK.out _ _ (HS8.out _ hB5) (fun hHeld => ?_)
          simp only [ga, gz, gs, Act.put, sa, sz, ss]
          refine wpAnyH_ready (rs := [6]) (by kernel_rfl) (by simp) ?_
          refine AllReadyH.cons rfl (fun K hK => ?_) AllReadyH.nil
          go_simp
          go_at_call 53
          refine (HOPEN.out _ (HM.out.below hB5).hb).mono ?_
          rintro e w6 ⟨rfl, hb6'⟩
          rw [ho]
          have hB8 : Below W.heap.size W w5 := hB5
          have hb6 : Below W.heap.size w5 w6 := hb6'.mono hB5.size
          refine hK.out _ _ (HS8.out _ (hB8.trans hb6)) (fun hHeld => ?_)
          simp only [ga, gz, gs, Act.put, sa, sz, ss]
          refine wpAnyH_take (i := 7) (v := ?_) rfl (by kernel_rfl) (by kernel_rfl) (by kernel_rfl) (fun _ _ _ h => h) (Or.inl ⟨by rfl, ?_⟩) (by assumption) ?_
          rotate_left
          · intro w h; try dsimp only at h
            first | (go_simp; done) | (go_simp; with_reducible rfl)
          simp only [ga, gz, gs, Act.put, sa, sz, ss]
          refine wpAnyH_done (by kernel_rfl) ?_ _
          gi_wp2_with fail
          have hy : r0.c = (if opn c (lst r0.p) = true then r0.c else q) := by rw [HO.out, ho]; rfl
          have hMV := HM.out.below (hB8.trans hb6)
          have hMV : Mid lv (.slice (some ⟨b1, o1, none⟩) N c1) (.slice A2 M c2) w W w6 (.slice (some ⟨g, 0, none⟩) (m0 + 1) cap) (D ++ [⟨r0.a, r0.b, r0.c, r0.p⟩]) X := hMV
          have HF0 := Lib.hid (HST.out _ hy)
          have hDm := HDm.out
          clear hy HST HO HLAST HOPEN HS8 HM hB8 hb6 hba h0 h1 h2 hq hA c0 c0a hfr ex00 hX0 hHeld
          generalize w6 = V at *
          obtain ⟨gg, capg, xg, Ag, kg, evg, hgg2, hXg, exg, hIg, d0, d1, d2, d3, hfrg, hog⟩ := hMV.last hDm
          obtain ⟨rfl, rfl⟩ : g = gg ∧ cap = capg := by injection evg with e1 e2 e3; injection e1 with e1; injection e1 with e1; exact ⟨e1, e3⟩
          have d0 : V.cell? ⟨g, m0 * 4, none⟩ = some (.int .i64 r0.a) := d0
          obtain ⟨hq0, hq1, hq2⟩ := three' hMV.hp
          have hbox : V.cell? ⟨w.heap.size + 1, 0, none⟩ = some (.slice (some ⟨g, 0, none⟩) (m0 + 1) cap) := hMV.hv.cell
          have hboxa : ∀ o, (V.alloc o).cell? ⟨w.heap.size + 1, 0, none⟩ = some (.slice (some ⟨g, 0, none⟩) (m0 + 1) cap) := fun o => (hMV.alloc o).hv.cell
          have hRl : (D ++ [(⟨r0.a, r0.b, r0.c, r0.p⟩ : S4)]).length = m0 + 1 := by simp [hDm]
          have hrow : ∀ o, (V.drew.alloc o).ownsRow (w.heap.size + 2) 51 4 (.slice (some ⟨g, 0, none⟩) (m0 + 1) cap) (m0 + 1) (cellsS (D ++ [⟨r0.a, r0.b, r0.c, r0.p⟩]) X) := fun o => by
            have h := (hMV.drew.alloc o).hs.row
            rw [hRl] at h
            exact h
          have hRR : (D ++ [(⟨r0.a, r0.b, r0.c, r0.p⟩ : S4)]).length = m0 + 1 := hRl
          have HRl := Lib.hid hRl
          have HDm2 := Lib.hid hDm
          clear hXg exg hIg d1 d2 d3 hfrg hog evg hDm hRR HDm
          refine normal_mono_fr (fr := ?fr1) (R := fun g3 cap3 w' => Mid lv (.slice (some ⟨b1, o1, none⟩) N c1) (.slice A2 M c2) w W w' (.slice (some ⟨g3, 0, none⟩) (m0 + 1 + 1) cap3) ((D ++ [⟨r0.a, r0.b, r0.c, r0.p⟩]) ++ [⟨q, r0.a, lv, []⟩]) (X ++ [.slice none 0 0])) ?reg1 ?after1
          case reg1 =>
            refine round_drawn (S := fun V' => V'.cell? ⟨w.heap.size, 0, none⟩ = some (.int .i64 lv)) (by kernel_rfl) (by kernel_rfl) (by rintro ⟨_, _, h⟩; exact h) ((three' hMV.hp).1) (fun hHeld => ?_)
            change wpAnyH _ _ _ _ _ 13 #[false, false, false, false, false, false, false, false, false, false, false, false, false] _ _
            refine wpAnyH_take (i := 1) (v := ?_) rfl (by kernel_rfl) (by kernel_rfl) (by kernel_rfl) (fun _ _ _ h => h) (Or.inl ⟨by rfl, ?_⟩) (by assumption) ?_
            rotate_left
            · intro w h; try dsimp only at h
              first | (go_simp; done) | (go_simp; with_reducible rfl)
            simp only [ga, gz, gs, Act.put, sa, sz, ss]
            refine wpAnyH_take (i := 3) (v := ?_) rfl (by kernel_rfl) (by kernel_rfl) (by kernel_rfl) (fun _ _ _ h => h) (Or.inl ⟨by rfl, ?_⟩) (by assumption) ?_
            rotate_left
            · intro w h; try dsimp only at h
              first | (go_simp; done) | (go_simp; with_reducible rfl)
            simp only [ga, gz, gs, Act.put, sa, sz, ss]
            refine wpAnyH_take (i := 7) (v := ?_) rfl (by kernel_rfl) (by kernel_rfl) (by kernel_rfl) (fun _ _ _ h => h) (Or.inl ⟨by rfl, ?_⟩) (by assumption) ?_
            rotate_left
            · intro w h; try dsimp only at h
              first | (go_simp; done) | (go_simp; with_reducible rfl)
            simp only [ga, gz, gs, Act.put, sa, sz, ss]
            refine wpAnyH_take (i := 8) (v := ?_) rfl (by kernel_rfl) (by kernel_rfl) (by kernel_rfl) (fun _ _ _ h => h) (Or.inl ⟨by rfl, ?_⟩) (by assumption) ?_
            rotate_left
            · intro w h; try dsimp only at h
              first | (go_simp; done) | (go_simp; with_reducible rfl)
            simp only [ga, gz, gs, Act.put, sa, sz, ss]
            refine wpAnyH_ready (rs := [0, 2]) (by kernel_rfl) (by simp) ?_
            refine AllReadyH.cons rfl (fun K hK => ?_) (AllReadyH.cons rfl (fun K hK => ?_) AllReadyH.nil)
            · go_simp
              refine hK.out _ _ ((three' hMV.hp).1) (fun hHeld => ?_)
              simp only [ga, gz, gs, Act.put, sa, sz, ss]
              refine wpAnyH_ready (rs := [2]) (by kernel_rfl) (by simp) ?_
              refine AllReadyH.cons rfl (fun K hK => ?_) AllReadyH.nil
              go_simp
              refine hK.out _ _ ((three' hMV.hp).1) (fun hHeld => ?_)
              simp only [ga, gz, gs, Act.put, sa, sz, ss]
              refine wpAnyH_take (i := 4) (v := ?_) rfl (by kernel_rfl) (by kernel_rfl) (by kernel_rfl) (fun _ _ _ h => h) (Or.inl ⟨by rfl, ?_⟩) (by assumption) ?_
              rotate_left
              · intro w h; try dsimp only at h
                first | (go_simp; done) | (go_simp; with_reducible rfl)
              simp only [ga, gz, gs, Act.put, sa, sz, ss]
              refine wpAnyH_take (i := 5) (v := ?_) rfl (by kernel_rfl) (by kernel_rfl) (by kernel_rfl) (fun _ _ _ h => h) (Or.inl ⟨by rfl, ?_⟩) (by assumption) ?_
              rotate_left
              · intro w h; try dsimp only at h
                first | (go_simp; done) | (go_simp; with_reducible rfl)
              simp only [ga, gz, gs, Act.put, sa, sz, ss]
              refine wpAnyH_ready (rs := [6]) (by kernel_rfl) (by simp) ?_
              refine AllReadyH.cons rfl (fun K hK => ?_) AllReadyH.nil
              go_simp
              refine hK.out _ _ ((three' hMV.hp).1) (fun hHeld => ?_)
              simp only [ga, gz, gs, Act.put, sa, sz, ss]
              refine wpAnyH_take (i := 9) (v := ?_) rfl (by kernel_rfl) (by kernel_rfl) (by kernel_rfl) (fun _ _ _ h => h) (Or.inl ⟨by rfl, ?_⟩) (by assumption) ?_
              rotate_left
              · intro w h; try dsimp only at h
                first | (go_simp; done) | (go_simp; with_reducible rfl)
              simp only [ga, gz, gs, Act.put, sa, sz, ss]
              refine wpAnyH_ready (rs := [10]) (by kernel_rfl) (by simp) ?_
              refine AllReadyH.cons rfl (fun K hK => ?_) AllReadyH.nil
              go_simp
              refine hK.out _ _ ((three' (hMV.drew.alloc _).hp).1) (fun hHeld => ?_)
              simp only [ga, gz, gs, Act.put, sa, sz, ss]
              refine wpAnyH_ready (rs := [11]) (by kernel_rfl) (by simp) ?_
              refine AllReadyH.cons rfl (fun K hK => ?_) AllReadyH.nil
              refine step_append_own rfl _ _ 55 rfl (w.heap.size + 2) 51 i0 _ 4 48 Try.underlying55 hi hz0 hz1 hz2 rfl (by decide) _ _ _ rfl (hrow _) ⟨V.heap.size, 0, none⟩ 1 1 (c4 ⟨q, r0.a, lv, []⟩ (.slice none 0 0)) rfl rfl new_cells (fun u hu => by simp [c4] at hu; rcases hu with rfl | rfl | rfl | rfl <;> rfl) (by unfold maxLen; omega) (by omega) (by have := hMV.size; simp; omega) ?_
              intro v' w1 hown' hgrow
              obtain ⟨g3, cap3, rfl⟩ := ownsRow_succ hown'
              obtain ⟨hbx, hp1, hMP⟩ := (hMV.drew.alloc _).pushed ⟨q, r0.a, lv, []⟩ rfl (by rw [hRl]; exact hown') hgrow
              have hbx1 := hbx.cell
              have hbx2 := hbx.frozen
              refine hK.out _ _ ((three' hp1).1) (fun hHeld => ?_)
              simp only [ga, gz, gs, Act.put, sa, sz, ss]
              refine wpAnyH_ready (rs := [12]) (by kernel_rfl) (by simp) ?_
              refine AllReadyH.cons rfl (fun K hK => ?_) AllReadyH.nil
              go_simp
              refine hK.out _ _ ((three' hMP.hp).1) (fun hHeld => ?_)
              simp only [ga, gz, gs, Act.put, sa, sz, ss]
              refine wpAnyH_done (by kernel_rfl) ?_ _
              refine OnlyN.mk ⟨g3, cap3, ?_, hMP⟩
              with_reducible rfl
            · go_simp
              refine hK.out _ _ ((three' hMV.hp).1) (fun hHeld => ?_)
              simp only [ga, gz, gs, Act.put, sa, sz, ss]
              refine wpAnyH_take (i := 4) (v := ?_) rfl (by kernel_rfl) (by kernel_rfl) (by kernel_rfl) (fun _ _ _ h => h) (Or.inl ⟨by rfl, ?_⟩) (by assumption) ?_
              rotate_left
              · intro w h; try dsimp only at h
                first | (go_simp; done) | (go_simp; with_reducible rfl)
              simp only [ga, gz, gs, Act.put, sa, sz, ss]
              refine wpAnyH_take (i := 5) (v := ?_) rfl (by kernel_rfl) (by kernel_rfl) (by kernel_rfl) (fun _ _ _ h => h) (Or.inl ⟨by rfl, ?_⟩) (by assumption) ?_
              rotate_left
              · intro w h; try dsimp only at h
                first | (go_simp; done) | (go_simp; with_reducible rfl)
              simp only [ga, gz, gs, Act.put, sa, sz, ss]
              refine wpAnyH_ready (rs := [0, 6]) (by kernel_rfl) (by simp) ?_
              refine AllReadyH.cons rfl (fun K hK => ?_) (AllReadyH.cons rfl (fun K hK => ?_) AllReadyH.nil)
              · go_simp
                refine hK.out _ _ ((three' hMV.hp).1) (fun hHeld => ?_)
                simp only [ga, gz, gs, Act.put, sa, sz, ss]
                refine wpAnyH_ready (rs := [6]) (by kernel_rfl) (by simp) ?_
                refine AllReadyH.cons rfl (fun K hK => ?_) AllReadyH.nil
                go_simp
                refine hK.out _ _ ((three' hMV.hp).1) (fun hHeld => ?_)
                simp only [ga, gz, gs, Act.put, sa, sz, ss]
                refine wpAnyH_take (i := 9) (v := ?_) rfl (by kernel_rfl) (by kernel_rfl) (by kernel_rfl) (fun _ _ _ h => h) (Or.inl ⟨by rfl, ?_⟩) (by assumption) ?_
                rotate_left
                · intro w h; try dsimp only at h
                  first | (go_simp; done) | (go_simp; with_reducible rfl)
                simp only [ga, gz, gs, Act.put, sa, sz, ss]
                refine wpAnyH_ready (rs := [10]) (by kernel_rfl) (by simp) ?_
                refine AllReadyH.cons rfl (fun K hK => ?_) AllReadyH.nil
                go_simp
                refine hK.out _ _ ((three' (hMV.drew.alloc _).hp).1) (fun hHeld => ?_)
                simp only [ga, gz, gs, Act.put, sa, sz, ss]
                refine wpAnyH_ready (rs := [11]) (by kernel_rfl) (by simp) ?_
                refine AllReadyH.cons rfl (fun K hK => ?_) AllReadyH.nil
                refine step_append_own rfl _ _ 55 rfl (w.heap.size + 2) 51 i0 _ 4 48 Try.underlying55 hi hz0 hz1 hz2 rfl (by decide) _ _ _ rfl (hrow _) ⟨V.heap.size, 0, none⟩ 1 1 (c4 ⟨q, r0.a, lv, []⟩ (.slice none 0 0)) rfl rfl new_cells (fun u hu => by simp [c4] at hu; rcases hu with rfl | rfl | rfl | rfl <;> rfl) (by unfold maxLen; omega) (by omega) (by have := hMV.size; simp; omega) ?_
                intro v' w1 hown' hgrow
                obtain ⟨g3, cap3, rfl⟩ := ownsRow_succ hown'
                obtain ⟨hbx, hp1, hMP⟩ := (hMV.drew.alloc _).pushed ⟨q, r0.a, lv, []⟩ rfl (by rw [hRl]; exact hown') hgrow
                have hbx1 := hbx.cell
                have hbx2 := hbx.frozen
                refine hK.out _ _ ((three' hp1).1) (fun hHeld => ?_)
                simp only [ga, gz, gs, Act.put, sa, sz, ss]
                refine wpAnyH_ready (rs := [12]) (by kernel_rfl) (by simp) ?_
                refine AllReadyH.cons rfl (fun K hK => ?_) AllReadyH.nil
                go_simp
                refine hK.out _ _ ((three' hMP.hp).1) (fun hHeld => ?_)
                simp only [ga, gz, gs, Act.put, sa, sz, ss]
                refine wpAnyH_done (by kernel_rfl) ?_ _
                refine OnlyN.mk ⟨g3, cap3, ?_, hMP⟩
                with_reducible rfl
              · go_simp
                refine hK.out _ _ ((three' hMV.hp).1) (fun hHeld => ?_)
                simp only [ga, gz, gs, Act.put, sa, sz, ss]
                refine wpAnyH_take (i := 9) (v := ?_) rfl (by kernel_rfl) (by kernel_rfl) (by kernel_rfl) (fun _ _ _ h => h) (Or.inl ⟨by rfl, ?_⟩) (by assumption) ?_
                rotate_left
                · intro w h; try dsimp only at h
                  first | (go_simp; done) | (go_simp; with_reducible rfl)
                simp only [ga, gz, gs, Act.put, sa, sz, ss]
                refine wpAnyH_ready (rs := [0, 10]) (by kernel_rfl) (by simp) ?_
                refine AllReadyH.cons rfl (fun K hK => ?_) (AllReadyH.cons rfl (fun K hK => ?_) AllReadyH.nil)
                · go_simp
                  refine hK.out _ _ ((three' hMV.hp).1) (fun hHeld => ?_)
                  simp only [ga, gz, gs, Act.put, sa, sz, ss]
                  refine wpAnyH_ready (rs := [10]) (by kernel_rfl) (by simp) ?_
                  refine AllReadyH.cons rfl (fun K hK => ?_) AllReadyH.nil
                  go_simp
                  refine hK.out _ _ ((three' (hMV.drew.alloc _).hp).1) (fun hHeld => ?_)
                  simp only [ga, gz, gs, Act.put, sa, sz, ss]
                  refine wpAnyH_ready (rs := [11]) (by kernel_rfl) (by simp) ?_
                  refine AllReadyH.cons rfl (fun K hK => ?_) AllReadyH.nil
                  refine step_append_own rfl _ _ 55 rfl (w.heap.size + 2) 51 i0 _ 4 48 Try.underlying55 hi hz0 hz1 hz2 rfl (by decide) _ _ _ rfl (hrow _) ⟨V.heap.size, 0, none⟩ 1 1 (c4 ⟨q, r0.a, lv, []⟩ (.slice none 0 0)) rfl rfl new_cells (fun u hu => by simp [c4] at hu; rcases hu with rfl | rfl | rfl | rfl <;> rfl) (by unfold maxLen; omega) (by omega) (by have := hMV.size; simp; omega) ?_
                  intro v' w1 hown' hgrow
                  obtain ⟨g3, cap3, rfl⟩ := ownsRow_succ hown'
                  obtain ⟨hbx, hp1, hMP⟩ := (hMV.drew.alloc _).pushed ⟨q, r0.a, lv, []⟩ rfl (by rw [hRl]; exact hown') hgrow
                  have hbx1 := hbx.cell
                  have hbx2 := hbx.frozen
                  refine hK.out _ _ ((three' hp1).1) (fun hHeld => ?_)
                  simp only [ga, gz, gs, Act.put, sa, sz, ss]
                  refine wpAnyH_ready (rs := [12]) (by kernel_rfl) (by simp) ?_
                  refine AllReadyH.cons rfl (fun K hK => ?_) AllReadyH.nil
                  go_simp
                  refine hK.out _ _ ((three' hMP.hp).1) (fun hHeld => ?_)
                  simp only [ga, gz, gs, Act.put, sa, sz, ss]
                  refine wpAnyH_done (by kernel_rfl) ?_ _
                  refine OnlyN.mk ⟨g3, cap3, ?_, hMP⟩
                  with_reducible rfl
                · go_simp
                  refine hK.out _ _ ((three' (hMV.drew.alloc _).hp).1) (fun hHeld => ?_)
                  simp only [ga, gz, gs, Act.put, sa, sz, ss]
                  refine wpAnyH_ready (rs := [0]) (by kernel_rfl) (by simp) ?_
                  refine AllReadyH.cons rfl (fun K hK => ?_) AllReadyH.nil
                  go_simp
                  refine hK.out _ _ ((three' (hMV.drew.alloc _).hp).1) (fun hHeld => ?_)
                  simp only [ga, gz, gs, Act.put, sa, sz, ss]
                  refine wpAnyH_ready (rs := [11]) (by kernel_rfl) (by simp) ?_
                  refine AllReadyH.cons rfl (fun K hK => ?_) AllReadyH.nil
                  refine step_append_own rfl _ _ 55 rfl (w.heap.size + 2) 51 i0 _ 4 48 Try.underlying55 hi hz0 hz1 hz2 rfl (by decide) _ _ _ rfl (hrow _) ⟨V.heap.size, 0, none⟩ 1 1 (c4 ⟨q, r0.a, lv, []⟩ (.slice none 0 0)) rfl rfl new_cells (fun u hu => by simp [c4] at hu; rcases hu with rfl | rfl | rfl | rfl <;> rfl) (by unfold maxLen; omega) (by omega) (by have := hMV.size; simp; omega) ?_
                  intro v' w1 hown' hgrow
                  obtain ⟨g3, cap3, rfl⟩ := ownsRow_succ hown'
                  obtain ⟨hbx, hp1, hMP⟩ := (hMV.drew.alloc _).pushed ⟨q, r0.a, lv, []⟩ rfl (by rw [hRl]; exact hown') hgrow
                  have hbx1 := hbx.cell
                  have hbx2 := hbx.frozen
                  refine hK.out _ _ ((three' hp1).1) (fun hHeld => ?_)
                  simp only [ga, gz, gs, Act.put, sa, sz, ss]
                  refine wpAnyH_ready (rs := [12]) (by kernel_rfl) (by simp) ?_
                  refine AllReadyH.cons rfl (fun K hK => ?_) AllReadyH.nil
                  go_simp
                  refine hK.out _ _ ((three' hMP.hp).1) (fun hHeld => ?_)
                  simp only [ga, gz, gs, Act.put, sa, sz, ss]
                  refine wpAnyH_done (by kernel_rfl) ?_ _
                  refine OnlyN.mk ⟨g3, cap3, ?_, hMP⟩
                  with_reducible rfl
          case after1 =>
            rintro g cap w' hMV2
            obtain ⟨m1, hm1⟩ : ∃ m1 : Nat, m1 = m0 + 1 := ⟨_, rfl⟩
            have hcast : (m0 : Int) + 1 = (m1 : Int) := by omega
            have hc9 : w'.cell? ⟨w.heap.size + 1, 0, none⟩ = some (.slice (some ⟨g, 0, none⟩) (m0 + 1 + 1) cap) := hMV2.hv.cell
            rw [← hm1] at hMV2 hc9
            simp only [← hm1, hcast]
            have hm16 : m1 ≤ 1000001 := by omega
            have hw1 : IntKind.i64.wrap ((m1 : Int) + 1 - 1) = (m1 : Int) := by rw [IntKind.wrap_i64]; omega
            have hw2 : IntKind.i64.wrap (m1 : Int) = (m1 : Int) := by rw [IntKind.wrap_i64]; omega
            have hmi : (0 : Int) ≤ (m1 : Int) := by omega
            have hmi2 : (m1 : Int) < (m1 : Int) + 1 := by omega
            have hmi3 : (m1 : Int) < ((m1 + 1 : Nat) : Int) := by omega
            have HDm1 := Lib.hid (HRl.out.trans hm1.symm)
            have HMV := Lib.hid hMV2
            clear hMV hMV2 d0 hq0 hq1 hq2 hbox hboxa hRl hrow hcast HRl HDm2 hm1
            gi_wp2_with fail
            have hMV := HMV.out
            have hDm := HDm1.out
            obtain ⟨r, hr⟩ : ∃ r, r = (⟨q, r0.a, lv, []⟩ : S4) := ⟨_, rfl⟩
            have HF := Lib.hid (show runsTo c z lv (pre ++ [x]) = (D ++ [⟨r0.a, r0.b, r0.c, r0.p⟩]) ++ [⟨r.a, r.b, r.c, r.p ++ [x]⟩] from by rw [hr]; exact HF0.out)
            have hrl : r.p.length ≤ 1000000 := by rw [hr]; simp
            rw [← hr] at hMV
            clear hr hc9 HMV HF0
            generalize w' = V at *
            generalize D ++ [(⟨r0.a, r0.b, r0.c, r0.p⟩ : S4)] = D1 at *
            generalize X ++ [.slice none 0 0] = X1 at *
            obtain ⟨g', cap', x0, A0, k0, ev, hg2, hX, ex0, hI0, c0, c1', c2', c3, hfr, hox⟩ := hMV.last hDm
            obtain ⟨rfl, rfl⟩ : g = g' ∧ cap = cap' := by injection ev with e1 e2 e3; injection e1 with e1; injection e1 with e1; exact ⟨e1, e3⟩
            have c3 : V.cell? ⟨g, m1 * 4 + 3, none⟩ = some x0 := c3
            rw [ex0] at c3
            have c3a : ∀ o, (V.alloc o).cell? ⟨g, m1 * 4 + 3, none⟩ = some (.slice A0 r.p.length k0) := fun o => (World.cell?_alloc_lt V _ _ (World.block_lt_of_cell? V _ c3)).trans c3
            have hbox : V.cell? ⟨w.heap.size + 1, 0, none⟩ = some (.slice (some ⟨g, 0, none⟩) (m1 + 1) cap) := hMV.hv.cell
            refine round_drawn (S := fun V' => V'.cell? ⟨w.heap.size + 1, 0, none⟩ = some (.slice (some ⟨g, 0, none⟩) (m1 + 1) cap)) (by kernel_rfl) (by kernel_rfl) (by rintro ⟨_, _, h⟩; exact h) (hbox) (fun hHeld => ?_)
            change wpAnyH _ _ _ _ _ 13 #[false, false, false, false, false, false, false, false, false, false, false, false, false] _ _
            refine wpAnyH_take (i := 0) (v := ?_) rfl (by kernel_rfl) (by kernel_rfl) (by kernel_rfl) (fun _ _ _ h => h) (Or.inl ⟨by rfl, ?_⟩) (by assumption) ?_
            rotate_left
            · intro w h; try dsimp only at h
              first | (go_simp; done) | (go_simp; with_reducible rfl)
            simp only [ga, gz, gs, Act.put, sa, sz, ss]
            refine wpAnyH_take (i := 1) (v := ?_) rfl (by kernel_rfl) (by kernel_rfl) (by kernel_rfl) (fun _ _ _ h => h) (Or.inl ⟨by rfl, ?_⟩) (by assumption) ?_
            rotate_left
            · intro w h; try dsimp only at h
              first | (go_simp; done) | (go_simp; with_reducible rfl)
            simp only [ga, gz, gs, Act.put, sa, sz, ss]
            refine wpAnyH_take (i := 2) (v := ?_) rfl (by kernel_rfl) (by kernel_rfl) (by kernel_rfl) (fun _ _ _ h => h) (Or.inl ⟨by rfl, ?_⟩) (by assumption) ?_
            rotate_left
            · intro w h; try dsimp only at h
              first | (go_simp; done) | (go_simp; with_reducible rfl)
            simp only [ga, gz, gs, Act.put, sa, sz, ss]
            refine wpAnyH_take (i := 3) (v := ?_) rfl (by kernel_rfl) (by kernel_rfl) (by kernel_rfl) (fun _ _ _ h => h) (Or.inl ⟨by rfl, ?_⟩) (by assumption) ?_
            rotate_left
            · intro w h; try dsimp only at h
              first | (go_simp; done) | (go_simp; with_reducible rfl)
            simp only [ga, gz, gs, Act.put, sa, sz, ss]
            refine wpAnyH_take (i := 4) (v := ?_) rfl (by kernel_rfl) (by kernel_rfl) (by kernel_rfl) (fun _ _ _ h => h) (Or.inl ⟨by rfl, ?_⟩) (by assumption) ?_
            rotate_left
            · intro w h; try dsimp only at h
              first | (go_simp; done) | (go_simp; with_reducible rfl)
            simp only [ga, gz, gs, Act.put, sa, sz, ss]
            refine wpAnyH_take (i := 5) (v := ?_) rfl (by kernel_rfl) (by kernel_rfl) (by kernel_rfl) (fun _ _ _ h => h) (Or.inl ⟨by rfl, ?_⟩) (by assumption) ?_
            rotate_left
            · intro w h; try dsimp only at h
              first | (go_simp; done) | (go_simp; with_reducible rfl)
            simp only [ga, gz, gs, Act.put, sa, sz, ss]
            refine wpAnyH_take (i := 7) (v := ?_) rfl (by kernel_rfl) (by kernel_rfl) (by kernel_rfl) (fun _ _ _ h => h) (Or.inl ⟨by rfl, ?_⟩) (by assumption) ?_
            rotate_left
            · intro w h; try dsimp only at h
              first | (go_simp; done) | (go_simp; with_reducible rfl)
            simp only [ga, gz, gs, Act.put, sa, sz, ss]
            refine wpAnyH_ready (rs := [6, 8]) (by kernel_rfl) (by simp) ?_
            refine AllReadyH.cons rfl (fun K hK => ?_) (AllReadyH.cons rfl (fun K hK => ?_) AllReadyH.nil)
            · go_simp
              refine hK.out _ _ (hMV.drew.hv.cell) (fun hHeld => ?_)
              simp only [ga, gz, gs, Act.put, sa, sz, ss]
              refine wpAnyH_ready (rs := [8]) (by kernel_rfl) (by simp) ?_
              refine AllReadyH.cons rfl (fun K hK => ?_) AllReadyH.nil
              go_simp
              refine hK.out _ _ ((hMV.drew.alloc _).hv.cell) (fun hHeld => ?_)
              simp only [ga, gz, gs, Act.put, sa, sz, ss]
              refine wpAnyH_ready (rs := [9]) (by kernel_rfl) (by simp) ?_
              refine AllReadyH.cons rfl (fun K hK => ?_) AllReadyH.nil
              refine step_one rfl _ _ rfl (w.heap.size + 2) x0 _ (ns r.p) (x : Int) (by rw [ex0]; rfl) ⟨V.heap.size, 0, none⟩ rfl ((hMV.drew.alloc _).rowOf hDm hX) (cell_new1 _ _ _) (by rfl) (by omega) (by have := hMV.size; simp; omega) ?_
              intro v' w2 ho' hg' hw'
              obtain ⟨d1, d2, d3, hMF⟩ := (hMV.drew.alloc _).placed hDm hX x ho' hg' hw'
              have d1 : w2.cell? ⟨g, m1 * 4 + 3, none⟩ = some x0 := d1
              have d2 : w2.frozen? ⟨g, m1 * 4 + 3, none⟩ = false := d2
              rw [ex0] at d1
              obtain ⟨g2, cap2, rfl⟩ := ownsRow_succ ho'
              refine hK.out _ _ (d3) (fun hHeld => ?_)
              simp only [ga, gz, gs, Act.put, sa, sz, ss]
              refine wpAnyH_take (i := 10) (v := ?_) rfl (by kernel_rfl) (by kernel_rfl) (by kernel_rfl) (fun _ _ _ h => h) (Or.inl ⟨by rfl, ?_⟩) (by assumption) ?_
              rotate_left
              · intro w h; try dsimp only at h
                first | (go_simp; done) | (go_simp; with_reducible rfl)
              simp only [ga, gz, gs, Act.put, sa, sz, ss]
              refine wpAnyH_take (i := 11) (v := ?_) rfl (by kernel_rfl) (by kernel_rfl) (by kernel_rfl) (fun _ _ _ h => h) (Or.inl ⟨by rfl, ?_⟩) (by assumption) ?_
              rotate_left
              · intro w h; try dsimp only at h
                first | (go_simp; done) | (go_simp; with_reducible rfl)
              simp only [ga, gz, gs, Act.put, sa, sz, ss]
              refine wpAnyH_ready (rs := [12]) (by kernel_rfl) (by simp) ?_
              refine AllReadyH.cons rfl (fun K hK => ?_) AllReadyH.nil
              go_simp
              refine hK.out _ _ (hMF.hv.cell) (fun hHeld => ?_)
              simp only [ga, gz, gs, Act.put, sa, sz, ss]
              refine wpAnyH_done (by kernel_rfl) ?_ _
              gi_wp2_with fail
              exact ⟨by first | exact hMF.kf | (rw [hsL]; exact hMF.kf), hMF.bw, _, _, hMF.hv, hMF.hp, by rw [HF.out]; exact hMF.hs, hMF.hb⟩
            · go_simp
              refine hK.out _ _ ((hMV.drew.alloc _).hv.cell) (fun hHeld => ?_)
              simp only [ga, gz, gs, Act.put, sa, sz, ss]
              have c3b := c3a (Obj.cells #[.int .i64 (x : Int)] 3)
              refine wpAnyH_ready (rs := [6]) (by kernel_rfl) (by simp) ?_
              refine AllReadyH.cons rfl (fun K hK => ?_) AllReadyH.nil
              go_simp
              refine hK.out _ _ ((hMV.drew.alloc _).hv.cell) (fun hHeld => ?_)
              simp only [ga, gz, gs, Act.put, sa, sz, ss]
              refine wpAnyH_ready (rs := [9]) (by kernel_rfl) (by simp) ?_
              refine AllReadyH.cons rfl (fun K hK => ?_) AllReadyH.nil
              refine step_one rfl _ _ rfl (w.heap.size + 2) x0 _ (ns r.p) (x : Int) (by rw [ex0]; rfl) ⟨V.heap.size, 0, none⟩ rfl ((hMV.drew.alloc _).rowOf hDm hX) (cell_new1 _ _ _) (by rfl) (by omega) (by have := hMV.size; simp; omega) ?_
              intro v' w2 ho' hg' hw'
              obtain ⟨d1, d2, d3, hMF⟩ := (hMV.drew.alloc _).placed hDm hX x ho' hg' hw'
              have d1 : w2.cell? ⟨g, m1 * 4 + 3, none⟩ = some x0 := d1
              have d2 : w2.frozen? ⟨g, m1 * 4 + 3, none⟩ = false := d2
              rw [ex0] at d1
              obtain ⟨g2, cap2, rfl⟩ := ownsRow_succ ho'
              refine hK.out _ _ (d3) (fun hHeld => ?_)
              simp only [ga, gz, gs, Act.put, sa, sz, ss]
              refine wpAnyH_take (i := 10) (v := ?_) rfl (by kernel_rfl) (by kernel_rfl) (by kernel_rfl) (fun _ _ _ h => h) (Or.inl ⟨by rfl, ?_⟩) (by assumption) ?_
              rotate_left
              · intro w h; try dsimp only at h
                first | (go_simp; done) | (go_simp; with_reducible rfl)
              simp only [ga, gz, gs, Act.put, sa, sz, ss]
              refine wpAnyH_take (i := 11) (v := ?_) rfl (by kernel_rfl) (by kernel_rfl) (by kernel_rfl) (fun _ _ _ h => h) (Or.inl ⟨by rfl, ?_⟩) (by assumption) ?_
              rotate_left
              · intro w h; try dsimp only at h
                first | (go_simp; done) | (go_simp; with_reducible rfl)
              simp only [ga, gz, gs, Act.put, sa, sz, ss]
              refine wpAnyH_ready (rs := [12]) (by kernel_rfl) (by simp) ?_
              refine AllReadyH.cons rfl (fun K hK => ?_) AllReadyH.nil
              go_simp
              refine hK.out _ _ (hMF.hv.cell) (fun hHeld => ?_)
              simp only [ga, gz, gs, Act.put, sa, sz, ss]
              refine wpAnyH_done (by kernel_rfl) ?_ _
              gi_wp2_with fail
              exact ⟨by first | exact hMF.kf | (rw [hsL]; exact hMF.kf), hMF.bw, _, _, hMF.hv, hMF.hp, by rw [HF.out]; exact hMF.hs, hMF.hb⟩
        | false =>
          refine round_drawn (S := fun V' => V'.cell? ⟨w.heap.size, 0, none⟩ = some (.int .i64 lv) ∧ V'.cell? ⟨w.heap.size, 1, none⟩ = some (.slice (some ⟨b1, o1, none⟩) N c1) ∧ V'.cell? ⟨w.heap.size, 2, none⟩ = some (.slice A2 M c2) ∧ V'.cell? ⟨w.heap.size + 1, 0, none⟩ = some (.slice (some ⟨g, 0, none⟩) (m0 + 1) cap) ∧ V'.cell? ⟨g, m0 * 4, none⟩ = some (.int .i64 r0.a) ∧ V'.cell? ⟨g, m0 * 4 + 1, none⟩ = some (.int .i64 r0.b) ∧ V'.cell? ⟨g, m0 * 4 + 2, none⟩ = some (.int .i64 r0.c) ∧ V'.cell? ⟨g, m0 * 4 + 3, none⟩ = some (.slice A00 r0.p.length k00)) (by kernel_rfl) (by kernel_rfl) (by rintro ⟨_, _, h⟩; exact h) (HS8.out _ (Below.refl _ _).drew.drew) (fun hHeld => ?_)
          change wpAnyH _ _ _ _ _ 8 #[false, false, false, false, false, false, false, false] _ _
          refine wpAnyH_take (i := 0) (v := ?_) rfl (by kernel_rfl) (by kernel_rfl) (by kernel_rfl) (fun _ _ _ h => h) (Or.inl ⟨by rfl, ?_⟩) (by assumption) ?_
          rotate_left
          · intro w h; try dsimp only at h
            first | (go_simp; done) | (go_simp; with_reducible rfl)
          simp only [ga, gz, gs, Act.put, sa, sz, ss]
          refine wpAnyH_take (i := 1) (v := ?_) rfl (by kernel_rfl) (by kernel_rfl) (by kernel_rfl) (fun _ _ _ h => h) (Or.inl ⟨by rfl, ?_⟩) (by assumption) ?_
          rotate_left
          · intro w h; try dsimp only at h
            first | (go_simp; done) | (go_simp; with_reducible rfl)
          simp only [ga, gz, gs, Act.put, sa, sz, ss]
          refine wpAnyH_take (i := 2) (v := ?_) rfl (by kernel_rfl) (by kernel_rfl) (by kernel_rfl) (fun _ _ _ h => h) (Or.inl ⟨by rfl, ?_⟩) (by assumption) ?_
          rotate_left
          · intro w h; try dsimp only at h
            first | (go_simp; done) | (go_simp; with_reducible rfl)
          simp only [ga, gz, gs, Act.put, sa, sz, ss]
          refine wpAnyH_take (i := 3) (v := ?_) rfl (by kernel_rfl) (by kernel_rfl) (by kernel_rfl) (fun _ _ _ h => h) (Or.inl ⟨by rfl, ?_⟩) (by assumption) ?_
          rotate_left
          · intro w h; try dsimp only at h
            first | (go_simp; done) | (go_simp; with_reducible rfl)
          simp only [ga, gz, gs, Act.put, sa, sz, ss]
          refine wpAnyH_take (i := 4) (v := ?_) rfl (by kernel_rfl) (by kernel_rfl) (by kernel_rfl) (fun _ _ _ h => h) (Or.inl ⟨by rfl, ?_⟩) (by assumption) ?_
          rotate_left
          · intro w h; try dsimp only at h
            first | (go_simp; done) | (go_simp; with_reducible rfl)
          simp only [ga, gz, gs, Act.put, sa, sz, ss]
          refine wpAnyH_ready (rs := [5]) (by kernel_rfl) (by simp) ?_
          refine AllReadyH.cons rfl (fun K hK => ?_) AllReadyH.nil
          go_simp
          go_at_call 32
          refine (HLAST.out _ (Below.refl _ _).drew.drew).mono ?_
          rintro e w5 ⟨rfl, hb5⟩
          have hB5 : Below W.heap.size W w5 := (Below.refl _ _).drew.drew.trans hb5
          refine hK.out _ _ (HS8.out _ hB5) (fun hHeld => ?_)
          simp only [ga, gz, gs, Act.put, sa, sz, ss]
          refine wpAnyH_ready (rs := [6]) (by kernel_rfl) (by simp) ?_
          refine AllReadyH.cons rfl (fun K hK => ?_) AllReadyH.nil
          go_simp
          go_at_call 53
          refine (HOPEN.out _ (HM.out.below hB5).hb).mono ?_
          rintro e w6 ⟨rfl, hb6'⟩
          rw [ho]
          have hB8 : Below W.heap.size W w5 := hB5
          have hb6 : Below W.heap.size w5 w6 := hb6'.mono hB5.size
          refine hK.out _ _ (HS8.out _ (hB8.trans hb6)) (fun hHeld => ?_)
          simp only [ga, gz, gs, Act.put, sa, sz, ss]
          refine wpAnyH_take (i := 7) (v := ?_) rfl (by kernel_rfl) (by kernel_rfl) (by kernel_rfl) (fun _ _ _ h => h) (Or.inl ⟨by rfl, ?_⟩) (by assumption) ?_
          rotate_left
          · intro w h; try dsimp only at h
            first | (go_simp; done) | (go_simp; with_reducible rfl)
          simp only [ga, gz, gs, Act.put, sa, sz, ss]
          refine wpAnyH_done (by kernel_rfl) ?_ _
          have hMW := HM.out.below (hB8.trans hb6)
          obtain ⟨h80, h81, h82, h8b, e0, e1', e2', e3'⟩ := HS8.out _ (hB8.trans hb6)
          have hf6 : w6.frozen? ⟨g, m0 * 4 + 2, none⟩ = false := by
            obtain ⟨g', cap', x', A', k', ev6, h6⟩ := hMW.last HDm.out
            injection ev6 with e1 e2 e3
            injection e1 with e1
            injection e1 with e1
            subst e1
            exact h6.2.2.2.2.2.2.2.2.1 _
          gi_wp2_with fail
          have hy : q = (if opn c (lst r0.p) = true then r0.c else q) := by rw [HO.out, ho]; rfl
          have hMV := hMW.setc HDm.out q
          have HF0 := Lib.hid (HST.out _ hy)
          have hDm := HDm.out
          clear hMW h80 h81 h82 h8b e0 e1' e2' e3' hf6
          clear hy HST HO HLAST HOPEN HS8 HM hB8 hb6 hba h0 h1 h2 hq hA c0 c0a hfr ex00 hX0 hHeld
          generalize w6.setCell ⟨g, m0 * 4 + 2, none⟩ (.int .i64 q) = V at *
          obtain ⟨gg, capg, xg, Ag, kg, evg, hgg2, hXg, exg, hIg, d0, d1, d2, d3, hfrg, hog⟩ := hMV.last hDm
          obtain ⟨rfl, rfl⟩ : g = gg ∧ cap = capg := by injection evg with e1 e2 e3; injection e1 with e1; injection e1 with e1; exact ⟨e1, e3⟩
          have d0 : V.cell? ⟨g, m0 * 4, none⟩ = some (.int .i64 r0.a) := d0
          obtain ⟨hq0, hq1, hq2⟩ := three' hMV.hp
          have hbox : V.cell? ⟨w.heap.size + 1, 0, none⟩ = some (.slice (some ⟨g, 0, none⟩) (m0 + 1) cap) := hMV.hv.cell
          have hboxa : ∀ o, (V.alloc o).cell? ⟨w.heap.size + 1, 0, none⟩ = some (.slice (some ⟨g, 0, none⟩) (m0 + 1) cap) := fun o => (hMV.alloc o).hv.cell
          have hRl : (D ++ [(⟨r0.a, r0.b, q, r0.p⟩ : S4)]).length = m0 + 1 := by simp [hDm]
          have hrow : ∀ o, (V.drew.alloc o).ownsRow (w.heap.size + 2) 51 4 (.slice (some ⟨g, 0, none⟩) (m0 + 1) cap) (m0 + 1) (cellsS (D ++ [⟨r0.a, r0.b, q, r0.p⟩]) X) := fun o => by
            have h := (hMV.drew.alloc o).hs.row
            rw [hRl] at h
            exact h
          have hRR : (D ++ [(⟨r0.a, r0.b, q, r0.p⟩ : S4)]).length = m0 + 1 := hRl
          have HRl := Lib.hid hRl
          have HDm2 := Lib.hid hDm
          clear hXg exg hIg d1 d2 d3 hfrg hog evg hDm hRR HDm
          refine normal_mono_fr (fr := ?fr2) (R := fun g3 cap3 w' => Mid lv (.slice (some ⟨b1, o1, none⟩) N c1) (.slice A2 M c2) w W w' (.slice (some ⟨g3, 0, none⟩) (m0 + 1 + 1) cap3) ((D ++ [⟨r0.a, r0.b, q, r0.p⟩]) ++ [⟨q, r0.a, lv, []⟩]) (X ++ [.slice none 0 0])) ?reg2 ?after2
          case reg2 =>
            refine round_drawn (S := fun V' => V'.cell? ⟨w.heap.size, 0, none⟩ = some (.int .i64 lv)) (by kernel_rfl) (by kernel_rfl) (by rintro ⟨_, _, h⟩; exact h) ((three' hMV.hp).1) (fun hHeld => ?_)
            change wpAnyH _ _ _ _ _ 13 #[false, false, false, false, false, false, false, false, false, false, false, false, false] _ _
            refine wpAnyH_take (i := 1) (v := ?_) rfl (by kernel_rfl) (by kernel_rfl) (by kernel_rfl) (fun _ _ _ h => h) (Or.inl ⟨by rfl, ?_⟩) (by assumption) ?_
            rotate_left
            · intro w h; try dsimp only at h
              first | (go_simp; done) | (go_simp; with_reducible rfl)
            simp only [ga, gz, gs, Act.put, sa, sz, ss]
            refine wpAnyH_take (i := 3) (v := ?_) rfl (by kernel_rfl) (by kernel_rfl) (by kernel_rfl) (fun _ _ _ h => h) (Or.inl ⟨by rfl, ?_⟩) (by assumption) ?_
            rotate_left
            · intro w h; try dsimp only at h
              first | (go_simp; done) | (go_simp; with_reducible rfl)
            simp only [ga, gz, gs, Act.put, sa, sz, ss]
            refine wpAnyH_take (i := 7) (v := ?_) rfl (by kernel_rfl) (by kernel_rfl) (by kernel_rfl) (fun _ _ _ h => h) (Or.inl ⟨by rfl, ?_⟩) (by assumption) ?_
            rotate_left
            · intro w h; try dsimp only at h
              first | (go_simp; done) | (go_simp; with_reducible rfl)
            simp only [ga, gz, gs, Act.put, sa, sz, ss]
            refine wpAnyH_take (i := 8) (v := ?_) rfl (by kernel_rfl) (by kernel_rfl) (by kernel_rfl) (fun _ _ _ h => h) (Or.inl ⟨by rfl, ?_⟩) (by assumption) ?_
            rotate_left
            · intro w h; try dsimp only at h
              first | (go_simp; done) | (go_simp; with_reducible rfl)
            simp only [ga, gz, gs, Act.put, sa, sz, ss]
            refine wpAnyH_ready (rs := [0, 2]) (by kernel_rfl) (by simp) ?_
            refine AllReadyH.cons rfl (fun K hK => ?_) (AllReadyH.cons rfl (fun K hK => ?_) AllReadyH.nil)
            · go_simp
              refine hK.out _ _ ((three' hMV.hp).1) (fun hHeld => ?_)
              simp only [ga, gz, gs, Act.put, sa, sz, ss]
              refine wpAnyH_ready (rs := [2]) (by kernel_rfl) (by simp) ?_
              refine AllReadyH.cons rfl (fun K hK => ?_) AllReadyH.nil
              go_simp
              refine hK.out _ _ ((three' hMV.hp).1) (fun hHeld => ?_)
              simp only [ga, gz, gs, Act.put, sa, sz, ss]
              refine wpAnyH_take (i := 4) (v := ?_) rfl (by kernel_rfl) (by kernel_rfl) (by kernel_rfl) (fun _ _ _ h => h) (Or.inl ⟨by rfl, ?_⟩) (by assumption) ?_
              rotate_left
              · intro w h; try dsimp only at h
                first | (go_simp; done) | (go_simp; with_reducible rfl)
              simp only [ga, gz, gs, Act.put, sa, sz, ss]
              refine wpAnyH_take (i := 5) (v := ?_) rfl (by kernel_rfl) (by kernel_rfl) (by kernel_rfl) (fun _ _ _ h => h) (Or.inl ⟨by rfl, ?_⟩) (by assumption) ?_
              rotate_left
              · intro w h; try dsimp only at h
                first | (go_simp; done) | (go_simp; with_reducible rfl)
              simp only [ga, gz, gs, Act.put, sa, sz, ss]
              refine wpAnyH_ready (rs := [6]) (by kernel_rfl) (by simp) ?_
              refine AllReadyH.cons rfl (fun K hK => ?_) AllReadyH.nil
              go_simp
              refine hK.out _ _ ((three' hMV.hp).1) (fun hHeld => ?_)
              simp only [ga, gz, gs, Act.put, sa, sz, ss]
              refine wpAnyH_take (i := 9) (v := ?_) rfl (by kernel_rfl) (by kernel_rfl) (by kernel_rfl) (fun _ _ _ h => h) (Or.inl ⟨by rfl, ?_⟩) (by assumption) ?_
              rotate_left
              · intro w h; try dsimp only at h
                first | (go_simp; done) | (go_simp; with_reducible rfl)
              simp only [ga, gz, gs, Act.put, sa, sz, ss]
              refine wpAnyH_ready (rs := [10]) (by kernel_rfl) (by simp) ?_
              refine AllReadyH.cons rfl (fun K hK => ?_) AllReadyH.nil
              go_simp
              refine hK.out _ _ ((three' (hMV.drew.alloc _).hp).1) (fun hHeld => ?_)
              simp only [ga, gz, gs, Act.put, sa, sz, ss]
              refine wpAnyH_ready (rs := [11]) (by kernel_rfl) (by simp) ?_
              refine AllReadyH.cons rfl (fun K hK => ?_) AllReadyH.nil
              refine step_append_own rfl _ _ 55 rfl (w.heap.size + 2) 51 i0 _ 4 48 Try.underlying55 hi hz0 hz1 hz2 rfl (by decide) _ _ _ rfl (hrow _) ⟨V.heap.size, 0, none⟩ 1 1 (c4 ⟨q, r0.a, lv, []⟩ (.slice none 0 0)) rfl rfl new_cells (fun u hu => by simp [c4] at hu; rcases hu with rfl | rfl | rfl | rfl <;> rfl) (by unfold maxLen; omega) (by omega) (by have := hMV.size; simp; omega) ?_
              intro v' w1 hown' hgrow
              obtain ⟨g3, cap3, rfl⟩ := ownsRow_succ hown'
              obtain ⟨hbx, hp1, hMP⟩ := (hMV.drew.alloc _).pushed ⟨q, r0.a, lv, []⟩ rfl (by rw [hRl]; exact hown') hgrow
              have hbx1 := hbx.cell
              have hbx2 := hbx.frozen
              refine hK.out _ _ ((three' hp1).1) (fun hHeld => ?_)
              simp only [ga, gz, gs, Act.put, sa, sz, ss]
              refine wpAnyH_ready (rs := [12]) (by kernel_rfl) (by simp) ?_
              refine AllReadyH.cons rfl (fun K hK => ?_) AllReadyH.nil
              go_simp
              refine hK.out _ _ ((three' hMP.hp).1) (fun hHeld => ?_)
              simp only [ga, gz, gs, Act.put, sa, sz, ss]
              refine wpAnyH_done (by kernel_rfl) ?_ _
              refine OnlyN.mk ⟨g3, cap3, ?_, hMP⟩
              with_reducible rfl
            · go_simp
              refine hK.out _ _ ((three' hMV.hp).1) (fun hHeld => ?_)
              simp only [ga, gz, gs, Act.put, sa, sz, ss]
              refine wpAnyH_take (i := 4) (v := ?_) rfl (by kernel_rfl) (by kernel_rfl) (by kernel_rfl) (fun _ _ _ h => h) (Or.inl ⟨by rfl, ?_⟩) (by assumption) ?_
              rotate_left
              · intro w h; try dsimp only at h
                first | (go_simp; done) | (go_simp; with_reducible rfl)
              simp only [ga, gz, gs, Act.put, sa, sz, ss]
              refine wpAnyH_take (i := 5) (v := ?_) rfl (by kernel_rfl) (by kernel_rfl) (by kernel_rfl) (fun _ _ _ h => h) (Or.inl ⟨by rfl, ?_⟩) (by assumption) ?_
              rotate_left
              · intro w h; try dsimp only at h
                first | (go_simp; done) | (go_simp; with_reducible rfl)
              simp only [ga, gz, gs, Act.put, sa, sz, ss]
              refine wpAnyH_ready (rs := [0, 6]) (by kernel_rfl) (by simp) ?_
              refine AllReadyH.cons rfl (fun K hK => ?_) (AllReadyH.cons rfl (fun K hK => ?_) AllReadyH.nil)
              · go_simp
                refine hK.out _ _ ((three' hMV.hp).1) (fun hHeld => ?_)
                simp only [ga, gz, gs, Act.put, sa, sz, ss]
                refine wpAnyH_ready (rs := [6]) (by kernel_rfl) (by simp) ?_
                refine AllReadyH.cons rfl (fun K hK => ?_) AllReadyH.nil
                go_simp
                refine hK.out _ _ ((three' hMV.hp).1) (fun hHeld => ?_)
                simp only [ga, gz, gs, Act.put, sa, sz, ss]
                refine wpAnyH_take (i := 9) (v := ?_) rfl (by kernel_rfl) (by kernel_rfl) (by kernel_rfl) (fun _ _ _ h => h) (Or.inl ⟨by rfl, ?_⟩) (by assumption) ?_
                rotate_left
                · intro w h; try dsimp only at h
                  first | (go_simp; done) | (go_simp; with_reducible rfl)
                simp only [ga, gz, gs, Act.put, sa, sz, ss]
                refine wpAnyH_ready (rs := [10]) (by kernel_rfl) (by simp) ?_
                refine AllReadyH.cons rfl (fun K hK => ?_) AllReadyH.nil
                go_simp
                refine hK.out _ _ ((three' (hMV.drew.alloc _).hp).1) (fun hHeld => ?_)
                simp only [ga, gz, gs, Act.put, sa, sz, ss]
                refine wpAnyH_ready (rs := [11]) (by kernel_rfl) (by simp) ?_
                refine AllReadyH.cons rfl (fun K hK => ?_) AllReadyH.nil
                refine step_append_own rfl _ _ 55 rfl (w.heap.size + 2) 51 i0 _ 4 48 Try.underlying55 hi hz0 hz1 hz2 rfl (by decide) _ _ _ rfl (hrow _) ⟨V.heap.size, 0, none⟩ 1 1 (c4 ⟨q, r0.a, lv, []⟩ (.slice none 0 0)) rfl rfl new_cells (fun u hu => by simp [c4] at hu; rcases hu with rfl | rfl | rfl | rfl <;> rfl) (by unfold maxLen; omega) (by omega) (by have := hMV.size; simp; omega) ?_
                intro v' w1 hown' hgrow
                obtain ⟨g3, cap3, rfl⟩ := ownsRow_succ hown'
                obtain ⟨hbx, hp1, hMP⟩ := (hMV.drew.alloc _).pushed ⟨q, r0.a, lv, []⟩ rfl (by rw [hRl]; exact hown') hgrow
                have hbx1 := hbx.cell
                have hbx2 := hbx.frozen
                refine hK.out _ _ ((three' hp1).1) (fun hHeld => ?_)
                simp only [ga, gz, gs, Act.put, sa, sz, ss]
                refine wpAnyH_ready (rs := [12]) (by kernel_rfl) (by simp) ?_
                refine AllReadyH.cons rfl (fun K hK => ?_) AllReadyH.nil
                go_simp
                refine hK.out _ _ ((three' hMP.hp).1) (fun hHeld => ?_)
                simp only [ga, gz, gs, Act.put, sa, sz, ss]
                refine wpAnyH_done (by kernel_rfl) ?_ _
                refine OnlyN.mk ⟨g3, cap3, ?_, hMP⟩
                with_reducible rfl
              · go_simp
                refine hK.out _ _ ((three' hMV.hp).1) (fun hHeld => ?_)
                simp only [ga, gz, gs, Act.put, sa, sz, ss]
                refine wpAnyH_take (i := 9) (v := ?_) rfl (by kernel_rfl) (by kernel_rfl) (by kernel_rfl) (fun _ _ _ h => h) (Or.inl ⟨by rfl, ?_⟩) (by assumption) ?_
                rotate_left
                · intro w h; try dsimp only at h
                  first | (go_simp; done) | (go_simp; with_reducible rfl)
                simp only [ga, gz, gs, Act.put, sa, sz, ss]
                refine wpAnyH_ready (rs := [0, 10]) (by kernel_rfl) (by simp) ?_
                refine AllReadyH.cons rfl (fun K hK => ?_) (AllReadyH.cons rfl (fun K hK => ?_) AllReadyH.nil)
                · go_simp
                  refine hK.out _ _ ((three' hMV.hp).1) (fun hHeld => ?_)
                  simp only [ga, gz, gs, Act.put, sa, sz, ss]
                  refine wpAnyH_ready (rs := [10]) (by kernel_rfl) (by simp) ?_
                  refine AllReadyH.cons rfl (fun K hK => ?_) AllReadyH.nil
                  go_simp
                  refine hK.out _ _ ((three' (hMV.drew.alloc _).hp).1) (fun hHeld => ?_)
                  simp only [ga, gz, gs, Act.put, sa, sz, ss]
                  refine wpAnyH_ready (rs := [11]) (by kernel_rfl) (by simp) ?_
                  refine AllReadyH.cons rfl (fun K hK => ?_) AllReadyH.nil
                  refine step_append_own rfl _ _ 55 rfl (w.heap.size + 2) 51 i0 _ 4 48 Try.underlying55 hi hz0 hz1 hz2 rfl (by decide) _ _ _ rfl (hrow _) ⟨V.heap.size, 0, none⟩ 1 1 (c4 ⟨q, r0.a, lv, []⟩ (.slice none 0 0)) rfl rfl new_cells (fun u hu => by simp [c4] at hu; rcases hu with rfl | rfl | rfl | rfl <;> rfl) (by unfold maxLen; omega) (by omega) (by have := hMV.size; simp; omega) ?_
                  intro v' w1 hown' hgrow
                  obtain ⟨g3, cap3, rfl⟩ := ownsRow_succ hown'
                  obtain ⟨hbx, hp1, hMP⟩ := (hMV.drew.alloc _).pushed ⟨q, r0.a, lv, []⟩ rfl (by rw [hRl]; exact hown') hgrow
                  have hbx1 := hbx.cell
                  have hbx2 := hbx.frozen
                  refine hK.out _ _ ((three' hp1).1) (fun hHeld => ?_)
                  simp only [ga, gz, gs, Act.put, sa, sz, ss]
                  refine wpAnyH_ready (rs := [12]) (by kernel_rfl) (by simp) ?_
                  refine AllReadyH.cons rfl (fun K hK => ?_) AllReadyH.nil
                  go_simp
                  refine hK.out _ _ ((three' hMP.hp).1) (fun hHeld => ?_)
                  simp only [ga, gz, gs, Act.put, sa, sz, ss]
                  refine wpAnyH_done (by kernel_rfl) ?_ _
                  refine OnlyN.mk ⟨g3, cap3, ?_, hMP⟩
                  with_reducible rfl
                · go_simp
                  refine hK.out _ _ ((three' (hMV.drew.alloc _).hp).1) (fun hHeld => ?_)
                  simp only [ga, gz, gs, Act.put, sa, sz, ss]
                  refine wpAnyH_ready (rs := [0]) (by kernel_rfl) (by simp) ?_
                  refine AllReadyH.cons rfl (fun K hK => ?_) AllReadyH.nil
                  go_simp
                  refine hK.out _ _ ((three' (hMV.drew.alloc _).hp).1) (fun hHeld => ?_)
                  simp only [ga, gz, gs, Act.put, sa, sz, ss]
                  refine wpAnyH_ready (rs := [11]) (by kernel_rfl) (by simp) ?_
                  refine AllReadyH.cons rfl (fun K hK => ?_) AllReadyH.nil
                  refine step_append_own rfl _ _ 55 rfl (w.heap.size + 2) 51 i0 _ 4 48 Try.underlying55 hi hz0 hz1 hz2 rfl (by decide) _ _ _ rfl (hrow _) ⟨V.heap.size, 0, none⟩ 1 1 (c4 ⟨q, r0.a, lv, []⟩ (.slice none 0 0)) rfl rfl new_cells (fun u hu => by simp [c4] at hu; rcases hu with rfl | rfl | rfl | rfl <;> rfl) (by unfold maxLen; omega) (by omega) (by have := hMV.size; simp; omega) ?_
                  intro v' w1 hown' hgrow
                  obtain ⟨g3, cap3, rfl⟩ := ownsRow_succ hown'
                  obtain ⟨hbx, hp1, hMP⟩ := (hMV.drew.alloc _).pushed ⟨q, r0.a, lv, []⟩ rfl (by rw [hRl]; exact hown') hgrow
                  have hbx1 := hbx.cell
                  have hbx2 := hbx.frozen
                  refine hK.out _ _ ((three' hp1).1) (fun hHeld => ?_)
                  simp only [ga, gz, gs, Act.put, sa, sz, ss]
                  refine wpAnyH_ready (rs := [12]) (by kernel_rfl) (by simp) ?_
                  refine AllReadyH.cons rfl (fun K hK => ?_) AllReadyH.nil
                  go_simp
                  refine hK.out _ _ ((three' hMP.hp).1) (fun hHeld => ?_)
                  simp only [ga, gz, gs, Act.put, sa, sz, ss]
                  refine wpAnyH_done (by kernel_rfl) ?_ _
                  refine OnlyN.mk ⟨g3, cap3, ?_, hMP⟩
                  with_reducible rfl
          case after2 =>
            rintro g cap w' hMV2
            obtain ⟨m1, hm1⟩ : ∃ m1 : Nat, m1 = m0 + 1 := ⟨_, rfl⟩
            have hcast : (m0 : Int) + 1 = (m1 : Int) := by omega
            have hc9 : w'.cell? ⟨w.heap.size + 1, 0, none⟩ = some (.slice (some ⟨g, 0, none⟩) (m0 + 1 + 1) cap) := hMV2.hv.cell
            rw [← hm1] at hMV2 hc9
            simp only [← hm1, hcast]
            have hm16 : m1 ≤ 1000001 := by omega
            have hw1 : IntKind.i64.wrap ((m1 : Int) + 1 - 1) = (m1 : Int) := by rw [IntKind.wrap_i64]; omega
            have hw2 : IntKind.i64.wrap (m1 : Int) = (m1 : Int) := by rw [IntKind.wrap_i64]; omega
            have hmi : (0 : Int) ≤ (m1 : Int) := by omega
            have hmi2 : (m1 : Int) < (m1 : Int) + 1 := by omega
            have hmi3 : (m1 : Int) < ((m1 + 1 : Nat) : Int) := by omega
            have HDm1 := Lib.hid (HRl.out.trans hm1.symm)
            have HMV := Lib.hid hMV2
            clear hMV hMV2 d0 hq0 hq1 hq2 hbox hboxa hRl hrow hcast HRl HDm2 hm1
            gi_wp2_with fail
            have hMV := HMV.out
            have hDm := HDm1.out
            obtain ⟨r, hr⟩ : ∃ r, r = (⟨q, r0.a, lv, []⟩ : S4) := ⟨_, rfl⟩
            have HF := Lib.hid (show runsTo c z lv (pre ++ [x]) = (D ++ [⟨r0.a, r0.b, q, r0.p⟩]) ++ [⟨r.a, r.b, r.c, r.p ++ [x]⟩] from by rw [hr]; exact HF0.out)
            have hrl : r.p.length ≤ 1000000 := by rw [hr]; simp
            rw [← hr] at hMV
            clear hr hc9 HMV HF0
            generalize w' = V at *
            generalize D ++ [(⟨r0.a, r0.b, q, r0.p⟩ : S4)] = D1 at *
            generalize X ++ [.slice none 0 0] = X1 at *
            obtain ⟨g', cap', x0, A0, k0, ev, hg2, hX, ex0, hI0, c0, c1', c2', c3, hfr, hox⟩ := hMV.last hDm
            obtain ⟨rfl, rfl⟩ : g = g' ∧ cap = cap' := by injection ev with e1 e2 e3; injection e1 with e1; injection e1 with e1; exact ⟨e1, e3⟩
            have c3 : V.cell? ⟨g, m1 * 4 + 3, none⟩ = some x0 := c3
            rw [ex0] at c3
            have c3a : ∀ o, (V.alloc o).cell? ⟨g, m1 * 4 + 3, none⟩ = some (.slice A0 r.p.length k0) := fun o => (World.cell?_alloc_lt V _ _ (World.block_lt_of_cell? V _ c3)).trans c3
            have hbox : V.cell? ⟨w.heap.size + 1, 0, none⟩ = some (.slice (some ⟨g, 0, none⟩) (m1 + 1) cap) := hMV.hv.cell
            refine round_drawn (S := fun V' => V'.cell? ⟨w.heap.size + 1, 0, none⟩ = some (.slice (some ⟨g, 0, none⟩) (m1 + 1) cap)) (by kernel_rfl) (by kernel_rfl) (by rintro ⟨_, _, h⟩; exact h) (hbox) (fun hHeld => ?_)
            change wpAnyH _ _ _ _ _ 13 #[false, false, false, false, false, false, false, false, false, false, false, false, false] _ _
            refine wpAnyH_take (i := 0) (v := ?_) rfl (by kernel_rfl) (by kernel_rfl) (by kernel_rfl) (fun _ _ _ h => h) (Or.inl ⟨by rfl, ?_⟩) (by assumption) ?_
            rotate_left
            · intro w h; try dsimp only at h
              first | (go_simp; done) | (go_simp; with_reducible rfl)
            simp only [ga, gz, gs, Act.put, sa, sz, ss]
            refine wpAnyH_take (i := 1) (v := ?_) rfl (by kernel_rfl) (by kernel_rfl) (by kernel_rfl) (fun _ _ _ h => h) (Or.inl ⟨by rfl, ?_⟩) (by assumption) ?_
            rotate_left
            · intro w h; try dsimp only at h
              first | (go_simp; done) | (go_simp; with_reducible rfl)
            simp only [ga, gz, gs, Act.put, sa, sz, ss]
            refine wpAnyH_take (i := 2) (v := ?_) rfl (by kernel_rfl) (by kernel_rfl) (by kernel_rfl) (fun _ _ _ h => h) (Or.inl ⟨by rfl, ?_⟩) (by assumption) ?_
            rotate_left
            · intro w h; try dsimp only at h
              first | (go_simp; done) | (go_simp; with_reducible rfl)
            simp only [ga, gz, gs, Act.put, sa, sz, ss]
            refine wpAnyH_take (i := 3) (v := ?_) rfl (by kernel_rfl) (by kernel_rfl) (by kernel_rfl) (fun _ _ _ h => h) (Or.inl ⟨by rfl, ?_⟩) (by assumption) ?_
            rotate_left
            · intro w h; try dsimp only at h
              first | (go_simp; done) | (go_simp; with_reducible rfl)
            simp only [ga, gz, gs, Act.put, sa, sz, ss]
            refine wpAnyH_take (i := 4) (v := ?_) rfl (by kernel_rfl) (by kernel_rfl) (by kernel_rfl) (fun _ _ _ h => h) (Or.inl ⟨by rfl, ?_⟩) (by assumption) ?_
            rotate_left
            · intro w h; try dsimp only at h
              first | (go_simp; done) | (go_simp; with_reducible rfl)
            simp only [ga, gz, gs, Act.put, sa, sz, ss]
            refine wpAnyH_take (i := 5) (v := ?_) rfl (by kernel_rfl) (by kernel_rfl) (by kernel_rfl) (fun _ _ _ h => h) (Or.inl ⟨by rfl, ?_⟩) (by assumption) ?_
            rotate_left
            · intro w h; try dsimp only at h
              first | (go_simp; done) | (go_simp; with_reducible rfl)
            simp only [ga, gz, gs, Act.put, sa, sz, ss]
            refine wpAnyH_take (i := 7) (v := ?_) rfl (by kernel_rfl) (by kernel_rfl) (by kernel_rfl) (fun _ _ _ h => h) (Or.inl ⟨by rfl, ?_⟩) (by assumption) ?_
            rotate_left
            · intro w h; try dsimp only at h
              first | (go_simp; done) | (go_simp; with_reducible rfl)
            simp only [ga, gz, gs, Act.put, sa, sz, ss]
            refine wpAnyH_ready (rs := [6, 8]) (by kernel_rfl) (by simp) ?_
            refine AllReadyH.cons rfl (fun K hK => ?_) (AllReadyH.cons rfl (fun K hK => ?_) AllReadyH.nil)
            · go_simp
              refine hK.out _ _ (hMV.drew.hv.cell) (fun hHeld => ?_)
              simp only [ga, gz, gs, Act.put, sa, sz, ss]
              refine wpAnyH_ready (rs := [8]) (by kernel_rfl) (by simp) ?_
              refine AllReadyH.cons rfl (fun K hK => ?_) AllReadyH.nil
              go_simp
              refine hK.out _ _ ((hMV.drew.alloc _).hv.cell) (fun hHeld => ?_)
              simp only [ga, gz, gs, Act.put, sa, sz, ss]
              refine wpAnyH_ready (rs := [9]) (by kernel_rfl) (by simp) ?_
              refine AllReadyH.cons rfl (fun K hK => ?_) AllReadyH.nil
              refine step_one rfl _ _ rfl (w.heap.size + 2) x0 _ (ns r.p) (x : Int) (by rw [ex0]; rfl) ⟨V.heap.size, 0, none⟩ rfl ((hMV.drew.alloc _).rowOf hDm hX) (cell_new1 _ _ _) (by rfl) (by omega) (by have := hMV.size; simp; omega) ?_
              intro v' w2 ho' hg' hw'
              obtain ⟨d1, d2, d3, hMF⟩ := (hMV.drew.alloc _).placed hDm hX x ho' hg' hw'
              have d1 : w2.cell? ⟨g, m1 * 4 + 3, none⟩ = some x0 := d1
              have d2 : w2.frozen? ⟨g, m1 * 4 + 3, none⟩ = false := d2
              rw [ex0] at d1
              obtain ⟨g2, cap2, rfl⟩ := ownsRow_succ ho'
              refine hK.out _ _ (d3) (fun hHeld => ?_)
              simp only [ga, gz, gs, Act.put, sa, sz, ss]
              refine wpAnyH_take (i := 10) (v := ?_) rfl (by kernel_rfl) (by kernel_rfl) (by kernel_rfl) (fun _ _ _ h => h) (Or.inl ⟨by rfl, ?_⟩) (by assumption) ?_
              rotate_left
              · intro w h; try dsimp only at h
                first | (go_simp; done) | (go_simp; with_reducible rfl)
              simp only [ga, gz, gs, Act.put, sa, sz, ss]
              refine wpAnyH_take (i := 11) (v := ?_) rfl (by kernel_rfl) (by kernel_rfl) (by kernel_rfl) (fun _ _ _ h => h) (Or.inl ⟨by rfl, ?_⟩) (by assumption) ?_
              rotate_left
              · intro w h; try dsimp only at h
                first | (go_simp; done) | (go_simp; with_reducible rfl)
              simp only [ga, gz, gs, Act.put, sa, sz, ss]
              refine wpAnyH_ready (rs := [12]) (by kernel_rfl) (by simp) ?_
              refine AllReadyH.cons rfl (fun K hK => ?_) AllReadyH.nil
              go_simp
              refine hK.out _ _ (hMF.hv.cell) (fun hHeld => ?_)
              simp only [ga, gz, gs, Act.put, sa, sz, ss]
              refine wpAnyH_done (by kernel_rfl) ?_ _
              gi_wp2_with fail
              exact ⟨by first | exact hMF.kf | (rw [hsL]; exact hMF.kf), hMF.bw, _, _, hMF.hv, hMF.hp, by rw [HF.out]; exact hMF.hs, hMF.hb⟩
            · go_simp
              refine hK.out _ _ ((hMV.drew.alloc _).hv.cell) (fun hHeld => ?_)
              simp only [ga, gz, gs, Act.put, sa, sz, ss]
              have c3b := c3a (Obj.cells #[.int .i64 (x : Int)] 3)
              refine wpAnyH_ready (rs := [6]) (by kernel_rfl) (by simp) ?_
              refine AllReadyH.cons rfl (fun K hK => ?_) AllReadyH.nil
              go_simp
              refine hK.out _ _ ((hMV.drew.alloc _).hv.cell) (fun hHeld => ?_)
              simp only [ga, gz, gs, Act.put, sa, sz, ss]
              refine wpAnyH_ready (rs := [9]) (by kernel_rfl) (by simp) ?_
              refine AllReadyH.cons rfl (fun K hK => ?_) AllReadyH.nil
              refine step_one rfl _ _ rfl (w.heap.size + 2) x0 _ (ns r.p) (x : Int) (by rw [ex0]; rfl) ⟨V.heap.size, 0, none⟩ rfl ((hMV.drew.alloc _).rowOf hDm hX) (cell_new1 _ _ _) (by rfl) (by omega) (by have := hMV.size; simp; omega) ?_
              intro v' w2 ho' hg' hw'
              obtain ⟨d1, d2, d3, hMF⟩ := (hMV.drew.alloc _).placed hDm hX x ho' hg' hw'
              have d1 : w2.cell? ⟨g, m1 * 4 + 3, none⟩ = some x0 := d1
              have d2 : w2.frozen? ⟨g, m1 * 4 + 3, none⟩ = false := d2
              rw [ex0] at d1
              obtain ⟨g2, cap2, rfl⟩ := ownsRow_succ ho'
              refine hK.out _ _ (d3) (fun hHeld => ?_)
              simp only [ga, gz, gs, Act.put, sa, sz, ss]
              refine wpAnyH_take (i := 10) (v := ?_) rfl (by kernel_rfl) (by kernel_rfl) (by kernel_rfl) (fun _ _ _ h => h) (Or.inl ⟨by rfl, ?_⟩) (by assumption) ?_
              rotate_left
              · intro w h; try dsimp only at h
                first | (go_simp; done) | (go_simp; with_reducible rfl)
              simp only [ga, gz, gs, Act.put, sa, sz, ss]
              refine wpAnyH_take (i := 11) (v := ?_) rfl (by kernel_rfl) (by kernel_rfl) (by kernel_rfl) (fun _ _ _ h => h) (Or.inl ⟨by rfl, ?_⟩) (by assumption) ?_
              rotate_left
              · intro w h; try dsimp only at h
                first | (go_simp; done) | (go_simp; with_reducible rfl)
              simp only [ga, gz, gs, Act.put, sa, sz, ss]
              refine wpAnyH_ready (rs := [12]) (by kernel_rfl) (by simp) ?_
              refine AllReadyH.cons rfl (fun K hK => ?_) AllReadyH.nil
              go_simp
              refine hK.out _ _ (hMF.hv.cell) (fun hHeld => ?_)
              simp only [ga, gz, gs, Act.put, sa, sz, ss]
              refine wpAnyH_done (by kernel_rfl) ?_ _
              gi_wp2_with fail
              exact ⟨by first | exact hMF.kf | (rw [hsL]; exact hMF.kf), hMF.bw, _, _, hMF.hv, hMF.hp, by rw [HF.out]; exact hMF.hs, hMF.hb⟩
end Go.Proofs.Ytehndhkcmccpmaa.Sq
