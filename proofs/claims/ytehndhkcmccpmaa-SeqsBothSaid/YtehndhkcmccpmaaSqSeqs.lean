/-
  Proved here: what seqs.Sequences returns, for every row of numbers and every level: a new row of the sequences. It leaves what was in memory.
-/
import Derived.Test.YtehndhkcmccpmaaSqLoop
import Derived.Maps.OwnOps
set_option linter.unusedVariables false
set_option linter.unusedSimpArgs false
namespace Go.Proofs.Ytehndhkcmccpmaa.Sq
open Go Go.RowKit Go.Lib Go.Maps Go.Proofs.Ytehndhkcmccpmaa.Cl Go.Proofs.Ytehndhkcmccpmaa.Ba

theorem up_len : ∀ (l : List Nat) (a N : Nat), l.Pairwise (· < ·) → (∀ p ∈ l, a ≤ p ∧ p < N) → l.length + a ≤ N ∨ l = []
  | [], _, _, _, _ => .inr rfl
  | y :: l, a, N, h1, h2 => by
    left
    have hy := h2 y List.mem_cons_self
    rcases up_len l (y + 1) N (List.pairwise_cons.1 h1).2 (fun p hp => ⟨(List.pairwise_cons.1 h1).1 p hp, (h2 p (List.mem_cons_of_mem _ hp)).2⟩) with h | rfl
    · simp; omega
    · simp; omega
theorem up_len' {l : List Nat} {N : Nat} (h1 : l.Pairwise (· < ·)) (h2 : ∀ p ∈ l, p < N) : l.length ≤ N := by
  rcases up_len l 0 N h1 (fun p hp => ⟨Nat.zero_le _, h2 p hp⟩) with h | rfl
  · omega
  · simp
set_option maxHeartbeats 8000000 in
set_option maxRecDepth 100000 in
theorem seqs_any (A : Option Addr) (c : List Int) (x : Int) (n m : Nat) (w : World) (hl : c.length = n) (hR : IntsAt w A c) (hn : n ≤ 1000000) (hnm : n ≤ m) (hiso : Iso c (zOf c x)) :
    Calls Try.prog 16 #[.slice A n m, .int .i64 x] w fun e w' => ∃ v T X, e = .returned v ∧ SqI 35 w.heap.size w' v T X ∧ SeqsAll c (zOf c x) x T ∧ Below w.heap.size w w' := by
  obtain ⟨i0, hi, hz0, hz1, hz2⟩ := info_parts infoSeq
  have hmm := @run_makeMap Try.prog
  have HE := Lib.hid (parag_any A c x n m w hl hR hn hnm)
  have hzl : (zOf c x).length ≤ n := by rw [← hl]; exact zOf_le c x
  have HISO := Lib.hid hiso
  have HL := Lib.hid hl
  clear hR hiso hl
  generalize hz : zOf c x = z at *
  go_enter Try.func16, Try.ntmps16
  go_wp2_with fail
  refine HE.out.mono ?_
  rintro e wE ⟨A1, c1, A2, c2, rfl, hi1, hi2, hbE⟩
  have HI1 := Lib.hid hi1
  have HI2 := Lib.hid hi2
  have HBE := Lib.hid hbE
  obtain ⟨N, hN⟩ : ∃ N, z.length = N := ⟨_, rfl⟩
  rw [hN] at hzl ⊢
  clear HE hi1 hi2 hbE
  go_wp2_with fail
  obtain ⟨WM, hWM⟩ : ∃ WM, ((wE.alloc (Obj.cells #[Value.int IntKind.i64 x, Value.slice A1 N c1, Value.slice A2 n c2] 48)).alloc (Obj.map #[] 0)) = WM := ⟨_, rfl⟩
  have hbM : Below wE.heap.size wE WM := by rw [← hWM]; exact ((Below.refl _ _).alloc (Nat.le_refl _) _).alloc (by simp) _
  have hpM : WM.heap[wE.heap.size]? = some (.cells #[.int .i64 x, .slice A1 N c1, .slice A2 n c2] 48 (0, 0)) := by
    rw [← hWM]
    exact (Below.heap_alloc _ _ _ (by simp)).trans (heap_alloc_last wE _)
  have hmM : WM.ownsMap Try.prog 3 (plainElem (H := Unit) Try.prog 3) (wE.heap.size + 1) 0 (.map []) := by
    rw [← hWM]
    have h := World.ownsMap_made (H := Unit) (wE.alloc (Obj.cells #[Value.int IntKind.i64 x, Value.slice A1 N c1, Value.slice A2 n c2] 48)) Try.prog 3 (plainElem Try.prog 3)
    rwa [World.size_alloc] at h
  have hmb : WM.heap[wE.heap.size + 1]? = some (.map #[] 0) := by
    rw [← hWM]
    have h := heap_alloc_last (wE.alloc (Obj.cells #[Value.int IntKind.i64 x, Value.slice A1 N c1, Value.slice A2 n c2] 48)) (.map #[] 0)
    rwa [World.size_alloc] at h
  have hsM : WM.heap.size = wE.heap.size + 2 := by rw [← hWM]; simp
  try rw [hWM]
  clear hWM
  refine (runs_any x A1 A2 N c1 n c2 c z WM hN HL.out (HI1.out.below hbM) (HI2.out.below hbM) hn hzl).mono ?_
  rintro e w2 ⟨vr, Xr, rfl, hsr, hb2⟩
  obtain ⟨Ar, cr, rfl, hsq⟩ := hsr.reads
  obtain ⟨j, hruns, hupj⟩ := runsL_ok c z x
  have hshort := runsTo_short c z x (P := fun p => p < N) _ (kept z) rfl (fun y hy => by
    obtain ⟨-, h, -⟩ := kf_mem.1 hy
    omega)
  have hkl : (kept z).length ≤ N := by
    unfold kept kf
    refine Nat.le_trans (List.length_filter_le _ _) ?_
    simp
    omega
  have hRl : (runsL c z x).length ≤ N := Nat.le_trans hshort.1 hkl
  have HRP := Lib.hid (show ∀ r ∈ runsL c z x, r.p.length ≤ N ∧ r.p ≠ [] from fun r hr => ⟨Nat.le_trans (hshort.2 r hr).1 hkl, (hshort.2 r hr).2.1⟩)
  have HSQ := Lib.hid hsq
  have HRU := Lib.hid hruns
  have HUP := Lib.hid hupj
  have hp2 : w2.heap[wE.heap.size]? = some (.cells #[.int .i64 x, .slice A1 N c1, .slice A2 n c2] 48 (0, 0)) := (hb2.block _ (by omega)).trans hpM
  have hmb2 : w2.heap[wE.heap.size + 1]? = some (.map #[] 0) := (hb2.block _ (by omega)).trans hmb
  have hm2 := hmM.kept (below_grown hb2 none) (by simp)
  have hs2 := hb2.size
  have HLP := Lib.hid (show Lp w2 (wE.heap.size + 1) w2 (.slice none 0 0) [] [] 0 (.map []) (fun _ => none) from ⟨SqI.nil _ _ (by decide), hm2, MapIs.start, ⟨rfl, rfl, rfl, Nat.le_refl _, fun _ _ _ => rfl⟩, by omega⟩)
  have HMAP := Lib.hid (show ∃ es cl, w2.heap[wE.heap.size + 1]? = some (.map es cl) from ⟨_, _, hmb2⟩)
  have HP2 := Lib.hid (three' hp2)
  have HM2 := Lib.hid (((HI2.out.below hbM).below hb2))
  have HBW := Lib.hid (HBE.out.trans ((hbM.trans (hb2.mono hbM.size)).mono HBE.out.size))
  have hEw : w.heap.size ≤ wE.heap.size := HBE.out.size
  clear hsr hsq hruns hupj hshort hp2 hmb2 hm2 hmM hmb hpM hbM hb2 HI1 HI2 HBE
  generalize hRr : runsL c z x = R at *
  obtain ⟨RL, hRL⟩ : ∃ RL, R.length = RL := ⟨_, rfl⟩
  rw [hRL] at hRl ⊢
  have HRL := Lib.hid hRL
  clear hRr hRL
  obtain ⟨Bm, hBm⟩ : ∃ Bm, wE.heap.size + 1 = Bm := ⟨_, rfl⟩
  rw [hBm] at HLP HMAP ⊢
  have hBmw : w.heap.size ≤ Bm := by omega
  clear hBm
  generalize wE.heap.size = Bp at *
  go_wp2_with fail
  go_loopw [7, 23] (fun s7 s23 wr => ∃ (k : Nat) (T : List S4) (X : List Value) (nm : Nat) (D : DataW Unit) (f : Nat → Option Nat) (bd : Nat), k ≤ RL ∧ s23 = .int .i64 k ∧ Lp w2 Bm wr s7 T X nm D f ∧ SInv c z x bd T f ∧ Runs c z x bd j (R.drop k) ∧ bd ≤ N ∧ nm ≤ k) (fun _ s23 _ => RL - (RowKit.intOf s23).toNat)
  case atStart => exact ⟨0, [], [], 0, .map [], fun _ => none, 0, Nat.zero_le _, rfl, HLP.out, SInv.start c z x, HRU.out, Nat.zero_le _, Nat.le_refl _⟩
  case round =>
    obtain ⟨k, T, X, nm, D, f, bd, hk, rfl, hlp, hinv, hru, hbd, hnm⟩ := hrel
    have HLP1 := Lib.hid hlp
    have HINV := Lib.hid hinv
    obtain ⟨Av, cv, hve, -⟩ := hlp.hs.reads
    by_cases hlt : k < RL
    · have hkR : k < R.length := by rw [HRL.out]; exact hlt
      rw [List.drop_eq_getElem_cons hkR] at hru
      obtain ⟨b, off, A', c', rfl, q0, q1, q2, q3, hri⟩ := HSQ.out.at_ hkR
      have hrm := HRP.out R[k] (List.getElem_mem hkR)
      generalize R[k] = r at *
      obtain ⟨f0, t, hu, hr, hrest⟩ : ∃ f0 t, up z bd = some f0 ∧ RunOk c z x f0 t r ∧ Runs c z x (t + 1) j (R.drop (k + 1)) := by
        cases hru with
        | cons h1 h2 h3 => exact ⟨_, _, h1, h2, h3⟩
      obtain ⟨nT, hnT⟩ : ∃ nT, T.length = nT := ⟨_, rfl⟩
      have hnTN : nT ≤ N := by have := hinv.short; omega
      rw [hnT] at hve
      have HNT := Lib.hid hnT
      clear hnT
      subst hve
      have HRI := Lib.hid hri
      have p0 := hlp.cell HMAP.out q0
      have p1 := hlp.cell HMAP.out q1
      have p2 := hlp.cell HMAP.out q2
      have p3 := hlp.cell HMAP.out q3
      have hri' := hlp.ints HMAP.out hri
      have htN : t < N := by rw [← hN]; exact L_lt hr.kt
      have hf0N : f0 < N := by have := hr.le; omega
      have HR := Lib.hid hr
      have HU := Lib.hid hu
      have HREST := Lib.hid hrest
      clear hlp hinv hru q0 q1 q2 q3 hri hu hrest
      go_wp2_with fail
      obtain ⟨Bx, hBx⟩ : ∃ Bx, wr.heap.size = Bx := ⟨_, rfl⟩
      obtain ⟨W1, hW1⟩ : ∃ W1, wr.alloc (Obj.cells #[.int .i64 r.a, .int .i64 r.b, .int .i64 r.c, .slice A' r.p.length c'] 51) = W1 := ⟨_, rfl⟩
      have hb1 : Below wr.heap.size wr W1 := by rw [← hW1]; exact (Below.refl _ _).alloc (Nat.le_refl _) _
      have hbx1 : W1.heap[Bx]? = some (.cells #[.int .i64 r.a, .int .i64 r.b, .int .i64 r.c, .slice A' r.p.length c'] 51 (0, 0)) := by rw [← hW1, ← hBx]; exact heap_alloc_last _ _
      try rw [hW1]
      try rw [hBx]
      have hrne : r.p ≠ [] := hrm.2
      have hrl : r.p.length ≤ 1000000 := by have := hrm.1; omega
      have hL1 := HLP1.out.below hb1
      have hri1 := hri'.below hb1
      refine (first_any r.a r.b r.c A' c' r.p.length r.p W1 rfl hrne hri1 (by omega)).mono ?_
      rw [hr.hd]
      rintro e w3 ⟨rfl, hb3⟩
      have hL3 := hL1.below hb3
      have hbx3 := box_below hbx1 hb3
      obtain ⟨mm, hmm2⟩ : ∃ mm : Int, (matchL c)[t]? = some mm := ⟨_, List.getElem?_eq_getElem (by rw [matchL_len, HL.out]; omega)⟩
      have HGO := Lib.hid (show (goesB t n mm = true ↔ isI (c.getD t 0) = true ∧ endAt c t < c.length) ∧ (goesB t n mm = true → mm = endAt c t) from by
        have h := goes_match (by rw [HL.out]; omega) hmm2
        rw [HL.out] at h
        rw [HL.out]
        exact h)
      have HL3 := Lib.hid hL3
      have hkey := hL3.hf.2 f0
      clear p0 p1 p2 p3 hri' hri1 hb1 hbx1 hL1 hb3 hW1
      cases hf : f f0 with
      | none =>
        have HFINAL := Lib.hid (show ∀ f', f' = updW c f t nT → SInv c z x (t + 1) ((T ++ [(⟨r.a, way r.a r.b, 0, []⟩ : S4)]).set nT ⟨r.a, way r.a r.b, way r.a r.c, [] ++ r.p⟩) f' from by
          rintro f' rfl
          have h := HINV.out.fresh HISO.out HU.out HR.out hf
          rw [HNT.out] at h
          have e : (T ++ [(⟨r.a, way r.a r.b, 0, []⟩ : S4)]).set nT ⟨r.a, way r.a r.b, way r.a r.c, [] ++ r.p⟩ = T ++ [⟨r.a, way r.a r.b, way r.a r.c, r.p⟩] := by
            rw [← HNT.out]
            simp
          rw [e]
          exact h)
        rw [hf] at hkey
        have HH := hkey.1
        go_wp2_with (at_lookup; refine wpList_lookup_own_ok_int _ rfl _ _ 54 rfl 3 3 .i64 lawInt Try.underlying54 Try.underlying3 (zeroInt _) Bm nm D rfl hL3.hm _ _ rfl (keyOf_int_mk Try.underlying3 (WalkArith.wf_i64 (by omega))) ?_; intro cc hat hwc; rw [HH])
        have hrow3 : ∀ o, (w3.drew.alloc o).ownsRow w2.heap.size 35 4 (.slice Av nT cv) nT (cellsS T X) := fun o => by
          have h := (hL3.drew.alloc o).hs.row
          rw [HNT.out] at h
          exact h
        refine wp_region_held_drew (S := fun V' => V'.cell? ⟨Bx, 0, none⟩ = some (.int .i64 r.a) ∧ V'.cell? ⟨Bx, 1, none⟩ = some (.int .i64 r.b)) (by kernel_rfl) (box2 hbx3) (fun hHeld => ?_)
        change wpAnyH _ _ _ _ _ 12 #[false, false, false, false, false, false, false, false, false, false, false, false] _ _
        refine wpAnyH_take (i := 0) (v := ?_) rfl (by kernel_rfl) (by kernel_rfl) (by kernel_rfl) (fun _ _ _ h => h) (Or.inl ⟨by rfl, ?_⟩) (by assumption) ?_
        rotate_left
        · intro w hSw
          try dsimp only at hSw
          first | (go_simp; done) | (go_simp; with_reducible rfl)
        simp only [List.getElem_toArray, List.getElem_cons_zero, List.getElem_cons_succ, Act.put, List.setIfInBounds_toArray, List.set_cons_zero, List.set_cons_succ]
        refine wpAnyH_take (i := 1) (v := ?_) rfl (by kernel_rfl) (by kernel_rfl) (by kernel_rfl) (fun _ _ _ h => h) (Or.inl ⟨by rfl, ?_⟩) (by assumption) ?_
        rotate_left
        · intro w hSw
          try dsimp only at hSw
          first | (go_simp; done) | (go_simp; with_reducible rfl)
        simp only [List.getElem_toArray, List.getElem_cons_zero, List.getElem_cons_succ, Act.put, List.setIfInBounds_toArray, List.set_cons_zero, List.set_cons_succ]
        refine wpAnyH_take (i := 2) (v := ?_) rfl (by kernel_rfl) (by kernel_rfl) (by kernel_rfl) (fun _ _ _ h => h) (Or.inl ⟨by rfl, ?_⟩) (by assumption) ?_
        rotate_left
        · intro w hSw
          try dsimp only at hSw
          first | (go_simp; done) | (go_simp; with_reducible rfl)
        simp only [List.getElem_toArray, List.getElem_cons_zero, List.getElem_cons_succ, Act.put, List.setIfInBounds_toArray, List.set_cons_zero, List.set_cons_succ]
        refine wpAnyH_take (i := 3) (v := ?_) rfl (by kernel_rfl) (by kernel_rfl) (by kernel_rfl) (fun _ _ _ h => h) (Or.inl ⟨by rfl, ?_⟩) (by assumption) ?_
        rotate_left
        · intro w hSw
          try dsimp only at hSw
          first | (go_simp; done) | (go_simp; with_reducible rfl)
        simp only [List.getElem_toArray, List.getElem_cons_zero, List.getElem_cons_succ, Act.put, List.setIfInBounds_toArray, List.set_cons_zero, List.set_cons_succ]
        refine wpAnyH_take (i := 4) (v := ?_) rfl (by kernel_rfl) (by kernel_rfl) (by kernel_rfl) (fun _ _ _ h => h) (Or.inl ⟨by rfl, ?_⟩) (by assumption) ?_
        rotate_left
        · intro w hSw
          try dsimp only at hSw
          first | (go_simp; done) | (go_simp; with_reducible rfl)
        simp only [List.getElem_toArray, List.getElem_cons_zero, List.getElem_cons_succ, Act.put, List.setIfInBounds_toArray, List.set_cons_zero, List.set_cons_succ]
        refine wpAnyH_take (i := 5) (v := ?_) rfl (by kernel_rfl) (by kernel_rfl) (by kernel_rfl) (fun _ _ _ h => h) (Or.inl ⟨by rfl, ?_⟩) (by assumption) ?_
        rotate_left
        · intro w hSw
          try dsimp only at hSw
          first | (go_simp; done) | (go_simp; with_reducible rfl)
        simp only [List.getElem_toArray, List.getElem_cons_zero, List.getElem_cons_succ, Act.put, List.setIfInBounds_toArray, List.set_cons_zero, List.set_cons_succ]
        refine wpAnyH_take (i := 6) (v := ?_) rfl (by kernel_rfl) (by kernel_rfl) (by kernel_rfl) (fun _ _ _ h => h) (Or.inl ⟨by rfl, ?_⟩) (by assumption) ?_
        rotate_left
        · intro w hSw
          try dsimp only at hSw
          first | (go_simp; done) | (go_simp; with_reducible rfl)
        simp only [List.getElem_toArray, List.getElem_cons_zero, List.getElem_cons_succ, Act.put, List.setIfInBounds_toArray, List.set_cons_zero, List.set_cons_succ]
        refine wpAnyH_ready (rs := [7]) (by kernel_rfl) (by simp) ?_
        refine AllReadyH.cons rfl (fun K hK => ?_) AllReadyH.nil
        go_simp
        go_at_call 35
        refine (direction_any _ _ _).mono ?_
        rintro e w' ⟨rfl, rfl⟩
        refine hK.out _ _ (box2 hbx3) (fun hHeld => ?_)
        simp only [List.getElem_toArray, List.getElem_cons_zero, List.getElem_cons_succ, Act.put, List.setIfInBounds_toArray, List.set_cons_zero, List.set_cons_succ]
        refine wpAnyH_take (i := 8) (v := ?_) rfl (by kernel_rfl) (by kernel_rfl) (by kernel_rfl) (fun _ _ _ h => h) (Or.inl ⟨by rfl, ?_⟩) (by assumption) ?_
        rotate_left
        · intro w hSw
          try dsimp only at hSw
          first | (go_simp; done) | (go_simp; with_reducible rfl)
        simp only [List.getElem_toArray, List.getElem_cons_zero, List.getElem_cons_succ, Act.put, List.setIfInBounds_toArray, List.set_cons_zero, List.set_cons_succ]
        refine wpAnyH_ready (rs := [9]) (by kernel_rfl) (by simp) ?_
        refine AllReadyH.cons rfl (fun K hK => ?_) AllReadyH.nil
        go_simp
        refine hK.out _ _ (box2 (box_below hbx3 ((Below.refl _ _).drew.alloc (Nat.le_refl _) _))) (fun hHeld => ?_)
        simp only [List.getElem_toArray, List.getElem_cons_zero, List.getElem_cons_succ, Act.put, List.setIfInBounds_toArray, List.set_cons_zero, List.set_cons_succ]
        refine wpAnyH_ready (rs := [10]) (by kernel_rfl) (by simp) ?_
        refine AllReadyH.cons rfl (fun K hK => ?_) AllReadyH.nil
        refine step_append_own rfl _ _ 31 rfl w2.heap.size 35 i0 _ 4 48 Try.underlying31 hi hz0 hz1 hz2 rfl (by decide) _ nT _ rfl (hrow3 _) ⟨w3.heap.size, 0, none⟩ 1 1 (c4 ⟨r.a, way r.a r.b, 0, []⟩ (.slice none 0 0)) rfl rfl new_cells (fun u hu => by simp [c4] at hu; rcases hu with rfl | rfl | rfl | rfl <;> rfl) (by unfold maxLen; omega) (by omega) (by have := hL3.hg.size; simp; omega) ?_
        intro v' w4 hown' hgrow
        obtain ⟨g, cap, rfl⟩ := ownsRow_succ hown'
        have hL4 := (hL3.drew.alloc _).pushed ⟨r.a, way r.a r.b, 0, []⟩ rfl (by rw [HNT.out]; exact hown') hgrow
        have hbx4 := box_grown (box_below hbx3 ((Below.refl _ _).drew.alloc (Nat.le_refl _) _)) (hrow3 _) (by decide) hgrow
        refine hK.out _ _ (box2 hbx4) (fun hHeld => ?_)
        simp only [List.getElem_toArray, List.getElem_cons_zero, List.getElem_cons_succ, Act.put, List.setIfInBounds_toArray, List.set_cons_zero, List.set_cons_succ]
        refine wpAnyH_take (i := 11) (v := ?_) rfl (by kernel_rfl) (by kernel_rfl) (by kernel_rfl) (fun _ _ _ h => h) (Or.inl ⟨by rfl, ?_⟩) (by assumption) ?_
        rotate_left
        · intro w hSw
          try dsimp only at hSw
          first | (go_simp; done) | (go_simp; with_reducible rfl)
        simp only [List.getElem_toArray, List.getElem_cons_zero, List.getElem_cons_succ, Act.put, List.setIfInBounds_toArray, List.set_cons_zero, List.set_cons_succ]
        refine wpAnyH_done (by kernel_rfl) ?_ _
        go_wp2_with fail
        obtain ⟨nn, hnn⟩ : ∃ nn, nT + 1 = nn := ⟨_, rfl⟩
        rw [hnn] at hL4 ⊢
        have hT1 : (T ++ [(⟨r.a, way r.a r.b, 0, []⟩ : S4)]).length = nn := by rw [← hnn, List.length_append, HNT.out]; rfl
        have hm1 : (T ++ [(⟨r.a, way r.a r.b, 0, []⟩ : S4)])[nT]? = some ⟨r.a, way r.a r.b, 0, []⟩ := by rw [← HNT.out]; simp
        have HFINAL := Lib.hid HFINAL.out
        have hLV := hL4
        have hbxV := hbx4
        clear hL4 hbx4
        generalize T ++ [(⟨r.a, way r.a r.b, 0, []⟩ : S4)] = T1 at *
        obtain ⟨s, hs⟩ : ∃ s : S4, s = ⟨r.a, way r.a r.b, 0, []⟩ := ⟨_, rfl⟩
        have hsl : s.p.length ≤ 1000000 := by rw [hs]; simp
        have HFINAL := Lib.hid (show ∀ f', f' = updW c f t nT → SInv c z x (t + 1) (T1.set nT ⟨s.a, s.b, way r.a r.c, s.p ++ r.p⟩) f' from by rw [hs]; exact HFINAL.out)
        rw [← hs] at hm1
        clear hs hrow3 hgrow hown' hbx3 hL3 hat hwc HH hkey hHeld
        generalize X ++ [Value.slice none 0 0] = X1 at *
        generalize w4 = V at *
        obtain ⟨m1, hm1e⟩ : ∃ m1, nT = m1 := ⟨_, rfl⟩
        rw [hm1e] at HFINAL hm1 ⊢
        obtain ⟨g', cap', x0, A0, k0, ev, hgg, hmn, hX, ex0, hI0, d2, d3, hfr, hox⟩ := hLV.get hT1 hm1
        obtain ⟨rfl, rfl⟩ : g = g' ∧ cap = cap' := by injection ev with e1 e2 e3; injection e1 with e1; injection e1 with e1; exact ⟨e1, e3⟩
        rw [ex0] at d3
        have hgBx : g ≠ Bx := own_not_box hbxV (n := nn) (by have h := hLV.hs.row; rw [hT1] at h; exact h) (by decide)
        have hmi : (0 : Int) ≤ (m1 : Int) := by omega
        have hmi2 : (m1 : Int) < (nn : Int) := by omega
        clear d2 hI0 ev
        refine wp_region_held_drew (S := fun V' => V'.cell? ⟨Bx, 3, none⟩ = some (.slice A' r.p.length c')) (by kernel_rfl) (box3 hbxV) (fun hHeld => ?_)
        change wpAnyH _ _ _ _ _ 13 #[false, false, false, false, false, false, false, false, false, false, false, false, false] _ _
        refine wpAnyH_take (i := 0) (v := ?_) rfl (by kernel_rfl) (by kernel_rfl) (by kernel_rfl) (fun _ _ _ h => h) (Or.inl ⟨by rfl, ?_⟩) (by assumption) ?_
        rotate_left
        · intro w hSw
          try dsimp only at hSw
          first | (go_simp; done) | (go_simp; with_reducible rfl)
        simp only [List.getElem_toArray, List.getElem_cons_zero, List.getElem_cons_succ, Act.put, List.setIfInBounds_toArray, List.set_cons_zero, List.set_cons_succ]
        refine wpAnyH_take (i := 1) (v := ?_) rfl (by kernel_rfl) (by kernel_rfl) (by kernel_rfl) (fun _ _ _ h => h) (Or.inl ⟨by rfl, ?_⟩) (by assumption) ?_
        rotate_left
        · intro w hSw
          try dsimp only at hSw
          first | (go_simp; done) | (go_simp; with_reducible rfl)
        simp only [List.getElem_toArray, List.getElem_cons_zero, List.getElem_cons_succ, Act.put, List.setIfInBounds_toArray, List.set_cons_zero, List.set_cons_succ]
        refine wpAnyH_take (i := 2) (v := ?_) rfl (by kernel_rfl) (by kernel_rfl) (by kernel_rfl) (fun _ _ _ h => h) (Or.inl ⟨by rfl, ?_⟩) (by assumption) ?_
        rotate_left
        · intro w hSw
          try dsimp only at hSw
          first | (go_simp; done) | (go_simp; with_reducible rfl)
        simp only [List.getElem_toArray, List.getElem_cons_zero, List.getElem_cons_succ, Act.put, List.setIfInBounds_toArray, List.set_cons_zero, List.set_cons_succ]
        refine wpAnyH_take (i := 3) (v := ?_) rfl (by kernel_rfl) (by kernel_rfl) (by kernel_rfl) (fun _ _ _ h => h) (Or.inl ⟨by rfl, ?_⟩) (by assumption) ?_
        rotate_left
        · intro w hSw
          try dsimp only at hSw
          first | (go_simp; done) | (go_simp; with_reducible rfl)
        simp only [List.getElem_toArray, List.getElem_cons_zero, List.getElem_cons_succ, Act.put, List.setIfInBounds_toArray, List.set_cons_zero, List.set_cons_succ]
        refine wpAnyH_take (i := 4) (v := ?_) rfl (by kernel_rfl) (by kernel_rfl) (by kernel_rfl) (fun _ _ _ h => h) (Or.inl ⟨by rfl, ?_⟩) (by assumption) ?_
        rotate_left
        · intro w hSw
          try dsimp only at hSw
          first | (go_simp; done) | (go_simp; with_reducible rfl)
        simp only [List.getElem_toArray, List.getElem_cons_zero, List.getElem_cons_succ, Act.put, List.setIfInBounds_toArray, List.set_cons_zero, List.set_cons_succ]
        refine wpAnyH_take (i := 5) (v := ?_) rfl (by kernel_rfl) (by kernel_rfl) (by kernel_rfl) (fun _ _ _ h => h) (Or.inl ⟨by rfl, ?_⟩) (by assumption) ?_
        rotate_left
        · intro w hSw
          try dsimp only at hSw
          first | (go_simp; done) | (go_simp; with_reducible rfl)
        simp only [List.getElem_toArray, List.getElem_cons_zero, List.getElem_cons_succ, Act.put, List.setIfInBounds_toArray, List.set_cons_zero, List.set_cons_succ]
        refine wpAnyH_take (i := 7) (v := ?_) rfl (by kernel_rfl) (by kernel_rfl) (by kernel_rfl) (fun _ _ _ h => h) (Or.inl ⟨by rfl, ?_⟩) (by assumption) ?_
        rotate_left
        · intro w hSw
          try dsimp only at hSw
          first | (go_simp; done) | (go_simp; with_reducible rfl)
        simp only [List.getElem_toArray, List.getElem_cons_zero, List.getElem_cons_succ, Act.put, List.setIfInBounds_toArray, List.set_cons_zero, List.set_cons_succ]
        refine wpAnyH_take (i := 8) (v := ?_) rfl (by kernel_rfl) (by kernel_rfl) (by kernel_rfl) (fun _ _ _ h => h) (Or.inl ⟨by rfl, ?_⟩) (by assumption) ?_
        rotate_left
        · intro w hSw
          try dsimp only at hSw
          first | (go_simp; done) | (go_simp; with_reducible rfl)
        simp only [List.getElem_toArray, List.getElem_cons_zero, List.getElem_cons_succ, Act.put, List.setIfInBounds_toArray, List.set_cons_zero, List.set_cons_succ]
        refine wpAnyH_ready (rs := [6]) (by kernel_rfl) (by simp) ?_
        refine AllReadyH.cons rfl (fun K hK => ?_) AllReadyH.nil
        go_simp
        refine hK.out _ _ (box3 hbxV) (fun hHeld => ?_)
        simp only [List.getElem_toArray, List.getElem_cons_zero, List.getElem_cons_succ, Act.put, List.setIfInBounds_toArray, List.set_cons_zero, List.set_cons_succ]
        refine wpAnyH_ready (rs := [9]) (by kernel_rfl) (by simp) ?_
        refine AllReadyH.cons rfl (fun K hK => ?_) AllReadyH.nil
        refine step_addAt rfl _ _ rfl w2.heap.size x0 _ (ns s.p) (by rw [ex0]; rfl) (own_heap hox rfl) A' r.p.length c' (ns r.p) rfl (hLV.ints HMAP.out HRI.out) (ns_len _) (by rw [Ne, ns_nil]; exact hrne) (by omega) (by have := hLV.hg.size; simp; omega) ?_
        intro v' w5 ho' hg' hw'
        obtain ⟨e1, e2, hL5⟩ := hLV.drew.grew hT1 hm1 hX r.p ho' hg' hw'
        rw [ex0] at e1
        have hbx5 := box_grown (V := V.drew) hbxV (own_heap hox rfl) (by decide) hg'
        obtain ⟨g2, cap2, rfl⟩ := own_form ho' (by have := List.length_pos_iff.2 hrne; omega)
        refine hK.out _ _ (box3 hbx5) (fun hHeld => ?_)
        simp only [List.getElem_toArray, List.getElem_cons_zero, List.getElem_cons_succ, Act.put, List.setIfInBounds_toArray, List.set_cons_zero, List.set_cons_succ]
        refine wpAnyH_take (i := 10) (v := ?_) rfl (by kernel_rfl) (by kernel_rfl) (by kernel_rfl) (fun _ _ _ h => h) (Or.inl ⟨by rfl, ?_⟩) (by assumption) ?_
        rotate_left
        · intro w hSw
          try dsimp only at hSw
          first | (go_simp; done) | (go_simp; with_reducible rfl)
        simp only [List.getElem_toArray, List.getElem_cons_zero, List.getElem_cons_succ, Act.put, List.setIfInBounds_toArray, List.set_cons_zero, List.set_cons_succ]
        refine wpAnyH_take (i := 11) (v := ?_) rfl (by kernel_rfl) (by kernel_rfl) (by kernel_rfl) (fun _ _ _ h => h) (Or.inl ⟨by rfl, ?_⟩) (by assumption) ?_
        rotate_left
        · intro w hSw
          try dsimp only at hSw
          first | (go_simp; done) | (go_simp; with_reducible rfl)
        simp only [List.getElem_toArray, List.getElem_cons_zero, List.getElem_cons_succ, Act.put, List.setIfInBounds_toArray, List.set_cons_zero, List.set_cons_succ]
        refine wpAnyH_ready (rs := [12]) (by kernel_rfl) (by simp) ?_
        refine AllReadyH.cons rfl (fun K hK => ?_) AllReadyH.nil
        go_simp
        refine hK.out _ _ (box3 (box_set hbx5 (hgB := hgBx))) (fun hHeld => ?_)
        simp only [List.getElem_toArray, List.getElem_cons_zero, List.getElem_cons_succ, Act.put, List.setIfInBounds_toArray, List.set_cons_zero, List.set_cons_succ]
        refine wpAnyH_done (by kernel_rfl) ?_ _
        have hbx6 := box_set (g := g) (j := m1 * 4 + 3) (u := .slice (some ⟨g2, 0, none⟩) (s.p.length + r.p.length) cap2) hbx5 (hgB := hgBx)
        have hT2 : (T1.set m1 ⟨s.a, s.b, s.c, s.p ++ r.p⟩).length = nn := by rw [List.length_set]; exact hT1
        have hm2 : (T1.set m1 ⟨s.a, s.b, s.c, s.p ++ r.p⟩)[m1]? = some ⟨s.a, s.b, s.c, s.p ++ r.p⟩ := List.getElem?_set_self (by omega)
        obtain ⟨g'', cap'', x1, A1', k1, ev, -, -, -, -, -, e3, -, hfr2, -⟩ := hL5.get hT2 hm2
        obtain ⟨rfl, rfl⟩ : g = g'' ∧ cap = cap'' := by injection ev with e1 e2 e3; injection e1 with e1; injection e1 with e1; exact ⟨e1, e3⟩
        have hf2 := hfr2 (m1 * 4 + 2)
        have hL6 := hL5.setc hT2 hm2 (way r.a r.c)
        rw [List.set_set] at hL6
        have HL6 := Lib.hid hL6
        obtain ⟨bx0, bx1, bx2, bx3⟩ := box4 hbx6
        have HBX6 := Lib.hid hbx6
        have HSZ5 := Lib.hid hL5.hg.size
        clear hL5 hL6 hbx5 hT2 hm2 hHeld e1 e2 ev hfr2 hLV hX ex0 hfr hox hT1 hm1 ho' hg' hw'
        generalize w5.setCell ⟨g, m1 * 4 + 3, none⟩ (.slice (some ⟨g2, 0, none⟩) (s.p.length + r.p.length) cap2) = V6 at *
        go_wp2_with fail
        refine (direction_any _ _ _).mono ?_
        rintro e w7 ⟨rfl, rfl⟩
        have hbx7 := box_set (g := g) (j := m1 * 4 + 2) (u := .int .i64 (way r.a r.c)) HBX6.out (hgB := hgBx)
        obtain ⟨by0, by1, by2, by3⟩ := box4 hbx7
        have HL7 := Lib.hid HL6.out
        clear bx0 bx1 bx2 bx3 hbx7
        go_wp2_with fail
        refine (goes_any r.a r.b r.c A' A2 c' r.p.length n c2 Bp t r.p (matchL c) mm _ rfl hrne (HL6.out.ints HMAP.out HRI.out) (by omega) (by rw [matchL_len]; exact HL.out) (by omega) (HL6.out.ints HMAP.out HM2.out) (HL6.out.cell HMAP.out HP2.out.2.2) HR.out.lst hmm2).mono ?_
        rintro e w8 ⟨rfl, hb8⟩
        have hL8 := HL6.out.below hb8
        cases hgo : goesB t n mm with
        | true =>
          obtain ⟨hg1, hg2⟩ := HGO.out
          have hq := hg2 hgo
          obtain ⟨hq1, hq2⟩ := hg1.1 hgo
          have hqn : endAt c t ≤ 1000000 := by have := HL.out; omega
          rw [hq]
          have HFIN := Lib.hid (HFINAL.out _ (updW_true hq1 hq2).symm)
          clear HFINAL hg1 hg2 hq1 hq2 hq
          generalize endAt c t = q at *
          go_wp2_with (at_mapUpdate; refine wpList_mapUpdate_own _ rfl _ _ _ 54 rfl 3 3 lawInt Try.underlying54 _ Bm nm D rfl hL8.hm (by unfold maxLen; omega) _ _ _ rfl rfl (keyOf_int_mk Try.underlying3 (WalkArith.wf_i64 (by omega))) _ [] (plainElem_int Try.underlying3 (WalkArith.wf_i64 (by omega))) ?_; intro w9 hown9 hgrow9; have hL9 := hL8.putm q m1 hown9 hgrow9)
          go_roundw
          case rel => exact ⟨k + 1, _, _, nm + 1, _, _, t + 1, by omega, by simp, hL9, HFIN.out, HREST.out, by omega, by omega⟩
          case measure => simp [RowKit.intOf]; omega
        | false =>
          obtain ⟨hg1, -⟩ := HGO.out
          have hno : ¬ (isI (c.getD t 0) = true ∧ endAt c t < c.length) := fun h => by rw [hg1.2 h] at hgo; cases hgo
          have HFIN := Lib.hid (HFINAL.out _ (updW_false hno).symm)
          clear HFINAL hg1 hno
          go_wp2_with fail
          go_roundw
          case rel => exact ⟨k + 1, _, _, nm, _, _, t + 1, by omega, by simp, hL8, HFIN.out, HREST.out, by omega, by omega⟩
          case measure => simp [RowKit.intOf]; omega
      | some m1 =>
        obtain ⟨s, hm1, -, -, -⟩ := HINV.out.w1 f0 m1 (upS HU.out).1 hf
        have HFINAL := Lib.hid (show ∀ f', f' = updW c f t m1 → SInv c z x (t + 1) (T.set m1 ⟨s.a, s.b, way r.a r.c, s.p ++ r.p⟩) f' from by
          rintro f' rfl
          exact HINV.out.grown HISO.out HU.out HR.out hf hm1)
        have hsl : s.p.length ≤ 1000000 := by
          have hpt := HINV.out.each m1 s hm1
          have := up_len' (chn_up hpt.chn) (N := N) (fun p hp => by have := (hpt.lt p hp).1; omega)
          omega
        rw [hf] at hkey
        have HH := hkey.1
        have hk2 := hkey.2 m1 rfl
        obtain ⟨g, cap, x00, A00, k00, evv, -⟩ := hL3.get HNT.out hm1
        obtain ⟨rfl, rfl⟩ : some ⟨g, 0, none⟩ = Av ∧ cap = cv := by injection evv with e1 e2 e3; exact ⟨e1.symm, e3.symm⟩
        clear evv
        go_wp2_with (at_lookup; refine wpList_lookup_own_ok_int _ rfl _ _ 54 rfl 3 3 .i64 lawInt Try.underlying54 Try.underlying3 (zeroInt _) Bm nm D rfl hL3.hm _ _ rfl (keyOf_int_mk Try.underlying3 (WalkArith.wf_i64 (by omega))) ?_; intro cc hat hwc; rw [HH]; obtain rfl : cc = (m1 : Int) := (by rw [hat] at hk2; injection hk2 with hk2; injection hk2))
        have hLV := hL3
        have hbxV := hbx3
        have hT1 := HNT.out
        clear hL3 hbx3 HH hkey hk2 hat hwc
        generalize w3 = V at *
        obtain ⟨nn, hnn⟩ : ∃ nn, nT = nn := ⟨_, rfl⟩
        rw [hnn] at hLV hT1 ⊢
        generalize T = T1 at *
        generalize X = X1 at *
        obtain ⟨g', cap', x0, A0, k0, ev, hgg, hmn, hX, ex0, hI0, d2, d3, hfr, hox⟩ := hLV.get hT1 hm1
        obtain ⟨rfl, rfl⟩ : g = g' ∧ cap = cap' := by injection ev with e1 e2 e3; injection e1 with e1; injection e1 with e1; exact ⟨e1, e3⟩
        rw [ex0] at d3
        have hgBx : g ≠ Bx := own_not_box hbxV (n := nn) (by have h := hLV.hs.row; rw [hT1] at h; exact h) (by decide)
        have hmi : (0 : Int) ≤ (m1 : Int) := by omega
        have hmi2 : (m1 : Int) < (nn : Int) := by omega
        clear d2 hI0 ev
        refine wp_region_held_drew (S := fun V' => V'.cell? ⟨Bx, 3, none⟩ = some (.slice A' r.p.length c')) (by kernel_rfl) (box3 hbxV) (fun hHeld => ?_)
        change wpAnyH _ _ _ _ _ 13 #[false, false, false, false, false, false, false, false, false, false, false, false, false] _ _
        refine wpAnyH_take (i := 0) (v := ?_) rfl (by kernel_rfl) (by kernel_rfl) (by kernel_rfl) (fun _ _ _ h => h) (Or.inl ⟨by rfl, ?_⟩) (by assumption) ?_
        rotate_left
        · intro w hSw
          try dsimp only at hSw
          first | (go_simp; done) | (go_simp; with_reducible rfl)
        simp only [List.getElem_toArray, List.getElem_cons_zero, List.getElem_cons_succ, Act.put, List.setIfInBounds_toArray, List.set_cons_zero, List.set_cons_succ]
        refine wpAnyH_take (i := 1) (v := ?_) rfl (by kernel_rfl) (by kernel_rfl) (by kernel_rfl) (fun _ _ _ h => h) (Or.inl ⟨by rfl, ?_⟩) (by assumption) ?_
        rotate_left
        · intro w hSw
          try dsimp only at hSw
          first | (go_simp; done) | (go_simp; with_reducible rfl)
        simp only [List.getElem_toArray, List.getElem_cons_zero, List.getElem_cons_succ, Act.put, List.setIfInBounds_toArray, List.set_cons_zero, List.set_cons_succ]
        refine wpAnyH_take (i := 2) (v := ?_) rfl (by kernel_rfl) (by kernel_rfl) (by kernel_rfl) (fun _ _ _ h => h) (Or.inl ⟨by rfl, ?_⟩) (by assumption) ?_
        rotate_left
        · intro w hSw
          try dsimp only at hSw
          first | (go_simp; done) | (go_simp; with_reducible rfl)
        simp only [List.getElem_toArray, List.getElem_cons_zero, List.getElem_cons_succ, Act.put, List.setIfInBounds_toArray, List.set_cons_zero, List.set_cons_succ]
        refine wpAnyH_take (i := 3) (v := ?_) rfl (by kernel_rfl) (by kernel_rfl) (by kernel_rfl) (fun _ _ _ h => h) (Or.inl ⟨by rfl, ?_⟩) (by assumption) ?_
        rotate_left
        · intro w hSw
          try dsimp only at hSw
          first | (go_simp; done) | (go_simp; with_reducible rfl)
        simp only [List.getElem_toArray, List.getElem_cons_zero, List.getElem_cons_succ, Act.put, List.setIfInBounds_toArray, List.set_cons_zero, List.set_cons_succ]
        refine wpAnyH_take (i := 4) (v := ?_) rfl (by kernel_rfl) (by kernel_rfl) (by kernel_rfl) (fun _ _ _ h => h) (Or.inl ⟨by rfl, ?_⟩) (by assumption) ?_
        rotate_left
        · intro w hSw
          try dsimp only at hSw
          first | (go_simp; done) | (go_simp; with_reducible rfl)
        simp only [List.getElem_toArray, List.getElem_cons_zero, List.getElem_cons_succ, Act.put, List.setIfInBounds_toArray, List.set_cons_zero, List.set_cons_succ]
        refine wpAnyH_take (i := 5) (v := ?_) rfl (by kernel_rfl) (by kernel_rfl) (by kernel_rfl) (fun _ _ _ h => h) (Or.inl ⟨by rfl, ?_⟩) (by assumption) ?_
        rotate_left
        · intro w hSw
          try dsimp only at hSw
          first | (go_simp; done) | (go_simp; with_reducible rfl)
        simp only [List.getElem_toArray, List.getElem_cons_zero, List.getElem_cons_succ, Act.put, List.setIfInBounds_toArray, List.set_cons_zero, List.set_cons_succ]
        refine wpAnyH_take (i := 7) (v := ?_) rfl (by kernel_rfl) (by kernel_rfl) (by kernel_rfl) (fun _ _ _ h => h) (Or.inl ⟨by rfl, ?_⟩) (by assumption) ?_
        rotate_left
        · intro w hSw
          try dsimp only at hSw
          first | (go_simp; done) | (go_simp; with_reducible rfl)
        simp only [List.getElem_toArray, List.getElem_cons_zero, List.getElem_cons_succ, Act.put, List.setIfInBounds_toArray, List.set_cons_zero, List.set_cons_succ]
        refine wpAnyH_take (i := 8) (v := ?_) rfl (by kernel_rfl) (by kernel_rfl) (by kernel_rfl) (fun _ _ _ h => h) (Or.inl ⟨by rfl, ?_⟩) (by assumption) ?_
        rotate_left
        · intro w hSw
          try dsimp only at hSw
          first | (go_simp; done) | (go_simp; with_reducible rfl)
        simp only [List.getElem_toArray, List.getElem_cons_zero, List.getElem_cons_succ, Act.put, List.setIfInBounds_toArray, List.set_cons_zero, List.set_cons_succ]
        refine wpAnyH_ready (rs := [6]) (by kernel_rfl) (by simp) ?_
        refine AllReadyH.cons rfl (fun K hK => ?_) AllReadyH.nil
        go_simp
        refine hK.out _ _ (box3 hbxV) (fun hHeld => ?_)
        simp only [List.getElem_toArray, List.getElem_cons_zero, List.getElem_cons_succ, Act.put, List.setIfInBounds_toArray, List.set_cons_zero, List.set_cons_succ]
        refine wpAnyH_ready (rs := [9]) (by kernel_rfl) (by simp) ?_
        refine AllReadyH.cons rfl (fun K hK => ?_) AllReadyH.nil
        refine step_addAt rfl _ _ rfl w2.heap.size x0 _ (ns s.p) (by rw [ex0]; rfl) (own_heap hox rfl) A' r.p.length c' (ns r.p) rfl (hLV.ints HMAP.out HRI.out) (ns_len _) (by rw [Ne, ns_nil]; exact hrne) (by omega) (by have := hLV.hg.size; simp; omega) ?_
        intro v' w5 ho' hg' hw'
        obtain ⟨e1, e2, hL5⟩ := hLV.drew.grew hT1 hm1 hX r.p ho' hg' hw'
        rw [ex0] at e1
        have hbx5 := box_grown (V := V.drew) hbxV (own_heap hox rfl) (by decide) hg'
        obtain ⟨g2, cap2, rfl⟩ := own_form ho' (by have := List.length_pos_iff.2 hrne; omega)
        refine hK.out _ _ (box3 hbx5) (fun hHeld => ?_)
        simp only [List.getElem_toArray, List.getElem_cons_zero, List.getElem_cons_succ, Act.put, List.setIfInBounds_toArray, List.set_cons_zero, List.set_cons_succ]
        refine wpAnyH_take (i := 10) (v := ?_) rfl (by kernel_rfl) (by kernel_rfl) (by kernel_rfl) (fun _ _ _ h => h) (Or.inl ⟨by rfl, ?_⟩) (by assumption) ?_
        rotate_left
        · intro w hSw
          try dsimp only at hSw
          first | (go_simp; done) | (go_simp; with_reducible rfl)
        simp only [List.getElem_toArray, List.getElem_cons_zero, List.getElem_cons_succ, Act.put, List.setIfInBounds_toArray, List.set_cons_zero, List.set_cons_succ]
        refine wpAnyH_take (i := 11) (v := ?_) rfl (by kernel_rfl) (by kernel_rfl) (by kernel_rfl) (fun _ _ _ h => h) (Or.inl ⟨by rfl, ?_⟩) (by assumption) ?_
        rotate_left
        · intro w hSw
          try dsimp only at hSw
          first | (go_simp; done) | (go_simp; with_reducible rfl)
        simp only [List.getElem_toArray, List.getElem_cons_zero, List.getElem_cons_succ, Act.put, List.setIfInBounds_toArray, List.set_cons_zero, List.set_cons_succ]
        refine wpAnyH_ready (rs := [12]) (by kernel_rfl) (by simp) ?_
        refine AllReadyH.cons rfl (fun K hK => ?_) AllReadyH.nil
        go_simp
        refine hK.out _ _ (box3 (box_set hbx5 (hgB := hgBx))) (fun hHeld => ?_)
        simp only [List.getElem_toArray, List.getElem_cons_zero, List.getElem_cons_succ, Act.put, List.setIfInBounds_toArray, List.set_cons_zero, List.set_cons_succ]
        refine wpAnyH_done (by kernel_rfl) ?_ _
        have hbx6 := box_set (g := g) (j := m1 * 4 + 3) (u := .slice (some ⟨g2, 0, none⟩) (s.p.length + r.p.length) cap2) hbx5 (hgB := hgBx)
        have hT2 : (T1.set m1 ⟨s.a, s.b, s.c, s.p ++ r.p⟩).length = nn := by rw [List.length_set]; exact hT1
        have hm2 : (T1.set m1 ⟨s.a, s.b, s.c, s.p ++ r.p⟩)[m1]? = some ⟨s.a, s.b, s.c, s.p ++ r.p⟩ := List.getElem?_set_self (by omega)
        obtain ⟨g'', cap'', x1, A1', k1, ev, -, -, -, -, -, e3, -, hfr2, -⟩ := hL5.get hT2 hm2
        obtain ⟨rfl, rfl⟩ : g = g'' ∧ cap = cap'' := by injection ev with e1 e2 e3; injection e1 with e1; injection e1 with e1; exact ⟨e1, e3⟩
        have hf2 := hfr2 (m1 * 4 + 2)
        have hL6 := hL5.setc hT2 hm2 (way r.a r.c)
        rw [List.set_set] at hL6
        have HL6 := Lib.hid hL6
        obtain ⟨bx0, bx1, bx2, bx3⟩ := box4 hbx6
        have HBX6 := Lib.hid hbx6
        have HSZ5 := Lib.hid hL5.hg.size
        clear hL5 hL6 hbx5 hT2 hm2 hHeld e1 e2 ev hfr2 hLV hX ex0 hfr hox hT1 hm1 ho' hg' hw'
        generalize w5.setCell ⟨g, m1 * 4 + 3, none⟩ (.slice (some ⟨g2, 0, none⟩) (s.p.length + r.p.length) cap2) = V6 at *
        go_wp2_with fail
        refine (direction_any _ _ _).mono ?_
        rintro e w7 ⟨rfl, rfl⟩
        have hbx7 := box_set (g := g) (j := m1 * 4 + 2) (u := .int .i64 (way r.a r.c)) HBX6.out (hgB := hgBx)
        obtain ⟨by0, by1, by2, by3⟩ := box4 hbx7
        have HL7 := Lib.hid HL6.out
        clear bx0 bx1 bx2 bx3 hbx7
        go_wp2_with fail
        refine (goes_any r.a r.b r.c A' A2 c' r.p.length n c2 Bp t r.p (matchL c) mm _ rfl hrne (HL6.out.ints HMAP.out HRI.out) (by omega) (by rw [matchL_len]; exact HL.out) (by omega) (HL6.out.ints HMAP.out HM2.out) (HL6.out.cell HMAP.out HP2.out.2.2) HR.out.lst hmm2).mono ?_
        rintro e w8 ⟨rfl, hb8⟩
        have hL8 := HL6.out.below hb8
        cases hgo : goesB t n mm with
        | true =>
          obtain ⟨hg1, hg2⟩ := HGO.out
          have hq := hg2 hgo
          obtain ⟨hq1, hq2⟩ := hg1.1 hgo
          have hqn : endAt c t ≤ 1000000 := by have := HL.out; omega
          rw [hq]
          have HFIN := Lib.hid (HFINAL.out _ (updW_true hq1 hq2).symm)
          clear HFINAL hg1 hg2 hq1 hq2 hq
          generalize endAt c t = q at *
          go_wp2_with (at_mapUpdate; refine wpList_mapUpdate_own _ rfl _ _ _ 54 rfl 3 3 lawInt Try.underlying54 _ Bm nm D rfl hL8.hm (by unfold maxLen; omega) _ _ _ rfl rfl (keyOf_int_mk Try.underlying3 (WalkArith.wf_i64 (by omega))) _ [] (plainElem_int Try.underlying3 (WalkArith.wf_i64 (by omega))) ?_; intro w9 hown9 hgrow9; have hL9 := hL8.putm q m1 hown9 hgrow9)
          go_roundw
          case rel => exact ⟨k + 1, _, _, nm + 1, _, _, t + 1, by omega, by simp, hL9, HFIN.out, HREST.out, by omega, by omega⟩
          case measure => simp [RowKit.intOf]; omega
        | false =>
          obtain ⟨hg1, -⟩ := HGO.out
          have hno : ¬ (isI (c.getD t 0) = true ∧ endAt c t < c.length) := fun h => by rw [hg1.2 h] at hgo; cases hgo
          have HFIN := Lib.hid (HFINAL.out _ (updW_false hno).symm)
          clear HFINAL hg1 hno
          go_wp2_with fail
          go_roundw
          case rel => exact ⟨k + 1, _, _, nm, _, _, t + 1, by omega, by simp, hL8, HFIN.out, HREST.out, by omega, by omega⟩
          case measure => simp [RowKit.intOf]; omega
    · obtain rfl : k = RL := by omega
      have hdr : R.drop k = [] := List.drop_eq_nil_of_le (by rw [HRL.out]; exact Nat.le_refl _)
      rw [hdr] at hru
      have hbj : bd = j := by cases hru; rfl
      subst hbj
      clear hlp hinv hru hdr
      rw [hve] at HLP1 ⊢
      go_wp2_with fail
      go_ret
      have hlpo := HLP1.out
      refine ⟨_, T, X, rfl, hlpo.hs.mono (by have := HBW.out.size; omega), HINV.out.all HISO.out HUP.out, ?_⟩
      exact HBW.out.grown hlpo.hg (by have := HBW.out.size; omega) (fun k e => by cases e; exact hBmw)
end Go.Proofs.Ytehndhkcmccpmaa.Sq
