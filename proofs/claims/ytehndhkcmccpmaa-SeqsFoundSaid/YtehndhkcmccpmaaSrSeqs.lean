/-
  Proved here: what the document's own answer of layer 12 returns for classes, for every row of numbers and every level: a new row of the sequences. It leaves what was in memory.
-/
import Derived.Test.YtehndhkcmccpmaaSrFns
import Derived.Test.YtehndhkcmccpmaaSqLoop
import Derived.Test.YtehndhkcmccpmaaSqSeqs
import Derived.Test.YtehndhkcmccpmaaSqCheck
import Derived.Test.YtehndhkcmccpmaaLvRefN
set_option linter.unusedVariables false
set_option linter.unusedSimpArgs false
namespace Go.Proofs.Ytehndhkcmccpmaa.Sq
open Go Go.RowKit Go.Lib Go.Proofs.Ytehndhkcmccpmaa.Cl Go.Proofs.Ytehndhkcmccpmaa.Ba Go.Proofs.Ytehndhkcmccpmaa.Lv

set_option maxHeartbeats 1000000 in
set_option maxRecDepth 100000 in
theorem rexplicit_none (A : Option Addr) (x : Int) (n m : Nat) (w : World) (h0 : x ≠ 0) (h1 : x ≠ 1) :
    Calls Try.prog 36 #[.slice A n m, .int .i64 x] w fun e w' => e = .returned (.tuple #[.slice none 0 0, .slice none 0 0]) ∧ w = w' := by
  by_cases hx : x < 0
  · have kA : decide (x < 0) = true := decide_eq_true hx
    go_enter Try.func36, Try.ntmps36
    go_wp2
    go_ret2
    exact ⟨rfl, rfl⟩
  · have kA : decide (x < 0) = false := decide_eq_false hx
    have kB : decide (1 < x) = true := decide_eq_true (by omega)
    go_enter Try.func36, Try.ntmps36
    go_wp2
    go_ret2
    exact ⟨rfl, rfl⟩
theorem rexplicit_as (A : Option Addr) (c : List Int) (x : Int) (n m : Nat) (w : World) (hl : c.length = n) (hR : IntsAt w A c) (hn : n ≤ 1000000) (hnm : n ≤ m) :
    Calls Try.prog 36 #[.slice A n m, .int .i64 x] w fun e w' => ∃ A1 c1 A2 n2 c2, e = .returned (.tuple #[.slice A1 (zOf c x).length c1, .slice A2 n2 c2]) ∧ IntsAt w' A1 (zOf c x) ∧ Below w.heap.size w w' := by
  by_cases h0 : x = 0
  · subst h0
    refine (nexplicit_any A c 0 n m w (by omega) hl hR hn hnm).mono ?_
    rintro e w' ⟨A1, c1, A2, c2, rfl, i1, -, hb⟩
    have e1 : (zOf c 0) = (explL c 0).map (·.1) := by unfold zOf; rw [if_pos rfl]
    rw [e1, show ((explL c 0).map (·.1)).length = n from by rw [List.length_map, explL_len, hl]]
    exact ⟨_, _, _, _, _, rfl, i1, hb⟩
  · by_cases h1 : x = 1
    · subst h1
      refine (nexplicit_any A c 1 n m w (by omega) hl hR hn hnm).mono ?_
      rintro e w' ⟨A1, c1, A2, c2, rfl, i1, -, hb⟩
      have e1 : (zOf c 1) = (explL c 1).map (·.1) := by unfold zOf; rw [if_neg (by omega), if_pos rfl]
      rw [e1, show ((explL c 1).map (·.1)).length = n from by rw [List.length_map, explL_len, hl]]
      exact ⟨_, _, _, _, _, rfl, i1, hb⟩
    · refine (rexplicit_none A x n m w h0 h1).mono ?_
      rintro e w' ⟨rfl, rfl⟩
      have e1 : zOf c x = [] := by unfold zOf; rw [if_neg h0, if_neg h1]
      rw [e1]
      exact ⟨none, 0, none, 0, 0, rfl, .inl rfl, Below.refl _ _⟩

theorem wp_same_end {P : Program} {x : Code} {Q : Exit → Act → World → Prop} {fr : Act} {W' : World} {a : Act} {w : World} (h : x.wp P (OnlyN (fun a' w' => a' = fr ∧ w' = W')) a w) (h2 : Q .normal fr W') : x.wp P Q a w :=
  wp_mono h fun e a w => by
    cases e
    case normal =>
      rintro ⟨rfl, rfl⟩
      exact h2
    all_goals exact fun h => h.elim
theorem new_cells' {W : World} {cs : Array Value} {e : TypeId} {l : List Value} (hl : l = cs.toList) : ∀ j u, l[j]? = some u → (W.alloc (.cells cs e)).cell? ((⟨W.heap.size, 0, none⟩ : Addr).add j) = some u := by
  subst hl
  exact new_cells
set_option maxHeartbeats 8000000 in
set_option maxRecDepth 100000 in
theorem rseqs_any (A : Option Addr) (c : List Int) (x : Int) (n m : Nat) (w : World) (hl : c.length = n) (hR : IntsAt w A c) (hn : n ≤ 1000000) (hnm : n ≤ m) :
    Calls Try.prog 18 #[.slice A n m, .int .i64 x] w fun e w' => ∃ v T X, e = .returned v ∧ SqI 35 w.heap.size w' v T X ∧ SeqsOk c (zOf c x) x T ∧ Below w.heap.size w w' := by
  obtain ⟨i0, hi, hz0, hz1, hz2⟩ := info_parts infoSeq
  have HE := Lib.hid (rexplicit_as A c x n m w hl hR hn hnm)
  have hzf := zOf_full c x
  have hlev := zOf_lev c x
  have HL := Lib.hid hl
  have HR := Lib.hid hR
  clear hR hl
  generalize hz : zOf c x = z at *
  have HLEV := Lib.hid (show LevOk z from hlev)
  have HZF := Lib.hid hzf
  clear hlev hzf
  go_enter Try.func18, Try.ntmps18
  go_wp2_with fail
  refine HE.out.mono ?_
  rintro e w1 ⟨A1, c1, A2, n2, c2, rfl, hi1, hb1⟩
  have HI1 := Lib.hid hi1
  have HB1 := Lib.hid hb1
  have HR1 := Lib.hid (HR.out.below hb1)
  obtain ⟨N, hN⟩ : ∃ N, z.length = N := ⟨_, rfl⟩
  have hNn : N ≤ n := by
    rcases HZF.out with h | h
    · have := HL.out; omega
    · rw [h] at hN; simp at hN; omega
  rw [hN]
  clear HE hi1 hb1 HR
  go_wp2_with fail
  go_loopw [7, 8] (fun s7 s8 wr => ∃ (i : Nat) (T : List S4) (X : List Value), i ≤ N ∧ s8 = .int .i64 i ∧ SqI 35 w1.heap.size wr s7 T X ∧ T.map (fun s => hd s.p) = headsTo c z i ∧ (∀ s ∈ T, One c z x s) ∧ Below w1.heap.size w1 wr) (fun _ s8 _ => N - (RowKit.intOf s8).toNat)
  case atStart => exact ⟨0, [], [], Nat.zero_le _, rfl, SqI.nil _ _ (by decide), (by simp [headsTo]), (fun s hs => by cases hs), Below.refl _ _⟩
  case round =>
    obtain ⟨i, T, X, hi9, rfl, hsq, hhd, hone, hb⟩ := hrel
    have HSQ := Lib.hid hsq
    have HHD := Lib.hid hhd
    have HONE := Lib.hid hone
    have HB := Lib.hid hb
    have hszr := hb.size
    clear hsq hhd hone hb
    by_cases hlt : i < N
    · have hNe : N = n := by
        rcases HZF.out with h | h
        · have := HL.out; omega
        · rw [h] at hN; simp at hN; omega
      subst hNe
      have hiz : i < z.length := by omega
      have hii : (0 : Int) ≤ (i : Int) := by omega
      have hii2 : (i : Int) < (N : Int) := by omega
      have hIr := HI1.out.below HB.out
      have hRr := HR1.out.below HB.out
      have HIr := Lib.hid hIr
      have HRr := Lib.hid hRr
      obtain ⟨bz, oz, rfl, hcz⟩ := hIr.at_ hiz
      have hLi : L z i = z[i] := L_at hiz
      have hok := HLEV.out i
      have HSTEP := Lib.hid (headsTo_step c z i)
      by_cases h0 : 0 ≤ z[i]
      · have ky : decide (z[i] < 0) = false := decide_eq_false (by omega)
        have hki : L z i ≠ -1 := by rw [hLi]; omega
        go_wp2_with fail
        refine (rfirst_any A (some ⟨bz, oz, none⟩) c z N m c1 i wr HL.out hRr hN hIr HLEV.out hn hlt).mono ?_
        rintro e w2 ⟨rfl, hb2⟩
        cases hf : firstB c z i with
        | false =>
          have HHD2 := Lib.hid (show T.map (fun s => hd s.p) = headsTo c z (i + 1) from by
            rw [HSTEP.out, if_neg (by unfold isHd; rw [hf]; simp), List.append_nil]; exact HHD.out)
          have HB2 := Lib.hid (HB.out.trans (hb2.mono hszr))
          have HSQ2 := Lib.hid (HSQ.out.below hb2)
          clear hb2 hcz hok hIr hRr hki hLi
          go_wp2_with fail
          go_roundw
          case rel => exact ⟨i + 1, T, X, by omega, by go_num, HSQ2.out, HHD2.out, HONE.out, HB2.out⟩
          case measure => simp [RowKit.intOf]; omega
        | true =>
          have hi2 := hIr.below hb2
          have hcz2 : w2.cell? ⟨bz, oz + i, none⟩ = some (.int .i64 z[i]) := (hb2.cell (p := ⟨bz, oz + i, none⟩) (World.block_lt_of_cell? wr _ hcz)).trans hcz
          have hbz2 := World.block_lt_of_cell? w2 _ hcz2
          have HI2 := Lib.hid hi2
          have HR2 := Lib.hid (hRr.below hb2)
          have HSQ2 := Lib.hid (HSQ.out.below hb2)
          have HB2 := Lib.hid (HB.out.trans (hb2.mono hszr))
          generalize hye : z[i] = y at *
          have hdnlt : ∀ q, dn z i = some q → q < N := fun q hq => by have := (dn_some hq).1; omega
          have HND := Lib.hid (fun V (h : Below w2.heap.size w2 V) => near_dn (some ⟨bz, oz, none⟩) z N c1 i ((i : Int) - 1) V hN (hi2.below h) HLEV.out hn (by omega) rfl)
          have HAT := Lib.hid (fun V (h : Below w2.heap.size w2 V) => at_any (some ⟨bz, oz, none⟩) z N c1 (dn z i) x V hN (hi2.below h) hdnlt hn)
          have HWAY := Lib.hid (fun V (h : Below w2.heap.size w2 V) => rway_any y (levO z x (dn z i)) V h0)
          have HEB := Lib.hid (show way y (levO z x (dn z i)) = way (L z i) (ahead x z i) from by rw [hLi]; rfl)
          generalize way y (levO z x (dn z i)) = wy at *
          generalize levO z x (dn z i) = av at *
          have hw0 : IntKind.i64.wrap ((i : Int) - 1) = (i : Int) - 1 := by rw [IntKind.wrap_i64]; omega
          obtain ⟨Bs, hBs⟩ : ∃ Bs, w2.heap.size = Bs := ⟨_, rfl⟩
          obtain ⟨W7, hW7⟩ : ∃ W7, (w2.alloc (.cells #[.int .i64 y, .int .i64 wy, .int .i64 0, .slice none 0 0] 35)).drew = W7 := ⟨_, rfl⟩
          have hx7 : W7.heap[Bs]? = some (.cells #[.int .i64 y, .int .i64 wy, .int .i64 0, .slice none 0 0] 35 (0, 0)) := by
            rw [← hW7, ← hBs]
            exact heap_alloc_last w2 _
          have hb7 : Below w2.heap.size w2 W7 := by
            rw [← hW7]
            exact ((Below.refl w2.heap.size w2).alloc (Nat.le_refl _) _).drew
          have HS := Lib.hid (fun V (h : Below w2.heap.size w2 V) => (h.cell (p := ⟨bz, oz + i, none⟩) hbz2).trans hcz2)
          have HST := Lib.hid hb7
          have HX7 := Lib.hid hx7
          have HW7 := Lib.hid hW7
          have hyLi : L z i = y := hLi
          clear hb2 hcz hok hIr hRr hi2 hx7 hb7 hW7 hdnlt hLi hye
          go_wp2_with fail
          refine wp_same_end (fr := ?fr) (W' := W7) ?reg ?after
          case reg =>
            refine wp_region_held_drew (S := fun V' => V'.cell? ⟨bz, oz + i, none⟩ = some (.int .i64 y)) (by kernel_rfl) (HS.out _ (Below.refl _ _).drew) (fun hHeld => ?_)
            change wpAnyH _ _ _ _ _ 19 #[false, false, false, false, false, false, false, false, false, false, false, false, false, false, false, false, false, false, false] _ _
            refine wpAnyH_take (i := 0) (v := ?_) rfl (by kernel_rfl) (by kernel_rfl) (by kernel_rfl) (fun _ _ _ h => h) (Or.inl ⟨by rfl, ?_⟩) (by assumption) ?_
            rotate_left
            · intro w hSw
              try dsimp only at hSw
              first | (go_simp; done) | (go_simp; with_reducible rfl)
            simp only [List.getElem_toArray, List.getElem_cons_zero, List.getElem_cons_succ, Act.put, List.setIfInBounds_toArray, List.set_cons_zero, List.set_cons_succ]
            refine wpAnyH_take (i := 1) (v := ?_) rfl (by kernel_rfl) (by kernel_rfl) (by kernel_rfl) (fun _ _ _ h => h) (Or.inl ⟨by rfl, ?_⟩) (by assumption) ?_
            rotate_left
            · intro w hSw
              try dsimp only at hSw
              first | (go_simp; done) | (go_simp; with_reducible rfl)
            simp only [List.getElem_toArray, List.getElem_cons_zero, List.getElem_cons_succ, Act.put, List.setIfInBounds_toArray, List.set_cons_zero, List.set_cons_succ]
            refine wpAnyH_take (i := 2) (v := ?_) rfl (by kernel_rfl) (by kernel_rfl) (by kernel_rfl) (fun _ _ _ h => h) (Or.inl ⟨by rfl, ?_⟩) (by assumption) ?_
            rotate_left
            · intro w hSw
              try dsimp only at hSw
              first | (go_simp; done) | (go_simp; with_reducible rfl)
            simp only [List.getElem_toArray, List.getElem_cons_zero, List.getElem_cons_succ, Act.put, List.setIfInBounds_toArray, List.set_cons_zero, List.set_cons_succ]
            refine wpAnyH_take (i := 3) (v := ?_) rfl (by kernel_rfl) (by kernel_rfl) (by kernel_rfl) (fun _ _ _ h => h) (Or.inl ⟨by rfl, ?_⟩) (by assumption) ?_
            rotate_left
            · intro w hSw
              try dsimp only at hSw
              first | (go_simp; done) | (go_simp; with_reducible rfl)
            simp only [List.getElem_toArray, List.getElem_cons_zero, List.getElem_cons_succ, Act.put, List.setIfInBounds_toArray, List.set_cons_zero, List.set_cons_succ]
            refine wpAnyH_take (i := 4) (v := ?_) rfl (by kernel_rfl) (by kernel_rfl) (by kernel_rfl) (fun _ _ _ h => h) (Or.inl ⟨by rfl, ?_⟩) (by assumption) ?_
            rotate_left
            · intro w hSw
              try dsimp only at hSw
              first | (go_simp; done) | (go_simp; with_reducible rfl)
            simp only [List.getElem_toArray, List.getElem_cons_zero, List.getElem_cons_succ, Act.put, List.setIfInBounds_toArray, List.set_cons_zero, List.set_cons_succ]
            refine wpAnyH_take (i := 5) (v := ?_) rfl (by kernel_rfl) (by kernel_rfl) (by kernel_rfl) (fun _ _ _ h => h) (Or.inl ⟨by rfl, ?_⟩) (by assumption) ?_
            rotate_left
            · intro w hSw
              try dsimp only at hSw
              first | (go_simp; done) | (go_simp; with_reducible rfl)
            simp only [List.getElem_toArray, List.getElem_cons_zero, List.getElem_cons_succ, Act.put, List.setIfInBounds_toArray, List.set_cons_zero, List.set_cons_succ]
            refine wpAnyH_take (i := 6) (v := ?_) rfl (by kernel_rfl) (by kernel_rfl) (by kernel_rfl) (fun _ _ _ h => h) (Or.inl ⟨by rfl, ?_⟩) (by assumption) ?_
            rotate_left
            · intro w hSw
              try dsimp only at hSw
              first | (go_simp; done) | (go_simp; with_reducible rfl)
            simp only [List.getElem_toArray, List.getElem_cons_zero, List.getElem_cons_succ, Act.put, List.setIfInBounds_toArray, List.set_cons_zero, List.set_cons_succ]
            refine wpAnyH_take (i := 7) (v := ?_) rfl (by kernel_rfl) (by kernel_rfl) (by kernel_rfl) (fun _ _ _ h => h) (Or.inl ⟨by rfl, ?_⟩) (by assumption) ?_
            rotate_left
            · intro w hSw
              try dsimp only at hSw
              first | (go_simp; done) | (go_simp; with_reducible rfl)
            simp only [List.getElem_toArray, List.getElem_cons_zero, List.getElem_cons_succ, Act.put, List.setIfInBounds_toArray, List.set_cons_zero, List.set_cons_succ]
            refine wpAnyH_take (i := 8) (v := ?_) rfl (by kernel_rfl) (by kernel_rfl) (by kernel_rfl) (fun _ _ _ h => h) (Or.inl ⟨by rfl, ?_⟩) (by assumption) ?_
            rotate_left
            · intro w hSw
              try dsimp only at hSw
              first | (go_simp; done) | (go_simp; with_reducible rfl)
            simp only [List.getElem_toArray, List.getElem_cons_zero, List.getElem_cons_succ, Act.put, List.setIfInBounds_toArray, List.set_cons_zero, List.set_cons_succ]
            refine wpAnyH_take (i := 9) (v := ?_) rfl (by kernel_rfl) (by kernel_rfl) (by kernel_rfl) (fun _ _ _ h => h) (Or.inl ⟨by rfl, ?_⟩) (by assumption) ?_
            rotate_left
            · intro w hSw
              try dsimp only at hSw
              first | (go_simp; done) | (go_simp; with_reducible rfl)
            simp only [List.getElem_toArray, List.getElem_cons_zero, List.getElem_cons_succ, Act.put, List.setIfInBounds_toArray, List.set_cons_zero, List.set_cons_succ]
            refine wpAnyH_take (i := 10) (v := ?_) rfl (by kernel_rfl) (by kernel_rfl) (by kernel_rfl) (fun _ _ _ h => h) (Or.inl ⟨by rfl, ?_⟩) (by assumption) ?_
            rotate_left
            · intro w hSw
              try dsimp only at hSw
              first | (go_simp; done) | (go_simp; with_reducible rfl)
            simp only [List.getElem_toArray, List.getElem_cons_zero, List.getElem_cons_succ, Act.put, List.setIfInBounds_toArray, List.set_cons_zero, List.set_cons_succ]
            refine wpAnyH_take (i := 11) (v := ?_) rfl (by kernel_rfl) (by kernel_rfl) (by kernel_rfl) (fun _ _ _ h => h) (Or.inl ⟨by rfl, ?_⟩) (by assumption) ?_
            rotate_left
            · intro w hSw
              try dsimp only at hSw
              first | (go_simp; done) | (go_simp; with_reducible rfl)
            simp only [List.getElem_toArray, List.getElem_cons_zero, List.getElem_cons_succ, Act.put, List.setIfInBounds_toArray, List.set_cons_zero, List.set_cons_succ]
            refine wpAnyH_take (i := 13) (v := ?_) rfl (by kernel_rfl) (by kernel_rfl) (by kernel_rfl) (fun _ _ _ h => h) (Or.inl ⟨by rfl, ?_⟩) (by assumption) ?_
            rotate_left
            · intro w hSw
              try dsimp only at hSw
              first | (go_simp; done) | (go_simp; with_reducible rfl)
            simp only [List.getElem_toArray, List.getElem_cons_zero, List.getElem_cons_succ, Act.put, List.setIfInBounds_toArray, List.set_cons_zero, List.set_cons_succ]
            refine wpAnyH_ready (rs := [12, 17]) (by kernel_rfl) (by simp) ?_
            refine AllReadyH.cons rfl (fun K hK => ?_) (AllReadyH.cons rfl (fun K hK => ?_) AllReadyH.nil)
            · go_simp
              go_at_call 40
              refine (HND.out _ (Below.refl _ _).drew).mono ?_
              rintro e w' ⟨rfl, rfl⟩
              refine hK.out _ _ (HS.out _ (Below.refl _ _).drew) (fun hHeld => ?_)
              simp only [List.getElem_toArray, List.getElem_cons_zero, List.getElem_cons_succ, Act.put, List.setIfInBounds_toArray, List.set_cons_zero, List.set_cons_succ]
              refine wpAnyH_ready (rs := [14, 17]) (by kernel_rfl) (by simp) ?_
              refine AllReadyH.cons rfl (fun K hK => ?_) (AllReadyH.cons rfl (fun K hK => ?_) AllReadyH.nil)
              · go_simp
                go_at_call 39
                refine (HAT.out _ (Below.refl _ _).drew).mono ?_
                rintro e w' ⟨rfl, rfl⟩
                refine hK.out _ _ (HS.out _ (Below.refl _ _).drew) (fun hHeld => ?_)
                simp only [List.getElem_toArray, List.getElem_cons_zero, List.getElem_cons_succ, Act.put, List.setIfInBounds_toArray, List.set_cons_zero, List.set_cons_succ]
                refine wpAnyH_ready (rs := [15, 17]) (by kernel_rfl) (by simp) ?_
                refine AllReadyH.cons rfl (fun K hK => ?_) (AllReadyH.cons rfl (fun K hK => ?_) AllReadyH.nil)
                · go_simp
                  go_at_call 38
                  refine (HWAY.out _ (Below.refl _ _).drew).mono ?_
                  rintro e w' ⟨rfl, rfl⟩
                  refine hK.out _ _ (HS.out _ (Below.refl _ _).drew) (fun hHeld => ?_)
                  simp only [List.getElem_toArray, List.getElem_cons_zero, List.getElem_cons_succ, Act.put, List.setIfInBounds_toArray, List.set_cons_zero, List.set_cons_succ]
                  refine wpAnyH_take (i := 16) (v := ?_) rfl (by kernel_rfl) (by kernel_rfl) (by kernel_rfl) (fun _ _ _ h => h) (Or.inl ⟨by rfl, ?_⟩) (by assumption) ?_
                  rotate_left
                  · intro w hSw
                    try dsimp only at hSw
                    first | (go_simp; done) | (go_simp; with_reducible rfl)
                  simp only [List.getElem_toArray, List.getElem_cons_zero, List.getElem_cons_succ, Act.put, List.setIfInBounds_toArray, List.set_cons_zero, List.set_cons_succ]
                  refine wpAnyH_ready (rs := [17]) (by kernel_rfl) (by simp) ?_
                  refine AllReadyH.cons rfl (fun K hK => ?_) AllReadyH.nil
                  go_simp
                  refine hK.out _ _ (HS.out _ ((Below.refl _ _).drew.alloc (by exact Nat.le_refl _) _)) (fun hHeld => ?_)
                  simp only [List.getElem_toArray, List.getElem_cons_zero, List.getElem_cons_succ, Act.put, List.setIfInBounds_toArray, List.set_cons_zero, List.set_cons_succ]
                  refine wpAnyH_ready (rs := [18]) (by kernel_rfl) (by simp) ?_
                  refine AllReadyH.cons rfl (fun K hK => ?_) AllReadyH.nil
                  go_simp
                  refine hK.out _ _ (HS.out _ (by rw [HW7.out]; exact HST.out)) (fun hHeld => ?_)
                  simp only [List.getElem_toArray, List.getElem_cons_zero, List.getElem_cons_succ, Act.put, List.setIfInBounds_toArray, List.set_cons_zero, List.set_cons_succ]
                  refine wpAnyH_done (by kernel_rfl) ?_ _
                  refine OnlyN.mk ⟨?_, ?_⟩
                  · with_reducible rfl
                  · exact HW7.out
                · go_simp
                  refine hK.out _ _ (HS.out _ ((Below.refl _ _).drew.alloc (by exact Nat.le_refl _) _)) (fun hHeld => ?_)
                  simp only [List.getElem_toArray, List.getElem_cons_zero, List.getElem_cons_succ, Act.put, List.setIfInBounds_toArray, List.set_cons_zero, List.set_cons_succ]
                  refine wpAnyH_ready (rs := [15]) (by kernel_rfl) (by simp) ?_
                  refine AllReadyH.cons rfl (fun K hK => ?_) AllReadyH.nil
                  go_simp
                  go_at_call 38
                  refine (HWAY.out _ ((Below.refl _ _).drew.alloc (by exact Nat.le_refl _) _)).mono ?_
                  rintro e w' ⟨rfl, rfl⟩
                  refine hK.out _ _ (HS.out _ ((Below.refl _ _).drew.alloc (by exact Nat.le_refl _) _)) (fun hHeld => ?_)
                  simp only [List.getElem_toArray, List.getElem_cons_zero, List.getElem_cons_succ, Act.put, List.setIfInBounds_toArray, List.set_cons_zero, List.set_cons_succ]
                  refine wpAnyH_take (i := 16) (v := ?_) rfl (by kernel_rfl) (by kernel_rfl) (by kernel_rfl) (fun _ _ _ h => h) (Or.inl ⟨by rfl, ?_⟩) (by assumption) ?_
                  rotate_left
                  · intro w hSw
                    try dsimp only at hSw
                    first | (go_simp; done) | (go_simp; with_reducible rfl)
                  simp only [List.getElem_toArray, List.getElem_cons_zero, List.getElem_cons_succ, Act.put, List.setIfInBounds_toArray, List.set_cons_zero, List.set_cons_succ]
                  refine wpAnyH_ready (rs := [18]) (by kernel_rfl) (by simp) ?_
                  refine AllReadyH.cons rfl (fun K hK => ?_) AllReadyH.nil
                  go_simp
                  refine hK.out _ _ (HS.out _ (by rw [HW7.out]; exact HST.out)) (fun hHeld => ?_)
                  simp only [List.getElem_toArray, List.getElem_cons_zero, List.getElem_cons_succ, Act.put, List.setIfInBounds_toArray, List.set_cons_zero, List.set_cons_succ]
                  refine wpAnyH_done (by kernel_rfl) ?_ _
                  refine OnlyN.mk ⟨?_, ?_⟩
                  · with_reducible rfl
                  · exact HW7.out
              · go_simp
                refine hK.out _ _ (HS.out _ ((Below.refl _ _).drew.alloc (by exact Nat.le_refl _) _)) (fun hHeld => ?_)
                simp only [List.getElem_toArray, List.getElem_cons_zero, List.getElem_cons_succ, Act.put, List.setIfInBounds_toArray, List.set_cons_zero, List.set_cons_succ]
                refine wpAnyH_ready (rs := [14]) (by kernel_rfl) (by simp) ?_
                refine AllReadyH.cons rfl (fun K hK => ?_) AllReadyH.nil
                go_simp
                go_at_call 39
                refine (HAT.out _ ((Below.refl _ _).drew.alloc (by exact Nat.le_refl _) _)).mono ?_
                rintro e w' ⟨rfl, rfl⟩
                refine hK.out _ _ (HS.out _ ((Below.refl _ _).drew.alloc (by exact Nat.le_refl _) _)) (fun hHeld => ?_)
                simp only [List.getElem_toArray, List.getElem_cons_zero, List.getElem_cons_succ, Act.put, List.setIfInBounds_toArray, List.set_cons_zero, List.set_cons_succ]
                refine wpAnyH_ready (rs := [15]) (by kernel_rfl) (by simp) ?_
                refine AllReadyH.cons rfl (fun K hK => ?_) AllReadyH.nil
                go_simp
                go_at_call 38
                refine (HWAY.out _ ((Below.refl _ _).drew.alloc (by exact Nat.le_refl _) _)).mono ?_
                rintro e w' ⟨rfl, rfl⟩
                refine hK.out _ _ (HS.out _ ((Below.refl _ _).drew.alloc (by exact Nat.le_refl _) _)) (fun hHeld => ?_)
                simp only [List.getElem_toArray, List.getElem_cons_zero, List.getElem_cons_succ, Act.put, List.setIfInBounds_toArray, List.set_cons_zero, List.set_cons_succ]
                refine wpAnyH_take (i := 16) (v := ?_) rfl (by kernel_rfl) (by kernel_rfl) (by kernel_rfl) (fun _ _ _ h => h) (Or.inl ⟨by rfl, ?_⟩) (by assumption) ?_
                rotate_left
                · intro w hSw
                  try dsimp only at hSw
                  first | (go_simp; done) | (go_simp; with_reducible rfl)
                simp only [List.getElem_toArray, List.getElem_cons_zero, List.getElem_cons_succ, Act.put, List.setIfInBounds_toArray, List.set_cons_zero, List.set_cons_succ]
                refine wpAnyH_ready (rs := [18]) (by kernel_rfl) (by simp) ?_
                refine AllReadyH.cons rfl (fun K hK => ?_) AllReadyH.nil
                go_simp
                refine hK.out _ _ (HS.out _ (by rw [HW7.out]; exact HST.out)) (fun hHeld => ?_)
                simp only [List.getElem_toArray, List.getElem_cons_zero, List.getElem_cons_succ, Act.put, List.setIfInBounds_toArray, List.set_cons_zero, List.set_cons_succ]
                refine wpAnyH_done (by kernel_rfl) ?_ _
                refine OnlyN.mk ⟨?_, ?_⟩
                · with_reducible rfl
                · exact HW7.out
            · go_simp
              refine hK.out _ _ (HS.out _ ((Below.refl _ _).drew.alloc (by exact Nat.le_refl _) _)) (fun hHeld => ?_)
              simp only [List.getElem_toArray, List.getElem_cons_zero, List.getElem_cons_succ, Act.put, List.setIfInBounds_toArray, List.set_cons_zero, List.set_cons_succ]
              refine wpAnyH_ready (rs := [12]) (by kernel_rfl) (by simp) ?_
              refine AllReadyH.cons rfl (fun K hK => ?_) AllReadyH.nil
              go_simp
              go_at_call 40
              refine (HND.out _ ((Below.refl _ _).drew.alloc (by exact Nat.le_refl _) _)).mono ?_
              rintro e w' ⟨rfl, rfl⟩
              refine hK.out _ _ (HS.out _ ((Below.refl _ _).drew.alloc (by exact Nat.le_refl _) _)) (fun hHeld => ?_)
              simp only [List.getElem_toArray, List.getElem_cons_zero, List.getElem_cons_succ, Act.put, List.setIfInBounds_toArray, List.set_cons_zero, List.set_cons_succ]
              refine wpAnyH_ready (rs := [14]) (by kernel_rfl) (by simp) ?_
              refine AllReadyH.cons rfl (fun K hK => ?_) AllReadyH.nil
              go_simp
              go_at_call 39
              refine (HAT.out _ ((Below.refl _ _).drew.alloc (by exact Nat.le_refl _) _)).mono ?_
              rintro e w' ⟨rfl, rfl⟩
              refine hK.out _ _ (HS.out _ ((Below.refl _ _).drew.alloc (by exact Nat.le_refl _) _)) (fun hHeld => ?_)
              simp only [List.getElem_toArray, List.getElem_cons_zero, List.getElem_cons_succ, Act.put, List.setIfInBounds_toArray, List.set_cons_zero, List.set_cons_succ]
              refine wpAnyH_ready (rs := [15]) (by kernel_rfl) (by simp) ?_
              refine AllReadyH.cons rfl (fun K hK => ?_) AllReadyH.nil
              go_simp
              go_at_call 38
              refine (HWAY.out _ ((Below.refl _ _).drew.alloc (by exact Nat.le_refl _) _)).mono ?_
              rintro e w' ⟨rfl, rfl⟩
              refine hK.out _ _ (HS.out _ ((Below.refl _ _).drew.alloc (by exact Nat.le_refl _) _)) (fun hHeld => ?_)
              simp only [List.getElem_toArray, List.getElem_cons_zero, List.getElem_cons_succ, Act.put, List.setIfInBounds_toArray, List.set_cons_zero, List.set_cons_succ]
              refine wpAnyH_take (i := 16) (v := ?_) rfl (by kernel_rfl) (by kernel_rfl) (by kernel_rfl) (fun _ _ _ h => h) (Or.inl ⟨by rfl, ?_⟩) (by assumption) ?_
              rotate_left
              · intro w hSw
                try dsimp only at hSw
                first | (go_simp; done) | (go_simp; with_reducible rfl)
              simp only [List.getElem_toArray, List.getElem_cons_zero, List.getElem_cons_succ, Act.put, List.setIfInBounds_toArray, List.set_cons_zero, List.set_cons_succ]
              refine wpAnyH_ready (rs := [18]) (by kernel_rfl) (by simp) ?_
              refine AllReadyH.cons rfl (fun K hK => ?_) AllReadyH.nil
              go_simp
              refine hK.out _ _ (HS.out _ (by rw [HW7.out]; exact HST.out)) (fun hHeld => ?_)
              simp only [List.getElem_toArray, List.getElem_cons_zero, List.getElem_cons_succ, Act.put, List.setIfInBounds_toArray, List.set_cons_zero, List.set_cons_succ]
              refine wpAnyH_done (by kernel_rfl) ?_ _
              refine OnlyN.mk ⟨?_, ?_⟩
              · with_reducible rfl
              · exact HW7.out
          case after =>
            go_wp2_with fail
            have hcN : c.length = N := HL.out
            go_loopw [10, 11] (fun s10 s11 V => ∃ (l : List Nat) (o : Option Nat) (la : Nat) (atv : Value), s10 = .int .i64 la ∧ s11 = .int .i64 (resO o) ∧ V.heap[Bs]? = some (.cells #[.int .i64 y, .int .i64 wy, .int .i64 0, atv] 35 (0, 0)) ∧ V.ownsRow (Bs + 1) 3 1 atv l.length (icl (ns l)) ∧ Below w2.heap.size w2 V ∧ (∀ p ∈ l, p < N) ∧ (∀ q, o = some q → q < N) ∧ ((l = [] ∧ o = some i ∧ la = i) ∨ (l ≠ [] ∧ Chn c z l ∧ hd l = i ∧ la = lst l ∧ nextS c z (lst l) = o))) (fun _ s11 _ => if RowKit.intOf s11 < 0 then 0 else N + 1 - (RowKit.intOf s11).toNat)
            case atStart => exact ⟨[], some i, i, .slice none 0 0, rfl, rfl, HX7.out, World.ownsRow_nil _ _ _ _, HST.out, (fun p hp => by cases hp), (fun q hq => by injection hq with hq; omega), .inl ⟨rfl, rfl, rfl⟩⟩
            case round =>
              obtain ⟨l, o, la, atv, rfl, rfl, hx, ho, hbw, hlN, hoN, hst⟩ := hrel
              have HX := Lib.hid hx
              have HO := Lib.hid ho
              have HBW := Lib.hid hbw
              have HLN := Lib.hid hlN
              have HST2 := Lib.hid hst
              have hszv := hbw.size
              have hchn : Chn c z l := by
                rcases hst with ⟨h1, _⟩ | ⟨_, h1, _⟩
                · rw [h1]; trivial
                · exact h1
              have hll : l.length ≤ N := up_len' (chn_up hchn) hlN
              obtain ⟨x0, x1, x2, x3⟩ := box4 hx
              have hBlt : Bs < wr.heap.size := (Array.getElem?_eq_some_iff.1 hx).1
              cases o with
              | some q =>
                have hqN := hoN q rfl
                have eq1 : resO (some q) = (q : Int) := rfl
                rw [eq1]
                have HNX := Lib.hid (fun V (h : Below w2.heap.size w2 V) => rnext_any A (some ⟨bz, oz, none⟩) c z N m c1 q V hcN (HR2.out.below h) hN (HI2.out.below h) HLEV.out hn hqN)
                clear hx ho hbw hlN hoN hst hchn
                go_wp2_with (at_builtin; refine wpList_one rfl _ _ rfl (Bs + 1) _ l.length (ns l) (q : Int) rfl ⟨wr.heap.size, 0, none⟩ rfl (HO.out.alloc _) (cell_of_row _ _ 0 _ _ _ (heap_alloc_last _ _)) rfl (by omega) (by simp; omega) ?_; intro v' w5 ho' hg' hw'; obtain ⟨g5, c5, rfl⟩ := ownsRow_succ ho'; have hx5 := box_grown (box_below HX.out (below_made _ _)) (HO.out.alloc _) (by decide) hg'; obtain ⟨a0, a1, a2, a3⟩ := box4 hx5; have f3 := frozen_of_row w5 Bs 3 _ _ hx5)
                have hx6 := heap_setCell_same w5 Bs 3 _ _ (.slice (some ⟨g5, 0, none⟩) (l.length + 1) c5) hx5
                have ho6 := ownsRow_setCell_below ho' (a := ⟨Bs, 3, none⟩) (Nat.lt_succ_self _) (.slice (some ⟨g5, 0, none⟩) (l.length + 1) c5)
                have hb6 := ((HBW.out.alloc HBW.out.size _).grown hg' (by simp; omega) (fun k hk => by have := (HO.out.lt k hk).1; omega)).setCell (p := ⟨Bs, 3, none⟩) (Nat.le_of_eq hBs) (.slice (some ⟨g5, 0, none⟩) (l.length + 1) c5)
                have HX6 := Lib.hid hx6
                have HO6 := Lib.hid ho6
                have HB6 := Lib.hid hb6
                clear hx6 ho6 hb6 hx5 ho' hg' hw' a0 a1 a2 a3 f3 x0 x1 x2 x3
                generalize w5.setCell ⟨Bs, 3, none⟩ (.slice (some ⟨g5, 0, none⟩) (l.length + 1) c5) = V6 at *
                go_wp2_with fail
                refine (HNX.out _ HB6.out).mono ?_
                rintro e w6 ⟨rfl, hb7⟩
                have HX7 := Lib.hid (box_below HX6.out hb7)
                have HO7 := Lib.hid (ownsRow_below HO6.out hb7)
                have HB7 := Lib.hid (HB6.out.trans (hb7.mono HB6.out.size))
                have HLN2 := Lib.hid (show ∀ p ∈ l ++ [q], p < N from fun p hp => by
                  rcases List.mem_append.1 hp with hp | hp
                  · exact HLN.out p hp
                  · simp at hp; omega)
                have HON2 := Lib.hid (show ∀ q', nextS c z q = some q' → q' < N from fun q' hq' => by
                  rcases nextS_cases hq' with ⟨h1, _⟩ | ⟨h1, _⟩
                  · have := L_lt (upS h1).2.1; omega
                  · have := (jump_some h1).2.2.1; omega)
                have HST3 := Lib.hid (show l ++ [q] ≠ [] ∧ Chn c z (l ++ [q]) ∧ hd (l ++ [q]) = i ∧ q = lst (l ++ [q]) ∧ nextS c z (lst (l ++ [q])) = nextS c z q from by
                  rw [lst_snoc]
                  rcases HST2.out with ⟨h1, h2, h3⟩ | ⟨h1, h2, h3, h4, h5⟩
                  · subst h1
                    injection h2 with h2
                    subst h2
                    exact ⟨by simp, trivial, rfl, rfl, rfl⟩
                  · exact ⟨by simp, chn_append h2 (r := [q]) trivial h1 (by simp) h5, by rw [hd_append _ h1]; exact h3, rfl, rfl⟩)
                have HMS := Lib.hid (show (if resO (nextS c z q) < 0 then 0 else N + 1 - (resO (nextS c z q)).toNat) < N + 1 - q from by
                  cases hx : nextS c z q with
                  | none => simp [resO]; omega
                  | some q' =>
                    have hg1 := nextS_gt hx
                    have hg2 := HON2.out q' hx
                    show (if ((q' : Nat) : Int) < 0 then 0 else N + 1 - ((q' : Nat) : Int).toNat) < N + 1 - q
                    rw [if_neg (by omega)]
                    omega)
                have hns : icl (ns l ++ [(q : Int)]) = icl (ns (l ++ [q])) := by rw [ns_append]; rfl
                clear hb7
                go_wp2_with fail
                go_roundw
                case rel => exact ⟨l ++ [q], nextS c z q, q, _, rfl, rfl, HX7.out, by rw [List.length_append, ← hns]; exact HO7.out, HB7.out, HLN2.out, HON2.out, .inr HST3.out⟩
                case measure =>
                  have h := HMS.out
                  have hq0 : ¬ ((q : Int) < 0) := by omega
                  by_cases hneg : resO (nextS c z q) < 0
                  · rw [if_pos hneg] at h
                    simp [RowKit.intOf, hq0, hneg] <;> omega
                  · rw [if_neg hneg] at h
                    simp [RowKit.intOf, hq0, hneg] <;> omega
              | none =>
                have hst' : l ≠ [] ∧ Chn c z l ∧ hd l = i ∧ la = lst l ∧ nextS c z (lst l) = none := by
                  rcases hst with ⟨_, h2, _⟩ | h
                  · cases h2
                  · exact h
                obtain ⟨hs1, hs2, hs3, hs4, hs5⟩ := hst'
                subst hs4
                have hlaN : lst l < N := hlN _ (lst_mem hs1)
                have HL1 := Lib.hid (show l ≠ [] ∧ Chn c z l ∧ hd l = i ∧ nextS c z (lst l) = none from ⟨hs1, hs2, hs3, hs5⟩)
                have HBHd := Lib.hid (show behind c x z (lst l) = if isI (c.getD (lst l) 0) = true ∧ endAt c (lst l) = N then x else levO z x (up z (lst l + 1)) from by
                  unfold behind
                  rw [hcN]
                  by_cases hc : isI (c.getD (lst l) 0) = true ∧ endAt c (lst l) = N
                  · rw [if_pos hc, if_pos hc]
                  · rw [if_neg hc, if_neg hc]
                    cases up z (lst l + 1) <;> rfl)
                generalize hla : lst l = la at *
                have hlac : la < c.length := by omega
                have hupN : ∀ q, up z (la + 1) = some q → q < N := fun q hq => by have := L_lt (upS hq).2.1; omega
                have HNU := Lib.hid (fun V (h : Below w2.heap.size w2 V) => near_up (some ⟨bz, oz, none⟩) z N c1 (la + 1) V hN (HI2.out.below h) HLEV.out hn (by omega))
                have HATU := Lib.hid (fun V (h : Below w2.heap.size w2 V) => at_any (some ⟨bz, oz, none⟩) z N c1 (up z (la + 1)) x V hN (HI2.out.below h) hupN hn)
                rw [show (((la + 1 : Nat)) : Int) = (la : Int) + 1 from by omega] at HNU
                have HEA := Lib.hid (fun V (h : Below w2.heap.size w2 V) => end_any A c N m la V hcN (HR2.out.below h) (by omega) hlaN)
                obtain ⟨bc, oc, rfl, hcc⟩ := (HR2.out.below hbw).at_ hlac
                have hcg : c.getD la 0 = c[la] := by simp [List.getD, List.getElem?_eq_getElem hlac]
                rw [hcg] at HBHd
                generalize c[la] = ci at *
                have hyL : L z i = y := hyLi
                have hli : (0 : Int) ≤ (la : Int) := by omega
                have hli2 : (la : Int) < (N : Int) := by omega
                have hwla : IntKind.i64.wrap ((la : Int) + 1) = (la : Int) + 1 := by rw [IntKind.wrap_i64]; omega
                have hhdi : isHd c z i = true := by unfold isHd; rw [hf]; simp; exact hki
                have HX8 := Lib.hid hx
                have HO8 := Lib.hid ho
                have HBW8 := Lib.hid hbw
                have er : resO none = -1 := rfl
                rw [er]
                generalize up z (la + 1) = uo at *
                clear hx ho hbw hlN hoN hst hs1 hs2 hs3 hs5 hchn hupN HX HO HBW HLN HST2
                go_wp2_with fail
                refine (HNU.out _ HBW8.out).mono ?_
                rintro e w9 ⟨rfl, rfl⟩
                go_wp2_with fail
                refine (HATU.out _ HBW8.out).mono ?_
                rintro e w9 ⟨rfl, rfl⟩
                go_wp2_with fail
                refine (init_any _ _).mono ?_
                rintro e w9 ⟨rfl, rfl⟩
                cases hI : isI ci with
                | false =>
                  obtain ⟨bh, hbh⟩ : ∃ bh, levO z x uo = bh := ⟨_, rfl⟩
                  have HBH := Lib.hid (show behind c x z la = bh from by rw [HBHd.out, if_neg (fun h => by rw [hI] at h; cases h.1)]; exact hbh)
                  rw [hbh]
                  rw [← hla] at HBH
                  have hclw := HS.out wr HBW8.out
                  go_wp2_with fail
                  refine (rway_any y bh _ h0).mono ?_
                  rintro e w9 ⟨rfl, rfl⟩
                  obtain ⟨a0, a1, a2, a3⟩ := box4 HX8.out
                  have f2 := frozen_of_row wr Bs 2 _ _ HX8.out
                  have hx9 := heap_setCell_same wr Bs 2 _ _ (.int .i64 (way y bh)) HX8.out
                  have hbw9 := HBW8.out.setCell (p := ⟨Bs, 2, none⟩) (Nat.le_of_eq hBs) (.int .i64 (way y bh))
                  have ho9 := ownsRow_setCell_below HO8.out (a := ⟨Bs, 2, none⟩) (Nat.lt_succ_self _) (.int .i64 (way y bh))
                  obtain ⟨V9, hV9⟩ : ∃ V9, wr.setCell ⟨Bs, 2, none⟩ (.int .i64 (way y bh)) = V9 := ⟨_, rfl⟩
                  rw [hV9] at hx9 hbw9 ho9
                  obtain ⟨b0, b1, b2, b3⟩ := box4 (v0 := .int .i64 y) (v1 := .int .i64 wy) (v2 := .int .i64 (way y bh)) (v3 := atv) hx9
                  have hsz9 := hbw9.size
                  have HS9 := Lib.hid (HSQ2.out.below hbw9)
                  have HO9 := Lib.hid ho9
                  have hTl : T.length ≤ N := by
                    have e := congrArg List.length HHD.out
                    rw [List.length_map] at e
                    rw [e]
                    unfold headsTo
                    refine Nat.le_trans (List.length_filter_le _ _) ?_
                    simp
                    omega
                  have hw1sz := HB2.out.size
                  have hpu : ∀ (v' : Value) (w11 : World), w11.ownsRow w1.heap.size 35 4 v' (T.length + 1) (cellsS T X ++ c4 ⟨y, wy, way y bh, l⟩ atv) → ∀ o, (V9.alloc o).grownBy w11 u7.ownBlock → SqI 35 w1.heap.size w11 v' (T ++ [⟨y, wy, way y bh, l⟩]) (X ++ [atv]) := fun v' w11 h1 o h2 => by
                    refine (HS9.out.below (below_made _ o)).push ⟨y, wy, way y bh, l⟩ atv h1 h2 (ownsRow_mono (HO9.out.alloc o) (by omega)) (fun u hu => ?_)
                    obtain ⟨k, hk⟩ := List.getElem?_of_mem hu
                    cases hub : u.ownBlock with
                    | none => exact .inl hub
                    | some q =>
                      right
                      rw [hub]
                      intro e
                      have h3 := (HSQ2.out.lt hk hub).2
                      have h4 := (HO9.out.lt q e.symm).1
                      omega
                  have HPU := Lib.hid hpu
                  have HB9 := Lib.hid (HB2.out.trans (hbw9.mono hw1sz))
                  clear hx9 hbw9 ho9 hpu
                  go_wp2_with (at_builtin; refine wpList_append_own _ rfl _ _ 31 rfl w1.heap.size 35 i0 _ 4 48 Try.underlying31 hi hz0 hz1 hz2 rfl (by decide) _ _ _ rfl (HS9.out.below (below_made _ _)).row ⟨V9.heap.size, 0, none⟩ 1 1 (c4 ⟨y, wy, way y bh, l⟩ atv) rfl rfl new_cells (fun u hu => by simp [c4] at hu; rcases hu with rfl | rfl | rfl | rfl; rfl; rfl; rfl; exact own_one HO9.out) (by unfold maxLen; omega) (by omega) (by simp; omega) ?_; intro v' w11 hown' hgrow _)
                  have HS11 := Lib.hid (HPU.out v' w11 hown' _ hgrow)
                  have HB11 := Lib.hid ((HB9.out.alloc HB9.out.size _).grown hgrow (by have := HB9.out.size; simp; omega) (fun k hk => (HSQ2.out.row.lt k hk).1))
                  have HONE2 := Lib.hid (show ∀ s ∈ T ++ [(⟨y, wy, way y bh, l⟩ : S4)], One c z x s from fun s hs => by
                    rcases List.mem_append.1 hs with hs | hs
                    · exact HONE.out s hs
                    · simp at hs
                      subst hs
                      exact ⟨HL1.out.1, HL1.out.2.1, (by show nextS c z (lst l) = none; rw [hla]; exact HL1.out.2.2.2), by show y = L z (hd l); rw [HL1.out.2.2.1]; exact hyL.symm, by show wy = way (L z (hd l)) (ahead x z (hd l)); rw [HL1.out.2.2.1]; exact HEB.out, by show way y bh = way (L z (hd l)) (behind c x z (lst l)); rw [HL1.out.2.2.1, hyL, HBH.out]⟩)
                  have HHD3 := Lib.hid (show (T ++ [(⟨y, wy, way y bh, l⟩ : S4)]).map (fun s => hd s.p) = headsTo c z (i + 1) from by
                    rw [HSTEP.out, if_pos hhdi, List.map_append, HHD.out]
                    simp [HL1.out.2.2.1])
                  clear hown' hgrow
                  go_wp2_with fail
                  go_roundw
                  case rel => exact ⟨i + 1, _, _, by omega, by go_num, HS11.out, HHD3.out, HONE2.out, HB11.out⟩
                  case measure => simp [RowKit.intOf]; omega
                | true =>
                  go_wp2_with fail
                  refine (HEA.out _ HBW8.out).mono ?_
                  rintro e w9 ⟨rfl, rfl⟩
                  by_cases he : endAt c la = N
                  · have HBH := Lib.hid (show behind c x z la = x from by rw [HBHd.out, if_pos ⟨hI, he⟩])
                    have kE : ((endAt c la : Int) == (N : Int)) = true := by simp; omega
                    generalize endAt c la = ea at *
                    rw [← hla] at HBH
                    have hclw := HS.out wr HBW8.out
                    go_wp2_with fail
                    refine (rway_any y x _ h0).mono ?_
                    rintro e w9 ⟨rfl, rfl⟩
                    obtain ⟨a0, a1, a2, a3⟩ := box4 HX8.out
                    have f2 := frozen_of_row wr Bs 2 _ _ HX8.out
                    have hx9 := heap_setCell_same wr Bs 2 _ _ (.int .i64 (way y x)) HX8.out
                    have hbw9 := HBW8.out.setCell (p := ⟨Bs, 2, none⟩) (Nat.le_of_eq hBs) (.int .i64 (way y x))
                    have ho9 := ownsRow_setCell_below HO8.out (a := ⟨Bs, 2, none⟩) (Nat.lt_succ_self _) (.int .i64 (way y x))
                    obtain ⟨V9, hV9⟩ : ∃ V9, wr.setCell ⟨Bs, 2, none⟩ (.int .i64 (way y x)) = V9 := ⟨_, rfl⟩
                    rw [hV9] at hx9 hbw9 ho9
                    obtain ⟨b0, b1, b2, b3⟩ := box4 (v0 := .int .i64 y) (v1 := .int .i64 wy) (v2 := .int .i64 (way y x)) (v3 := atv) hx9
                    have hsz9 := hbw9.size
                    have HS9 := Lib.hid (HSQ2.out.below hbw9)
                    have HO9 := Lib.hid ho9
                    have hTl : T.length ≤ N := by
                      have e := congrArg List.length HHD.out
                      rw [List.length_map] at e
                      rw [e]
                      unfold headsTo
                      refine Nat.le_trans (List.length_filter_le _ _) ?_
                      simp
                      omega
                    have hw1sz := HB2.out.size
                    have hpu : ∀ (v' : Value) (w11 : World), w11.ownsRow w1.heap.size 35 4 v' (T.length + 1) (cellsS T X ++ c4 ⟨y, wy, way y x, l⟩ atv) → ∀ o, (V9.alloc o).grownBy w11 u7.ownBlock → SqI 35 w1.heap.size w11 v' (T ++ [⟨y, wy, way y x, l⟩]) (X ++ [atv]) := fun v' w11 h1 o h2 => by
                      refine (HS9.out.below (below_made _ o)).push ⟨y, wy, way y x, l⟩ atv h1 h2 (ownsRow_mono (HO9.out.alloc o) (by omega)) (fun u hu => ?_)
                      obtain ⟨k, hk⟩ := List.getElem?_of_mem hu
                      cases hub : u.ownBlock with
                      | none => exact .inl hub
                      | some q =>
                        right
                        rw [hub]
                        intro e
                        have h3 := (HSQ2.out.lt hk hub).2
                        have h4 := (HO9.out.lt q e.symm).1
                        omega
                    have HPU := Lib.hid hpu
                    have HB9 := Lib.hid (HB2.out.trans (hbw9.mono hw1sz))
                    clear hx9 hbw9 ho9 hpu
                    go_wp2_with (at_builtin; refine wpList_append_own _ rfl _ _ 31 rfl w1.heap.size 35 i0 _ 4 48 Try.underlying31 hi hz0 hz1 hz2 rfl (by decide) _ _ _ rfl (HS9.out.below (below_made _ _)).row ⟨V9.heap.size, 0, none⟩ 1 1 (c4 ⟨y, wy, way y x, l⟩ atv) rfl rfl new_cells (fun u hu => by simp [c4] at hu; rcases hu with rfl | rfl | rfl | rfl; rfl; rfl; rfl; exact own_one HO9.out) (by unfold maxLen; omega) (by omega) (by simp; omega) ?_; intro v' w11 hown' hgrow _)
                    have HS11 := Lib.hid (HPU.out v' w11 hown' _ hgrow)
                    have HB11 := Lib.hid ((HB9.out.alloc HB9.out.size _).grown hgrow (by have := HB9.out.size; simp; omega) (fun k hk => (HSQ2.out.row.lt k hk).1))
                    have HONE2 := Lib.hid (show ∀ s ∈ T ++ [(⟨y, wy, way y x, l⟩ : S4)], One c z x s from fun s hs => by
                      rcases List.mem_append.1 hs with hs | hs
                      · exact HONE.out s hs
                      · simp at hs
                        subst hs
                        exact ⟨HL1.out.1, HL1.out.2.1, (by show nextS c z (lst l) = none; rw [hla]; exact HL1.out.2.2.2), by show y = L z (hd l); rw [HL1.out.2.2.1]; exact hyL.symm, by show wy = way (L z (hd l)) (ahead x z (hd l)); rw [HL1.out.2.2.1]; exact HEB.out, by show way y x = way (L z (hd l)) (behind c x z (lst l)); rw [HL1.out.2.2.1, hyL, HBH.out]⟩)
                    have HHD3 := Lib.hid (show (T ++ [(⟨y, wy, way y x, l⟩ : S4)]).map (fun s => hd s.p) = headsTo c z (i + 1) from by
                      rw [HSTEP.out, if_pos hhdi, List.map_append, HHD.out]
                      simp [HL1.out.2.2.1])
                    clear hown' hgrow
                    go_wp2_with fail
                    go_roundw
                    case rel => exact ⟨i + 1, _, _, by omega, by go_num, HS11.out, HHD3.out, HONE2.out, HB11.out⟩
                    case measure => simp [RowKit.intOf]; omega
                  · obtain ⟨bh, hbh⟩ : ∃ bh, levO z x uo = bh := ⟨_, rfl⟩
                    have HBH := Lib.hid (show behind c x z la = bh from by rw [HBHd.out, if_neg (fun h => he h.2)]; exact hbh)
                    have kE : ((endAt c la : Int) == (N : Int)) = false := by simp; omega
                    generalize endAt c la = ea at *
                    rw [hbh]
                    rw [← hla] at HBH
                    have hclw := HS.out wr HBW8.out
                    go_wp2_with fail
                    refine (rway_any y bh _ h0).mono ?_
                    rintro e w9 ⟨rfl, rfl⟩
                    obtain ⟨a0, a1, a2, a3⟩ := box4 HX8.out
                    have f2 := frozen_of_row wr Bs 2 _ _ HX8.out
                    have hx9 := heap_setCell_same wr Bs 2 _ _ (.int .i64 (way y bh)) HX8.out
                    have hbw9 := HBW8.out.setCell (p := ⟨Bs, 2, none⟩) (Nat.le_of_eq hBs) (.int .i64 (way y bh))
                    have ho9 := ownsRow_setCell_below HO8.out (a := ⟨Bs, 2, none⟩) (Nat.lt_succ_self _) (.int .i64 (way y bh))
                    obtain ⟨V9, hV9⟩ : ∃ V9, wr.setCell ⟨Bs, 2, none⟩ (.int .i64 (way y bh)) = V9 := ⟨_, rfl⟩
                    rw [hV9] at hx9 hbw9 ho9
                    obtain ⟨b0, b1, b2, b3⟩ := box4 (v0 := .int .i64 y) (v1 := .int .i64 wy) (v2 := .int .i64 (way y bh)) (v3 := atv) hx9
                    have hsz9 := hbw9.size
                    have HS9 := Lib.hid (HSQ2.out.below hbw9)
                    have HO9 := Lib.hid ho9
                    have hTl : T.length ≤ N := by
                      have e := congrArg List.length HHD.out
                      rw [List.length_map] at e
                      rw [e]
                      unfold headsTo
                      refine Nat.le_trans (List.length_filter_le _ _) ?_
                      simp
                      omega
                    have hw1sz := HB2.out.size
                    have hpu : ∀ (v' : Value) (w11 : World), w11.ownsRow w1.heap.size 35 4 v' (T.length + 1) (cellsS T X ++ c4 ⟨y, wy, way y bh, l⟩ atv) → ∀ o, (V9.alloc o).grownBy w11 u7.ownBlock → SqI 35 w1.heap.size w11 v' (T ++ [⟨y, wy, way y bh, l⟩]) (X ++ [atv]) := fun v' w11 h1 o h2 => by
                      refine (HS9.out.below (below_made _ o)).push ⟨y, wy, way y bh, l⟩ atv h1 h2 (ownsRow_mono (HO9.out.alloc o) (by omega)) (fun u hu => ?_)
                      obtain ⟨k, hk⟩ := List.getElem?_of_mem hu
                      cases hub : u.ownBlock with
                      | none => exact .inl hub
                      | some q =>
                        right
                        rw [hub]
                        intro e
                        have h3 := (HSQ2.out.lt hk hub).2
                        have h4 := (HO9.out.lt q e.symm).1
                        omega
                    have HPU := Lib.hid hpu
                    have HB9 := Lib.hid (HB2.out.trans (hbw9.mono hw1sz))
                    clear hx9 hbw9 ho9 hpu
                    go_wp2_with (at_builtin; refine wpList_append_own _ rfl _ _ 31 rfl w1.heap.size 35 i0 _ 4 48 Try.underlying31 hi hz0 hz1 hz2 rfl (by decide) _ _ _ rfl (HS9.out.below (below_made _ _)).row ⟨V9.heap.size, 0, none⟩ 1 1 (c4 ⟨y, wy, way y bh, l⟩ atv) rfl rfl new_cells (fun u hu => by simp [c4] at hu; rcases hu with rfl | rfl | rfl | rfl; rfl; rfl; rfl; exact own_one HO9.out) (by unfold maxLen; omega) (by omega) (by simp; omega) ?_; intro v' w11 hown' hgrow _)
                    have HS11 := Lib.hid (HPU.out v' w11 hown' _ hgrow)
                    have HB11 := Lib.hid ((HB9.out.alloc HB9.out.size _).grown hgrow (by have := HB9.out.size; simp; omega) (fun k hk => (HSQ2.out.row.lt k hk).1))
                    have HONE2 := Lib.hid (show ∀ s ∈ T ++ [(⟨y, wy, way y bh, l⟩ : S4)], One c z x s from fun s hs => by
                      rcases List.mem_append.1 hs with hs | hs
                      · exact HONE.out s hs
                      · simp at hs
                        subst hs
                        exact ⟨HL1.out.1, HL1.out.2.1, (by show nextS c z (lst l) = none; rw [hla]; exact HL1.out.2.2.2), by show y = L z (hd l); rw [HL1.out.2.2.1]; exact hyL.symm, by show wy = way (L z (hd l)) (ahead x z (hd l)); rw [HL1.out.2.2.1]; exact HEB.out, by show way y bh = way (L z (hd l)) (behind c x z (lst l)); rw [HL1.out.2.2.1, hyL, HBH.out]⟩)
                    have HHD3 := Lib.hid (show (T ++ [(⟨y, wy, way y bh, l⟩ : S4)]).map (fun s => hd s.p) = headsTo c z (i + 1) from by
                      rw [HSTEP.out, if_pos hhdi, List.map_append, HHD.out]
                      simp [HL1.out.2.2.1])
                    clear hown' hgrow
                    go_wp2_with fail
                    go_roundw
                    case rel => exact ⟨i + 1, _, _, by omega, by go_num, HS11.out, HHD3.out, HONE2.out, HB11.out⟩
                    case measure => simp [RowKit.intOf]; omega
      · have ky : decide (z[i] < 0) = true := decide_eq_true (by omega)
        have HHD2 := Lib.hid (show T.map (fun s => hd s.p) = headsTo c z (i + 1) from by
          rw [HSTEP.out, if_neg (by unfold isHd; rw [show L z i = -1 from by rw [hLi] at hok ⊢; omega]; simp), List.append_nil]; exact HHD.out)
        generalize z[i] = y at *
        clear hok hIr hRr hLi h0
        go_wp2_with fail
        go_roundw
        case rel => exact ⟨i + 1, T, X, by omega, by go_num, HSQ.out, HHD2.out, HONE.out, HB.out⟩
        case measure => simp [RowKit.intOf]; omega
    · obtain rfl : i = N := by omega
      go_wp2_with fail
      go_ret
      exact ⟨_, T, X, rfl, HSQ.out.mono HB1.out.size, ⟨by rw [hN]; exact HHD.out, HONE.out⟩, HB1.out.trans (HB.out.mono HB1.out.size)⟩
end Go.Proofs.Ytehndhkcmccpmaa.Sq
