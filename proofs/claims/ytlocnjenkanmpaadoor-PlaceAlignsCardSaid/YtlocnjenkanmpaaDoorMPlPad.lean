/-
  Proved here: what parquetryref19.Pad returns, for every row of slots of at most 2^40, every width of at most 1048576, every alignment: the plain pads. It leaves what was in memory.
-/
import Derived.LoopTactic
import Derived.Test.YtlocnjenkanmpaaDoorM2
set_option linter.unusedVariables false
namespace Go.Proofs.YtlocnjenkanmpaaDoor.Pl
open Go Go.RowKit Go.Lib Go.Proofs.YtlocnjenkanmpaaDoor.Ku Go.Proofs.YtlocnjenkanmpaaDoor.Wr
theorem infoSl : sixInfo 42 := by unfold sixInfo; kernel_rfl
theorem pad_yes {T : List C6} {W : Nat} {al : Int} {i j : Nat} (h1 : leftN (min W T.length) W al ≤ i) (hj : i - leftN (min W T.length) W al = j) (h2 : j < min W T.length) (h3 : j < T.length) : padAt T W al i = T[j] := by
  unfold padAt
  rw [List.length_take, hj, if_pos ⟨h1, h2⟩, List.getD_eq_getElem?_getD, List.getElem?_take, if_pos (by omega), List.getElem?_eq_getElem h3]
  rfl
theorem pad_no {T : List C6} {W : Nat} {al : Int} {i : Nat} (h : ¬ (leftN (min W T.length) W al ≤ i ∧ i - leftN (min W T.length) W al < min W T.length)) : padAt T W al i = padS := by
  unfold padAt
  rw [List.length_take, if_neg h]
set_option maxHeartbeats 8000000 in
set_option maxRecDepth 100000 in
theorem rpad_any (A : Option Addr) (T : List C6) (n c W : Nat) (al : Int) (w : World) (hR : CuAt w A T) (hl : T.length = n) (hc : n ≤ c) (hn : n ≤ 1099511627776) (hW : W ≤ 1048576) :
    Calls Tryd.prog 23 #[.slice A n c, .int .i64 W, .int .i64 al] w fun e w' => ∃ v, e = .returned v ∧ w'.ownsRow w.heap.size 42 6 v W (cellsC (padP T W al)) ∧ Below w.heap.size w w' := by
  have HR := Lib.hid hR
  have HL := Lib.hid hl
  obtain ⟨M, hM⟩ : ∃ M, min W T.length = M := ⟨_, rfl⟩
  obtain ⟨L, hL0⟩ : ∃ L, leftN M W al = L := ⟨_, rfl⟩
  have hle := leftN_le M W al
  rw [hL0] at hle
  have hMW : M ≤ W ∧ M ≤ n := by omega
  have HAT := Lib.hid (fun (i j : Nat) (h1 : L ≤ i) (hj : i - L = j) (h2 : j < M) (h3 : j < T.length) => (show padAt T W al i = T[j] from pad_yes (by rw [hM, hL0]; exact h1) (by rw [hM, hL0]; exact hj) (by rw [hM]; exact h2) h3))
  have HNO := Lib.hid (fun (i : Nat) (h : ¬ (L ≤ i ∧ i - L < M)) => (show padAt T W al i = padS from pad_no (by rw [hM, hL0]; exact h)))
  unfold padP
  clear hR
  by_cases hbig : W < n
  · obtain ⟨g0, o0, rfl, -⟩ := HR.out.at_ (k := 0) (by rw [hl]; omega)
    have b1 : decide ((W : Int) < (n : Int)) = true := decide_eq_true (by omega)
    have b1' : decide (W < n) = true := decide_eq_true hbig
    have b2 : (0 : Int) ≤ (W : Int) := by omega
    have b3 : (W : Int) ≤ (c : Int) := by omega
    obtain rfl : W = M := by omega
    obtain rfl : L = 0 := by omega
    by_cases h3 : al = 3
    · have a1 : (al == (3 : Int)) = true := beq_iff_eq.2 h3
      have a2 : (al == (4 : Int)) = false := beq_eq_false_iff_ne.2 (by omega)
      subst h3
      clear hl hM hL0
      go_enter Tryd.func23, Tryd.ntmps23
      go_wp2_with fail
      go_loopw [8, 9] (fun s8 s9 wx => ∃ (i : Nat) (v : Value), i ≤ W ∧ s9 = .int .i64 i ∧ s8 = v ∧ wx.ownsRow w.heap.size 42 6 v i (cellsC ((List.range i).map (padAt T W 3))) ∧ Below w.heap.size w wx) (fun _ s9 _ => W - (RowKit.intOf s9).toNat)
      case atStart => exact ⟨0, _, Nat.zero_le _, rfl, rfl, World.ownsRow_nil _ _ _ _, Below.refl _ _⟩
      case round =>
        obtain ⟨i, v, hi, rfl, rfl, hown, hb⟩ := hrel
        have HO := Lib.hid hown
        have HB := Lib.hid hb
        have hsz := hb.size
        by_cases hlt : i < W
        · have i0 : (0 : Int) ≤ (i : Int) := by omega
          have i1 : (i : Int) < (W : Int) := by omega
          by_cases hL : 0 ≤ i
          · have k1 : decide ((i : Int) ≥ (0 : Int)) = true := decide_eq_true (by omega)
            have k1' : decide ((0 : Int) ≤ (i : Int)) = true := decide_eq_true (by omega)
            have k1'' : decide (0 ≤ i) = true := decide_eq_true hL
            by_cases hm : i < W
            · have k2 : decide ((i : Int) < (W : Int)) = true := decide_eq_true (by omega)
              have k2' : decide (i < W) = true := decide_eq_true hm
              have j0 : (0 : Int) ≤ (i : Int) := by omega
              have j1 : (i : Int) < (W : Int) := by omega
              have hjn : i < T.length := by have := HL.out; omega
              obtain ⟨g, o, hAA, hg, c0, c1, c2, c3, c4, c5⟩ := (HR.out.below hb).at_ hjn
              injection hAA with hAA
              injection hAA with hA1 hA2
              subst hA1 hA2
              have HPA := Lib.hid (show (List.range (i + 1)).map (padAt T W 3) = (List.range i).map (padAt T W 3) ++ [T[i]] from by
                rw [List.range_succ, List.map_append, List.map_cons, List.map_nil, HAT.out i i hL (by omega) hm hjn])
              generalize T[i] = x at *
              clear hown hb hjn
              go_wp2_with (at_builtin; refine wpList_addC 27 42 Tryd.underlying27 infoSl rfl _ _ rfl w.heap.size _ i _ rfl (Cl.ownsRow_below HO.out (Cl.below_made _ _)) (some ⟨wr.heap.size, 0, none⟩) 1 1 [x] rfl (made_c x _ wr) rfl (by omega) (by rw [World.size_alloc]; omega) ?_)
              intro v' w2 hown2 hb2 _
              have HB2 := Lib.hid ((HB.out.trans ((Cl.below_made wr (.cells #[.int .i64 x.a, .int .i64 x.z, .int .i64 x.f, .int .i64 x.t, .int .i64 x.w, .int .i64 x.c] 42)).mono hsz)).trans hb2)
              have HO2 := Lib.hid (show w2.ownsRow w.heap.size 42 6 v' (i + 1) (cellsC ((List.range (i + 1)).map (padAt T W 3))) from by rw [HPA.out]; exact hown2)
              clear hown2 hb2
              go_wp2_with fail
              exact ⟨⟨i + 1, v', by omega, by go_num, rfl, HO2.out, HB2.out⟩, by simp [RowKit.intOf]; omega⟩
            · have k2 : decide ((i : Int) < (W : Int)) = false := decide_eq_false (by omega)
              have k2' : decide (i < W) = false := decide_eq_false hm
              first
              | (exfalso; omega)
              | have HPA := Lib.hid (show (List.range (i + 1)).map (padAt T W 3) = (List.range i).map (padAt T W 3) ++ [padS] from by
                  rw [List.range_succ, List.map_append, List.map_cons, List.map_nil, HNO.out i (fun h => hm (by omega))])
                clear hown hb
                go_wp2_with (at_builtin; refine wpList_addC 27 42 Tryd.underlying27 infoSl rfl _ _ rfl w.heap.size _ i _ rfl (Cl.ownsRow_below HO.out (Cl.below_made _ _)) (some ⟨wr.heap.size, 0, none⟩) 1 1 [padS] rfl (made_c padS _ wr) rfl (by omega) (by rw [World.size_alloc]; omega) ?_)
                intro v' w2 hown2 hb2 _
                have HB2 := Lib.hid ((HB.out.trans ((Cl.below_made wr (.cells #[.int .i64 2, .int .i64 0, .int .i64 0, .int .i64 0, .int .i64 0, .int .i64 0] 42)).mono hsz)).trans hb2)
                have HO2 := Lib.hid (show w2.ownsRow w.heap.size 42 6 v' (i + 1) (cellsC ((List.range (i + 1)).map (padAt T W 3))) from by rw [HPA.out]; exact hown2)
                clear hown2 hb2
                go_wp2_with fail
                exact ⟨⟨i + 1, v', by omega, by go_num, rfl, HO2.out, HB2.out⟩, by simp [RowKit.intOf]; omega⟩
          · have k1 : decide ((i : Int) ≥ (0 : Int)) = false := decide_eq_false (by omega)
            have k1' : decide ((0 : Int) ≤ (i : Int)) = false := decide_eq_false (by omega)
            have k1'' : decide (0 ≤ i) = false := decide_eq_false hL
            first
            | (exfalso; omega)
            | have HPA := Lib.hid (show (List.range (i + 1)).map (padAt T W 3) = (List.range i).map (padAt T W 3) ++ [padS] from by
                rw [List.range_succ, List.map_append, List.map_cons, List.map_nil, HNO.out i (fun h => hL h.1)])
              clear hown hb
              go_wp2_with (at_builtin; refine wpList_addC 27 42 Tryd.underlying27 infoSl rfl _ _ rfl w.heap.size _ i _ rfl (Cl.ownsRow_below HO.out (Cl.below_made _ _)) (some ⟨wr.heap.size, 0, none⟩) 1 1 [padS] rfl (made_c padS _ wr) rfl (by omega) (by rw [World.size_alloc]; omega) ?_)
              intro v' w2 hown2 hb2 _
              have HB2 := Lib.hid ((HB.out.trans ((Cl.below_made wr (.cells #[.int .i64 2, .int .i64 0, .int .i64 0, .int .i64 0, .int .i64 0, .int .i64 0] 42)).mono hsz)).trans hb2)
              have HO2 := Lib.hid (show w2.ownsRow w.heap.size 42 6 v' (i + 1) (cellsC ((List.range (i + 1)).map (padAt T W 3))) from by rw [HPA.out]; exact hown2)
              clear hown2 hb2
              go_wp2_with fail
              exact ⟨⟨i + 1, v', by omega, by go_num, rfl, HO2.out, HB2.out⟩, by simp [RowKit.intOf]; omega⟩
        · obtain rfl : i = W := by omega
          have j1 : decide ((i : Int) < (i : Int)) = false := decide_eq_false (by omega)
          clear hown hb
          go_wp2_with fail
          go_ret
          exact ⟨_, rfl, HO.out, HB.out⟩
    · have a1 : (al == (3 : Int)) = false := beq_eq_false_iff_ne.2 h3
      by_cases h4 : al = 4
      · have a2 : (al == (4 : Int)) = true := beq_iff_eq.2 h4
        subst h4
        clear hl hM hL0
        go_enter Tryd.func23, Tryd.ntmps23
        go_wp2_with fail
        go_loopw [8, 9] (fun s8 s9 wx => ∃ (i : Nat) (v : Value), i ≤ W ∧ s9 = .int .i64 i ∧ s8 = v ∧ wx.ownsRow w.heap.size 42 6 v i (cellsC ((List.range i).map (padAt T W 4))) ∧ Below w.heap.size w wx) (fun _ s9 _ => W - (RowKit.intOf s9).toNat)
        case atStart => exact ⟨0, _, Nat.zero_le _, rfl, rfl, World.ownsRow_nil _ _ _ _, Below.refl _ _⟩
        case round =>
          obtain ⟨i, v, hi, rfl, rfl, hown, hb⟩ := hrel
          have HO := Lib.hid hown
          have HB := Lib.hid hb
          have hsz := hb.size
          by_cases hlt : i < W
          · have i0 : (0 : Int) ≤ (i : Int) := by omega
            have i1 : (i : Int) < (W : Int) := by omega
            by_cases hL : 0 ≤ i
            · have k1 : decide ((i : Int) ≥ (0 : Int)) = true := decide_eq_true (by omega)
              have k1' : decide ((0 : Int) ≤ (i : Int)) = true := decide_eq_true (by omega)
              have k1'' : decide (0 ≤ i) = true := decide_eq_true hL
              by_cases hm : i < W
              · have k2 : decide ((i : Int) < (W : Int)) = true := decide_eq_true (by omega)
                have k2' : decide (i < W) = true := decide_eq_true hm
                have j0 : (0 : Int) ≤ (i : Int) := by omega
                have j1 : (i : Int) < (W : Int) := by omega
                have hjn : i < T.length := by have := HL.out; omega
                obtain ⟨g, o, hAA, hg, c0, c1, c2, c3, c4, c5⟩ := (HR.out.below hb).at_ hjn
                injection hAA with hAA
                injection hAA with hA1 hA2
                subst hA1 hA2
                have HPA := Lib.hid (show (List.range (i + 1)).map (padAt T W 4) = (List.range i).map (padAt T W 4) ++ [T[i]] from by
                  rw [List.range_succ, List.map_append, List.map_cons, List.map_nil, HAT.out i i hL (by omega) hm hjn])
                generalize T[i] = x at *
                clear hown hb hjn
                go_wp2_with (at_builtin; refine wpList_addC 27 42 Tryd.underlying27 infoSl rfl _ _ rfl w.heap.size _ i _ rfl (Cl.ownsRow_below HO.out (Cl.below_made _ _)) (some ⟨wr.heap.size, 0, none⟩) 1 1 [x] rfl (made_c x _ wr) rfl (by omega) (by rw [World.size_alloc]; omega) ?_)
                intro v' w2 hown2 hb2 _
                have HB2 := Lib.hid ((HB.out.trans ((Cl.below_made wr (.cells #[.int .i64 x.a, .int .i64 x.z, .int .i64 x.f, .int .i64 x.t, .int .i64 x.w, .int .i64 x.c] 42)).mono hsz)).trans hb2)
                have HO2 := Lib.hid (show w2.ownsRow w.heap.size 42 6 v' (i + 1) (cellsC ((List.range (i + 1)).map (padAt T W 4))) from by rw [HPA.out]; exact hown2)
                clear hown2 hb2
                go_wp2_with fail
                exact ⟨⟨i + 1, v', by omega, by go_num, rfl, HO2.out, HB2.out⟩, by simp [RowKit.intOf]; omega⟩
              · have k2 : decide ((i : Int) < (W : Int)) = false := decide_eq_false (by omega)
                have k2' : decide (i < W) = false := decide_eq_false hm
                first
                | (exfalso; omega)
                | have HPA := Lib.hid (show (List.range (i + 1)).map (padAt T W 4) = (List.range i).map (padAt T W 4) ++ [padS] from by
                    rw [List.range_succ, List.map_append, List.map_cons, List.map_nil, HNO.out i (fun h => hm (by omega))])
                  clear hown hb
                  go_wp2_with (at_builtin; refine wpList_addC 27 42 Tryd.underlying27 infoSl rfl _ _ rfl w.heap.size _ i _ rfl (Cl.ownsRow_below HO.out (Cl.below_made _ _)) (some ⟨wr.heap.size, 0, none⟩) 1 1 [padS] rfl (made_c padS _ wr) rfl (by omega) (by rw [World.size_alloc]; omega) ?_)
                  intro v' w2 hown2 hb2 _
                  have HB2 := Lib.hid ((HB.out.trans ((Cl.below_made wr (.cells #[.int .i64 2, .int .i64 0, .int .i64 0, .int .i64 0, .int .i64 0, .int .i64 0] 42)).mono hsz)).trans hb2)
                  have HO2 := Lib.hid (show w2.ownsRow w.heap.size 42 6 v' (i + 1) (cellsC ((List.range (i + 1)).map (padAt T W 4))) from by rw [HPA.out]; exact hown2)
                  clear hown2 hb2
                  go_wp2_with fail
                  exact ⟨⟨i + 1, v', by omega, by go_num, rfl, HO2.out, HB2.out⟩, by simp [RowKit.intOf]; omega⟩
            · have k1 : decide ((i : Int) ≥ (0 : Int)) = false := decide_eq_false (by omega)
              have k1' : decide ((0 : Int) ≤ (i : Int)) = false := decide_eq_false (by omega)
              have k1'' : decide (0 ≤ i) = false := decide_eq_false hL
              first
              | (exfalso; omega)
              | have HPA := Lib.hid (show (List.range (i + 1)).map (padAt T W 4) = (List.range i).map (padAt T W 4) ++ [padS] from by
                  rw [List.range_succ, List.map_append, List.map_cons, List.map_nil, HNO.out i (fun h => hL h.1)])
                clear hown hb
                go_wp2_with (at_builtin; refine wpList_addC 27 42 Tryd.underlying27 infoSl rfl _ _ rfl w.heap.size _ i _ rfl (Cl.ownsRow_below HO.out (Cl.below_made _ _)) (some ⟨wr.heap.size, 0, none⟩) 1 1 [padS] rfl (made_c padS _ wr) rfl (by omega) (by rw [World.size_alloc]; omega) ?_)
                intro v' w2 hown2 hb2 _
                have HB2 := Lib.hid ((HB.out.trans ((Cl.below_made wr (.cells #[.int .i64 2, .int .i64 0, .int .i64 0, .int .i64 0, .int .i64 0, .int .i64 0] 42)).mono hsz)).trans hb2)
                have HO2 := Lib.hid (show w2.ownsRow w.heap.size 42 6 v' (i + 1) (cellsC ((List.range (i + 1)).map (padAt T W 4))) from by rw [HPA.out]; exact hown2)
                clear hown2 hb2
                go_wp2_with fail
                exact ⟨⟨i + 1, v', by omega, by go_num, rfl, HO2.out, HB2.out⟩, by simp [RowKit.intOf]; omega⟩
          · obtain rfl : i = W := by omega
            have j1 : decide ((i : Int) < (i : Int)) = false := decide_eq_false (by omega)
            clear hown hb
            go_wp2_with fail
            go_ret
            exact ⟨_, rfl, HO.out, HB.out⟩
      · have a2 : (al == (4 : Int)) = false := beq_eq_false_iff_ne.2 h4
        clear hl hM hL0
        go_enter Tryd.func23, Tryd.ntmps23
        go_wp2_with fail
        go_loopw [8, 9] (fun s8 s9 wx => ∃ (i : Nat) (v : Value), i ≤ W ∧ s9 = .int .i64 i ∧ s8 = v ∧ wx.ownsRow w.heap.size 42 6 v i (cellsC ((List.range i).map (padAt T W al))) ∧ Below w.heap.size w wx) (fun _ s9 _ => W - (RowKit.intOf s9).toNat)
        case atStart => exact ⟨0, _, Nat.zero_le _, rfl, rfl, World.ownsRow_nil _ _ _ _, Below.refl _ _⟩
        case round =>
          obtain ⟨i, v, hi, rfl, rfl, hown, hb⟩ := hrel
          have HO := Lib.hid hown
          have HB := Lib.hid hb
          have hsz := hb.size
          by_cases hlt : i < W
          · have i0 : (0 : Int) ≤ (i : Int) := by omega
            have i1 : (i : Int) < (W : Int) := by omega
            by_cases hL : 0 ≤ i
            · have k1 : decide ((i : Int) ≥ (0 : Int)) = true := decide_eq_true (by omega)
              have k1' : decide ((0 : Int) ≤ (i : Int)) = true := decide_eq_true (by omega)
              have k1'' : decide (0 ≤ i) = true := decide_eq_true hL
              by_cases hm : i < W
              · have k2 : decide ((i : Int) < (W : Int)) = true := decide_eq_true (by omega)
                have k2' : decide (i < W) = true := decide_eq_true hm
                have j0 : (0 : Int) ≤ (i : Int) := by omega
                have j1 : (i : Int) < (W : Int) := by omega
                have hjn : i < T.length := by have := HL.out; omega
                obtain ⟨g, o, hAA, hg, c0, c1, c2, c3, c4, c5⟩ := (HR.out.below hb).at_ hjn
                injection hAA with hAA
                injection hAA with hA1 hA2
                subst hA1 hA2
                have HPA := Lib.hid (show (List.range (i + 1)).map (padAt T W al) = (List.range i).map (padAt T W al) ++ [T[i]] from by
                  rw [List.range_succ, List.map_append, List.map_cons, List.map_nil, HAT.out i i hL (by omega) hm hjn])
                generalize T[i] = x at *
                clear hown hb hjn
                go_wp2_with (at_builtin; refine wpList_addC 27 42 Tryd.underlying27 infoSl rfl _ _ rfl w.heap.size _ i _ rfl (Cl.ownsRow_below HO.out (Cl.below_made _ _)) (some ⟨wr.heap.size, 0, none⟩) 1 1 [x] rfl (made_c x _ wr) rfl (by omega) (by rw [World.size_alloc]; omega) ?_)
                intro v' w2 hown2 hb2 _
                have HB2 := Lib.hid ((HB.out.trans ((Cl.below_made wr (.cells #[.int .i64 x.a, .int .i64 x.z, .int .i64 x.f, .int .i64 x.t, .int .i64 x.w, .int .i64 x.c] 42)).mono hsz)).trans hb2)
                have HO2 := Lib.hid (show w2.ownsRow w.heap.size 42 6 v' (i + 1) (cellsC ((List.range (i + 1)).map (padAt T W al))) from by rw [HPA.out]; exact hown2)
                clear hown2 hb2
                go_wp2_with fail
                exact ⟨⟨i + 1, v', by omega, by go_num, rfl, HO2.out, HB2.out⟩, by simp [RowKit.intOf]; omega⟩
              · have k2 : decide ((i : Int) < (W : Int)) = false := decide_eq_false (by omega)
                have k2' : decide (i < W) = false := decide_eq_false hm
                first
                | (exfalso; omega)
                | have HPA := Lib.hid (show (List.range (i + 1)).map (padAt T W al) = (List.range i).map (padAt T W al) ++ [padS] from by
                    rw [List.range_succ, List.map_append, List.map_cons, List.map_nil, HNO.out i (fun h => hm (by omega))])
                  clear hown hb
                  go_wp2_with (at_builtin; refine wpList_addC 27 42 Tryd.underlying27 infoSl rfl _ _ rfl w.heap.size _ i _ rfl (Cl.ownsRow_below HO.out (Cl.below_made _ _)) (some ⟨wr.heap.size, 0, none⟩) 1 1 [padS] rfl (made_c padS _ wr) rfl (by omega) (by rw [World.size_alloc]; omega) ?_)
                  intro v' w2 hown2 hb2 _
                  have HB2 := Lib.hid ((HB.out.trans ((Cl.below_made wr (.cells #[.int .i64 2, .int .i64 0, .int .i64 0, .int .i64 0, .int .i64 0, .int .i64 0] 42)).mono hsz)).trans hb2)
                  have HO2 := Lib.hid (show w2.ownsRow w.heap.size 42 6 v' (i + 1) (cellsC ((List.range (i + 1)).map (padAt T W al))) from by rw [HPA.out]; exact hown2)
                  clear hown2 hb2
                  go_wp2_with fail
                  exact ⟨⟨i + 1, v', by omega, by go_num, rfl, HO2.out, HB2.out⟩, by simp [RowKit.intOf]; omega⟩
            · have k1 : decide ((i : Int) ≥ (0 : Int)) = false := decide_eq_false (by omega)
              have k1' : decide ((0 : Int) ≤ (i : Int)) = false := decide_eq_false (by omega)
              have k1'' : decide (0 ≤ i) = false := decide_eq_false hL
              first
              | (exfalso; omega)
              | have HPA := Lib.hid (show (List.range (i + 1)).map (padAt T W al) = (List.range i).map (padAt T W al) ++ [padS] from by
                  rw [List.range_succ, List.map_append, List.map_cons, List.map_nil, HNO.out i (fun h => hL h.1)])
                clear hown hb
                go_wp2_with (at_builtin; refine wpList_addC 27 42 Tryd.underlying27 infoSl rfl _ _ rfl w.heap.size _ i _ rfl (Cl.ownsRow_below HO.out (Cl.below_made _ _)) (some ⟨wr.heap.size, 0, none⟩) 1 1 [padS] rfl (made_c padS _ wr) rfl (by omega) (by rw [World.size_alloc]; omega) ?_)
                intro v' w2 hown2 hb2 _
                have HB2 := Lib.hid ((HB.out.trans ((Cl.below_made wr (.cells #[.int .i64 2, .int .i64 0, .int .i64 0, .int .i64 0, .int .i64 0, .int .i64 0] 42)).mono hsz)).trans hb2)
                have HO2 := Lib.hid (show w2.ownsRow w.heap.size 42 6 v' (i + 1) (cellsC ((List.range (i + 1)).map (padAt T W al))) from by rw [HPA.out]; exact hown2)
                clear hown2 hb2
                go_wp2_with fail
                exact ⟨⟨i + 1, v', by omega, by go_num, rfl, HO2.out, HB2.out⟩, by simp [RowKit.intOf]; omega⟩
          · obtain rfl : i = W := by omega
            have j1 : decide ((i : Int) < (i : Int)) = false := decide_eq_false (by omega)
            clear hown hb
            go_wp2_with fail
            go_ret
            exact ⟨_, rfl, HO.out, HB.out⟩
  · have b1 : decide ((W : Int) < (n : Int)) = false := decide_eq_false (by omega)
    have b1' : decide (W < n) = false := decide_eq_false hbig
    obtain rfl : n = M := by omega
    by_cases h3 : al = 3
    · have a1 : (al == (3 : Int)) = true := beq_iff_eq.2 h3
      have a2 : (al == (4 : Int)) = false := beq_eq_false_iff_ne.2 (by omega)
      have hLv : (W : Int) - (n : Int) = (L : Int) := by rw [← hL0, h3]; unfold leftN; rw [if_pos rfl]; omega
      have hLw : IntKind.i64.wrap ((W : Int) - (n : Int)) = (L : Int) := by rw [IntKind.wrap_i64]; omega
      subst h3
      clear hl hM hL0
      go_enter Tryd.func23, Tryd.ntmps23
      go_wp2_with fail
      go_loopw [8, 9] (fun s8 s9 wx => ∃ (i : Nat) (v : Value), i ≤ W ∧ s9 = .int .i64 i ∧ s8 = v ∧ wx.ownsRow w.heap.size 42 6 v i (cellsC ((List.range i).map (padAt T W 3))) ∧ Below w.heap.size w wx) (fun _ s9 _ => W - (RowKit.intOf s9).toNat)
      case atStart => exact ⟨0, _, Nat.zero_le _, rfl, rfl, World.ownsRow_nil _ _ _ _, Below.refl _ _⟩
      case round =>
        obtain ⟨i, v, hi, rfl, rfl, hown, hb⟩ := hrel
        have HO := Lib.hid hown
        have HB := Lib.hid hb
        have hsz := hb.size
        by_cases hlt : i < W
        · have i0 : (0 : Int) ≤ (i : Int) := by omega
          have i1 : (i : Int) < (W : Int) := by omega
          by_cases hL : L ≤ i
          · have k1 : decide ((i : Int) ≥ (L : Int)) = true := decide_eq_true (by omega)
            have k1' : decide ((L : Int) ≤ (i : Int)) = true := decide_eq_true (by omega)
            have k1'' : decide (L ≤ i) = true := decide_eq_true hL
            obtain ⟨j, hj⟩ : ∃ j, i - L = j := ⟨_, rfl⟩
            have hij : (i : Int) - (L : Int) = (j : Int) := by omega
            have hw : IntKind.i64.wrap ((i : Int) - (L : Int)) = (j : Int) := by rw [IntKind.wrap_i64]; omega
            have hw2 : IntKind.i64.wrap (j : Int) = (j : Int) := by rw [IntKind.wrap_i64]; omega
            by_cases hm : j < n
            · have k2 : decide ((j : Int) < (n : Int)) = true := decide_eq_true (by omega)
              have k2' : decide (j < n) = true := decide_eq_true hm
              have j0 : (0 : Int) ≤ (j : Int) := by omega
              have j1 : (j : Int) < (n : Int) := by omega
              have hjn : j < T.length := by have := HL.out; omega
              obtain ⟨g, o, rfl, hg, c0, c1, c2, c3, c4, c5⟩ := (HR.out.below hb).at_ hjn
              have HPA := Lib.hid (show (List.range (i + 1)).map (padAt T W 3) = (List.range i).map (padAt T W 3) ++ [T[j]] from by
                rw [List.range_succ, List.map_append, List.map_cons, List.map_nil, HAT.out i j hL hj hm hjn])
              generalize T[j] = x at *
              clear hown hb hjn hj
              go_wp2_with (at_builtin; refine wpList_addC 27 42 Tryd.underlying27 infoSl rfl _ _ rfl w.heap.size _ i _ rfl (Cl.ownsRow_below HO.out (Cl.below_made _ _)) (some ⟨wr.heap.size, 0, none⟩) 1 1 [x] rfl (made_c x _ wr) rfl (by omega) (by rw [World.size_alloc]; omega) ?_)
              intro v' w2 hown2 hb2 _
              have HB2 := Lib.hid ((HB.out.trans ((Cl.below_made wr (.cells #[.int .i64 x.a, .int .i64 x.z, .int .i64 x.f, .int .i64 x.t, .int .i64 x.w, .int .i64 x.c] 42)).mono hsz)).trans hb2)
              have HO2 := Lib.hid (show w2.ownsRow w.heap.size 42 6 v' (i + 1) (cellsC ((List.range (i + 1)).map (padAt T W 3))) from by rw [HPA.out]; exact hown2)
              clear hown2 hb2
              go_wp2_with fail
              exact ⟨⟨i + 1, v', by omega, by go_num, rfl, HO2.out, HB2.out⟩, by simp [RowKit.intOf]; omega⟩
            · have k2 : decide ((j : Int) < (n : Int)) = false := decide_eq_false (by omega)
              have k2' : decide (j < n) = false := decide_eq_false hm
              first
              | (exfalso; omega)
              | have HPA := Lib.hid (show (List.range (i + 1)).map (padAt T W 3) = (List.range i).map (padAt T W 3) ++ [padS] from by
                  rw [List.range_succ, List.map_append, List.map_cons, List.map_nil, HNO.out i (fun h => hm (by omega))])
                clear hown hb hj
                go_wp2_with (at_builtin; refine wpList_addC 27 42 Tryd.underlying27 infoSl rfl _ _ rfl w.heap.size _ i _ rfl (Cl.ownsRow_below HO.out (Cl.below_made _ _)) (some ⟨wr.heap.size, 0, none⟩) 1 1 [padS] rfl (made_c padS _ wr) rfl (by omega) (by rw [World.size_alloc]; omega) ?_)
                intro v' w2 hown2 hb2 _
                have HB2 := Lib.hid ((HB.out.trans ((Cl.below_made wr (.cells #[.int .i64 2, .int .i64 0, .int .i64 0, .int .i64 0, .int .i64 0, .int .i64 0] 42)).mono hsz)).trans hb2)
                have HO2 := Lib.hid (show w2.ownsRow w.heap.size 42 6 v' (i + 1) (cellsC ((List.range (i + 1)).map (padAt T W 3))) from by rw [HPA.out]; exact hown2)
                clear hown2 hb2
                go_wp2_with fail
                exact ⟨⟨i + 1, v', by omega, by go_num, rfl, HO2.out, HB2.out⟩, by simp [RowKit.intOf]; omega⟩
          · have k1 : decide ((i : Int) ≥ (L : Int)) = false := decide_eq_false (by omega)
            have k1' : decide ((L : Int) ≤ (i : Int)) = false := decide_eq_false (by omega)
            have k1'' : decide (L ≤ i) = false := decide_eq_false hL
            first
            | (exfalso; omega)
            | have HPA := Lib.hid (show (List.range (i + 1)).map (padAt T W 3) = (List.range i).map (padAt T W 3) ++ [padS] from by
                rw [List.range_succ, List.map_append, List.map_cons, List.map_nil, HNO.out i (fun h => hL h.1)])
              clear hown hb
              go_wp2_with (at_builtin; refine wpList_addC 27 42 Tryd.underlying27 infoSl rfl _ _ rfl w.heap.size _ i _ rfl (Cl.ownsRow_below HO.out (Cl.below_made _ _)) (some ⟨wr.heap.size, 0, none⟩) 1 1 [padS] rfl (made_c padS _ wr) rfl (by omega) (by rw [World.size_alloc]; omega) ?_)
              intro v' w2 hown2 hb2 _
              have HB2 := Lib.hid ((HB.out.trans ((Cl.below_made wr (.cells #[.int .i64 2, .int .i64 0, .int .i64 0, .int .i64 0, .int .i64 0, .int .i64 0] 42)).mono hsz)).trans hb2)
              have HO2 := Lib.hid (show w2.ownsRow w.heap.size 42 6 v' (i + 1) (cellsC ((List.range (i + 1)).map (padAt T W 3))) from by rw [HPA.out]; exact hown2)
              clear hown2 hb2
              go_wp2_with fail
              exact ⟨⟨i + 1, v', by omega, by go_num, rfl, HO2.out, HB2.out⟩, by simp [RowKit.intOf]; omega⟩
        · obtain rfl : i = W := by omega
          have j1 : decide ((i : Int) < (i : Int)) = false := decide_eq_false (by omega)
          clear hown hb
          go_wp2_with fail
          go_ret
          exact ⟨_, rfl, HO.out, HB.out⟩
    · have a1 : (al == (3 : Int)) = false := beq_eq_false_iff_ne.2 h3
      by_cases h4 : al = 4
      · have a2 : (al == (4 : Int)) = true := beq_iff_eq.2 h4
        have hLv : ((W : Int) - (n : Int)).tdiv 2 = (L : Int) := by
          rw [Int.tdiv_eq_ediv_of_nonneg (by omega), ← hL0, h4]
          unfold leftN
          rw [if_neg (by decide), if_pos rfl]
          omega
        have hLw : IntKind.i64.wrap ((W : Int) - (n : Int)) = (W : Int) - (n : Int) := IntWalk.i64_in _ (by omega)
        have hLx : IntKind.i64.wrap (L : Int) = (L : Int) := by rw [IntKind.wrap_i64]; omega
        subst h4
        clear hl hM hL0
        go_enter Tryd.func23, Tryd.ntmps23
        go_wp2_with fail
        go_loopw [8, 9] (fun s8 s9 wx => ∃ (i : Nat) (v : Value), i ≤ W ∧ s9 = .int .i64 i ∧ s8 = v ∧ wx.ownsRow w.heap.size 42 6 v i (cellsC ((List.range i).map (padAt T W 4))) ∧ Below w.heap.size w wx) (fun _ s9 _ => W - (RowKit.intOf s9).toNat)
        case atStart => exact ⟨0, _, Nat.zero_le _, rfl, rfl, World.ownsRow_nil _ _ _ _, Below.refl _ _⟩
        case round =>
          obtain ⟨i, v, hi, rfl, rfl, hown, hb⟩ := hrel
          have HO := Lib.hid hown
          have HB := Lib.hid hb
          have hsz := hb.size
          by_cases hlt : i < W
          · have i0 : (0 : Int) ≤ (i : Int) := by omega
            have i1 : (i : Int) < (W : Int) := by omega
            by_cases hL : L ≤ i
            · have k1 : decide ((i : Int) ≥ (L : Int)) = true := decide_eq_true (by omega)
              have k1' : decide ((L : Int) ≤ (i : Int)) = true := decide_eq_true (by omega)
              have k1'' : decide (L ≤ i) = true := decide_eq_true hL
              obtain ⟨j, hj⟩ : ∃ j, i - L = j := ⟨_, rfl⟩
              have hij : (i : Int) - (L : Int) = (j : Int) := by omega
              have hw : IntKind.i64.wrap ((i : Int) - (L : Int)) = (j : Int) := by rw [IntKind.wrap_i64]; omega
              have hw2 : IntKind.i64.wrap (j : Int) = (j : Int) := by rw [IntKind.wrap_i64]; omega
              by_cases hm : j < n
              · have k2 : decide ((j : Int) < (n : Int)) = true := decide_eq_true (by omega)
                have k2' : decide (j < n) = true := decide_eq_true hm
                have j0 : (0 : Int) ≤ (j : Int) := by omega
                have j1 : (j : Int) < (n : Int) := by omega
                have hjn : j < T.length := by have := HL.out; omega
                obtain ⟨g, o, rfl, hg, c0, c1, c2, c3, c4, c5⟩ := (HR.out.below hb).at_ hjn
                have HPA := Lib.hid (show (List.range (i + 1)).map (padAt T W 4) = (List.range i).map (padAt T W 4) ++ [T[j]] from by
                  rw [List.range_succ, List.map_append, List.map_cons, List.map_nil, HAT.out i j hL hj hm hjn])
                generalize T[j] = x at *
                clear hown hb hjn hj
                go_wp2_with (at_builtin; refine wpList_addC 27 42 Tryd.underlying27 infoSl rfl _ _ rfl w.heap.size _ i _ rfl (Cl.ownsRow_below HO.out (Cl.below_made _ _)) (some ⟨wr.heap.size, 0, none⟩) 1 1 [x] rfl (made_c x _ wr) rfl (by omega) (by rw [World.size_alloc]; omega) ?_)
                intro v' w2 hown2 hb2 _
                have HB2 := Lib.hid ((HB.out.trans ((Cl.below_made wr (.cells #[.int .i64 x.a, .int .i64 x.z, .int .i64 x.f, .int .i64 x.t, .int .i64 x.w, .int .i64 x.c] 42)).mono hsz)).trans hb2)
                have HO2 := Lib.hid (show w2.ownsRow w.heap.size 42 6 v' (i + 1) (cellsC ((List.range (i + 1)).map (padAt T W 4))) from by rw [HPA.out]; exact hown2)
                clear hown2 hb2
                go_wp2_with fail
                exact ⟨⟨i + 1, v', by omega, by go_num, rfl, HO2.out, HB2.out⟩, by simp [RowKit.intOf]; omega⟩
              · have k2 : decide ((j : Int) < (n : Int)) = false := decide_eq_false (by omega)
                have k2' : decide (j < n) = false := decide_eq_false hm
                first
                | (exfalso; omega)
                | have HPA := Lib.hid (show (List.range (i + 1)).map (padAt T W 4) = (List.range i).map (padAt T W 4) ++ [padS] from by
                    rw [List.range_succ, List.map_append, List.map_cons, List.map_nil, HNO.out i (fun h => hm (by omega))])
                  clear hown hb hj
                  go_wp2_with (at_builtin; refine wpList_addC 27 42 Tryd.underlying27 infoSl rfl _ _ rfl w.heap.size _ i _ rfl (Cl.ownsRow_below HO.out (Cl.below_made _ _)) (some ⟨wr.heap.size, 0, none⟩) 1 1 [padS] rfl (made_c padS _ wr) rfl (by omega) (by rw [World.size_alloc]; omega) ?_)
                  intro v' w2 hown2 hb2 _
                  have HB2 := Lib.hid ((HB.out.trans ((Cl.below_made wr (.cells #[.int .i64 2, .int .i64 0, .int .i64 0, .int .i64 0, .int .i64 0, .int .i64 0] 42)).mono hsz)).trans hb2)
                  have HO2 := Lib.hid (show w2.ownsRow w.heap.size 42 6 v' (i + 1) (cellsC ((List.range (i + 1)).map (padAt T W 4))) from by rw [HPA.out]; exact hown2)
                  clear hown2 hb2
                  go_wp2_with fail
                  exact ⟨⟨i + 1, v', by omega, by go_num, rfl, HO2.out, HB2.out⟩, by simp [RowKit.intOf]; omega⟩
            · have k1 : decide ((i : Int) ≥ (L : Int)) = false := decide_eq_false (by omega)
              have k1' : decide ((L : Int) ≤ (i : Int)) = false := decide_eq_false (by omega)
              have k1'' : decide (L ≤ i) = false := decide_eq_false hL
              first
              | (exfalso; omega)
              | have HPA := Lib.hid (show (List.range (i + 1)).map (padAt T W 4) = (List.range i).map (padAt T W 4) ++ [padS] from by
                  rw [List.range_succ, List.map_append, List.map_cons, List.map_nil, HNO.out i (fun h => hL h.1)])
                clear hown hb
                go_wp2_with (at_builtin; refine wpList_addC 27 42 Tryd.underlying27 infoSl rfl _ _ rfl w.heap.size _ i _ rfl (Cl.ownsRow_below HO.out (Cl.below_made _ _)) (some ⟨wr.heap.size, 0, none⟩) 1 1 [padS] rfl (made_c padS _ wr) rfl (by omega) (by rw [World.size_alloc]; omega) ?_)
                intro v' w2 hown2 hb2 _
                have HB2 := Lib.hid ((HB.out.trans ((Cl.below_made wr (.cells #[.int .i64 2, .int .i64 0, .int .i64 0, .int .i64 0, .int .i64 0, .int .i64 0] 42)).mono hsz)).trans hb2)
                have HO2 := Lib.hid (show w2.ownsRow w.heap.size 42 6 v' (i + 1) (cellsC ((List.range (i + 1)).map (padAt T W 4))) from by rw [HPA.out]; exact hown2)
                clear hown2 hb2
                go_wp2_with fail
                exact ⟨⟨i + 1, v', by omega, by go_num, rfl, HO2.out, HB2.out⟩, by simp [RowKit.intOf]; omega⟩
          · obtain rfl : i = W := by omega
            have j1 : decide ((i : Int) < (i : Int)) = false := decide_eq_false (by omega)
            clear hown hb
            go_wp2_with fail
            go_ret
            exact ⟨_, rfl, HO.out, HB.out⟩
      · have a2 : (al == (4 : Int)) = false := beq_eq_false_iff_ne.2 h4
        have hLv : L = 0 := by rw [← hL0]; unfold leftN; rw [if_neg h3, if_neg h4]
        subst hLv
        clear hl hM hL0
        go_enter Tryd.func23, Tryd.ntmps23
        go_wp2_with fail
        go_loopw [8, 9] (fun s8 s9 wx => ∃ (i : Nat) (v : Value), i ≤ W ∧ s9 = .int .i64 i ∧ s8 = v ∧ wx.ownsRow w.heap.size 42 6 v i (cellsC ((List.range i).map (padAt T W al))) ∧ Below w.heap.size w wx) (fun _ s9 _ => W - (RowKit.intOf s9).toNat)
        case atStart => exact ⟨0, _, Nat.zero_le _, rfl, rfl, World.ownsRow_nil _ _ _ _, Below.refl _ _⟩
        case round =>
          obtain ⟨i, v, hi, rfl, rfl, hown, hb⟩ := hrel
          have HO := Lib.hid hown
          have HB := Lib.hid hb
          have hsz := hb.size
          by_cases hlt : i < W
          · have i0 : (0 : Int) ≤ (i : Int) := by omega
            have i1 : (i : Int) < (W : Int) := by omega
            by_cases hL : 0 ≤ i
            · have k1 : decide ((i : Int) ≥ (0 : Int)) = true := decide_eq_true (by omega)
              have k1' : decide ((0 : Int) ≤ (i : Int)) = true := decide_eq_true (by omega)
              have k1'' : decide (0 ≤ i) = true := decide_eq_true hL
              by_cases hm : i < n
              · have k2 : decide ((i : Int) < (n : Int)) = true := decide_eq_true (by omega)
                have k2' : decide (i < n) = true := decide_eq_true hm
                have j0 : (0 : Int) ≤ (i : Int) := by omega
                have j1 : (i : Int) < (n : Int) := by omega
                have hjn : i < T.length := by have := HL.out; omega
                obtain ⟨g, o, rfl, hg, c0, c1, c2, c3, c4, c5⟩ := (HR.out.below hb).at_ hjn
                have HPA := Lib.hid (show (List.range (i + 1)).map (padAt T W al) = (List.range i).map (padAt T W al) ++ [T[i]] from by
                  rw [List.range_succ, List.map_append, List.map_cons, List.map_nil, HAT.out i i hL (by omega) hm hjn])
                generalize T[i] = x at *
                clear hown hb hjn
                go_wp2_with (at_builtin; refine wpList_addC 27 42 Tryd.underlying27 infoSl rfl _ _ rfl w.heap.size _ i _ rfl (Cl.ownsRow_below HO.out (Cl.below_made _ _)) (some ⟨wr.heap.size, 0, none⟩) 1 1 [x] rfl (made_c x _ wr) rfl (by omega) (by rw [World.size_alloc]; omega) ?_)
                intro v' w2 hown2 hb2 _
                have HB2 := Lib.hid ((HB.out.trans ((Cl.below_made wr (.cells #[.int .i64 x.a, .int .i64 x.z, .int .i64 x.f, .int .i64 x.t, .int .i64 x.w, .int .i64 x.c] 42)).mono hsz)).trans hb2)
                have HO2 := Lib.hid (show w2.ownsRow w.heap.size 42 6 v' (i + 1) (cellsC ((List.range (i + 1)).map (padAt T W al))) from by rw [HPA.out]; exact hown2)
                clear hown2 hb2
                go_wp2_with fail
                exact ⟨⟨i + 1, v', by omega, by go_num, rfl, HO2.out, HB2.out⟩, by simp [RowKit.intOf]; omega⟩
              · have k2 : decide ((i : Int) < (n : Int)) = false := decide_eq_false (by omega)
                have k2' : decide (i < n) = false := decide_eq_false hm
                first
                | (exfalso; omega)
                | have HPA := Lib.hid (show (List.range (i + 1)).map (padAt T W al) = (List.range i).map (padAt T W al) ++ [padS] from by
                    rw [List.range_succ, List.map_append, List.map_cons, List.map_nil, HNO.out i (fun h => hm (by omega))])
                  clear hown hb
                  go_wp2_with (at_builtin; refine wpList_addC 27 42 Tryd.underlying27 infoSl rfl _ _ rfl w.heap.size _ i _ rfl (Cl.ownsRow_below HO.out (Cl.below_made _ _)) (some ⟨wr.heap.size, 0, none⟩) 1 1 [padS] rfl (made_c padS _ wr) rfl (by omega) (by rw [World.size_alloc]; omega) ?_)
                  intro v' w2 hown2 hb2 _
                  have HB2 := Lib.hid ((HB.out.trans ((Cl.below_made wr (.cells #[.int .i64 2, .int .i64 0, .int .i64 0, .int .i64 0, .int .i64 0, .int .i64 0] 42)).mono hsz)).trans hb2)
                  have HO2 := Lib.hid (show w2.ownsRow w.heap.size 42 6 v' (i + 1) (cellsC ((List.range (i + 1)).map (padAt T W al))) from by rw [HPA.out]; exact hown2)
                  clear hown2 hb2
                  go_wp2_with fail
                  exact ⟨⟨i + 1, v', by omega, by go_num, rfl, HO2.out, HB2.out⟩, by simp [RowKit.intOf]; omega⟩
            · have k1 : decide ((i : Int) ≥ (0 : Int)) = false := decide_eq_false (by omega)
              have k1' : decide ((0 : Int) ≤ (i : Int)) = false := decide_eq_false (by omega)
              have k1'' : decide (0 ≤ i) = false := decide_eq_false hL
              first
              | (exfalso; omega)
              | have HPA := Lib.hid (show (List.range (i + 1)).map (padAt T W al) = (List.range i).map (padAt T W al) ++ [padS] from by
                  rw [List.range_succ, List.map_append, List.map_cons, List.map_nil, HNO.out i (fun h => hL h.1)])
                clear hown hb
                go_wp2_with (at_builtin; refine wpList_addC 27 42 Tryd.underlying27 infoSl rfl _ _ rfl w.heap.size _ i _ rfl (Cl.ownsRow_below HO.out (Cl.below_made _ _)) (some ⟨wr.heap.size, 0, none⟩) 1 1 [padS] rfl (made_c padS _ wr) rfl (by omega) (by rw [World.size_alloc]; omega) ?_)
                intro v' w2 hown2 hb2 _
                have HB2 := Lib.hid ((HB.out.trans ((Cl.below_made wr (.cells #[.int .i64 2, .int .i64 0, .int .i64 0, .int .i64 0, .int .i64 0, .int .i64 0] 42)).mono hsz)).trans hb2)
                have HO2 := Lib.hid (show w2.ownsRow w.heap.size 42 6 v' (i + 1) (cellsC ((List.range (i + 1)).map (padAt T W al))) from by rw [HPA.out]; exact hown2)
                clear hown2 hb2
                go_wp2_with fail
                exact ⟨⟨i + 1, v', by omega, by go_num, rfl, HO2.out, HB2.out⟩, by simp [RowKit.intOf]; omega⟩
          · obtain rfl : i = W := by omega
            have j1 : decide ((i : Int) < (i : Int)) = false := decide_eq_false (by omega)
            clear hown hb
            go_wp2_with fail
            go_ret
            exact ⟨_, rfl, HO.out, HB.out⟩
end Go.Proofs.YtlocnjenkanmpaaDoor.Pl
