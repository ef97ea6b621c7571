/-
  Proved here: what parquetryref19.Text returns, for every row of at most 100000 clusters that are seen, of at most two slots each, their levels, and every two numbers: the plain text. It leaves what was in memory.
-/
import Derived.Deep.RegionHeld3
import Derived.Test.YtlocnjenkanmpaaDoorMPlPad
import Derived.Test.YtlocnjenkanmpaaDoorM5
import Derived.Test.YtlocnjenkanmpaaDoorM2
set_option linter.unusedVariables false
namespace Go.Proofs.YtlocnjenkanmpaaDoor.Pl
open Go Go.RowKit Go.Lib Go.Proofs.YtlocnjenkanmpaaDoor.Ku Go.Proofs.YtlocnjenkanmpaaDoor.Wr Go.Proofs.YtlocnjenkanmpaaDoor.Bi Go.Proofs.YtlocnjenkanmpaaDoor.Bo Go.Proofs.YtlocnjenkanmpaaDoor.Arr Go.Proofs.YtlocnjenkanmpaaDoor.Cl
theorem step_below19 {wr V W : World} (h : Below wr.heap.size wr V) (hb : Below V.heap.size V W) : Below wr.heap.size wr W := h.trans (hb.mono h.size)
set_option maxHeartbeats 8000000 in
set_option maxRecDepth 100000 in
theorem rtext_any (A B : Option Addr) (Y : List Sn) (n c d : Nat) (dots para : Int) (w : World) (hC : CuAt w A (Y.map (·.1))) (hI : IntsAt w B (Y.map (·.2))) (hl : Y.length = n) (hw : ∀ y ∈ Y, y.1.w ≤ 2) (hn : n ≤ 100000) :
    Calls Tryd.prog 24 #[.agg #[.slice A n c, .slice B n d], .int .i64 dots, .int .i64 para] w fun e w' => ∃ v, e = .returned v ∧ w'.ownsRow w.heap.size 42 6 v (textP Y dots para).length (cellsC (textP Y dots para)) ∧ Below w.heap.size w w' := by
  have HC := Lib.hid hC
  have HI := Lib.hid hI
  have HL := Lib.hid hl
  have HORD := Lib.hid (fun W (h : Below w.heap.size w W) => rorder_any B (Y.map (·.2)) n d W (hI.below h) (by rw [List.length_map, hl]) (by omega))
  have HSH := Lib.hid (fun a b W => rshown_any a b W)
  obtain ⟨O, hO⟩ : ∃ O, ordP Y = O := ⟨_, rfl⟩
  have hOl : O.length = n := by rw [← hO]; unfold ordP; rw [order_len, List.length_map, hl]
  have hOm : ∀ j ∈ O, j < Y.length := fun j hj => by
    rw [← hO] at hj
    unfold ordP at hj
    have := (order_mem _ _).1 hj
    rwa [List.length_map] at this
  have HOL := Lib.hid hOl
  have HOM := Lib.hid hOm
  have HROW := Lib.hid (fun (i : Nat) (h : i < O.length) => row_snoc (Y := Y) h)
  have HLE := Lib.hid (fun i => row_le hw (O.take i))
  have HW := Lib.hid hw
  rw [show orderP (Y.map (·.2)) = O from hO] at HORD
  have HT := Lib.hid (show textP Y dots para = (if dots = 1 ∧ para = 1 then [dotsS] else []) ++ rowP Y O ++ (if dots = 1 ∧ para = 0 then [dotsS] else []) from by unfold textP; rw [hO])
  rw [HT.out]
  have hU := (Below.refl w.heap.size w).alloc (Nat.le_refl _) (.cells #[.slice A n c, .slice B n d] 58)
  have hE0 := heap_alloc_new w (.cells #[.slice A n c, .slice B n d] 58)
  have hSZ : (w.alloc (.cells #[.slice A n c, .slice B n d] 58)).heap.size = w.heap.size + 1 := by rw [World.size_alloc]
  have HU := Lib.hid (And.intro hU (And.intro hE0 hSZ))
  have hq0 := cell_of_row _ w.heap.size 0 _ _ _ hE0
  have hq1 := cell_of_row _ w.heap.size 1 _ _ _ hE0
  clear hC hI hl hw hO hOl hOm hU hE0 hSZ HT
  by_cases hd : dots = 1
  · have d1 : (dots == (1 : Int)) = true := beq_iff_eq.2 hd
    by_cases hp : para = 1
    · have p1 : (para == (1 : Int)) = true := beq_iff_eq.2 hp
      have p0 : (para == (0 : Int)) = false := beq_eq_false_iff_ne.2 (by omega)
      rw [if_pos ⟨hd, hp⟩, if_neg (fun h => by omega), List.append_nil]
      subst hd hp
      clear d1 p1 p0
      go_enter Tryd.func24, Tryd.ntmps24
      go_wp2_with (at_builtin; refine wpList_addC 27 42 Tryd.underlying27 infoSl rfl _ _ rfl w.heap.size _ 0 [] rfl (World.ownsRow_nil _ _ _ _) (some ⟨w.heap.size + 1, 0, none⟩) 1 1 [dotsS] rfl (made_c' dotsS _ HU.out.2.2) rfl (by omega) (by simp; omega) ?_)
      intro v1 w1 hown1 hb1 hk1
      have HB1 := Lib.hid (((HU.out.1).alloc (by rw [HU.out.2.2]; omega) (.cells #[.int .i64 3, .int .i64 0, .int .i64 0, .int .i64 0, .int .i64 0, .int .i64 0] 42)).trans hb1)
      have HX1 := Lib.hid (hk1.2 _ _ _ _ ((Below.heap_alloc _ _ _ (by rw [HU.out.2.2]; omega)).trans HU.out.2.1) (by decide))
      have HW1 := Lib.hid hown1
      clear hown1 hb1 hk1 hq0 hq1
      have z1 := cell_of_row _ w.heap.size 1 _ _ _ HX1.out
      go_wp2_with fail
      refine (HORD.out _ HB1.out).mono ?_
      rintro e w2 ⟨A2, c2, rfl, ho2, hb2⟩
      have HB2 := Lib.hid (HB1.out.trans (hb2.mono HB1.out.size))
      have HBW := Lib.hid HB2.out
      have HOW := Lib.hid (Cl.ownsRow_below HW1.out hb2)
      have HM := Lib.hid (fun V (hk : KeepsT 42 w2 V) (hb : Below w.heap.size w2 V) => (show V.heap[w.heap.size]? = some (.cells #[.slice A n c, .slice B n d] 58 (0, 0)) ∧ IntsAt V A2 (Sq.ns O) ∧ Below w.heap.size w V from by
        have h1 := (KeepsT.below (e := 42) hb2).trans hk
        have h2 := hk.own (by decide) ho2
        obtain ⟨A3, c3, e3, hi⟩ := intsAt_icl (n := n) h2 (by rw [Sq.ns_len]; exact HOL.out)
        injection e3 with e31 _ _
        subst e31
        exact ⟨h1.2 _ _ _ _ HX1.out (by decide), hi, HB2.out.trans hb⟩))
      clear ho2 hb2 HORD z1
      go_wp2_with fail
      go_loopw [7, 9] (fun s7 s9 wx => ∃ (i : Nat) (v : Value), i ≤ n ∧ s9 = .int .i64 i ∧ s7 = v ∧ wx.ownsRow w.heap.size 42 6 v ([dotsS] ++ rowP Y (O.take i)).length (cellsC ([dotsS] ++ rowP Y (O.take i))) ∧ KeepsT 42 w2 wx ∧ Below w.heap.size w2 wx) (fun _ s9 _ => n - (RowKit.intOf s9).toNat)
      case atStart => exact ⟨0, _, Nat.zero_le _, rfl, rfl, by simpa [rowP, cellsC] using HOW.out, KeepsT.refl _ _, Below.refl _ _⟩
      case round =>
        obtain ⟨i, v, hi, rfl, rfl, hown, hk, hb⟩ := hrel
        have HO := Lib.hid hown
        have HKB := Lib.hid (And.intro hk hb)
        obtain ⟨ebox, hio, hbw⟩ := HM.out _ hk hb
        have HWR := Lib.hid hbw
        by_cases hlt : i < n
        · have hiO : i < O.length := by rw [HOL.out]; exact hlt
          have hjY : O[i] < Y.length := HOM.out _ (List.getElem_mem hiO)
          have HR1 := Lib.hid (HROW.out i hiO)
          obtain ⟨j, hj⟩ : ∃ j, O[i] = j := ⟨_, rfl⟩
          have hion : i < (Sq.ns O).length := by rw [Sq.ns_len]; exact hiO
          obtain ⟨g2, o2, rfl, r0⟩ := hio.at_ hion
          rw [show (Sq.ns O)[i] = ((j : Nat) : Int) from by simp [Sq.ns, hj]] at r0
          rw [hj] at hjY HR1
          have hjn : j < n := by rw [← HL.out]; exact hjY
          obtain ⟨g, o, rfl, hg, c0, c1, c2, c3, c4, c5⟩ := (HC.out.below hbw).at_ (k := j) (by rw [List.length_map]; exact hjY)
          obtain ⟨g4, o4, rfl, l0⟩ := (HI.out.below hbw).at_ (k := j) (by rw [List.length_map]; exact hjY)
          rw [List.getElem_map] at c0 c1 c2 c3 c4 c5 l0
          have hgd : Y.getD j sn0 = Y[j] := by rw [List.getD_eq_getElem?_getD, List.getElem?_eq_getElem hjY]; rfl
          rw [hgd] at HR1
          have hy2 := HW.out _ (List.getElem_mem hjY)
          generalize Y[j] = y at *
          obtain ⟨x, lv⟩ := y
          simp only at c0 c1 c2 c3 c4 c5 l0 hy2
          have q0 := cell_of_row _ w.heap.size 0 _ _ _ ebox
          have q1 := cell_of_row _ w.heap.size 1 _ _ _ ebox
          have i0 : (0 : Int) ≤ (i : Int) := by omega
          have i1 : (i : Int) < (n : Int) := by omega
          have j0 : (0 : Int) ≤ (j : Int) := by omega
          have j1 : (j : Int) < (n : Int) := by omega
          have hza := (Below.refl wr.heap.size wr).alloc (Nat.le_refl _) (.cells #[.int .i64 0, .int .i64 0, .int .i64 0, .int .i64 0, .int .i64 0, .int .i64 0] 40)
          have zr0 : ((wr.alloc (.cells #[.int .i64 0, .int .i64 0, .int .i64 0, .int .i64 0, .int .i64 0, .int .i64 0] 40)).drew).cell? _ = _ := (hza.cell (block_lt_of_cell r0)).trans r0
          have zl0 : ((wr.alloc (.cells #[.int .i64 0, .int .i64 0, .int .i64 0, .int .i64 0, .int .i64 0, .int .i64 0] 40)).drew).cell? _ = _ := (hza.cell (block_lt_of_cell l0)).trans l0
          have zq0 : ((wr.alloc (.cells #[.int .i64 0, .int .i64 0, .int .i64 0, .int .i64 0, .int .i64 0, .int .i64 0] 40)).drew).cell? _ = _ := (hza.cell (block_lt_of_cell q0)).trans q0
          have zq1 : ((wr.alloc (.cells #[.int .i64 0, .int .i64 0, .int .i64 0, .int .i64 0, .int .i64 0, .int .i64 0] 40)).drew).cell? _ = _ := (hza.cell (block_lt_of_cell q1)).trans q1
          have zc0 : ((wr.alloc (.cells #[.int .i64 0, .int .i64 0, .int .i64 0, .int .i64 0, .int .i64 0, .int .i64 0] 40)).drew).cell? _ = _ := (hza.cell hg).trans c0
          have zc1 : ((wr.alloc (.cells #[.int .i64 0, .int .i64 0, .int .i64 0, .int .i64 0, .int .i64 0, .int .i64 0] 40)).drew).cell? _ = _ := (hza.cell hg).trans c1
          have zc2 : ((wr.alloc (.cells #[.int .i64 0, .int .i64 0, .int .i64 0, .int .i64 0, .int .i64 0, .int .i64 0] 40)).drew).cell? _ = _ := (hza.cell hg).trans c2
          have zc3 : ((wr.alloc (.cells #[.int .i64 0, .int .i64 0, .int .i64 0, .int .i64 0, .int .i64 0, .int .i64 0] 40)).drew).cell? _ = _ := (hza.cell hg).trans c3
          have zc4 : ((wr.alloc (.cells #[.int .i64 0, .int .i64 0, .int .i64 0, .int .i64 0, .int .i64 0, .int .i64 0] 40)).drew).cell? _ = _ := (hza.cell hg).trans c4
          have zc5 : ((wr.alloc (.cells #[.int .i64 0, .int .i64 0, .int .i64 0, .int .i64 0, .int .i64 0, .int .i64 0] 40)).drew).cell? _ = _ := (hza.cell hg).trans c5
          clear hown hk hb hiO hjY hgd hion hj hza
          have HVB := Lib.hid (show Below wr.heap.size wr ((wr.alloc (.cells #[.int .i64 x.a, .int .i64 x.z, .int .i64 x.f, .int .i64 x.t, .int .i64 x.w, .int .i64 x.c] 40)).drew) from below_drew ((Below.refl wr.heap.size wr).alloc (Nat.le_refl _) (.cells #[.int .i64 x.a, .int .i64 x.z, .int .i64 x.f, .int .i64 x.t, .int .i64 x.w, .int .i64 x.c] 40)))
          have HVE := Lib.hid (show ((wr.alloc (.cells #[.int .i64 x.a, .int .i64 x.z, .int .i64 x.f, .int .i64 x.t, .int .i64 x.w, .int .i64 x.c] 40)).drew).heap[wr.heap.size]? = some (.cells #[.int .i64 x.a, .int .i64 x.z, .int .i64 x.f, .int .i64 x.t, .int .i64 x.w, .int .i64 x.c] 40 (0, 0)) from heap_alloc_new wr _)
          have HVS := Lib.hid (show wr.heap.size < ((wr.alloc (.cells #[.int .i64 x.a, .int .i64 x.z, .int .i64 x.f, .int .i64 x.t, .int .i64 x.w, .int .i64 x.c] 40)).drew).heap.size from by show _ < (wr.alloc (.cells #[.int .i64 x.a, .int .i64 x.z, .int .i64 x.f, .int .i64 x.t, .int .i64 x.w, .int .i64 x.c] 40)).heap.size; rw [World.size_alloc]; omega)
          have HOLD := Lib.hid (fun V (h : Below wr.heap.size wr V) => (⟨(h.cell (block_lt_of_cell q1)).trans q1, (h.cell (block_lt_of_cell r0)).trans r0, (h.cell (block_lt_of_cell l0)).trans l0⟩ : V.cell? ⟨w.heap.size, 1, none⟩ = some (.slice (some ⟨g4, o4, none⟩) n d) ∧ V.cell? ⟨g2, o2 + i, none⟩ = some (.int .i64 j) ∧ V.cell? ⟨g4, o4 + j, none⟩ = some (.int .i64 lv)))
          go_wp2_with fail
          go_region
          generalize (wr.alloc (.cells #[.int .i64 x.a, .int .i64 x.z, .int .i64 x.f, .int .i64 x.t, .int .i64 x.w, .int .i64 x.c] 40)).drew = V1 at *
          clear q0 q1 r0 l0 c0 c1 c2 c3 c4 c5 zr0 zl0 zq0 zq1 zc0 zc1 zc2 zc3 zc4 zc5 ebox hio hbw
          have HC9 := Lib.hid (fun V (h : Below V1.heap.size V1 V) => (⟨cell_of_row V wr.heap.size 5 _ _ _ ((h.block _ HVS.out).trans HVE.out), (HOLD.out V (HVB.out.trans (h.mono HVB.out.size))).1, (HOLD.out V (HVB.out.trans (h.mono HVB.out.size))).2.1, (HOLD.out V (HVB.out.trans (h.mono HVB.out.size))).2.2, h⟩ : V.cell? ⟨wr.heap.size, 5, none⟩ = some (.int .i64 x.c) ∧ V.cell? ⟨w.heap.size, 1, none⟩ = some (.slice (some ⟨g4, o4, none⟩) n d) ∧ V.cell? ⟨g2, o2 + i, none⟩ = some (.int .i64 j) ∧ V.cell? ⟨g4, o4 + j, none⟩ = some (.int .i64 lv) ∧ Below V1.heap.size V1 V))
          go_wp2_with fail
          go_region_held3 (fun V => V.cell? ⟨wr.heap.size, 5, none⟩ = some (.int .i64 x.c) ∧ V.cell? ⟨w.heap.size, 1, none⟩ = some (.slice (some ⟨g4, o4, none⟩) n d) ∧ V.cell? ⟨g2, o2 + i, none⟩ = some (.int .i64 j) ∧ V.cell? ⟨g4, o4 + j, none⟩ = some (.int .i64 lv) ∧ Below V1.heap.size V1 V) (first | exact HC9.out _ (Below.refl _ _) | exact HC9.out _ (below_drew (Below.refl _ _)) | exact HC9.out _ (by assumption))
            (first | (go_at_call 40; ((with_reducible refine (HSH.out _ _ _).mono ?_); rintro e w7 ⟨rfl, hb7⟩; have hbx := step_below19 (wr := V1) (by first | assumption | exact below_drew (Below.refl _ _)) hb7; clear hb7)))
          rename_i hh8
          have HB8 := Lib.hid hh8.2.2.2.2
          have HO7 := Lib.hid (Cl.ownsRow_below (Cl.ownsRow_below HO.out HVB.out) hh8.2.2.2.2)
          have HKB7 := Lib.hid (And.intro ((HKB.out.1.trans (KeepsT.below HVB.out)).trans (KeepsT.below hh8.2.2.2.2)) ((HKB.out.2.trans (HVB.out.mono HWR.out.size)).trans (hh8.2.2.2.2.mono (Nat.le_trans HWR.out.size HVB.out.size))))
          have HC7 := Lib.hid ((hh8.2.2.2.2.block _ HVS.out).trans HVE.out)
          have hlen := HLE.out i
          rw [List.length_take] at hlen
          clear hh8 HOLD HC9 HVB HVE HVS HB8
          generalize wr.heap.size = bc at *
          go_wp2_with fail
          go_loopw [7, 12] (fun s7 s12 wx => ∃ (k : Nat) (v : Value), k ≤ x.w.toNat ∧ s12 = .int .i64 k ∧ s7 = v ∧ wx.ownsRow w.heap.size 42 6 v ([dotsS] ++ rowP Y (O.take i) ++ blkK (x, lv) k).length (cellsC ([dotsS] ++ rowP Y (O.take i) ++ blkK (x, lv) k)) ∧ KeepsT 42 w7 wx ∧ Below w.heap.size w7 wx) (fun _ s12 _ => x.w.toNat - (RowKit.intOf s12).toNat)
          case atStart => exact ⟨0, _, Nat.zero_le _, rfl, rfl, by simpa [blkK] using HO7.out, KeepsT.refl _ _, Below.refl _ _⟩
          case round =>
            obtain ⟨k, v, hk, rfl, rfl, hown, hkt, hbk⟩ := hrel
            have HO8 := Lib.hid hown
            have HK8 := Lib.hid (And.intro hkt hbk)
            have hcx := hkt.2 _ _ _ _ HC7.out (by decide)
            have x0 := cell_of_row _ bc 0 _ _ _ hcx
            have x4 := cell_of_row _ bc 4 _ _ _ hcx
            have hl8 : ([dotsS] ++ rowP Y (O.take i) ++ blkK (x, lv) k).length ≤ 1000000 := by
              simp only [List.length_append, List.length_cons, List.length_nil, blk_len]
              omega
            by_cases hkw : k < x.w.toNat
            · have t1 : decide ((k : Int) < x.w) = true := decide_eq_true (by omega)
              have HBK := Lib.hid (show [dotsS] ++ rowP Y (O.take i) ++ blkK (x, lv) (k + 1) = ([dotsS] ++ rowP Y (O.take i) ++ blkK (x, lv) k) ++ [txtS x.a k (shownP x.c lv)] from by
                rw [show blkK (x, lv) (k + 1) = blkK (x, lv) k ++ [txtS x.a k (shownP x.c lv)] from rfl]
                simp only [List.append_assoc])
              generalize shownP x.c lv = sh at *
              obtain ⟨Z, hZ⟩ : ∃ Z, [dotsS] ++ rowP Y (O.take i) ++ blkK (x, lv) k = Z := ⟨_, rfl⟩
              rw [hZ] at hl8 HBK
              have HOZ := Lib.hid (show wr.ownsRow w.heap.size 42 6 _ Z.length (cellsC Z) from by rw [← hZ]; exact HO8.out)
              have hwr := hbk.size
              have hw7 := HKB7.out.2.size
              have hw2 := HBW.out.size
              clear hown hkt hbk hcx hZ HO8
              go_wp2_with (at_builtin; refine wpList_addC 27 42 Tryd.underlying27 infoSl rfl _ _ rfl w.heap.size _ _ _ rfl (Cl.ownsRow_below HOZ.out (Cl.below_made _ _)) (some ⟨wr.heap.size, 0, none⟩) 1 1 [txtS x.a k sh] rfl (made_c (txtS x.a k sh) _ wr) rfl (by omega) (by rw [World.size_alloc]; omega) ?_)
              intro v' w8 hown2 hb2 hk2
              have HB9 := Lib.hid ((HK8.out.2.trans ((Cl.below_made wr (.cells #[.int .i64 4, .int .i64 0, .int .i64 0, .int .i64 x.a, .int .i64 k, .int .i64 sh] 42)).mono (by omega))).trans hb2)
              have HK9 := Lib.hid ((HK8.out.1.trans (KeepsT.below (Cl.below_made wr (.cells #[.int .i64 4, .int .i64 0, .int .i64 0, .int .i64 x.a, .int .i64 k, .int .i64 sh] 42)))).trans hk2)
              have HO9 := Lib.hid (show w8.ownsRow w.heap.size 42 6 v' ([dotsS] ++ rowP Y (O.take i) ++ blkK (x, lv) (k + 1)).length (cellsC ([dotsS] ++ rowP Y (O.take i) ++ blkK (x, lv) (k + 1))) from by rw [HBK.out, List.length_append]; exact hown2)
              clear hown2 hb2 hk2 x0 x4
              go_wp2_with fail
              exact ⟨⟨k + 1, v', by omega, by go_num, rfl, HO9.out, HK9.out, HB9.out⟩, by simp [RowKit.intOf]; omega⟩
            · have t1 : decide ((k : Int) < x.w) = false := decide_eq_false (by omega)
              obtain rfl : k = x.w.toNat := by omega
              have HOF := Lib.hid (show wr.ownsRow w.heap.size 42 6 _ ([dotsS] ++ rowP Y (O.take (i + 1))).length (cellsC ([dotsS] ++ rowP Y (O.take (i + 1)))) from by
                rw [HR1.out, ← List.append_assoc]
                exact HO8.out)
              have HKF := Lib.hid (And.intro (HKB7.out.1.trans hkt) (HKB7.out.2.trans hbk))
              clear hown hkt hbk hcx x0
              go_wp2_with fail
              exact ⟨⟨i + 1, _, by omega, by go_num, rfl, HOF.out, HKF.out.1, HKF.out.2⟩, by simp [RowKit.intOf]; omega⟩
        · obtain rfl : i = n := by omega
          have j1 : decide ((i : Int) < (i : Int)) = false := decide_eq_false (by omega)
          have HTK := Lib.hid (show O.take i = O from List.take_of_length_le (by rw [HOL.out]; exact Nat.le_refl _))
          clear hk hb ebox hio
          rw [HTK.out] at hown
          have HOE := Lib.hid hown
          have hlen := HLE.out i
          rw [HTK.out] at hlen
          have hol := HOL.out
          clear hown
          go_wp2_with fail
          go_ret
          exact ⟨_, rfl, HOE.out, hbw⟩
    · have p1 : (para == (1 : Int)) = false := beq_eq_false_iff_ne.2 hp
      rw [if_neg (fun h => hp h.2), List.nil_append]
      by_cases h0 : para = 0
      · have p0 : (para == (0 : Int)) = true := beq_iff_eq.2 h0
        rw [if_pos ⟨hd, h0⟩]
        subst hd h0
        clear d1 p1 p0 hp
        go_enter Tryd.func24, Tryd.ntmps24
        have HB1 := Lib.hid HU.out.1
        have HX1 := Lib.hid HU.out.2.1
        have HW1 := Lib.hid (World.ownsRow_nil (w.alloc (.cells #[.slice A n c, .slice B n d] 58)) w.heap.size 42 6)
        clear hq0 hq1
        have z1 := cell_of_row _ w.heap.size 1 _ _ _ HX1.out
        go_wp2_with fail
        refine (HORD.out _ HB1.out).mono ?_
        rintro e w2 ⟨A2, c2, rfl, ho2, hb2⟩
        have HB2 := Lib.hid (HB1.out.trans (hb2.mono HB1.out.size))
        have HBW := Lib.hid HB2.out
        have HOW := Lib.hid (Cl.ownsRow_below HW1.out hb2)
        have HM := Lib.hid (fun V (hk : KeepsT 42 w2 V) (hb : Below w.heap.size w2 V) => (show V.heap[w.heap.size]? = some (.cells #[.slice A n c, .slice B n d] 58 (0, 0)) ∧ IntsAt V A2 (Sq.ns O) ∧ Below w.heap.size w V from by
          have h1 := (KeepsT.below (e := 42) hb2).trans hk
          have h2 := hk.own (by decide) ho2
          obtain ⟨A3, c3, e3, hi⟩ := intsAt_icl (n := n) h2 (by rw [Sq.ns_len]; exact HOL.out)
          injection e3 with e31 _ _
          subst e31
          exact ⟨h1.2 _ _ _ _ HX1.out (by decide), hi, HB2.out.trans hb⟩))
        clear ho2 hb2 HORD z1
        go_wp2_with fail
        go_loopw [7, 9] (fun s7 s9 wx => ∃ (i : Nat) (v : Value), i ≤ n ∧ s9 = .int .i64 i ∧ s7 = v ∧ wx.ownsRow w.heap.size 42 6 v (([] : List C6) ++ rowP Y (O.take i)).length (cellsC (([] : List C6) ++ rowP Y (O.take i))) ∧ KeepsT 42 w2 wx ∧ Below w.heap.size w2 wx) (fun _ s9 _ => n - (RowKit.intOf s9).toNat)
        case atStart => exact ⟨0, _, Nat.zero_le _, rfl, rfl, by simpa [rowP, cellsC] using HOW.out, KeepsT.refl _ _, Below.refl _ _⟩
        case round =>
          obtain ⟨i, v, hi, rfl, rfl, hown, hk, hb⟩ := hrel
          have HO := Lib.hid hown
          have HKB := Lib.hid (And.intro hk hb)
          obtain ⟨ebox, hio, hbw⟩ := HM.out _ hk hb
          have HWR := Lib.hid hbw
          by_cases hlt : i < n
          · have hiO : i < O.length := by rw [HOL.out]; exact hlt
            have hjY : O[i] < Y.length := HOM.out _ (List.getElem_mem hiO)
            have HR1 := Lib.hid (HROW.out i hiO)
            obtain ⟨j, hj⟩ : ∃ j, O[i] = j := ⟨_, rfl⟩
            have hion : i < (Sq.ns O).length := by rw [Sq.ns_len]; exact hiO
            obtain ⟨g2, o2, rfl, r0⟩ := hio.at_ hion
            rw [show (Sq.ns O)[i] = ((j : Nat) : Int) from by simp [Sq.ns, hj]] at r0
            rw [hj] at hjY HR1
            have hjn : j < n := by rw [← HL.out]; exact hjY
            obtain ⟨g, o, rfl, hg, c0, c1, c2, c3, c4, c5⟩ := (HC.out.below hbw).at_ (k := j) (by rw [List.length_map]; exact hjY)
            obtain ⟨g4, o4, rfl, l0⟩ := (HI.out.below hbw).at_ (k := j) (by rw [List.length_map]; exact hjY)
            rw [List.getElem_map] at c0 c1 c2 c3 c4 c5 l0
            have hgd : Y.getD j sn0 = Y[j] := by rw [List.getD_eq_getElem?_getD, List.getElem?_eq_getElem hjY]; rfl
            rw [hgd] at HR1
            have hy2 := HW.out _ (List.getElem_mem hjY)
            generalize Y[j] = y at *
            obtain ⟨x, lv⟩ := y
            simp only at c0 c1 c2 c3 c4 c5 l0 hy2
            have q0 := cell_of_row _ w.heap.size 0 _ _ _ ebox
            have q1 := cell_of_row _ w.heap.size 1 _ _ _ ebox
            have i0 : (0 : Int) ≤ (i : Int) := by omega
            have i1 : (i : Int) < (n : Int) := by omega
            have j0 : (0 : Int) ≤ (j : Int) := by omega
            have j1 : (j : Int) < (n : Int) := by omega
            have hza := (Below.refl wr.heap.size wr).alloc (Nat.le_refl _) (.cells #[.int .i64 0, .int .i64 0, .int .i64 0, .int .i64 0, .int .i64 0, .int .i64 0] 40)
            have zr0 : ((wr.alloc (.cells #[.int .i64 0, .int .i64 0, .int .i64 0, .int .i64 0, .int .i64 0, .int .i64 0] 40)).drew).cell? _ = _ := (hza.cell (block_lt_of_cell r0)).trans r0
            have zl0 : ((wr.alloc (.cells #[.int .i64 0, .int .i64 0, .int .i64 0, .int .i64 0, .int .i64 0, .int .i64 0] 40)).drew).cell? _ = _ := (hza.cell (block_lt_of_cell l0)).trans l0
            have zq0 : ((wr.alloc (.cells #[.int .i64 0, .int .i64 0, .int .i64 0, .int .i64 0, .int .i64 0, .int .i64 0] 40)).drew).cell? _ = _ := (hza.cell (block_lt_of_cell q0)).trans q0
            have zq1 : ((wr.alloc (.cells #[.int .i64 0, .int .i64 0, .int .i64 0, .int .i64 0, .int .i64 0, .int .i64 0] 40)).drew).cell? _ = _ := (hza.cell (block_lt_of_cell q1)).trans q1
            have zc0 : ((wr.alloc (.cells #[.int .i64 0, .int .i64 0, .int .i64 0, .int .i64 0, .int .i64 0, .int .i64 0] 40)).drew).cell? _ = _ := (hza.cell hg).trans c0
            have zc1 : ((wr.alloc (.cells #[.int .i64 0, .int .i64 0, .int .i64 0, .int .i64 0, .int .i64 0, .int .i64 0] 40)).drew).cell? _ = _ := (hza.cell hg).trans c1
            have zc2 : ((wr.alloc (.cells #[.int .i64 0, .int .i64 0, .int .i64 0, .int .i64 0, .int .i64 0, .int .i64 0] 40)).drew).cell? _ = _ := (hza.cell hg).trans c2
            have zc3 : ((wr.alloc (.cells #[.int .i64 0, .int .i64 0, .int .i64 0, .int .i64 0, .int .i64 0, .int .i64 0] 40)).drew).cell? _ = _ := (hza.cell hg).trans c3
            have zc4 : ((wr.alloc (.cells #[.int .i64 0, .int .i64 0, .int .i64 0, .int .i64 0, .int .i64 0, .int .i64 0] 40)).drew).cell? _ = _ := (hza.cell hg).trans c4
            have zc5 : ((wr.alloc (.cells #[.int .i64 0, .int .i64 0, .int .i64 0, .int .i64 0, .int .i64 0, .int .i64 0] 40)).drew).cell? _ = _ := (hza.cell hg).trans c5
            clear hown hk hb hiO hjY hgd hion hj hza
            have HVB := Lib.hid (show Below wr.heap.size wr ((wr.alloc (.cells #[.int .i64 x.a, .int .i64 x.z, .int .i64 x.f, .int .i64 x.t, .int .i64 x.w, .int .i64 x.c] 40)).drew) from below_drew ((Below.refl wr.heap.size wr).alloc (Nat.le_refl _) (.cells #[.int .i64 x.a, .int .i64 x.z, .int .i64 x.f, .int .i64 x.t, .int .i64 x.w, .int .i64 x.c] 40)))
            have HVE := Lib.hid (show ((wr.alloc (.cells #[.int .i64 x.a, .int .i64 x.z, .int .i64 x.f, .int .i64 x.t, .int .i64 x.w, .int .i64 x.c] 40)).drew).heap[wr.heap.size]? = some (.cells #[.int .i64 x.a, .int .i64 x.z, .int .i64 x.f, .int .i64 x.t, .int .i64 x.w, .int .i64 x.c] 40 (0, 0)) from heap_alloc_new wr _)
            have HVS := Lib.hid (show wr.heap.size < ((wr.alloc (.cells #[.int .i64 x.a, .int .i64 x.z, .int .i64 x.f, .int .i64 x.t, .int .i64 x.w, .int .i64 x.c] 40)).drew).heap.size from by show _ < (wr.alloc (.cells #[.int .i64 x.a, .int .i64 x.z, .int .i64 x.f, .int .i64 x.t, .int .i64 x.w, .int .i64 x.c] 40)).heap.size; rw [World.size_alloc]; omega)
            have HOLD := Lib.hid (fun V (h : Below wr.heap.size wr V) => (⟨(h.cell (block_lt_of_cell q1)).trans q1, (h.cell (block_lt_of_cell r0)).trans r0, (h.cell (block_lt_of_cell l0)).trans l0⟩ : V.cell? ⟨w.heap.size, 1, none⟩ = some (.slice (some ⟨g4, o4, none⟩) n d) ∧ V.cell? ⟨g2, o2 + i, none⟩ = some (.int .i64 j) ∧ V.cell? ⟨g4, o4 + j, none⟩ = some (.int .i64 lv)))
            go_wp2_with fail
            go_region
            generalize (wr.alloc (.cells #[.int .i64 x.a, .int .i64 x.z, .int .i64 x.f, .int .i64 x.t, .int .i64 x.w, .int .i64 x.c] 40)).drew = V1 at *
            clear q0 q1 r0 l0 c0 c1 c2 c3 c4 c5 zr0 zl0 zq0 zq1 zc0 zc1 zc2 zc3 zc4 zc5 ebox hio hbw
            have HC9 := Lib.hid (fun V (h : Below V1.heap.size V1 V) => (⟨cell_of_row V wr.heap.size 5 _ _ _ ((h.block _ HVS.out).trans HVE.out), (HOLD.out V (HVB.out.trans (h.mono HVB.out.size))).1, (HOLD.out V (HVB.out.trans (h.mono HVB.out.size))).2.1, (HOLD.out V (HVB.out.trans (h.mono HVB.out.size))).2.2, h⟩ : V.cell? ⟨wr.heap.size, 5, none⟩ = some (.int .i64 x.c) ∧ V.cell? ⟨w.heap.size, 1, none⟩ = some (.slice (some ⟨g4, o4, none⟩) n d) ∧ V.cell? ⟨g2, o2 + i, none⟩ = some (.int .i64 j) ∧ V.cell? ⟨g4, o4 + j, none⟩ = some (.int .i64 lv) ∧ Below V1.heap.size V1 V))
            go_wp2_with fail
            go_region_held3 (fun V => V.cell? ⟨wr.heap.size, 5, none⟩ = some (.int .i64 x.c) ∧ V.cell? ⟨w.heap.size, 1, none⟩ = some (.slice (some ⟨g4, o4, none⟩) n d) ∧ V.cell? ⟨g2, o2 + i, none⟩ = some (.int .i64 j) ∧ V.cell? ⟨g4, o4 + j, none⟩ = some (.int .i64 lv) ∧ Below V1.heap.size V1 V) (first | exact HC9.out _ (Below.refl _ _) | exact HC9.out _ (below_drew (Below.refl _ _)) | exact HC9.out _ (by assumption))
              (first | (go_at_call 40; ((with_reducible refine (HSH.out _ _ _).mono ?_); rintro e w7 ⟨rfl, hb7⟩; have hbx := step_below19 (wr := V1) (by first | assumption | exact below_drew (Below.refl _ _)) hb7; clear hb7)))
            rename_i hh8
            have HB8 := Lib.hid hh8.2.2.2.2
            have HO7 := Lib.hid (Cl.ownsRow_below (Cl.ownsRow_below HO.out HVB.out) hh8.2.2.2.2)
            have HKB7 := Lib.hid (And.intro ((HKB.out.1.trans (KeepsT.below HVB.out)).trans (KeepsT.below hh8.2.2.2.2)) ((HKB.out.2.trans (HVB.out.mono HWR.out.size)).trans (hh8.2.2.2.2.mono (Nat.le_trans HWR.out.size HVB.out.size))))
            have HC7 := Lib.hid ((hh8.2.2.2.2.block _ HVS.out).trans HVE.out)
            have hlen := HLE.out i
            rw [List.length_take] at hlen
            clear hh8 HOLD HC9 HVB HVE HVS HB8
            generalize wr.heap.size = bc at *
            go_wp2_with fail
            go_loopw [7, 12] (fun s7 s12 wx => ∃ (k : Nat) (v : Value), k ≤ x.w.toNat ∧ s12 = .int .i64 k ∧ s7 = v ∧ wx.ownsRow w.heap.size 42 6 v (([] : List C6) ++ rowP Y (O.take i) ++ blkK (x, lv) k).length (cellsC (([] : List C6) ++ rowP Y (O.take i) ++ blkK (x, lv) k)) ∧ KeepsT 42 w7 wx ∧ Below w.heap.size w7 wx) (fun _ s12 _ => x.w.toNat - (RowKit.intOf s12).toNat)
            case atStart => exact ⟨0, _, Nat.zero_le _, rfl, rfl, by simpa [blkK] using HO7.out, KeepsT.refl _ _, Below.refl _ _⟩
            case round =>
              obtain ⟨k, v, hk, rfl, rfl, hown, hkt, hbk⟩ := hrel
              have HO8 := Lib.hid hown
              have HK8 := Lib.hid (And.intro hkt hbk)
              have hcx := hkt.2 _ _ _ _ HC7.out (by decide)
              have x0 := cell_of_row _ bc 0 _ _ _ hcx
              have x4 := cell_of_row _ bc 4 _ _ _ hcx
              have hl8 : (([] : List C6) ++ rowP Y (O.take i) ++ blkK (x, lv) k).length ≤ 1000000 := by
                simp only [List.length_append, List.length_nil, blk_len]
                omega
              by_cases hkw : k < x.w.toNat
              · have t1 : decide ((k : Int) < x.w) = true := decide_eq_true (by omega)
                have HBK := Lib.hid (show ([] : List C6) ++ rowP Y (O.take i) ++ blkK (x, lv) (k + 1) = (([] : List C6) ++ rowP Y (O.take i) ++ blkK (x, lv) k) ++ [txtS x.a k (shownP x.c lv)] from by
                  rw [show blkK (x, lv) (k + 1) = blkK (x, lv) k ++ [txtS x.a k (shownP x.c lv)] from rfl]
                  simp only [List.append_assoc])
                generalize shownP x.c lv = sh at *
                obtain ⟨Z, hZ⟩ : ∃ Z, ([] : List C6) ++ rowP Y (O.take i) ++ blkK (x, lv) k = Z := ⟨_, rfl⟩
                rw [hZ] at hl8 HBK
                have HOZ := Lib.hid (show wr.ownsRow w.heap.size 42 6 _ Z.length (cellsC Z) from by rw [← hZ]; exact HO8.out)
                have hwr := hbk.size
                have hw7 := HKB7.out.2.size
                have hw2 := HBW.out.size
                clear hown hkt hbk hcx hZ HO8
                go_wp2_with (at_builtin; refine wpList_addC 27 42 Tryd.underlying27 infoSl rfl _ _ rfl w.heap.size _ _ _ rfl (Cl.ownsRow_below HOZ.out (Cl.below_made _ _)) (some ⟨wr.heap.size, 0, none⟩) 1 1 [txtS x.a k sh] rfl (made_c (txtS x.a k sh) _ wr) rfl (by omega) (by rw [World.size_alloc]; omega) ?_)
                intro v' w8 hown2 hb2 hk2
                have HB9 := Lib.hid ((HK8.out.2.trans ((Cl.below_made wr (.cells #[.int .i64 4, .int .i64 0, .int .i64 0, .int .i64 x.a, .int .i64 k, .int .i64 sh] 42)).mono (by omega))).trans hb2)
                have HK9 := Lib.hid ((HK8.out.1.trans (KeepsT.below (Cl.below_made wr (.cells #[.int .i64 4, .int .i64 0, .int .i64 0, .int .i64 x.a, .int .i64 k, .int .i64 sh] 42)))).trans hk2)
                have HO9 := Lib.hid (show w8.ownsRow w.heap.size 42 6 v' (([] : List C6) ++ rowP Y (O.take i) ++ blkK (x, lv) (k + 1)).length (cellsC (([] : List C6) ++ rowP Y (O.take i) ++ blkK (x, lv) (k + 1))) from by rw [HBK.out, List.length_append]; exact hown2)
                clear hown2 hb2 hk2 x0 x4
                go_wp2_with fail
                exact ⟨⟨k + 1, v', by omega, by go_num, rfl, HO9.out, HK9.out, HB9.out⟩, by simp [RowKit.intOf]; omega⟩
              · have t1 : decide ((k : Int) < x.w) = false := decide_eq_false (by omega)
                obtain rfl : k = x.w.toNat := by omega
                have HOF := Lib.hid (show wr.ownsRow w.heap.size 42 6 _ (([] : List C6) ++ rowP Y (O.take (i + 1))).length (cellsC (([] : List C6) ++ rowP Y (O.take (i + 1)))) from by
                  rw [HR1.out, ← List.append_assoc]
                  exact HO8.out)
                have HKF := Lib.hid (And.intro (HKB7.out.1.trans hkt) (HKB7.out.2.trans hbk))
                clear hown hkt hbk hcx x0
                go_wp2_with fail
                exact ⟨⟨i + 1, _, by omega, by go_num, rfl, HOF.out, HKF.out.1, HKF.out.2⟩, by simp [RowKit.intOf]; omega⟩
          · obtain rfl : i = n := by omega
            have j1 : decide ((i : Int) < (i : Int)) = false := decide_eq_false (by omega)
            have HTK := Lib.hid (show O.take i = O from List.take_of_length_le (by rw [HOL.out]; exact Nat.le_refl _))
            clear hk hb ebox hio
            rw [HTK.out] at hown
            have HOE := Lib.hid hown
            have hlen := HLE.out i
            rw [HTK.out] at hlen
            have hol := HOL.out
            clear hown
            have hwr := hbw.size
            have hzl : (([] : List C6) ++ rowP Y O).length ≤ 1000000 := by
              simp only [List.length_append, List.length_nil]
              omega
            rw [List.nil_append] at HOE hzl
            obtain ⟨Z, hZ⟩ : ∃ Z, rowP Y O = Z := ⟨_, rfl⟩
            have HZ := Lib.hid hZ
            rw [hZ] at HOE hzl
            clear hZ hlen
            go_wp2_with (at_builtin; refine wpList_addC 27 42 Tryd.underlying27 infoSl rfl _ _ rfl w.heap.size _ _ _ rfl (Cl.ownsRow_below HOE.out (Cl.below_made _ _)) (some ⟨wr.heap.size, 0, none⟩) 1 1 [dotsS] rfl (made_c dotsS _ wr) rfl (by omega) (by rw [World.size_alloc]; omega) ?_)
            intro v' w8 hown2 hb2 hk2
            have HB9 := Lib.hid ((hbw.trans ((Cl.below_made wr (.cells #[.int .i64 3, .int .i64 0, .int .i64 0, .int .i64 0, .int .i64 0, .int .i64 0] 42)).mono hwr)).trans hb2)
            have HO9 := Lib.hid hown2
            clear hown2 hb2 hk2
            go_wp2_with fail
            go_ret
            refine ⟨_, rfl, ?_, HB9.out⟩
            rw [List.length_append, HZ.out]
            exact HO9.out
      · have p0 : (para == (0 : Int)) = false := beq_eq_false_iff_ne.2 h0
        rw [if_neg (fun h => h0 h.2), List.append_nil]
        subst hd
        clear d1 hp h0
        go_enter Tryd.func24, Tryd.ntmps24
        have HB1 := Lib.hid HU.out.1
        have HX1 := Lib.hid HU.out.2.1
        have HW1 := Lib.hid (World.ownsRow_nil (w.alloc (.cells #[.slice A n c, .slice B n d] 58)) w.heap.size 42 6)
        clear hq0 hq1
        have z1 := cell_of_row _ w.heap.size 1 _ _ _ HX1.out
        go_wp2_with fail
        refine (HORD.out _ HB1.out).mono ?_
        rintro e w2 ⟨A2, c2, rfl, ho2, hb2⟩
        have HB2 := Lib.hid (HB1.out.trans (hb2.mono HB1.out.size))
        have HBW := Lib.hid HB2.out
        have HOW := Lib.hid (Cl.ownsRow_below HW1.out hb2)
        have HM := Lib.hid (fun V (hk : KeepsT 42 w2 V) (hb : Below w.heap.size w2 V) => (show V.heap[w.heap.size]? = some (.cells #[.slice A n c, .slice B n d] 58 (0, 0)) ∧ IntsAt V A2 (Sq.ns O) ∧ Below w.heap.size w V from by
          have h1 := (KeepsT.below (e := 42) hb2).trans hk
          have h2 := hk.own (by decide) ho2
          obtain ⟨A3, c3, e3, hi⟩ := intsAt_icl (n := n) h2 (by rw [Sq.ns_len]; exact HOL.out)
          injection e3 with e31 _ _
          subst e31
          exact ⟨h1.2 _ _ _ _ HX1.out (by decide), hi, HB2.out.trans hb⟩))
        clear ho2 hb2 HORD z1
        go_wp2_with fail
        go_loopw [7, 9] (fun s7 s9 wx => ∃ (i : Nat) (v : Value), i ≤ n ∧ s9 = .int .i64 i ∧ s7 = v ∧ wx.ownsRow w.heap.size 42 6 v (([] : List C6) ++ rowP Y (O.take i)).length (cellsC (([] : List C6) ++ rowP Y (O.take i))) ∧ KeepsT 42 w2 wx ∧ Below w.heap.size w2 wx) (fun _ s9 _ => n - (RowKit.intOf s9).toNat)
        case atStart => exact ⟨0, _, Nat.zero_le _, rfl, rfl, by simpa [rowP, cellsC] using HOW.out, KeepsT.refl _ _, Below.refl _ _⟩
        case round =>
          obtain ⟨i, v, hi, rfl, rfl, hown, hk, hb⟩ := hrel
          have HO := Lib.hid hown
          have HKB := Lib.hid (And.intro hk hb)
          obtain ⟨ebox, hio, hbw⟩ := HM.out _ hk hb
          have HWR := Lib.hid hbw
          by_cases hlt : i < n
          · have hiO : i < O.length := by rw [HOL.out]; exact hlt
            have hjY : O[i] < Y.length := HOM.out _ (List.getElem_mem hiO)
            have HR1 := Lib.hid (HROW.out i hiO)
            obtain ⟨j, hj⟩ : ∃ j, O[i] = j := ⟨_, rfl⟩
            have hion : i < (Sq.ns O).length := by rw [Sq.ns_len]; exact hiO
            obtain ⟨g2, o2, rfl, r0⟩ := hio.at_ hion
            rw [show (Sq.ns O)[i] = ((j : Nat) : Int) from by simp [Sq.ns, hj]] at r0
            rw [hj] at hjY HR1
            have hjn : j < n := by rw [← HL.out]; exact hjY
            obtain ⟨g, o, rfl, hg, c0, c1, c2, c3, c4, c5⟩ := (HC.out.below hbw).at_ (k := j) (by rw [List.length_map]; exact hjY)
            obtain ⟨g4, o4, rfl, l0⟩ := (HI.out.below hbw).at_ (k := j) (by rw [List.length_map]; exact hjY)
            rw [List.getElem_map] at c0 c1 c2 c3 c4 c5 l0
            have hgd : Y.getD j sn0 = Y[j] := by rw [List.getD_eq_getElem?_getD, List.getElem?_eq_getElem hjY]; rfl
            rw [hgd] at HR1
            have hy2 := HW.out _ (List.getElem_mem hjY)
            generalize Y[j] = y at *
            obtain ⟨x, lv⟩ := y
            simp only at c0 c1 c2 c3 c4 c5 l0 hy2
            have q0 := cell_of_row _ w.heap.size 0 _ _ _ ebox
            have q1 := cell_of_row _ w.heap.size 1 _ _ _ ebox
            have i0 : (0 : Int) ≤ (i : Int) := by omega
            have i1 : (i : Int) < (n : Int) := by omega
            have j0 : (0 : Int) ≤ (j : Int) := by omega
            have j1 : (j : Int) < (n : Int) := by omega
            have hza := (Below.refl wr.heap.size wr).alloc (Nat.le_refl _) (.cells #[.int .i64 0, .int .i64 0, .int .i64 0, .int .i64 0, .int .i64 0, .int .i64 0] 40)
            have zr0 : ((wr.alloc (.cells #[.int .i64 0, .int .i64 0, .int .i64 0, .int .i64 0, .int .i64 0, .int .i64 0] 40)).drew).cell? _ = _ := (hza.cell (block_lt_of_cell r0)).trans r0
            have zl0 : ((wr.alloc (.cells #[.int .i64 0, .int .i64 0, .int .i64 0, .int .i64 0, .int .i64 0, .int .i64 0] 40)).drew).cell? _ = _ := (hza.cell (block_lt_of_cell l0)).trans l0
            have zq0 : ((wr.alloc (.cells #[.int .i64 0, .int .i64 0, .int .i64 0, .int .i64 0, .int .i64 0, .int .i64 0] 40)).drew).cell? _ = _ := (hza.cell (block_lt_of_cell q0)).trans q0
            have zq1 : ((wr.alloc (.cells #[.int .i64 0, .int .i64 0, .int .i64 0, .int .i64 0, .int .i64 0, .int .i64 0] 40)).drew).cell? _ = _ := (hza.cell (block_lt_of_cell q1)).trans q1
            have zc0 : ((wr.alloc (.cells #[.int .i64 0, .int .i64 0, .int .i64 0, .int .i64 0, .int .i64 0, .int .i64 0] 40)).drew).cell? _ = _ := (hza.cell hg).trans c0
            have zc1 : ((wr.alloc (.cells #[.int .i64 0, .int .i64 0, .int .i64 0, .int .i64 0, .int .i64 0, .int .i64 0] 40)).drew).cell? _ = _ := (hza.cell hg).trans c1
            have zc2 : ((wr.alloc (.cells #[.int .i64 0, .int .i64 0, .int .i64 0, .int .i64 0, .int .i64 0, .int .i64 0] 40)).drew).cell? _ = _ := (hza.cell hg).trans c2
            have zc3 : ((wr.alloc (.cells #[.int .i64 0, .int .i64 0, .int .i64 0, .int .i64 0, .int .i64 0, .int .i64 0] 40)).drew).cell? _ = _ := (hza.cell hg).trans c3
            have zc4 : ((wr.alloc (.cells #[.int .i64 0, .int .i64 0, .int .i64 0, .int .i64 0, .int .i64 0, .int .i64 0] 40)).drew).cell? _ = _ := (hza.cell hg).trans c4
            have zc5 : ((wr.alloc (.cells #[.int .i64 0, .int .i64 0, .int .i64 0, .int .i64 0, .int .i64 0, .int .i64 0] 40)).drew).cell? _ = _ := (hza.cell hg).trans c5
            clear hown hk hb hiO hjY hgd hion hj hza
            have HVB := Lib.hid (show Below wr.heap.size wr ((wr.alloc (.cells #[.int .i64 x.a, .int .i64 x.z, .int .i64 x.f, .int .i64 x.t, .int .i64 x.w, .int .i64 x.c] 40)).drew) from below_drew ((Below.refl wr.heap.size wr).alloc (Nat.le_refl _) (.cells #[.int .i64 x.a, .int .i64 x.z, .int .i64 x.f, .int .i64 x.t, .int .i64 x.w, .int .i64 x.c] 40)))
            have HVE := Lib.hid (show ((wr.alloc (.cells #[.int .i64 x.a, .int .i64 x.z, .int .i64 x.f, .int .i64 x.t, .int .i64 x.w, .int .i64 x.c] 40)).drew).heap[wr.heap.size]? = some (.cells #[.int .i64 x.a, .int .i64 x.z, .int .i64 x.f, .int .i64 x.t, .int .i64 x.w, .int .i64 x.c] 40 (0, 0)) from heap_alloc_new wr _)
            have HVS := Lib.hid (show wr.heap.size < ((wr.alloc (.cells #[.int .i64 x.a, .int .i64 x.z, .int .i64 x.f, .int .i64 x.t, .int .i64 x.w, .int .i64 x.c] 40)).drew).heap.size from by show _ < (wr.alloc (.cells #[.int .i64 x.a, .int .i64 x.z, .int .i64 x.f, .int .i64 x.t, .int .i64 x.w, .int .i64 x.c] 40)).heap.size; rw [World.size_alloc]; omega)
            have HOLD := Lib.hid (fun V (h : Below wr.heap.size wr V) => (⟨(h.cell (block_lt_of_cell q1)).trans q1, (h.cell (block_lt_of_cell r0)).trans r0, (h.cell (block_lt_of_cell l0)).trans l0⟩ : V.cell? ⟨w.heap.size, 1, none⟩ = some (.slice (some ⟨g4, o4, none⟩) n d) ∧ V.cell? ⟨g2, o2 + i, none⟩ = some (.int .i64 j) ∧ V.cell? ⟨g4, o4 + j, none⟩ = some (.int .i64 lv)))
            go_wp2_with fail
            go_region
            generalize (wr.alloc (.cells #[.int .i64 x.a, .int .i64 x.z, .int .i64 x.f, .int .i64 x.t, .int .i64 x.w, .int .i64 x.c] 40)).drew = V1 at *
            clear q0 q1 r0 l0 c0 c1 c2 c3 c4 c5 zr0 zl0 zq0 zq1 zc0 zc1 zc2 zc3 zc4 zc5 ebox hio hbw
            have HC9 := Lib.hid (fun V (h : Below V1.heap.size V1 V) => (⟨cell_of_row V wr.heap.size 5 _ _ _ ((h.block _ HVS.out).trans HVE.out), (HOLD.out V (HVB.out.trans (h.mono HVB.out.size))).1, (HOLD.out V (HVB.out.trans (h.mono HVB.out.size))).2.1, (HOLD.out V (HVB.out.trans (h.mono HVB.out.size))).2.2, h⟩ : V.cell? ⟨wr.heap.size, 5, none⟩ = some (.int .i64 x.c) ∧ V.cell? ⟨w.heap.size, 1, none⟩ = some (.slice (some ⟨g4, o4, none⟩) n d) ∧ V.cell? ⟨g2, o2 + i, none⟩ = some (.int .i64 j) ∧ V.cell? ⟨g4, o4 + j, none⟩ = some (.int .i64 lv) ∧ Below V1.heap.size V1 V))
            go_wp2_with fail
            go_region_held3 (fun V => V.cell? ⟨wr.heap.size, 5, none⟩ = some (.int .i64 x.c) ∧ V.cell? ⟨w.heap.size, 1, none⟩ = some (.slice (some ⟨g4, o4, none⟩) n d) ∧ V.cell? ⟨g2, o2 + i, none⟩ = some (.int .i64 j) ∧ V.cell? ⟨g4, o4 + j, none⟩ = some (.int .i64 lv) ∧ Below V1.heap.size V1 V) (first | exact HC9.out _ (Below.refl _ _) | exact HC9.out _ (below_drew (Below.refl _ _)) | exact HC9.out _ (by assumption))
              (first | (go_at_call 40; ((with_reducible refine (HSH.out _ _ _).mono ?_); rintro e w7 ⟨rfl, hb7⟩; have hbx := step_below19 (wr := V1) (by first | assumption | exact below_drew (Below.refl _ _)) hb7; clear hb7)))
            rename_i hh8
            have HB8 := Lib.hid hh8.2.2.2.2
            have HO7 := Lib.hid (Cl.ownsRow_below (Cl.ownsRow_below HO.out HVB.out) hh8.2.2.2.2)
            have HKB7 := Lib.hid (And.intro ((HKB.out.1.trans (KeepsT.below HVB.out)).trans (KeepsT.below hh8.2.2.2.2)) ((HKB.out.2.trans (HVB.out.mono HWR.out.size)).trans (hh8.2.2.2.2.mono (Nat.le_trans HWR.out.size HVB.out.size))))
            have HC7 := Lib.hid ((hh8.2.2.2.2.block _ HVS.out).trans HVE.out)
            have hlen := HLE.out i
            rw [List.length_take] at hlen
            clear hh8 HOLD HC9 HVB HVE HVS HB8
            generalize wr.heap.size = bc at *
            go_wp2_with fail
            go_loopw [7, 12] (fun s7 s12 wx => ∃ (k : Nat) (v : Value), k ≤ x.w.toNat ∧ s12 = .int .i64 k ∧ s7 = v ∧ wx.ownsRow w.heap.size 42 6 v (([] : List C6) ++ rowP Y (O.take i) ++ blkK (x, lv) k).length (cellsC (([] : List C6) ++ rowP Y (O.take i) ++ blkK (x, lv) k)) ∧ KeepsT 42 w7 wx ∧ Below w.heap.size w7 wx) (fun _ s12 _ => x.w.toNat - (RowKit.intOf s12).toNat)
            case atStart => exact ⟨0, _, Nat.zero_le _, rfl, rfl, by simpa [blkK] using HO7.out, KeepsT.refl _ _, Below.refl _ _⟩
            case round =>
              obtain ⟨k, v, hk, rfl, rfl, hown, hkt, hbk⟩ := hrel
              have HO8 := Lib.hid hown
              have HK8 := Lib.hid (And.intro hkt hbk)
              have hcx := hkt.2 _ _ _ _ HC7.out (by decide)
              have x0 := cell_of_row _ bc 0 _ _ _ hcx
              have x4 := cell_of_row _ bc 4 _ _ _ hcx
              have hl8 : (([] : List C6) ++ rowP Y (O.take i) ++ blkK (x, lv) k).length ≤ 1000000 := by
                simp only [List.length_append, List.length_nil, blk_len]
                omega
              by_cases hkw : k < x.w.toNat
              · have t1 : decide ((k : Int) < x.w) = true := decide_eq_true (by omega)
                have HBK := Lib.hid (show ([] : List C6) ++ rowP Y (O.take i) ++ blkK (x, lv) (k + 1) = (([] : List C6) ++ rowP Y (O.take i) ++ blkK (x, lv) k) ++ [txtS x.a k (shownP x.c lv)] from by
                  rw [show blkK (x, lv) (k + 1) = blkK (x, lv) k ++ [txtS x.a k (shownP x.c lv)] from rfl]
                  simp only [List.append_assoc])
                generalize shownP x.c lv = sh at *
                obtain ⟨Z, hZ⟩ : ∃ Z, ([] : List C6) ++ rowP Y (O.take i) ++ blkK (x, lv) k = Z := ⟨_, rfl⟩
                rw [hZ] at hl8 HBK
                have HOZ := Lib.hid (show wr.ownsRow w.heap.size 42 6 _ Z.length (cellsC Z) from by rw [← hZ]; exact HO8.out)
                have hwr := hbk.size
                have hw7 := HKB7.out.2.size
                have hw2 := HBW.out.size
                clear hown hkt hbk hcx hZ HO8
                go_wp2_with (at_builtin; refine wpList_addC 27 42 Tryd.underlying27 infoSl rfl _ _ rfl w.heap.size _ _ _ rfl (Cl.ownsRow_below HOZ.out (Cl.below_made _ _)) (some ⟨wr.heap.size, 0, none⟩) 1 1 [txtS x.a k sh] rfl (made_c (txtS x.a k sh) _ wr) rfl (by omega) (by rw [World.size_alloc]; omega) ?_)
                intro v' w8 hown2 hb2 hk2
                have HB9 := Lib.hid ((HK8.out.2.trans ((Cl.below_made wr (.cells #[.int .i64 4, .int .i64 0, .int .i64 0, .int .i64 x.a, .int .i64 k, .int .i64 sh] 42)).mono (by omega))).trans hb2)
                have HK9 := Lib.hid ((HK8.out.1.trans (KeepsT.below (Cl.below_made wr (.cells #[.int .i64 4, .int .i64 0, .int .i64 0, .int .i64 x.a, .int .i64 k, .int .i64 sh] 42)))).trans hk2)
                have HO9 := Lib.hid (show w8.ownsRow w.heap.size 42 6 v' (([] : List C6) ++ rowP Y (O.take i) ++ blkK (x, lv) (k + 1)).length (cellsC (([] : List C6) ++ rowP Y (O.take i) ++ blkK (x, lv) (k + 1))) from by rw [HBK.out, List.length_append]; exact hown2)
                clear hown2 hb2 hk2 x0 x4
                go_wp2_with fail
                exact ⟨⟨k + 1, v', by omega, by go_num, rfl, HO9.out, HK9.out, HB9.out⟩, by simp [RowKit.intOf]; omega⟩
              · have t1 : decide ((k : Int) < x.w) = false := decide_eq_false (by omega)
                obtain rfl : k = x.w.toNat := by omega
                have HOF := Lib.hid (show wr.ownsRow w.heap.size 42 6 _ (([] : List C6) ++ rowP Y (O.take (i + 1))).length (cellsC (([] : List C6) ++ rowP Y (O.take (i + 1)))) from by
                  rw [HR1.out, ← List.append_assoc]
                  exact HO8.out)
                have HKF := Lib.hid (And.intro (HKB7.out.1.trans hkt) (HKB7.out.2.trans hbk))
                clear hown hkt hbk hcx x0
                go_wp2_with fail
                exact ⟨⟨i + 1, _, by omega, by go_num, rfl, HOF.out, HKF.out.1, HKF.out.2⟩, by simp [RowKit.intOf]; omega⟩
          · obtain rfl : i = n := by omega
            have j1 : decide ((i : Int) < (i : Int)) = false := decide_eq_false (by omega)
            have HTK := Lib.hid (show O.take i = O from List.take_of_length_le (by rw [HOL.out]; exact Nat.le_refl _))
            clear hk hb ebox hio
            rw [HTK.out] at hown
            have HOE := Lib.hid hown
            have hlen := HLE.out i
            rw [HTK.out] at hlen
            have hol := HOL.out
            clear hown
            go_wp2_with fail
            go_ret
            exact ⟨_, rfl, HOE.out, hbw⟩
  · have d1 : (dots == (1 : Int)) = false := beq_eq_false_iff_ne.2 hd
    rw [if_neg (fun h => hd h.1), if_neg (fun h => hd h.1), List.nil_append, List.append_nil]
    clear hd
    go_enter Tryd.func24, Tryd.ntmps24
    have HB1 := Lib.hid HU.out.1
    have HX1 := Lib.hid HU.out.2.1
    have HW1 := Lib.hid (World.ownsRow_nil (w.alloc (.cells #[.slice A n c, .slice B n d] 58)) w.heap.size 42 6)
    clear hq0 hq1
    have z1 := cell_of_row _ w.heap.size 1 _ _ _ HX1.out
    go_wp2_with fail
    refine (HORD.out _ HB1.out).mono ?_
    rintro e w2 ⟨A2, c2, rfl, ho2, hb2⟩
    have HB2 := Lib.hid (HB1.out.trans (hb2.mono HB1.out.size))
    have HBW := Lib.hid HB2.out
    have HOW := Lib.hid (Cl.ownsRow_below HW1.out hb2)
    have HM := Lib.hid (fun V (hk : KeepsT 42 w2 V) (hb : Below w.heap.size w2 V) => (show V.heap[w.heap.size]? = some (.cells #[.slice A n c, .slice B n d] 58 (0, 0)) ∧ IntsAt V A2 (Sq.ns O) ∧ Below w.heap.size w V from by
      have h1 := (KeepsT.below (e := 42) hb2).trans hk
      have h2 := hk.own (by decide) ho2
      obtain ⟨A3, c3, e3, hi⟩ := intsAt_icl (n := n) h2 (by rw [Sq.ns_len]; exact HOL.out)
      injection e3 with e31 _ _
      subst e31
      exact ⟨h1.2 _ _ _ _ HX1.out (by decide), hi, HB2.out.trans hb⟩))
    clear ho2 hb2 HORD z1
    go_wp2_with fail
    go_loopw [7, 9] (fun s7 s9 wx => ∃ (i : Nat) (v : Value), i ≤ n ∧ s9 = .int .i64 i ∧ s7 = v ∧ wx.ownsRow w.heap.size 42 6 v (([] : List C6) ++ rowP Y (O.take i)).length (cellsC (([] : List C6) ++ rowP Y (O.take i))) ∧ KeepsT 42 w2 wx ∧ Below w.heap.size w2 wx) (fun _ s9 _ => n - (RowKit.intOf s9).toNat)
    case atStart => exact ⟨0, _, Nat.zero_le _, rfl, rfl, by simpa [rowP, cellsC] using HOW.out, KeepsT.refl _ _, Below.refl _ _⟩
    case round =>
      obtain ⟨i, v, hi, rfl, rfl, hown, hk, hb⟩ := hrel
      have HO := Lib.hid hown
      have HKB := Lib.hid (And.intro hk hb)
      obtain ⟨ebox, hio, hbw⟩ := HM.out _ hk hb
      have HWR := Lib.hid hbw
      by_cases hlt : i < n
      · have hiO : i < O.length := by rw [HOL.out]; exact hlt
        have hjY : O[i] < Y.length := HOM.out _ (List.getElem_mem hiO)
        have HR1 := Lib.hid (HROW.out i hiO)
        obtain ⟨j, hj⟩ : ∃ j, O[i] = j := ⟨_, rfl⟩
        have hion : i < (Sq.ns O).length := by rw [Sq.ns_len]; exact hiO
        obtain ⟨g2, o2, rfl, r0⟩ := hio.at_ hion
        rw [show (Sq.ns O)[i] = ((j : Nat) : Int) from by simp [Sq.ns, hj]] at r0
        rw [hj] at hjY HR1
        have hjn : j < n := by rw [← HL.out]; exact hjY
        obtain ⟨g, o, rfl, hg, c0, c1, c2, c3, c4, c5⟩ := (HC.out.below hbw).at_ (k := j) (by rw [List.length_map]; exact hjY)
        obtain ⟨g4, o4, rfl, l0⟩ := (HI.out.below hbw).at_ (k := j) (by rw [List.length_map]; exact hjY)
        rw [List.getElem_map] at c0 c1 c2 c3 c4 c5 l0
        have hgd : Y.getD j sn0 = Y[j] := by rw [List.getD_eq_getElem?_getD, List.getElem?_eq_getElem hjY]; rfl
        rw [hgd] at HR1
        have hy2 := HW.out _ (List.getElem_mem hjY)
        generalize Y[j] = y at *
        obtain ⟨x, lv⟩ := y
        simp only at c0 c1 c2 c3 c4 c5 l0 hy2
        have q0 := cell_of_row _ w.heap.size 0 _ _ _ ebox
        have q1 := cell_of_row _ w.heap.size 1 _ _ _ ebox
        have i0 : (0 : Int) ≤ (i : Int) := by omega
        have i1 : (i : Int) < (n : Int) := by omega
        have j0 : (0 : Int) ≤ (j : Int) := by omega
        have j1 : (j : Int) < (n : Int) := by omega
        have hza := (Below.refl wr.heap.size wr).alloc (Nat.le_refl _) (.cells #[.int .i64 0, .int .i64 0, .int .i64 0, .int .i64 0, .int .i64 0, .int .i64 0] 40)
        have zr0 : ((wr.alloc (.cells #[.int .i64 0, .int .i64 0, .int .i64 0, .int .i64 0, .int .i64 0, .int .i64 0] 40)).drew).cell? _ = _ := (hza.cell (block_lt_of_cell r0)).trans r0
        have zl0 : ((wr.alloc (.cells #[.int .i64 0, .int .i64 0, .int .i64 0, .int .i64 0, .int .i64 0, .int .i64 0] 40)).drew).cell? _ = _ := (hza.cell (block_lt_of_cell l0)).trans l0
        have zq0 : ((wr.alloc (.cells #[.int .i64 0, .int .i64 0, .int .i64 0, .int .i64 0, .int .i64 0, .int .i64 0] 40)).drew).cell? _ = _ := (hza.cell (block_lt_of_cell q0)).trans q0
        have zq1 : ((wr.alloc (.cells #[.int .i64 0, .int .i64 0, .int .i64 0, .int .i64 0, .int .i64 0, .int .i64 0] 40)).drew).cell? _ = _ := (hza.cell (block_lt_of_cell q1)).trans q1
        have zc0 : ((wr.alloc (.cells #[.int .i64 0, .int .i64 0, .int .i64 0, .int .i64 0, .int .i64 0, .int .i64 0] 40)).drew).cell? _ = _ := (hza.cell hg).trans c0
        have zc1 : ((wr.alloc (.cells #[.int .i64 0, .int .i64 0, .int .i64 0, .int .i64 0, .int .i64 0, .int .i64 0] 40)).drew).cell? _ = _ := (hza.cell hg).trans c1
        have zc2 : ((wr.alloc (.cells #[.int .i64 0, .int .i64 0, .int .i64 0, .int .i64 0, .int .i64 0, .int .i64 0] 40)).drew).cell? _ = _ := (hza.cell hg).trans c2
        have zc3 : ((wr.alloc (.cells #[.int .i64 0, .int .i64 0, .int .i64 0, .int .i64 0, .int .i64 0, .int .i64 0] 40)).drew).cell? _ = _ := (hza.cell hg).trans c3
        have zc4 : ((wr.alloc (.cells #[.int .i64 0, .int .i64 0, .int .i64 0, .int .i64 0, .int .i64 0, .int .i64 0] 40)).drew).cell? _ = _ := (hza.cell hg).trans c4
        have zc5 : ((wr.alloc (.cells #[.int .i64 0, .int .i64 0, .int .i64 0, .int .i64 0, .int .i64 0, .int .i64 0] 40)).drew).cell? _ = _ := (hza.cell hg).trans c5
        clear hown hk hb hiO hjY hgd hion hj hza
        have HVB := Lib.hid (show Below wr.heap.size wr ((wr.alloc (.cells #[.int .i64 x.a, .int .i64 x.z, .int .i64 x.f, .int .i64 x.t, .int .i64 x.w, .int .i64 x.c] 40)).drew) from below_drew ((Below.refl wr.heap.size wr).alloc (Nat.le_refl _) (.cells #[.int .i64 x.a, .int .i64 x.z, .int .i64 x.f, .int .i64 x.t, .int .i64 x.w, .int .i64 x.c] 40)))
        have HVE := Lib.hid (show ((wr.alloc (.cells #[.int .i64 x.a, .int .i64 x.z, .int .i64 x.f, .int .i64 x.t, .int .i64 x.w, .int .i64 x.c] 40)).drew).heap[wr.heap.size]? = some (.cells #[.int .i64 x.a, .int .i64 x.z, .int .i64 x.f, .int .i64 x.t, .int .i64 x.w, .int .i64 x.c] 40 (0, 0)) from heap_alloc_new wr _)
        have HVS := Lib.hid (show wr.heap.size < ((wr.alloc (.cells #[.int .i64 x.a, .int .i64 x.z, .int .i64 x.f, .int .i64 x.t, .int .i64 x.w, .int .i64 x.c] 40)).drew).heap.size from by show _ < (wr.alloc (.cells #[.int .i64 x.a, .int .i64 x.z, .int .i64 x.f, .int .i64 x.t, .int .i64 x.w, .int .i64 x.c] 40)).heap.size; rw [World.size_alloc]; omega)
        have HOLD := Lib.hid (fun V (h : Below wr.heap.size wr V) => (⟨(h.cell (block_lt_of_cell q1)).trans q1, (h.cell (block_lt_of_cell r0)).trans r0, (h.cell (block_lt_of_cell l0)).trans l0⟩ : V.cell? ⟨w.heap.size, 1, none⟩ = some (.slice (some ⟨g4, o4, none⟩) n d) ∧ V.cell? ⟨g2, o2 + i, none⟩ = some (.int .i64 j) ∧ V.cell? ⟨g4, o4 + j, none⟩ = some (.int .i64 lv)))
        go_wp2_with fail
        go_region
        generalize (wr.alloc (.cells #[.int .i64 x.a, .int .i64 x.z, .int .i64 x.f, .int .i64 x.t, .int .i64 x.w, .int .i64 x.c] 40)).drew = V1 at *
        clear q0 q1 r0 l0 c0 c1 c2 c3 c4 c5 zr0 zl0 zq0 zq1 zc0 zc1 zc2 zc3 zc4 zc5 ebox hio hbw
        have HC9 := Lib.hid (fun V (h : Below V1.heap.size V1 V) => (⟨cell_of_row V wr.heap.size 5 _ _ _ ((h.block _ HVS.out).trans HVE.out), (HOLD.out V (HVB.out.trans (h.mono HVB.out.size))).1, (HOLD.out V (HVB.out.trans (h.mono HVB.out.size))).2.1, (HOLD.out V (HVB.out.trans (h.mono HVB.out.size))).2.2, h⟩ : V.cell? ⟨wr.heap.size, 5, none⟩ = some (.int .i64 x.c) ∧ V.cell? ⟨w.heap.size, 1, none⟩ = some (.slice (some ⟨g4, o4, none⟩) n d) ∧ V.cell? ⟨g2, o2 + i, none⟩ = some (.int .i64 j) ∧ V.cell? ⟨g4, o4 + j, none⟩ = some (.int .i64 lv) ∧ Below V1.heap.size V1 V))
        go_wp2_with fail
        go_region_held3 (fun V => V.cell? ⟨wr.heap.size, 5, none⟩ = some (.int .i64 x.c) ∧ V.cell? ⟨w.heap.size, 1, none⟩ = some (.slice (some ⟨g4, o4, none⟩) n d) ∧ V.cell? ⟨g2, o2 + i, none⟩ = some (.int .i64 j) ∧ V.cell? ⟨g4, o4 + j, none⟩ = some (.int .i64 lv) ∧ Below V1.heap.size V1 V) (first | exact HC9.out _ (Below.refl _ _) | exact HC9.out _ (below_drew (Below.refl _ _)) | exact HC9.out _ (by assumption))
          (first | (go_at_call 40; ((with_reducible refine (HSH.out _ _ _).mono ?_); rintro e w7 ⟨rfl, hb7⟩; have hbx := step_below19 (wr := V1) (by first | assumption | exact below_drew (Below.refl _ _)) hb7; clear hb7)))
        rename_i hh8
        have HB8 := Lib.hid hh8.2.2.2.2
        have HO7 := Lib.hid (Cl.ownsRow_below (Cl.ownsRow_below HO.out HVB.out) hh8.2.2.2.2)
        have HKB7 := Lib.hid (And.intro ((HKB.out.1.trans (KeepsT.below HVB.out)).trans (KeepsT.below hh8.2.2.2.2)) ((HKB.out.2.trans (HVB.out.mono HWR.out.size)).trans (hh8.2.2.2.2.mono (Nat.le_trans HWR.out.size HVB.out.size))))
        have HC7 := Lib.hid ((hh8.2.2.2.2.block _ HVS.out).trans HVE.out)
        have hlen := HLE.out i
        rw [List.length_take] at hlen
        clear hh8 HOLD HC9 HVB HVE HVS HB8
        generalize wr.heap.size = bc at *
        go_wp2_with fail
        go_loopw [7, 12] (fun s7 s12 wx => ∃ (k : Nat) (v : Value), k ≤ x.w.toNat ∧ s12 = .int .i64 k ∧ s7 = v ∧ wx.ownsRow w.heap.size 42 6 v (([] : List C6) ++ rowP Y (O.take i) ++ blkK (x, lv) k).length (cellsC (([] : List C6) ++ rowP Y (O.take i) ++ blkK (x, lv) k)) ∧ KeepsT 42 w7 wx ∧ Below w.heap.size w7 wx) (fun _ s12 _ => x.w.toNat - (RowKit.intOf s12).toNat)
        case atStart => exact ⟨0, _, Nat.zero_le _, rfl, rfl, by simpa [blkK] using HO7.out, KeepsT.refl _ _, Below.refl _ _⟩
        case round =>
          obtain ⟨k, v, hk, rfl, rfl, hown, hkt, hbk⟩ := hrel
          have HO8 := Lib.hid hown
          have HK8 := Lib.hid (And.intro hkt hbk)
          have hcx := hkt.2 _ _ _ _ HC7.out (by decide)
          have x0 := cell_of_row _ bc 0 _ _ _ hcx
          have x4 := cell_of_row _ bc 4 _ _ _ hcx
          have hl8 : (([] : List C6) ++ rowP Y (O.take i) ++ blkK (x, lv) k).length ≤ 1000000 := by
            simp only [List.length_append, List.length_nil, blk_len]
            omega
          by_cases hkw : k < x.w.toNat
          · have t1 : decide ((k : Int) < x.w) = true := decide_eq_true (by omega)
            have HBK := Lib.hid (show ([] : List C6) ++ rowP Y (O.take i) ++ blkK (x, lv) (k + 1) = (([] : List C6) ++ rowP Y (O.take i) ++ blkK (x, lv) k) ++ [txtS x.a k (shownP x.c lv)] from by
              rw [show blkK (x, lv) (k + 1) = blkK (x, lv) k ++ [txtS x.a k (shownP x.c lv)] from rfl]
              simp only [List.append_assoc])
            generalize shownP x.c lv = sh at *
            obtain ⟨Z, hZ⟩ : ∃ Z, ([] : List C6) ++ rowP Y (O.take i) ++ blkK (x, lv) k = Z := ⟨_, rfl⟩
            rw [hZ] at hl8 HBK
            have HOZ := Lib.hid (show wr.ownsRow w.heap.size 42 6 _ Z.length (cellsC Z) from by rw [← hZ]; exact HO8.out)
            have hwr := hbk.size
            have hw7 := HKB7.out.2.size
            have hw2 := HBW.out.size
            clear hown hkt hbk hcx hZ HO8
            go_wp2_with (at_builtin; refine wpList_addC 27 42 Tryd.underlying27 infoSl rfl _ _ rfl w.heap.size _ _ _ rfl (Cl.ownsRow_below HOZ.out (Cl.below_made _ _)) (some ⟨wr.heap.size, 0, none⟩) 1 1 [txtS x.a k sh] rfl (made_c (txtS x.a k sh) _ wr) rfl (by omega) (by rw [World.size_alloc]; omega) ?_)
            intro v' w8 hown2 hb2 hk2
            have HB9 := Lib.hid ((HK8.out.2.trans ((Cl.below_made wr (.cells #[.int .i64 4, .int .i64 0, .int .i64 0, .int .i64 x.a, .int .i64 k, .int .i64 sh] 42)).mono (by omega))).trans hb2)
            have HK9 := Lib.hid ((HK8.out.1.trans (KeepsT.below (Cl.below_made wr (.cells #[.int .i64 4, .int .i64 0, .int .i64 0, .int .i64 x.a, .int .i64 k, .int .i64 sh] 42)))).trans hk2)
            have HO9 := Lib.hid (show w8.ownsRow w.heap.size 42 6 v' (([] : List C6) ++ rowP Y (O.take i) ++ blkK (x, lv) (k + 1)).length (cellsC (([] : List C6) ++ rowP Y (O.take i) ++ blkK (x, lv) (k + 1))) from by rw [HBK.out, List.length_append]; exact hown2)
            clear hown2 hb2 hk2 x0 x4
            go_wp2_with fail
            exact ⟨⟨k + 1, v', by omega, by go_num, rfl, HO9.out, HK9.out, HB9.out⟩, by simp [RowKit.intOf]; omega⟩
          · have t1 : decide ((k : Int) < x.w) = false := decide_eq_false (by omega)
            obtain rfl : k = x.w.toNat := by omega
            have HOF := Lib.hid (show wr.ownsRow w.heap.size 42 6 _ (([] : List C6) ++ rowP Y (O.take (i + 1))).length (cellsC (([] : List C6) ++ rowP Y (O.take (i + 1)))) from by
              rw [HR1.out, ← List.append_assoc]
              exact HO8.out)
            have HKF := Lib.hid (And.intro (HKB7.out.1.trans hkt) (HKB7.out.2.trans hbk))
            clear hown hkt hbk hcx x0
            go_wp2_with fail
            exact ⟨⟨i + 1, _, by omega, by go_num, rfl, HOF.out, HKF.out.1, HKF.out.2⟩, by simp [RowKit.intOf]; omega⟩
      · obtain rfl : i = n := by omega
        have j1 : decide ((i : Int) < (i : Int)) = false := decide_eq_false (by omega)
        have HTK := Lib.hid (show O.take i = O from List.take_of_length_le (by rw [HOL.out]; exact Nat.le_refl _))
        clear hk hb ebox hio
        rw [HTK.out] at hown
        have HOE := Lib.hid hown
        have hlen := HLE.out i
        rw [HTK.out] at hlen
        have hol := HOL.out
        clear hown
        go_wp2_with fail
        go_ret
        exact ⟨_, rfl, HOE.out, hbw⟩
end Go.Proofs.YtlocnjenkanmpaaDoor.Pl
