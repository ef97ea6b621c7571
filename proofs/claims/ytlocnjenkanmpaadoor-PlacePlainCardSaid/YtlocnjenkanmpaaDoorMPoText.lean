/-
  Proved here: what (place.laid).text returns, for every line that may be of at most 100000 runes, of a paragraph of the level 0 or 1: the line's slots, as many as they are. It leaves what was in memory.
-/
import Derived.Test.YtlocnjenkanmpaaDoorMPoSeen
import Derived.Test.YtlocnjenkanmpaaDoorM27
import Derived.Test.YtlocnjenkanmpaaDoorM5
set_option linter.unusedVariables false
namespace Go.Proofs.YtlocnjenkanmpaaDoor.Pl
open Go Go.RowKit Go.Lib Go.Proofs.YtlocnjenkanmpaaDoor.Ku Go.Proofs.YtlocnjenkanmpaaDoor.Wr Go.Proofs.YtlocnjenkanmpaaDoor.Bi Go.Proofs.YtlocnjenkanmpaaDoor.Bo Go.Proofs.YtlocnjenkanmpaaDoor.Arr Go.Proofs.YtlocnjenkanmpaaDoor.Cl
theorem own_news {w : World} {B m k g : Nat} {e : TypeId} {bl : List C6} (h : w.ownsRow B e 6 (.slice (some ⟨g, 0, none⟩) m k) m (cellsC bl)) (hl : bl.length = m) : ∀ j u, (cellsC bl)[j]? = some u → w.cell? ((⟨g, 0, none⟩ : Addr).add j) = some u := by
  obtain ⟨A, c, e1, hcu⟩ := cuAt_own (hl ▸ h)
  injection e1 with e1 _ _
  subst e1
  exact cu_news hcu
set_option maxHeartbeats 8000000 in
set_option maxRecDepth 100000 in
theorem text_any (A B G : Option Addr) (l : List R3) (lv : List Int) (C : List C6) (Y : List Sn) (N c d q e : Nat) (f s t : Nat) (xh xd para : Int) (w : World) (hA : RuAt w A l) (hB : IntsAt w B lv) (hG : CuAt w G C)
    (hl : l.length = N) (hlv : lv.length = N) (hC : C.length = q) (hF : Ftc 0 C N) (hN : N ≤ 100000) (hcn : N ≤ c) (hdn : N ≤ d) (hqe : q ≤ e) (h1 : f ≤ s) (h2 : s ≤ t) (h3 : t ≤ q) (hY : seenP l lv C ⟨f, t, s, xh, xd⟩ para = Y) (hW : ∀ y ∈ Y, 0 < y.1.w ∧ y.1.w ≤ 2) (hYn : Y.length ≤ 100000) (hp : para = 0 ∨ para = 1) :
    Calls Tryd.prog 21 #[laidV ⟨f, t, s, xh, xd⟩ G q e para, .slice A N c, .slice B N d] w fun r w' => ∃ v, r = .returned v ∧ w'.ownsRow w.heap.size 42 6 v (textP Y xd para).length (cellsC (textP Y xd para)) ∧ Below w.heap.size w w' := by
  have HSEEN := Lib.hid (fun V (h : Below w.heap.size w V) => (show Calls Tryd.prog 33 _ V _ from seen_any A B G l lv C N c d q e f s t xh xd para V (hA.below h) (hB.below h) (hG.below h) hl hlv hC hF hN hcn hdn hqe h1 h2 h3))
  rw [hY] at HSEEN
  obtain ⟨s0, hs, hs0, hs1, hs2⟩ := Cl.info_parts infoSlot
  obtain ⟨n, hl2⟩ : ∃ n, Y.length = n := ⟨_, rfl⟩
  have HL := Lib.hid hl2
  have HORD := Lib.hid (fun A9 c9 W (h : IntsAt W A9 (Y.map (·.2))) => order_any A9 (Y.map (·.2)) n c9 W h (by rw [List.length_map, hl2]) (by omega))
  have hOl : (ordP Y).length = n := by unfold ordP; rw [order_len, List.length_map, hl2]
  have hOm : ∀ j ∈ ordP Y, j < Y.length := fun j hj => by
    unfold ordP at hj
    have := (order_mem _ _).1 hj
    rwa [List.length_map] at this
  rw [show orderP (Y.map (·.2)) = ordP Y from rfl] at HORD
  have HOL := Lib.hid hOl
  have HOM := Lib.hid hOm
  have HW := Lib.hid hW
  have HW2 := Lib.hid (fun y hy => (hW y hy).2)
  have HT := Lib.hid (show textP Y xd para = (if xd = 1 ∧ para = 1 then [dotsS] else []) ++ rowP Y (ordP Y) ++ (if xd = 1 ∧ para = 0 then [dotsS] else []) from rfl)
  rw [HT.out]
  clear HT
  generalize ordP Y = O at *
  have hn : n ≤ 100000 := by omega
  have HB0 := Lib.hid ((Below.refl w.heap.size w).alloc (Nat.le_refl _) (.cells #[.int .i64 f, .int .i64 t, .int .i64 s, .int .i64 xh, .int .i64 xd, .slice G q e, .int .i64 para] 52))
  have HE0 := Lib.hid (heap_alloc_new w (.cells #[.int .i64 f, .int .i64 t, .int .i64 s, .int .i64 xh, .int .i64 xd, .slice G q e, .int .i64 para] 52))
  have HS0 := Lib.hid (show (w.alloc (.cells #[.int .i64 f, .int .i64 t, .int .i64 s, .int .i64 xh, .int .i64 xd, .slice G q e, .int .i64 para] 52)).heap.size = w.heap.size + 1 by rw [World.size_alloc])
  unfold laidV at *
  simp only at HSEEN
  clear hA hB hG hl hlv hC hF hY hW hOl hOm
  rw [hl2] at HSEEN
  by_cases hd : xd = 1
  · subst hd
    rcases hp with rfl | rfl
    · rw [if_neg (fun h => by omega), if_pos ⟨rfl, rfl⟩, List.nil_append, List.length_append, List.length_cons, List.length_nil]
      go_enter Tryd.func21, Tryd.ntmps21
      go_wp2_with fail
      refine (HSEEN.out _ HB0.out).mono ?_
      rintro r w1 ⟨v1, v2, rfl, ho1, ho2, hb1⟩
      obtain ⟨A1, c1, rfl, hcu⟩ := cuAt_own (l := Y.map (·.1)) (by rw [List.length_map, HL.out]; exact ho1)
      obtain ⟨A2, c2, rfl, hin⟩ := intsAt_icl (n := n) ho2 (by rw [List.length_map]; exact HL.out)
      have HCU := Lib.hid hcu
      have HIN := Lib.hid hin
      have hb01 := HB0.out.trans (hb1.mono HB0.out.size)
      have HB1 := Lib.hid hb01
      have HE1 := Lib.hid ((hb1.block w.heap.size (by rw [HS0.out]; omega)).trans HE0.out)
      clear ho1 ho2 hb1 hcu hin hb01 HSEEN
      rw [List.length_map, HL.out]
      go_wp2_with fail
      refine (HORD.out A2 c2 w1 HIN.out).mono ?_
      rintro r w3 ⟨A3, c3, rfl, ho3, hb3⟩
      obtain ⟨A9, c9, e9, hi9⟩ := intsAt_icl (n := n) ho3 (by rw [Sq.ns_len]; exact HOL.out)
      injection e9 with e91 _ _
      subst e91
      have HI3 := Lib.hid hi9
      have HB3 := Lib.hid (HB1.out.trans (hb3.mono HB1.out.size))
      have HE3 := Lib.hid ((hb3.block w.heap.size (Array.getElem?_eq_some_iff.1 HE1.out).1).trans HE1.out)
      have HCU3 := Lib.hid (HCU.out.below hb3)
      have HIN3 := Lib.hid (HIN.out.below hb3)
      clear ho3 hb3 hi9 HORD HCU HIN HE1 HB1 HE0 HB0 HS0
      go_wp2_with fail
      go_loopw [9, 11, 23] (fun s9 s11 s23 wx => ∃ (i : Nat) (v : Value), i ≤ n ∧ s23 = .int .i64 i ∧ s9 = v ∧ wx.ownsRow w3.heap.size 42 6 v (rowP Y (O.take i)).length (cellsC (rowP Y (O.take i))) ∧ Below w3.heap.size w3 wx) (fun _ _ s23 _ => n - (RowKit.intOf s23).toNat)
      case atStart => exact ⟨0, _, Nat.zero_le _, rfl, rfl, World.ownsRow_nil _ _ _ _, Below.refl _ _⟩
      case round =>
        obtain ⟨i, v, hi, rfl, rfl, hown, hb⟩ := hrel
        have HO := Lib.hid hown
        have HB := Lib.hid hb
        have hwr := hb.size
        by_cases hlt : i < n
        · have hiO : i < O.length := by rw [HOL.out]; exact hlt
          have hjY : O[i] < Y.length := HOM.out _ (List.getElem_mem hiO)
          have HR1 := Lib.hid (row_snoc (Y := Y) hiO)
          have hle := row_le HW2.out (O.take i)
          have htl : (O.take i).length ≤ n := by rw [List.length_take]; omega
          obtain ⟨j, hj⟩ : ∃ j, O[i] = j := ⟨_, rfl⟩
          have hion : i < (Sq.ns O).length := by rw [Sq.ns_len]; exact hiO
          obtain ⟨g2, o2, rfl, r0⟩ := (HI3.out.below hb).at_ hion
          rw [show (Sq.ns O)[i] = ((j : Nat) : Int) from by simp [Sq.ns, hj]] at r0
          rw [hj] at hjY HR1
          have hjn : j < n := by rw [← HL.out]; exact hjY
          obtain ⟨g, o, rfl, hg, c0, c1', c2', c3', c4, c5⟩ := (HCU3.out.below hb).at_ (k := j) (by rw [List.length_map]; exact hjY)
          obtain ⟨g4, o4, rfl, l0⟩ := (HIN3.out.below hb).at_ (k := j) (by rw [List.length_map]; exact hjY)
          rw [List.getElem_map] at c0 c1' c2' c3' c4 c5 l0
          have hgd : Y.getD j sn0 = Y[j] := by rw [List.getD_eq_getElem?_getD, List.getElem?_eq_getElem hjY]; rfl
          rw [hgd] at HR1
          have hy2 := HW.out _ (List.getElem_mem hjY)
          generalize Y[j] = y at *
          obtain ⟨x, lv⟩ := y
          simp only at c0 c1' c2' c3' c4 c5 l0 hy2
          have HSG := Lib.hid (fun (V : World) => (show Calls Tryd.prog 35 #[.agg #[.int .i64 x.a, .int .i64 x.z, .int .i64 x.f, .int .i64 x.t, .int .i64 x.w, .int .i64 x.c], .int .i64 lv] V fun e w' => ∃ u, e = .returned u ∧ (∃ g5 k5, u = .slice (some ⟨g5, 0, none⟩) x.w.toNat k5 ∧ w'.ownsRow V.heap.size 42 6 (.slice (some ⟨g5, 0, none⟩) x.w.toNat k5) x.w.toNat (cellsC (blkP (x, lv))) ∧ Below V.heap.size V w') from by
            refine (signs_any x lv V (by omega) hy2.2).mono ?_
            rintro e w' ⟨u, rfl, ho, hb⟩
            obtain ⟨g5, k5, rfl, -, -⟩ := ho.form (by omega)
            exact ⟨_, rfl, g5, k5, rfl, ho, hb⟩))
          have hbl : (blkP (x, lv)).length = x.w.toNat := blk_len _ _
          obtain ⟨m, hm⟩ : ∃ m, x.w.toNat = m := ⟨_, rfl⟩
          rw [hm] at HSG hbl
          have hm2 : m ≤ 2 := by omega
          have HBLK := Lib.hid hbl
          generalize blkP (x, lv) = bl at *
          generalize rowP Y (O.take i) = R at *
          have hRl : R.length ≤ 200000 := by omega
          have k0 : (0 : Int) ≤ (j : Int) := by omega
          have k1 : (j : Int) < (n : Int) := by omega
          have i0 : (0 : Int) ≤ (i : Int) := by omega
          have i1 : (i : Int) < (n : Int) := by omega
          have HWB := Lib.hid hwr
          clear hown hb hgd hion hjY hiO hle htl hwr hj
          go_wp2_with fail
          go_region_law
            (first
              | (refine step_call (P := Tryd.prog) (R := fun u V' => ∃ g5 k5, u = .slice (some ⟨g5, 0, none⟩) m k5 ∧ V'.ownsRow wr.drew.heap.size 42 6 (.slice (some ⟨g5, 0, none⟩) m k5) m (cellsC bl) ∧ Below wr.drew.heap.size wr.drew V') rfl 35 #[.tmp 31, .tmp 35] #[40, 3] (by rfl) (enters_of Tryd.func35 (by kernel_rfl) rfl) #[.agg #[.int .i64 x.a, .int .i64 x.z, .int .i64 x.f, .int .i64 x.t, .int .i64 x.w, .int .i64 x.c], .int .i64 lv] (by simp [Act.eval]) (HSG.out _) ?_
                 rintro u w5 ⟨g5, k5, rfl, ho5, hb5⟩
                 have hb6 : Below wr.heap.size wr w5 := (below_drew (Below.refl wr.heap.size wr)).trans hb5)
              | (refine step_append_own rfl (.tmp 27) (.tmp 36) 27 rfl w3.heap.size 42 s0 (.agg #[.int .i64 0, .int .i64 0, .int .i64 0, .int .i64 0, .int .i64 0, .int .i64 0]) 6 48 Tryd.underlying27 hs hs0 hs1 hs2 rfl (by decide) u9 R.length (cellsC R) (by rfl) ?c0 ⟨g5, 0, none⟩ m k5 (cellsC bl) (by rfl) ?c1 ?c2 ?c3 ?c4 ?c5 ?c6 ?_
                 case c0 => exact Cl.ownsRow_below HO.out hb6
                 case c1 => rw [cellsC_len, HBLK.out]
                 case c2 => exact own_news ho5 HBLK.out
                 case c3 => exact cellsC_one _
                 case c4 => unfold maxLen; omega
                 case c5 => omega
                 case c6 => have := hb6.size; have := HWB.out; omega
                 intro v' w6 ho6 hg6))
          all_goals
            have HO6 := Lib.hid ho6
            have HB6 := Lib.hid ((HB.out.trans (hb6.mono HWB.out)).grown hg6 (by have := hb6.size; have := HWB.out; omega) (fun q9 hq9 => (HO.out.lt q9 hq9).1))
            have HF6 := Lib.hid (show w6.ownsRow w3.heap.size 42 6 v' (rowP Y (O.take (i + 1))).length (cellsC (rowP Y (O.take (i + 1)))) from by
              rw [HR1.out, List.length_append, HBLK.out, cellsC_append]
              exact HO6.out)
            clear ho5 hb5 hb6 ho6 hg6 HO6
            go_wp2_with fail
            exact ⟨⟨i + 1, v', by omega, by go_num, rfl, HF6.out, HB6.out⟩, by simp [RowKit.intOf]; omega⟩
        · obtain rfl : i = n := by omega
          have j1 : decide ((i : Int) < (i : Int)) = false := decide_eq_false (by omega)
          rw [show O.take i = O from List.take_of_length_le (by rw [HOL.out]; exact Nat.le_refl _)] at hown
          obtain ⟨Af, cf, rfl⟩ := own_sl hown
          have HOF := Lib.hid hown
          have HBF := Lib.hid hb
          have hle := row_le HW2.out O
          rw [HOL.out] at hle
          have heq := (hb.block w.heap.size (Array.getElem?_eq_some_iff.1 HE3.out).1).trans HE3.out
          have z4 := cell_of_row wr w.heap.size 4 _ _ _ heq
          have z6 := cell_of_row wr w.heap.size 6 _ _ _ heq
          clear hown hb hwr HO HB heq
          have d1 : ((1 : Int) != (1 : Int)) = false := rfl
          have p1 : ((0 : Int) == (1 : Int)) = false := rfl
          go_wp2_with fail
          have HIN := Lib.hid (fun v n9 zs9 w9 h1 h2 h3 h4 h5 => ins_end w3.heap.size zs9 n9 v dotsS wr.heap.size w9 h1 h2 h3 h4 h5)
          refine (HIN.out _ _ (rowP Y O) _ (Cl.ownsRow_below HOF.out (Cl.below_made _ _)) rfl (heap_alloc_new wr _) (by rw [World.size_alloc]; have := HBF.out.size; omega) (by omega)).mono ?_
          rintro e9 w9 ⟨v9, rfl, ho9, hb9⟩
          have HO9 := Lib.hid ho9
          have HB9 := Lib.hid (HBF.out.trans ((Cl.below_made wr _).mono HBF.out.size |>.trans hb9))
          clear ho9 hb9
          go_wp2_with fail
          go_ret
          exact ⟨_, rfl, Cl.ownsRow_mono HO9.out HB3.out.size, HB3.out.trans (HB9.out.mono HB3.out.size)⟩
    · rw [if_pos ⟨rfl, rfl⟩, if_neg (fun h => by omega), List.append_nil, List.cons_append, List.nil_append, List.length_cons]
      go_enter Tryd.func21, Tryd.ntmps21
      go_wp2_with fail
      refine (HSEEN.out _ HB0.out).mono ?_
      rintro r w1 ⟨v1, v2, rfl, ho1, ho2, hb1⟩
      obtain ⟨A1, c1, rfl, hcu⟩ := cuAt_own (l := Y.map (·.1)) (by rw [List.length_map, HL.out]; exact ho1)
      obtain ⟨A2, c2, rfl, hin⟩ := intsAt_icl (n := n) ho2 (by rw [List.length_map]; exact HL.out)
      have HCU := Lib.hid hcu
      have HIN := Lib.hid hin
      have hb01 := HB0.out.trans (hb1.mono HB0.out.size)
      have HB1 := Lib.hid hb01
      have HE1 := Lib.hid ((hb1.block w.heap.size (by rw [HS0.out]; omega)).trans HE0.out)
      clear ho1 ho2 hb1 hcu hin hb01 HSEEN
      rw [List.length_map, HL.out]
      go_wp2_with fail
      refine (HORD.out A2 c2 w1 HIN.out).mono ?_
      rintro r w3 ⟨A3, c3, rfl, ho3, hb3⟩
      obtain ⟨A9, c9, e9, hi9⟩ := intsAt_icl (n := n) ho3 (by rw [Sq.ns_len]; exact HOL.out)
      injection e9 with e91 _ _
      subst e91
      have HI3 := Lib.hid hi9
      have HB3 := Lib.hid (HB1.out.trans (hb3.mono HB1.out.size))
      have HE3 := Lib.hid ((hb3.block w.heap.size (Array.getElem?_eq_some_iff.1 HE1.out).1).trans HE1.out)
      have HCU3 := Lib.hid (HCU.out.below hb3)
      have HIN3 := Lib.hid (HIN.out.below hb3)
      clear ho3 hb3 hi9 HORD HCU HIN HE1 HB1 HE0 HB0 HS0
      go_wp2_with fail
      go_loopw [9, 11, 23] (fun s9 s11 s23 wx => ∃ (i : Nat) (v : Value), i ≤ n ∧ s23 = .int .i64 i ∧ s9 = v ∧ wx.ownsRow w3.heap.size 42 6 v (rowP Y (O.take i)).length (cellsC (rowP Y (O.take i))) ∧ Below w3.heap.size w3 wx) (fun _ _ s23 _ => n - (RowKit.intOf s23).toNat)
      case atStart => exact ⟨0, _, Nat.zero_le _, rfl, rfl, World.ownsRow_nil _ _ _ _, Below.refl _ _⟩
      case round =>
        obtain ⟨i, v, hi, rfl, rfl, hown, hb⟩ := hrel
        have HO := Lib.hid hown
        have HB := Lib.hid hb
        have hwr := hb.size
        by_cases hlt : i < n
        · have hiO : i < O.length := by rw [HOL.out]; exact hlt
          have hjY : O[i] < Y.length := HOM.out _ (List.getElem_mem hiO)
          have HR1 := Lib.hid (row_snoc (Y := Y) hiO)
          have hle := row_le HW2.out (O.take i)
          have htl : (O.take i).length ≤ n := by rw [List.length_take]; omega
          obtain ⟨j, hj⟩ : ∃ j, O[i] = j := ⟨_, rfl⟩
          have hion : i < (Sq.ns O).length := by rw [Sq.ns_len]; exact hiO
          obtain ⟨g2, o2, rfl, r0⟩ := (HI3.out.below hb).at_ hion
          rw [show (Sq.ns O)[i] = ((j : Nat) : Int) from by simp [Sq.ns, hj]] at r0
          rw [hj] at hjY HR1
          have hjn : j < n := by rw [← HL.out]; exact hjY
          obtain ⟨g, o, rfl, hg, c0, c1', c2', c3', c4, c5⟩ := (HCU3.out.below hb).at_ (k := j) (by rw [List.length_map]; exact hjY)
          obtain ⟨g4, o4, rfl, l0⟩ := (HIN3.out.below hb).at_ (k := j) (by rw [List.length_map]; exact hjY)
          rw [List.getElem_map] at c0 c1' c2' c3' c4 c5 l0
          have hgd : Y.getD j sn0 = Y[j] := by rw [List.getD_eq_getElem?_getD, List.getElem?_eq_getElem hjY]; rfl
          rw [hgd] at HR1
          have hy2 := HW.out _ (List.getElem_mem hjY)
          generalize Y[j] = y at *
          obtain ⟨x, lv⟩ := y
          simp only at c0 c1' c2' c3' c4 c5 l0 hy2
          have HSG := Lib.hid (fun (V : World) => (show Calls Tryd.prog 35 #[.agg #[.int .i64 x.a, .int .i64 x.z, .int .i64 x.f, .int .i64 x.t, .int .i64 x.w, .int .i64 x.c], .int .i64 lv] V fun e w' => ∃ u, e = .returned u ∧ (∃ g5 k5, u = .slice (some ⟨g5, 0, none⟩) x.w.toNat k5 ∧ w'.ownsRow V.heap.size 42 6 (.slice (some ⟨g5, 0, none⟩) x.w.toNat k5) x.w.toNat (cellsC (blkP (x, lv))) ∧ Below V.heap.size V w') from by
            refine (signs_any x lv V (by omega) hy2.2).mono ?_
            rintro e w' ⟨u, rfl, ho, hb⟩
            obtain ⟨g5, k5, rfl, -, -⟩ := ho.form (by omega)
            exact ⟨_, rfl, g5, k5, rfl, ho, hb⟩))
          have hbl : (blkP (x, lv)).length = x.w.toNat := blk_len _ _
          obtain ⟨m, hm⟩ : ∃ m, x.w.toNat = m := ⟨_, rfl⟩
          rw [hm] at HSG hbl
          have hm2 : m ≤ 2 := by omega
          have HBLK := Lib.hid hbl
          generalize blkP (x, lv) = bl at *
          generalize rowP Y (O.take i) = R at *
          have hRl : R.length ≤ 200000 := by omega
          have k0 : (0 : Int) ≤ (j : Int) := by omega
          have k1 : (j : Int) < (n : Int) := by omega
          have i0 : (0 : Int) ≤ (i : Int) := by omega
          have i1 : (i : Int) < (n : Int) := by omega
          have HWB := Lib.hid hwr
          clear hown hb hgd hion hjY hiO hle htl hwr hj
          go_wp2_with fail
          go_region_law
            (first
              | (refine step_call (P := Tryd.prog) (R := fun u V' => ∃ g5 k5, u = .slice (some ⟨g5, 0, none⟩) m k5 ∧ V'.ownsRow wr.drew.heap.size 42 6 (.slice (some ⟨g5, 0, none⟩) m k5) m (cellsC bl) ∧ Below wr.drew.heap.size wr.drew V') rfl 35 #[.tmp 31, .tmp 35] #[40, 3] (by rfl) (enters_of Tryd.func35 (by kernel_rfl) rfl) #[.agg #[.int .i64 x.a, .int .i64 x.z, .int .i64 x.f, .int .i64 x.t, .int .i64 x.w, .int .i64 x.c], .int .i64 lv] (by simp [Act.eval]) (HSG.out _) ?_
                 rintro u w5 ⟨g5, k5, rfl, ho5, hb5⟩
                 have hb6 : Below wr.heap.size wr w5 := (below_drew (Below.refl wr.heap.size wr)).trans hb5)
              | (refine step_append_own rfl (.tmp 27) (.tmp 36) 27 rfl w3.heap.size 42 s0 (.agg #[.int .i64 0, .int .i64 0, .int .i64 0, .int .i64 0, .int .i64 0, .int .i64 0]) 6 48 Tryd.underlying27 hs hs0 hs1 hs2 rfl (by decide) u9 R.length (cellsC R) (by rfl) ?c0 ⟨g5, 0, none⟩ m k5 (cellsC bl) (by rfl) ?c1 ?c2 ?c3 ?c4 ?c5 ?c6 ?_
                 case c0 => exact Cl.ownsRow_below HO.out hb6
                 case c1 => rw [cellsC_len, HBLK.out]
                 case c2 => exact own_news ho5 HBLK.out
                 case c3 => exact cellsC_one _
                 case c4 => unfold maxLen; omega
                 case c5 => omega
                 case c6 => have := hb6.size; have := HWB.out; omega
                 intro v' w6 ho6 hg6))
          all_goals
            have HO6 := Lib.hid ho6
            have HB6 := Lib.hid ((HB.out.trans (hb6.mono HWB.out)).grown hg6 (by have := hb6.size; have := HWB.out; omega) (fun q9 hq9 => (HO.out.lt q9 hq9).1))
            have HF6 := Lib.hid (show w6.ownsRow w3.heap.size 42 6 v' (rowP Y (O.take (i + 1))).length (cellsC (rowP Y (O.take (i + 1)))) from by
              rw [HR1.out, List.length_append, HBLK.out, cellsC_append]
              exact HO6.out)
            clear ho5 hb5 hb6 ho6 hg6 HO6
            go_wp2_with fail
            exact ⟨⟨i + 1, v', by omega, by go_num, rfl, HF6.out, HB6.out⟩, by simp [RowKit.intOf]; omega⟩
        · obtain rfl : i = n := by omega
          have j1 : decide ((i : Int) < (i : Int)) = false := decide_eq_false (by omega)
          rw [show O.take i = O from List.take_of_length_le (by rw [HOL.out]; exact Nat.le_refl _)] at hown
          obtain ⟨Af, cf, rfl⟩ := own_sl hown
          have HOF := Lib.hid hown
          have HBF := Lib.hid hb
          have hle := row_le HW2.out O
          rw [HOL.out] at hle
          have heq := (hb.block w.heap.size (Array.getElem?_eq_some_iff.1 HE3.out).1).trans HE3.out
          have z4 := cell_of_row wr w.heap.size 4 _ _ _ heq
          have z6 := cell_of_row wr w.heap.size 6 _ _ _ heq
          clear hown hb hwr HO HB heq
          have d1 : ((1 : Int) != (1 : Int)) = false := rfl
          have p1 : ((1 : Int) == (1 : Int)) = true := rfl
          go_wp2_with fail
          have HIN := Lib.hid (fun v n9 zs9 w9 h1 h2 h3 h4 h5 h6 => ins_front w3.heap.size zs9 n9 v dotsS wr.heap.size w9 h1 h2 h3 h4 h5 h6)
          refine (HIN.out _ _ (rowP Y O) _ (Cl.ownsRow_below HOF.out (Cl.below_made _ _)) rfl (heap_alloc_new wr _) (fun k9 hk9 => by have := (HOF.out.lt k9 hk9).2; omega) (by rw [World.size_alloc]; have := HBF.out.size; omega) (by omega)).mono ?_
          rintro e9 w9 ⟨v9, rfl, ho9, hb9⟩
          have HO9 := Lib.hid ho9
          have HB9 := Lib.hid (HBF.out.trans ((Cl.below_made wr _).mono HBF.out.size |>.trans hb9))
          clear ho9 hb9
          go_wp2_with fail
          go_ret
          exact ⟨_, rfl, Cl.ownsRow_mono HO9.out HB3.out.size, HB3.out.trans (HB9.out.mono HB3.out.size)⟩
  · rw [if_neg (fun h => hd h.1), if_neg (fun h => hd h.1), List.nil_append, List.append_nil]
    go_enter Tryd.func21, Tryd.ntmps21
    go_wp2_with fail
    refine (HSEEN.out _ HB0.out).mono ?_
    rintro r w1 ⟨v1, v2, rfl, ho1, ho2, hb1⟩
    obtain ⟨A1, c1, rfl, hcu⟩ := cuAt_own (l := Y.map (·.1)) (by rw [List.length_map, HL.out]; exact ho1)
    obtain ⟨A2, c2, rfl, hin⟩ := intsAt_icl (n := n) ho2 (by rw [List.length_map]; exact HL.out)
    have HCU := Lib.hid hcu
    have HIN := Lib.hid hin
    have hb01 := HB0.out.trans (hb1.mono HB0.out.size)
    have HB1 := Lib.hid hb01
    have HE1 := Lib.hid ((hb1.block w.heap.size (by rw [HS0.out]; omega)).trans HE0.out)
    clear ho1 ho2 hb1 hcu hin hb01 HSEEN
    rw [List.length_map, HL.out]
    go_wp2_with fail
    refine (HORD.out A2 c2 w1 HIN.out).mono ?_
    rintro r w3 ⟨A3, c3, rfl, ho3, hb3⟩
    obtain ⟨A9, c9, e9, hi9⟩ := intsAt_icl (n := n) ho3 (by rw [Sq.ns_len]; exact HOL.out)
    injection e9 with e91 _ _
    subst e91
    have HI3 := Lib.hid hi9
    have HB3 := Lib.hid (HB1.out.trans (hb3.mono HB1.out.size))
    have HE3 := Lib.hid ((hb3.block w.heap.size (Array.getElem?_eq_some_iff.1 HE1.out).1).trans HE1.out)
    have HCU3 := Lib.hid (HCU.out.below hb3)
    have HIN3 := Lib.hid (HIN.out.below hb3)
    clear ho3 hb3 hi9 HORD HCU HIN HE1 HB1 HE0 HB0 HS0
    go_wp2_with fail
    go_loopw [9, 11, 23] (fun s9 s11 s23 wx => ∃ (i : Nat) (v : Value), i ≤ n ∧ s23 = .int .i64 i ∧ s9 = v ∧ wx.ownsRow w3.heap.size 42 6 v (rowP Y (O.take i)).length (cellsC (rowP Y (O.take i))) ∧ Below w3.heap.size w3 wx) (fun _ _ s23 _ => n - (RowKit.intOf s23).toNat)
    case atStart => exact ⟨0, _, Nat.zero_le _, rfl, rfl, World.ownsRow_nil _ _ _ _, Below.refl _ _⟩
    case round =>
      obtain ⟨i, v, hi, rfl, rfl, hown, hb⟩ := hrel
      have HO := Lib.hid hown
      have HB := Lib.hid hb
      have hwr := hb.size
      by_cases hlt : i < n
      · have hiO : i < O.length := by rw [HOL.out]; exact hlt
        have hjY : O[i] < Y.length := HOM.out _ (List.getElem_mem hiO)
        have HR1 := Lib.hid (row_snoc (Y := Y) hiO)
        have hle := row_le HW2.out (O.take i)
        have htl : (O.take i).length ≤ n := by rw [List.length_take]; omega
        obtain ⟨j, hj⟩ : ∃ j, O[i] = j := ⟨_, rfl⟩
        have hion : i < (Sq.ns O).length := by rw [Sq.ns_len]; exact hiO
        obtain ⟨g2, o2, rfl, r0⟩ := (HI3.out.below hb).at_ hion
        rw [show (Sq.ns O)[i] = ((j : Nat) : Int) from by simp [Sq.ns, hj]] at r0
        rw [hj] at hjY HR1
        have hjn : j < n := by rw [← HL.out]; exact hjY
        obtain ⟨g, o, rfl, hg, c0, c1', c2', c3', c4, c5⟩ := (HCU3.out.below hb).at_ (k := j) (by rw [List.length_map]; exact hjY)
        obtain ⟨g4, o4, rfl, l0⟩ := (HIN3.out.below hb).at_ (k := j) (by rw [List.length_map]; exact hjY)
        rw [List.getElem_map] at c0 c1' c2' c3' c4 c5 l0
        have hgd : Y.getD j sn0 = Y[j] := by rw [List.getD_eq_getElem?_getD, List.getElem?_eq_getElem hjY]; rfl
        rw [hgd] at HR1
        have hy2 := HW.out _ (List.getElem_mem hjY)
        generalize Y[j] = y at *
        obtain ⟨x, lv⟩ := y
        simp only at c0 c1' c2' c3' c4 c5 l0 hy2
        have HSG := Lib.hid (fun (V : World) => (show Calls Tryd.prog 35 #[.agg #[.int .i64 x.a, .int .i64 x.z, .int .i64 x.f, .int .i64 x.t, .int .i64 x.w, .int .i64 x.c], .int .i64 lv] V fun e w' => ∃ u, e = .returned u ∧ (∃ g5 k5, u = .slice (some ⟨g5, 0, none⟩) x.w.toNat k5 ∧ w'.ownsRow V.heap.size 42 6 (.slice (some ⟨g5, 0, none⟩) x.w.toNat k5) x.w.toNat (cellsC (blkP (x, lv))) ∧ Below V.heap.size V w') from by
          refine (signs_any x lv V (by omega) hy2.2).mono ?_
          rintro e w' ⟨u, rfl, ho, hb⟩
          obtain ⟨g5, k5, rfl, -, -⟩ := ho.form (by omega)
          exact ⟨_, rfl, g5, k5, rfl, ho, hb⟩))
        have hbl : (blkP (x, lv)).length = x.w.toNat := blk_len _ _
        obtain ⟨m, hm⟩ : ∃ m, x.w.toNat = m := ⟨_, rfl⟩
        rw [hm] at HSG hbl
        have hm2 : m ≤ 2 := by omega
        have HBLK := Lib.hid hbl
        generalize blkP (x, lv) = bl at *
        generalize rowP Y (O.take i) = R at *
        have hRl : R.length ≤ 200000 := by omega
        have k0 : (0 : Int) ≤ (j : Int) := by omega
        have k1 : (j : Int) < (n : Int) := by omega
        have i0 : (0 : Int) ≤ (i : Int) := by omega
        have i1 : (i : Int) < (n : Int) := by omega
        have HWB := Lib.hid hwr
        clear hown hb hgd hion hjY hiO hle htl hwr hj
        go_wp2_with fail
        go_region_law
          (first
            | (refine step_call (P := Tryd.prog) (R := fun u V' => ∃ g5 k5, u = .slice (some ⟨g5, 0, none⟩) m k5 ∧ V'.ownsRow wr.drew.heap.size 42 6 (.slice (some ⟨g5, 0, none⟩) m k5) m (cellsC bl) ∧ Below wr.drew.heap.size wr.drew V') rfl 35 #[.tmp 31, .tmp 35] #[40, 3] (by rfl) (enters_of Tryd.func35 (by kernel_rfl) rfl) #[.agg #[.int .i64 x.a, .int .i64 x.z, .int .i64 x.f, .int .i64 x.t, .int .i64 x.w, .int .i64 x.c], .int .i64 lv] (by simp [Act.eval]) (HSG.out _) ?_
               rintro u w5 ⟨g5, k5, rfl, ho5, hb5⟩
               have hb6 : Below wr.heap.size wr w5 := (below_drew (Below.refl wr.heap.size wr)).trans hb5)
            | (refine step_append_own rfl (.tmp 27) (.tmp 36) 27 rfl w3.heap.size 42 s0 (.agg #[.int .i64 0, .int .i64 0, .int .i64 0, .int .i64 0, .int .i64 0, .int .i64 0]) 6 48 Tryd.underlying27 hs hs0 hs1 hs2 rfl (by decide) u9 R.length (cellsC R) (by rfl) ?c0 ⟨g5, 0, none⟩ m k5 (cellsC bl) (by rfl) ?c1 ?c2 ?c3 ?c4 ?c5 ?c6 ?_
               case c0 => exact Cl.ownsRow_below HO.out hb6
               case c1 => rw [cellsC_len, HBLK.out]
               case c2 => exact own_news ho5 HBLK.out
               case c3 => exact cellsC_one _
               case c4 => unfold maxLen; omega
               case c5 => omega
               case c6 => have := hb6.size; have := HWB.out; omega
               intro v' w6 ho6 hg6))
        all_goals
          have HO6 := Lib.hid ho6
          have HB6 := Lib.hid ((HB.out.trans (hb6.mono HWB.out)).grown hg6 (by have := hb6.size; have := HWB.out; omega) (fun q9 hq9 => (HO.out.lt q9 hq9).1))
          have HF6 := Lib.hid (show w6.ownsRow w3.heap.size 42 6 v' (rowP Y (O.take (i + 1))).length (cellsC (rowP Y (O.take (i + 1)))) from by
            rw [HR1.out, List.length_append, HBLK.out, cellsC_append]
            exact HO6.out)
          clear ho5 hb5 hb6 ho6 hg6 HO6
          go_wp2_with fail
          exact ⟨⟨i + 1, v', by omega, by go_num, rfl, HF6.out, HB6.out⟩, by simp [RowKit.intOf]; omega⟩
      · obtain rfl : i = n := by omega
        have j1 : decide ((i : Int) < (i : Int)) = false := decide_eq_false (by omega)
        rw [show O.take i = O from List.take_of_length_le (by rw [HOL.out]; exact Nat.le_refl _)] at hown
        obtain ⟨Af, cf, rfl⟩ := own_sl hown
        have HOF := Lib.hid hown
        have HBF := Lib.hid hb
        have hle := row_le HW2.out O
        rw [HOL.out] at hle
        have heq := (hb.block w.heap.size (Array.getElem?_eq_some_iff.1 HE3.out).1).trans HE3.out
        have z4 := cell_of_row wr w.heap.size 4 _ _ _ heq
        have z6 := cell_of_row wr w.heap.size 6 _ _ _ heq
        clear hown hb hwr HO HB heq
        have d1 : ((xd : Int) != (1 : Int)) = true := by simpa using hd
        go_wp2_with fail
        go_ret
        exact ⟨_, rfl, Cl.ownsRow_mono HOF.out HB3.out.size, HB3.out.trans (HBF.out.mono HB3.out.size)⟩
end Go.Proofs.YtlocnjenkanmpaaDoor.Pl
