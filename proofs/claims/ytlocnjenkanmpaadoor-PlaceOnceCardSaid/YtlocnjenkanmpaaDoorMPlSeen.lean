/-
  Proved here: what parquetryref19.Seen returns, for every row of runes, of levels, their clusters, every line of these: the clusters that are seen, and their levels. It leaves what was in memory.
-/
import Derived.Deep.RegionHeld3
import Derived.Deep.RegionLaw
import Derived.Deep.AppendLies
import Derived.Test.YtlocnjenkanmpaaDoorMPlPad
import Derived.Test.YtlocnjenkanmpaaDoorM7
import Derived.Test.YtlocnjenkanmpaaDoorM2
import Derived.Test.YtlocnjenkanmpaaDoorM5
set_option linter.unusedVariables false
namespace Go.Proofs.YtlocnjenkanmpaaDoor.Pl
open Go Go.RowKit Go.Lib Go.Proofs.YtlocnjenkanmpaaDoor.Ku Go.Proofs.YtlocnjenkanmpaaDoor.Wr Go.Proofs.YtlocnjenkanmpaaDoor.Bi Go.Proofs.YtlocnjenkanmpaaDoor.Bo Go.Proofs.YtlocnjenkanmpaaDoor.Arr Go.Proofs.YtlocnjenkanmpaaDoor.Cl
set_option maxHeartbeats 8000000 in
set_option maxRecDepth 100000 in
theorem rseen_any (A B G : Option Addr) (l : List R3) (lv : List Int) (C : List C6) (n c d q e : Nat) (f s t : Nat) (xh xd para : Int) (w : World) (hA : RuAt w A l) (hB : IntsAt w B lv) (hG : CuAt w G C)
    (hl : l.length = n) (hlv : lv.length = n) (hC : C.length = q) (hF : Ftc 0 C n) (hn : n ≤ 100000) (hcn : n ≤ c) (hdn : n ≤ d) (hqe : q ≤ e) (h1 : f ≤ s) (h2 : s ≤ t) (h3 : t ≤ q) :
    Calls Tryd.prog 25 #[.slice A n c, .slice B n d, .slice G q e, lnV ⟨f, t, s, xh, xd⟩, .int .i64 para] w fun r w' => ∃ v1 v2, r = .returned (.agg #[v1, v2]) ∧ w'.ownsRow w.heap.size 40 6 v1 (seenP l lv C ⟨f, t, s, xh, xd⟩ para).length (cellsC ((seenP l lv C ⟨f, t, s, xh, xd⟩ para).map (·.1))) ∧ w'.ownsRow w.heap.size 3 1 v2 (seenP l lv C ⟨f, t, s, xh, xd⟩ para).length (icl ((seenP l lv C ⟨f, t, s, xh, xd⟩ para).map (·.2))) ∧ Below w.heap.size w w' := by
  unfold lnV
  obtain ⟨j0, hj, hj0, hj1, hj2⟩ := info_parts infoC
  obtain ⟨jI, hI, hI0, hI1, hI2⟩ := info_parts infoInt
  have HIR := Lib.hid (show (Tryd.prog.info? 58).map (·.size) = some 2 from by kernel_rfl)
  by_cases hft : f = t
  · have hY : seenP l lv C ⟨f, t, s, xh, xd⟩ para = [] := by unfold seenP; rw [if_pos (by simp only; omega)]
    rw [hY]
    subst hft
    clear hA hB hG
    go_enter Tryd.func25, Tryd.ntmps25
    go_wp2_with fail
    refine bodyPost_ret (results_cell_row Tryd.results25 _ _ (w.heap.size + 1) 58 _ (0, 0) _ rfl ((Below.heap_alloc _ _ _ (by rw [World.size_alloc, World.size_alloc]; omega)).trans (heap_alloc2_new w _ _)) Tryd.underlying58 rfl HIR.out) rfl ?_
    exact ⟨_, _, rfl, World.ownsRow_nil _ _ _ _, World.ownsRow_nil _ _ _ _, (((Below.refl w.heap.size w).alloc (Nat.le_refl _) _).alloc (by rw [World.size_alloc]; omega) _).alloc (by rw [World.size_alloc, World.size_alloc]; omega) _⟩
  · have hqf : f < C.length := by omega
    have hqt : t - 1 < C.length := by omega
    obtain ⟨fa, ta, ea1, ea2, -, ea3, ea4, -⟩ := hF.at_ hqf
    obtain ⟨fb, tb, eb1, eb2, -, eb3, eb4, -⟩ := hF.at_ hqt
    have hab : fa < tb := by
      by_cases hh : f = t - 1
      · have e1 : C[f].f = C[t - 1].f := by simp only [hh]
        have e2 : C[f].t = C[t - 1].t := by simp only [hh]
        omega
      · obtain ⟨x1, x2, x3, x4, y1, y2, y3, y4, y5, y6, y7, y8⟩ := hF.mono (i := f) (j := t - 1) (by omega) hqt
        omega
    have hbeg : begR C ⟨f, t, s, xh, xd⟩ = fa := by
      unfold begR
      simp only [Int.toNat_natCast]
      rw [getD_at hqf, ea1]
      rfl
    have hend : endR C ⟨f, t, s, xh, xd⟩ = tb := by
      unfold endR
      simp only [Int.toNat_natCast]
      rw [getD_at hqt, eb2]
      rfl
    have hY : seenP l lv C ⟨f, t, s, xh, xd⟩ para = seenK C (ownP l lv C ⟨f, t, s, xh, xd⟩ para) fa f (s - f) := by
      unfold seenP
      rw [if_neg (by simp only; omega), hbeg]
      simp only [Int.toNat_natCast]
    have hown : ownP l lv C ⟨f, t, s, xh, xd⟩ para = lineZ (clsR ((l.drop fa).take (tb - fa))) ((lv.drop fa).take (tb - fa)) para := by
      unfold ownP
      rw [hbeg, hend]
    rw [hown] at hY
    have hlp : ((l.drop fa).take (tb - fa)).length = tb - fa := by rw [List.length_take, List.length_drop]; omega
    have hlvp : ((lv.drop fa).take (tb - fa)).length = tb - fa := by rw [List.length_take, List.length_drop]; omega
    have hOL : (lineZ (clsR ((l.drop fa).take (tb - fa))) ((lv.drop fa).take (tb - fa)) para).length = tb - fa := by
      unfold lineZ
      rw [if_pos (by rw [clsR_len, hlp, hlvp]), line_len para _ _ (by rw [clsR_len, hlp, hlvp]), hlvp]
    obtain ⟨ga, oa, rfl, -⟩ := hA.at_ (k := 0) (by omega)
    obtain ⟨gb, ob, rfl, -⟩ := hB.at_ (k := 0) (by omega)
    obtain ⟨gc, oc, rfl, hgc, -⟩ := hG.at_ (k := 0) (by omega)
    have HLINE := Lib.hid (fun W (h : Below w.heap.size w W) c1 c2 => rline_any (some ⟨ga, oa + fa * 3, none⟩) (some ⟨gb, ob + fa, none⟩) ((l.drop fa).take (tb - fa)) ((lv.drop fa).take (tb - fa)) (tb - fa) (tb - fa) c1 c2 para W (ru_part (hA.below h) fa (tb - fa) (by omega)) (ints_part (hB.below h) fa (tb - fa)) hlp hlvp (by omega))
    generalize lineZ (clsR ((l.drop fa).take (tb - fa))) ((lv.drop fa).take (tb - fa)) para = OW at *
    rw [hOL] at HLINE
    have HOL := Lib.hid hOL
    rw [hY]
    have HG := Lib.hid hG
    have HCL := Lib.hid hC
    have HFT := Lib.hid (fun i (hi : i < C.length) (h1 : f ≤ i) (h2 : i < t) => (show ∃ fi : Nat, C[i].f = fi ∧ fa ≤ fi ∧ fi < tb from by
      obtain ⟨fi, ti, e1, e2, -, e3, e4, -⟩ := hF.at_ hi
      refine ⟨fi, e1, ?_, ?_⟩
      · by_cases hh : i = f
        · subst hh; omega
        · obtain ⟨x1, x2, x3, x4, y1, y2, y3, y4, y5, y6, y7, y8⟩ := hF.mono (i := f) (j := i) (by omega) hi
          omega
      · by_cases hh : i = t - 1
        · subst hh; omega
        · obtain ⟨x1, x2, x3, x4, y1, y2, y3, y4, y5, y6, y7, y8⟩ := hF.mono (i := i) (j := t - 1) (by omega) hqt
          omega))
    -- the three new blocks
    obtain ⟨W0, hW0⟩ : ∃ W0, ((w.alloc (.cells #[.int .i64 f, .int .i64 t, .int .i64 s, .int .i64 xh, .int .i64 xd] 25)).alloc (.cells #[.slice none 0 0, .slice none 0 0] 58)).alloc (.cells #[.slice none 0 0, .slice none 0 0] 58) = W0 := ⟨_, rfl⟩
    have hB0 : Below w.heap.size w W0 := by rw [← hW0]; exact (((Below.refl w.heap.size w).alloc (Nat.le_refl _) _).alloc (by rw [World.size_alloc]; omega) _).alloc (by rw [World.size_alloc, World.size_alloc]; omega) _
    have hS0 : W0.heap.size = w.heap.size + 3 := by rw [← hW0, World.size_alloc, World.size_alloc, World.size_alloc]
    have hE0 : W0.heap[w.heap.size]? = some (.cells #[.int .i64 f, .int .i64 t, .int .i64 s, .int .i64 xh, .int .i64 xd] 25 (0, 0)) := by rw [← hW0]; exact (Below.heap_alloc _ _ _ (by rw [World.size_alloc, World.size_alloc]; omega)).trans (heap_alloc2_old w _ _)
    have hE1 : W0.heap[w.heap.size + 1]? = some (.cells #[.slice none 0 0, .slice none 0 0] 58 (0, 0)) := by rw [← hW0]; exact (Below.heap_alloc _ _ _ (by rw [World.size_alloc, World.size_alloc]; omega)).trans (heap_alloc2_new w _ _)
    have hE2 : W0.heap[w.heap.size + 2]? = some (.cells #[.slice none 0 0, .slice none 0 0] 58 (0, 0)) := by
      rw [← hW0]
      have := heap_alloc_new ((w.alloc (.cells #[.int .i64 f, .int .i64 t, .int .i64 s, .int .i64 xh, .int .i64 xd] 25)).alloc (.cells #[.slice none 0 0, .slice none 0 0] 58)) ((.cells #[.slice none 0 0, .slice none 0 0] 58))
      rw [World.size_alloc, World.size_alloc] at this
      exact this
    obtain ⟨_, _, gc1, -, p0, p1, p2, p3, p4, p5⟩ := (hG.below hB0).at_ hqf
    injection gc1 with gc1
    injection gc1 with gc2 gc3
    subst gc2 gc3
    obtain ⟨_, _, gc1, -, r0, r1, r2, r3, r4, r5⟩ := (hG.below hB0).at_ hqt
    injection gc1 with gc1
    injection gc1 with gc2 gc3
    subst gc2 gc3
    rw [ea1] at p2
    rw [eb2] at r3
    obtain ⟨⟨z0, z1, z2, z3, z4⟩, -⟩ := cell5 hE0
    have k0 : (0 : Int) ≤ (f : Int) := by omega
    have k1 : (f : Int) < (q : Int) := by omega
    have hqn := hF.len
    have htn : tb ≤ n := eb4
    have k2 : IntKind.i64.wrap ((t : Int) - 1) = ((t - 1 : Nat) : Int) := by rw [IntKind.wrap_i64]; omega
    have k3 : (0 : Int) ≤ ((t - 1 : Nat) : Int) := by omega
    have k4 : ((t - 1 : Nat) : Int) < (q : Int) := by omega
    have k5 : ((f : Int) == (t : Int)) = false := beq_eq_false_iff_ne.2 (by omega)
    have m0 : (0 : Int) ≤ (fa : Int) := by omega
    have m1 : (fa : Int) ≤ (tb : Int) := by omega
    have m2 : (tb : Int) ≤ (c : Int) := by omega
    have m3 : (tb : Int) ≤ (d : Int) := by omega
    have m4 : (fa : Int) < (c : Int) := by omega
    have m5 : (fa : Int) < (d : Int) := by omega
    have m6 : fa < c := by omega
    have m7 : fa < d := by omega
    have m8 : ¬ c = fa := by omega
    have m9 : ¬ d = fa := by omega
    have m10 : ((tb : Int) - (fa : Int)) = ((tb - fa : Nat) : Int) := by omega
    have HB0 := Lib.hid hB0
    have HS0 := Lib.hid hS0
    have HE := Lib.hid (And.intro hE0 (And.intro hE1 hE2))
    clear hA hB hG hF hY hown hlp hlvp hOL hbeg hend hE0 hE1 hE2 hB0 hS0 ea1 ea2 ea3 ea4 eb1 eb2 eb3 eb4 p0 p1 p3 p4 p5 r0 r1 r2 r4 r5 hqf hqt
    go_enter Tryd.func25, Tryd.ntmps25
    go_wp2_with fail
    generalize ((w.alloc (.cells #[.int .i64 f, .int .i64 t, .int .i64 s, .int .i64 xh, .int .i64 xd] 25)).alloc (.cells #[.slice none 0 0, .slice none 0 0] 58)).alloc (.cells #[.slice none 0 0, .slice none 0 0] 58) = W1 at *
    subst hW0
    go_quiet (fail)
    go_wp2_with fail
    have HLV := Lib.hid (fun V (h : Below W1.heap.size W1 V) c1 c2 => HLINE.out V (HB0.out.trans (h.mono HB0.out.size)) c1 c2)
    go_region_held3 (fun V => Below W1.heap.size W1 V) (first | exact below_drewN (Below.refl _ _) _ | exact below_drew (below_drewN (Below.refl _ _) _) | assumption)
      (first | (go_at_call 41; ((with_reducible refine (HLV.out _ (by first | assumption | exact below_drewN (Below.refl _ _) _ | exact below_drew (below_drewN (Below.refl _ _) _)) _ _).mono ?_); rintro e w7 ⟨A7, c7, rfl, ho7, hb7⟩; have hbx := (show Below W1.heap.size W1 w7 from by first | exact (below_drewN (Below.refl _ _) _).trans hb7 | exact (below_drew (below_drewN (Below.refl _ _) _)).trans hb7))))
    rename_i hh8
    generalize hbo : w.heap.size + 1 + 1 = bo at *
    have HO7 := Lib.hid ho7
    have hs1 := hbx.size
    have hbo7 : bo < w7.heap.size := by have := HS0.out; omega
    have hE7 : w7.heap[bo]? = some (.cells #[.slice none 0 0, .slice none 0 0] 58 (0, 0)) := by
      exact (hbx.block bo (by have := HS0.out; omega)).trans HE.out.2.2
    have hL7 : w7.heap[w.heap.size]? = some (.cells #[.int .i64 f, .int .i64 t, .int .i64 s, .int .i64 xh, .int .i64 xd] 25 (0, 0)) := (hbx.block w.heap.size (by have := HS0.out; omega)).trans HE.out.1
    have hR7 : w7.heap[w.heap.size + 1]? = some (.cells #[.slice none 0 0, .slice none 0 0] 58 (0, 0)) := (hbx.block (w.heap.size + 1) (by have := HS0.out; omega)).trans HE.out.2.1
    have HB7 := Lib.hid (HB0.out.trans (hbx.mono HB0.out.size))
    obtain ⟨A8, c8, e8, hi8⟩ := intsAt_icl (n := tb - fa) ho7 HOL.out
    injection e8 with e81 _ _
    subst e81
    have HI8 := Lib.hid hi8
    have hw7 : w.heap.size ≤ w7.heap.size := HB7.out.size
    have HSTART := Lib.hid (And.intro hE7 (And.intro hL7 hR7))
    have hbow : w.heap.size ≤ bo := by omega
    have hbo1 : w.heap.size ≠ bo := by omega
    have hbo2 : w.heap.size + 1 ≠ bo := by omega
    clear z0 z1 z2 z3 z4 p2 r3
    obtain ⟨⟨z0, z1, z2, z3, z4⟩, -⟩ := cell5 hL7
    clear ho7 hb7 hbx hi8 hE7 hL7 hR7 HLV HE HLINE HS0 HB0 hh8
    go_wp2_with fail
    go_loopw [15] (fun s15 wx => ∃ (i : Nat) (v1 v2 : Value), f ≤ i ∧ i ≤ s ∧ s15 = .int .i64 i ∧ wx.heap[bo]? = some (.cells #[v1, v2] 58 (0, 0)) ∧ wx.ownsRow w7.heap.size 40 6 v1 (seenK C OW fa f (i - f)).length (cellsC ((seenK C OW fa f (i - f)).map (·.1))) ∧ wx.ownsRow w7.heap.size 3 1 v2 (seenK C OW fa f (i - f)).length (icl ((seenK C OW fa f (i - f)).map (·.2))) ∧ ButB bo w7 wx ∧ Below w.heap.size w7 wx) (fun s15 _ => s - (RowKit.intOf s15).toNat)
    case atStart => exact ⟨f, _, _, Nat.le_refl _, h1, rfl, HSTART.out.1, by rw [Nat.sub_self]; exact World.ownsRow_nil _ _ _ _, by rw [Nat.sub_self]; exact World.ownsRow_nil _ _ _ _, ButB.refl _ _, Below.refl _ _⟩
    case round =>
      obtain ⟨i, v1, v2, hfi, his, rfl, hbx, ho1, ho2, hbb, hbl⟩ := hrel
      have eL := (hbb.2 w.heap.size (by omega) hbo1).trans HSTART.out.2.1
      obtain ⟨⟨z0, z1, z2, z3, z4⟩, -⟩ := cell5 eL
      by_cases hlt : i < s
      · have hiC : i < C.length := by rw [HCL.out]; omega
        obtain ⟨fi, ef, ef1, ef2⟩ := HFT.out i hiC hfi (by omega)
        have hSK : seenK C OW fa f (i + 1 - f) = seenK C OW fa f (i - f) ++ (if 0 < C[i].w then [(C[i], OW.getD (fi - fa) 0)] else []) := by
          rw [show i + 1 - f = (i - f) + 1 from by omega]
          show _ ++ (if 0 < (C.getD (f + (i - f)) d6).w then [(C.getD (f + (i - f)) d6, OW.getD ((C.getD (f + (i - f)) d6).f.toNat - fa) 0)] else []) = _
          rw [show f + (i - f) = i from by omega, getD_at hiC, ef]
          rfl
        have HSK := Lib.hid hSK
        obtain ⟨gx, ox, ex, hgx, c0, c1, c2, c3, c4, c5⟩ := (HG.out.below (HB7.out.trans hbl)).at_ hiC
        injection ex with ex
        injection ex with ex1 ex2
        subst ex1 ex2
        rw [ef] at c2
        have hiC2 := hiC
        obtain ⟨x, hxi⟩ : ∃ x, C[i] = x := ⟨_, rfl⟩
        rw [hxi] at ef HSK c0 c1 c3 c4 c5
        have i0 : (0 : Int) ≤ (i : Int) := by omega
        have i1 : (i : Int) < (q : Int) := by omega
        by_cases hxw : 0 < x.w
        · have t1 : decide ((0 : Int) < x.w) = true := decide_eq_true hxw
          have t1' : decide (x.w > (0 : Int)) = true := decide_eq_true hxw
          rw [if_pos hxw] at HSK
          have hYk := seenK_len C OW fa f (i - f)
          generalize seenK C OW fa f (i - f) = Y at *
          have hYl : Y.length ≤ 1000000 := by omega
          have HO1 := Lib.hid ho1
          have HO2 := Lib.hid ho2
          have HBB := Lib.hid hbb
          have HBL := Lib.hid hbl
          have HBX := Lib.hid hbx
          have hgx2 := hgx
          have hwrs := hbb.1
          have hbr : bo < wr.heap.size := by omega
          have q0 := cell_of_row _ bo 0 _ _ _ hbx
          have hza := (Below.refl wr.heap.size wr).alloc (Nat.le_refl _) (.cells #[.int .i64 x.a, .int .i64 x.z, .int .i64 fi, .int .i64 x.t, .int .i64 x.w, .int .i64 x.c] 40)
          have zq0 : ((wr.alloc (.cells #[.int .i64 x.a, .int .i64 x.z, .int .i64 fi, .int .i64 x.t, .int .i64 x.w, .int .i64 x.c] 40)).drew).cell? _ = _ := (hza.cell (block_lt_of_cell q0)).trans q0
          have hx6 : x.f = (fi : Int) := ef
          clear hbx ho1 ho2 hbb hbl hza eL
          go_wp2_with fail
          go_region_law
            (   (refine step_append_own rfl (.tmp 60) (.tmp 65) 37 rfl w7.heap.size 40 j0 (.agg #[.int .i64 0, .int .i64 0, .int .i64 0, .int .i64 0, .int .i64 0, .int .i64 0]) 6 48 Tryd.underlying37 hj hj0 hj1 hj2 rfl (by decide) v1 Y.length (cellsC (Y.map (·.1))) (by rfl) ?c0 ⟨wr.heap.size, 0, none⟩ 1 1 [.int .i64 x.a, .int .i64 x.z, .int .i64 fi, .int .i64 x.t, .int .i64 x.w, .int .i64 x.c] (by rfl) rfl ?c1 ?c2 ?c3 ?c4 ?c5 ?_
                 case c0 => exact HO1.out.alloc _
                 case c1 => exact fun j u hu => (World.cell?_of_block (w := wr.alloc (.cells #[.int .i64 x.a, .int .i64 x.z, .int .i64 fi, .int .i64 x.t, .int .i64 x.w, .int .i64 x.c] 40)) rfl).trans (cu_news (l := [⟨x.a, x.z, fi, x.t, x.w, x.c⟩]) (made_c ⟨x.a, x.z, fi, x.t, x.w, x.c⟩ _ wr) j u hu)
                 case c2 => exact cellsC_one [⟨x.a, x.z, fi, x.t, x.w, x.c⟩]
                 case c3 => unfold maxLen; omega
                 case c4 => omega
                 case c5 => show _ ≤ (_ : World).heap.size; simp; omega
                 intro v' w3 ho3 hg3
                 obtain ⟨g3, k3, rfl, hge3, hgl3⟩ := ho3.form (by omega)
                 have hblk := (KeepsT.grown (w := (wr.alloc (.cells #[.int .i64 x.a, .int .i64 x.z, .int .i64 fi, .int .i64 x.t, .int .i64 x.w, .int .i64 x.c] 40)).drew) (HO1.out.alloc (.cells #[.int .i64 x.a, .int .i64 x.z, .int .i64 fi, .int .i64 x.t, .int .i64 x.w, .int .i64 x.c] 40)) hg3).2 bo _ _ _ ((Below.heap_alloc _ _ _ hbr).trans HBX.out) (by decide)
                 have b0 := cell_of_row _ bo 0 _ _ _ hblk
                 have bf := frozen_of_row _ bo 0 _ _ hblk))
          all_goals
            have hdrw : ((wr.alloc (.cells #[.int .i64 x.a, .int .i64 x.z, .int .i64 fi, .int .i64 x.t, .int .i64 x.w, .int .i64 x.c] 40)).drew).ownsRow w7.heap.size 40 6 v1 Y.length (cellsC (Y.map (·.1))) := HO1.out.alloc (.cells #[.int .i64 x.a, .int .i64 x.z, .int .i64 fi, .int .i64 x.t, .int .i64 x.w, .int .i64 x.c] 40)
            have hkt := KeepsT.grown hdrw hg3
            have HEA := Lib.hid (heap_setCell_same w3 bo 0 _ _ (.slice (some ⟨g3, 0, none⟩) (Y.length + 1) k3) hblk)
            have HO1a := Lib.hid (ownsRow_setCell_below ho3 (a := ⟨bo, 0, none⟩) hbo7 (.slice (some ⟨g3, 0, none⟩) (Y.length + 1) k3))
            have HO2a := Lib.hid (ownsRow_setCell_below (hkt.own (t := 3) (by decide) (show ((wr.alloc (.cells #[.int .i64 x.a, .int .i64 x.z, .int .i64 fi, .int .i64 x.t, .int .i64 x.w, .int .i64 x.c] 40)).drew).ownsRow w7.heap.size 3 1 v2 Y.length (icl (Y.map (·.2))) from HO2.out.alloc (.cells #[.int .i64 x.a, .int .i64 x.z, .int .i64 fi, .int .i64 x.t, .int .i64 x.w, .int .i64 x.c] 40))) (a := ⟨bo, 0, none⟩) hbo7 (.slice (some ⟨g3, 0, none⟩) (Y.length + 1) k3))
            have HBBa := Lib.hid (HBB.out.stored (i := 0) (.cells #[.int .i64 x.a, .int .i64 x.z, .int .i64 fi, .int .i64 x.t, .int .i64 x.w, .int .i64 x.c] 40) hdrw hg3 (.slice (some ⟨g3, 0, none⟩) (Y.length + 1) k3))
            have HBLa := Lib.hid (((below_drew (HBL.out.alloc (Nat.le_trans hw7 hwrs) (.cells #[.int .i64 x.a, .int .i64 x.z, .int .i64 fi, .int .i64 x.t, .int .i64 x.w, .int .i64 x.c] 40))).grown hg3 (by show w.heap.size ≤ (wr.alloc (.cells #[.int .i64 x.a, .int .i64 x.z, .int .i64 fi, .int .i64 x.t, .int .i64 x.w, .int .i64 x.c] 40)).heap.size; rw [World.size_alloc]; omega) (fun k hk => by have := (hdrw.lt k hk).1; omega)).setCell (p := ⟨bo, 0, none⟩) hbow (.slice (some ⟨g3, 0, none⟩) (Y.length + 1) k3))
            clear hkt hdrw hg3 ho3 hblk b0 bf zq0 q0 c0 c1 c2 c3 c4 c5 HO1 HO2 HBB HBL HBX
            generalize w3.setCell ⟨bo, 0, none⟩ (.slice (some ⟨g3, 0, none⟩) (Y.length + 1) k3) = Wa at *
            obtain ⟨jj, hjj⟩ : ∃ jj, fi - fa = jj := ⟨_, rfl⟩
            have hjO : jj < OW.length := by rw [HOL.out]; omega
            have hne8 := own_far HO7.out HSTART.out.1 (by decide)
            have ho8 := HBBa.out.own HO7.out hne8
            obtain ⟨A9, c9, e9, hi9⟩ := intsAt_icl (n := tb - fa) ho8 HOL.out
            injection e9 with e91 _ _
            subst e91
            obtain ⟨g8, o8, rfl, l0⟩ := hi9.at_ hjO
            have hgd : OW.getD (fi - fa) 0 = OW[jj] := by rw [hjj, List.getD_eq_getElem?_getD, List.getElem?_eq_getElem hjO]; rfl
            rw [hgd] at HSK
            obtain ⟨gx, ox, ex, hgx, c0, c1, c2, c3, c4, c5⟩ := (HG.out.below (HB7.out.trans HBLa.out)).at_ hiC2
            injection ex with ex
            injection ex with ex1 ex2
            subst ex1 ex2
            rw [hxi, hx6] at c2
            have q1 := cell_of_row _ bo 1 _ _ _ HEA.out
            generalize OW[jj] = z at *
            have hza := (Below.refl Wa.heap.size Wa).alloc (Nat.le_refl _) (.cells #[.int .i64 z] 3)
            have zq1 : ((Wa.alloc (.cells #[.int .i64 z] 3)).drew).cell? _ = _ := (hza.cell (block_lt_of_cell q1)).trans q1
            have u0 : IntKind.i64.wrap ((fi : Int) - (fa : Int)) = (jj : Int) := by rw [IntKind.wrap_i64]; omega
            have u0' : IntKind.i64.wrap (jj : Int) = (jj : Int) := by rw [IntKind.wrap_i64]; omega
            have u1 : (0 : Int) ≤ (jj : Int) := by omega
            have u2 : (jj : Int) < ((tb - fa : Nat) : Int) := by have := HOL.out; omega
            have hbra : bo < Wa.heap.size := Nat.lt_of_lt_of_le hbo7 HBBa.out.1
            have hwsa := HBBa.out.1
            clear hza ho8 hi9 hgd hjO hjj
            go_wp2_with fail
            go_region_law
              (   (refine step_append_own rfl (.tmp 69) (.tmp 80) 23 rfl w7.heap.size 3 jI (.int .i64 0) 1 8 Tryd.underlying23 hI hI0 hI1 hI2 rfl (by decide) v2 Y.length (icl (Y.map (·.2))) (by rfl) ?e0 ⟨Wa.heap.size, 0, none⟩ 1 1 [.int .i64 z] (by rfl) rfl ?e1 ?e2 ?e3 ?e4 ?e5 ?_
                   case e0 => exact HO2a.out.alloc _
                   case e1 => exact fun j u hu => (World.cell?_of_block (w := Wa.alloc (.cells #[.int .i64 z] 3)) rfl).trans ((made_ints [z] _ _ Wa rfl).news j u hu)
                   case e2 => exact ints_one [z]
                   case e3 => unfold maxLen; omega
                   case e4 => omega
                   case e5 => show _ ≤ (_ : World).heap.size; simp; omega
                   intro v' w5 ho5 hg5
                   obtain ⟨g5, k5, rfl, hge5, hgl5⟩ := ho5.form (by omega)
                   have hblk := (KeepsT.grown (w := (Wa.alloc (.cells #[.int .i64 z] 3)).drew) (HO2a.out.alloc (.cells #[.int .i64 z] 3)) hg5).2 bo _ _ _ ((Below.heap_alloc _ _ _ hbra).trans HEA.out) (by decide)
                   have b1 := cell_of_row _ bo 1 _ _ _ hblk
                   have bf := frozen_of_row _ bo 1 _ _ hblk))
            all_goals
              have hdrw : ((Wa.alloc (.cells #[.int .i64 z] 3)).drew).ownsRow w7.heap.size 3 1 v2 Y.length (icl (Y.map (·.2))) := HO2a.out.alloc (.cells #[.int .i64 z] 3)
              have hkt := KeepsT.grown hdrw hg5
              have HEB := Lib.hid (heap_setCell_same w5 bo 1 _ _ (.slice (some ⟨g5, 0, none⟩) (Y.length + 1) k5) hblk)
              have HO2b := Lib.hid (ownsRow_setCell_below ho5 (a := ⟨bo, 1, none⟩) hbo7 (.slice (some ⟨g5, 0, none⟩) (Y.length + 1) k5))
              have HO1b := Lib.hid (ownsRow_setCell_below (hkt.own (t := 40) (by decide) (show ((Wa.alloc (.cells #[.int .i64 z] 3)).drew).ownsRow w7.heap.size 40 6 (.slice (some ⟨g3, 0, none⟩) (Y.length + 1) k3) (Y.length + 1) (cellsC (Y.map (·.1)) ++ [.int .i64 x.a, .int .i64 x.z, .int .i64 fi, .int .i64 x.t, .int .i64 x.w, .int .i64 x.c]) from HO1a.out.alloc (.cells #[.int .i64 z] 3))) (a := ⟨bo, 1, none⟩) hbo7 (.slice (some ⟨g5, 0, none⟩) (Y.length + 1) k5))
              have HBBb := Lib.hid (HBBa.out.stored (i := 1) (.cells #[.int .i64 z] 3) hdrw hg5 (.slice (some ⟨g5, 0, none⟩) (Y.length + 1) k5))
              have HBLb := Lib.hid (((below_drew (HBLa.out.alloc (Nat.le_trans hw7 hwsa) (.cells #[.int .i64 z] 3))).grown hg5 (by show w.heap.size ≤ (Wa.alloc (.cells #[.int .i64 z] 3)).heap.size; rw [World.size_alloc]; omega) (fun k hk => by have := (hdrw.lt k hk).1; omega)).setCell (p := ⟨bo, 1, none⟩) hbow (.slice (some ⟨g5, 0, none⟩) (Y.length + 1) k5))
              clear hkt hdrw hg5 ho5 hblk b1 bf zq1 q1 c0 c1 c2 c3 c4 c5 l0 HO1a HO2a HBBa HBLa HEA
              generalize w5.setCell ⟨bo, 1, none⟩ (.slice (some ⟨g5, 0, none⟩) (Y.length + 1) k5) = Wb at *
              have HFC := Lib.hid (show Wb.ownsRow w7.heap.size 40 6 (.slice (some ⟨g3, 0, none⟩) (Y.length + 1) k3) (seenK C OW fa f (i + 1 - f)).length (cellsC ((seenK C OW fa f (i + 1 - f)).map (·.1))) from by
                rw [HSK.out, List.length_append, List.map_append, List.map_cons, List.map_nil, cellsC_snoc, hx6]
                exact HO1b.out)
              have HFI := Lib.hid (show Wb.ownsRow w7.heap.size 3 1 (.slice (some ⟨g5, 0, none⟩) (Y.length + 1) k5) (seenK C OW fa f (i + 1 - f)).length (icl ((seenK C OW fa f (i + 1 - f)).map (·.2))) from by
                rw [HSK.out, List.length_append, List.map_append, List.map_cons, List.map_nil, icl_snoc]
                exact HO2b.out)
              clear HSK HO1b HO2b
              go_wp2_with fail
              exact ⟨⟨i + 1, _, _, by omega, by omega, by go_num, HEB.out, HFC.out, HFI.out, HBBb.out, HBLb.out⟩, by simp [RowKit.intOf]; omega⟩
        · have t1 : decide ((0 : Int) < x.w) = false := decide_eq_false hxw
          have t1' : decide (x.w > (0 : Int)) = false := decide_eq_false hxw
          rw [if_neg hxw, List.append_nil] at HSK
          have HALL := Lib.hid (And.intro hbx (And.intro ho1 (And.intro ho2 (And.intro hbb hbl))))
          clear hbx ho1 ho2 hbb hbl eL
          go_wp2_with fail
          exact ⟨⟨i + 1, _, _, by omega, by omega, by go_num, HALL.out.1, by rw [HSK.out]; exact HALL.out.2.1, by rw [HSK.out]; exact HALL.out.2.2.1, HALL.out.2.2.2.1, HALL.out.2.2.2.2⟩, by simp [RowKit.intOf]; omega⟩
      · obtain rfl : i = s := by omega
        have j1 : decide ((i : Int) < (i : Int)) = false := decide_eq_false (by omega)
        have eR := (hbb.2 (w.heap.size + 1) (by omega) hbo2).trans HSTART.out.2.2
        have HALL := Lib.hid (And.intro hbx (And.intro ho1 (And.intro ho2 (And.intro hbb hbl))))
        have q0 := cell_of_row _ bo 0 _ _ _ hbx
        have q1 := cell_of_row _ bo 1 _ _ _ hbx
        have y0 := cell_of_row _ (w.heap.size + 1) 0 _ _ _ eR
        have y1 := cell_of_row _ (w.heap.size + 1) 1 _ _ _ eR
        have x0 := frozen_of_row _ (w.heap.size + 1) 0 _ _ eR
        have x1 := frozen_of_row _ (w.heap.size + 1) 1 _ _ eR
        have HER := Lib.hid eR
        obtain ⟨A11, c11, rfl⟩ := own_sl ho1
        obtain ⟨A12, c12, rfl⟩ := own_sl ho2
        clear hbx ho1 ho2 hbb hbl eL eR
        go_wp2_with fail
        refine bodyPost_ret (results_cell_row Tryd.results25 _ _ (w.heap.size + 1) 58 _ (0, 0) _ rfl (heap_setCell_same _ _ 1 _ _ _ (heap_setCell_same _ _ 0 _ _ _ HER.out)) Tryd.underlying58 rfl HIR.out) rfl ?_
        refine ⟨_, _, rfl, ?_, ?_, ?_⟩
        · exact Cl.ownsRow_mono (ownsRow_setCell_below (ownsRow_setCell_below HALL.out.2.1 (a := ⟨w.heap.size + 1, 0, none⟩) (by show w.heap.size + 1 < w7.heap.size; omega) _) (a := ⟨w.heap.size + 1, 1, none⟩) (by show w.heap.size + 1 < w7.heap.size; omega) _) hw7
        · exact Cl.ownsRow_mono (ownsRow_setCell_below (ownsRow_setCell_below HALL.out.2.2.1 (a := ⟨w.heap.size + 1, 0, none⟩) (by show w.heap.size + 1 < w7.heap.size; omega) _) (a := ⟨w.heap.size + 1, 1, none⟩) (by show w.heap.size + 1 < w7.heap.size; omega) _) hw7
        · exact ((HB7.out.trans HALL.out.2.2.2.2).setCell (p := ⟨w.heap.size + 1, 0, none⟩) (by show w.heap.size ≤ w.heap.size + 1; omega) _).setCell (p := ⟨w.heap.size + 1, 1, none⟩) (by show w.heap.size ≤ w.heap.size + 1; omega) _
end Go.Proofs.YtlocnjenkanmpaaDoor.Pl
