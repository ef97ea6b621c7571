/-
  Proved here: what (place.laid).seen returns, for every line that may be of at most 100000 runes: the clusters that are seen, and their levels. It leaves what was in memory.
-/
import Derived.Deep.AppendLies
import Derived.Test.YtlocnjenkanmpaaDoorM20
import Derived.Test.YtlocnjenkanmpaaDoorM7
import Derived.Test.YtlocnjenkanmpaaDoorM2
import Derived.Test.YtlocnjenkanmpaaDoorM22
import Derived.Test.YtlocnjenkanmpaaDoorMPoSeenW
set_option linter.unusedVariables false
namespace Go.Proofs.YtlocnjenkanmpaaDoor.Pl
open Go Go.RowKit Go.Lib Go.Proofs.YtlocnjenkanmpaaDoor.Ku Go.Proofs.YtlocnjenkanmpaaDoor.Wr Go.Proofs.YtlocnjenkanmpaaDoor.Bi Go.Proofs.YtlocnjenkanmpaaDoor.Bo Go.Proofs.YtlocnjenkanmpaaDoor.Arr Go.Proofs.YtlocnjenkanmpaaDoor.Cl Go.Proofs.YtlocnjenkanmpaaDoor.Words
set_option maxHeartbeats 8000000 in
set_option maxRecDepth 100000 in
theorem seen_any (A B G : Option Addr) (l : List R3) (lv : List Int) (C : List C6) (n c d q e : Nat) (f s t : Nat) (xh xd para : Int) (w : World) (hA : RuAt w A l) (hB : IntsAt w B lv) (hG : CuAt w G C)
    (hl : l.length = n) (hlv : lv.length = n) (hC : C.length = q) (hF : Ftc 0 C n) (hn : n ≤ 100000) (hcn : n ≤ c) (hdn : n ≤ d) (hqe : q ≤ e) (h1 : f ≤ s) (h2 : s ≤ t) (h3 : t ≤ q) :
    Calls Tryd.prog 33 #[laidV ⟨f, t, s, xh, xd⟩ G q e para, .slice A n c, .slice B n d] w fun r w' => ∃ v1 v2, r = .returned (.tuple #[v1, v2]) ∧ w'.ownsRow w.heap.size 40 6 v1 (seenP l lv C ⟨f, t, s, xh, xd⟩ para).length (cellsC ((seenP l lv C ⟨f, t, s, xh, xd⟩ para).map (·.1))) ∧ w'.ownsRow w.heap.size 3 1 v2 (seenP l lv C ⟨f, t, s, xh, xd⟩ para).length (icl ((seenP l lv C ⟨f, t, s, xh, xd⟩ para).map (·.2))) ∧ Below w.heap.size w w' := by
  unfold laidV
  by_cases hft : f = t
  · have hY : seenP l lv C ⟨f, t, s, xh, xd⟩ para = [] := by unfold seenP; rw [if_pos (by simp only; omega)]
    rw [hY]
    subst hft
    clear hA hB hG
    go_enter Tryd.func33, Tryd.ntmps33
    go_wp2_with fail
    go_ret2
    exact ⟨_, _, rfl, World.ownsRow_nil _ _ _ _, World.ownsRow_nil _ _ _ _, (Below.refl w.heap.size w).alloc (Nat.le_refl _) _⟩
  · have hqf : f < C.length := by omega
    have hqt : t - 1 < C.length := by omega
    obtain ⟨fa, ta, ea1, ea2, -, ea3, ea4, -⟩ := hF.at_ hqf
    obtain ⟨fb, tb, eb1, eb2, -, eb3, eb4, -⟩ := hF.at_ hqt
    have hab : fa < tb := by
      by_cases hh : f = t - 1
      · have e1 : C[f].f = C[t - 1].f := by simp only [hh]
        have e2 : C[f].t = C[t - 1].t := by simp only [hh]
        omega
      · obtain ⟨x1, x2, x3, x4, y1, y2, y3, y4, y5, y6, y7, y8⟩ := hF.mono (i := f) (j := t - 1) (by omega) hqt
        omega
    have hbeg : begR C ⟨f, t, s, xh, xd⟩ = fa := by
      unfold begR
      simp only [Int.toNat_natCast]
      rw [getD_at hqf, ea1]
      rfl
    have hend : endR C ⟨f, t, s, xh, xd⟩ = tb := by
      unfold endR
      simp only [Int.toNat_natCast]
      rw [getD_at hqt, eb2]
      rfl
    have hY : seenP l lv C ⟨f, t, s, xh, xd⟩ para = seenK C (ownP l lv C ⟨f, t, s, xh, xd⟩ para) fa f (s - f) := by
      unfold seenP
      rw [if_neg (by simp only; omega), hbeg]
      simp only [Int.toNat_natCast]
    have hown : ownP l lv C ⟨f, t, s, xh, xd⟩ para = lineZ (clsR ((l.drop fa).take (tb - fa))) ((lv.drop fa).take (tb - fa)) para := by
      unfold ownP
      rw [hbeg, hend]
    rw [hown] at hY
    have hlp : ((l.drop fa).take (tb - fa)).length = tb - fa := by rw [List.length_take, List.length_drop]; omega
    have hlvp : ((lv.drop fa).take (tb - fa)).length = tb - fa := by rw [List.length_take, List.length_drop]; omega
    have hOL : (lineZ (clsR ((l.drop fa).take (tb - fa))) ((lv.drop fa).take (tb - fa)) para).length = tb - fa := by
      unfold lineZ
      rw [if_pos (by rw [clsR_len, hlp, hlvp]), line_len para _ _ (by rw [clsR_len, hlp, hlvp]), hlvp]
    obtain ⟨ga, oa, rfl, -⟩ := hA.at_ (k := 0) (by omega)
    obtain ⟨gb, ob, rfl, -⟩ := hB.at_ (k := 0) (by omega)
    obtain ⟨gc, oc, rfl, hgc, -⟩ := hG.at_ (k := 0) (by omega)
    have HLINE := Lib.hid (fun W (h : Below w.heap.size w W) c1 c2 => line_any (some ⟨ga, oa + fa * 3, none⟩) (some ⟨gb, ob + fa, none⟩) ((l.drop fa).take (tb - fa)) ((lv.drop fa).take (tb - fa)) (tb - fa) (tb - fa) c1 c2 para W (ru_part (hA.below h) fa (tb - fa) (by omega)) (ints_part (hB.below h) fa (tb - fa)) hlp hlvp (by omega))
    generalize lineZ (clsR ((l.drop fa).take (tb - fa))) ((lv.drop fa).take (tb - fa)) para = OW at *
    rw [hOL] at HLINE
    have HOL := Lib.hid hOL
    rw [hY]
    have HG := Lib.hid hG
    have HCL := Lib.hid hC
    have HFT := Lib.hid (fun i (hi : i < C.length) (h1 : f ≤ i) (h2 : i < t) => (show ∃ fi : Nat, C[i].f = fi ∧ fa ≤ fi ∧ fi < tb from by
      obtain ⟨fi, ti, e1, e2, -, e3, e4, -⟩ := hF.at_ hi
      refine ⟨fi, e1, ?_, ?_⟩
      · by_cases hh : i = f
        · subst hh; omega
        · obtain ⟨x1, x2, x3, x4, y1, y2, y3, y4, y5, y6, y7, y8⟩ := hF.mono (i := f) (j := i) (by omega) hi
          omega
      · by_cases hh : i = t - 1
        · subst hh; omega
        · obtain ⟨x1, x2, x3, x4, y1, y2, y3, y4, y5, y6, y7, y8⟩ := hF.mono (i := i) (j := t - 1) (by omega) hqt
          omega))
    obtain ⟨W0, hW0⟩ : ∃ W0, w.alloc (.cells #[.int .i64 f, .int .i64 t, .int .i64 s, .int .i64 xh, .int .i64 xd, .slice (some ⟨gc, oc, none⟩) q e, .int .i64 para] 52) = W0 := ⟨_, rfl⟩
    have hB0 : Below w.heap.size w W0 := by rw [← hW0]; exact (Below.refl w.heap.size w).alloc (Nat.le_refl _) _
    have hS0 : W0.heap.size = w.heap.size + 1 := by rw [← hW0, World.size_alloc]
    have hE0 : W0.heap[w.heap.size]? = some (.cells #[.int .i64 f, .int .i64 t, .int .i64 s, .int .i64 xh, .int .i64 xd, .slice (some ⟨gc, oc, none⟩) q e, .int .i64 para] 52 (0, 0)) := by rw [← hW0]; exact heap_alloc_new _ _
    obtain ⟨_, _, gc1, -, p0, p1, p2, p3, p4, p5⟩ := (hG.below hB0).at_ hqf
    injection gc1 with gc1
    injection gc1 with gc2 gc3
    subst gc2 gc3
    obtain ⟨_, _, gc1, -, r0, r1, r2, r3, r4, r5⟩ := (hG.below hB0).at_ hqt
    injection gc1 with gc1
    injection gc1 with gc2 gc3
    subst gc2 gc3
    rw [ea1] at p2
    rw [eb2] at r3
    obtain ⟨⟨z0, z1, z2, z3, z4, z5, z6⟩, -⟩ := seven_cells hE0
    have hqn := hF.len
    rw [hC] at hqn
    have t1 : ((f : Int) == (t : Int)) = false := beq_eq_false_iff_ne.2 (by omega)
    have u0 : IntKind.i64.wrap ((t : Int) - 1) = ((t - 1 : Nat) : Int) := by rw [IntKind.wrap_i64]; omega
    have u1 : (0 : Int) ≤ ((t - 1 : Nat) : Int) := by omega
    have u2 : ((t - 1 : Nat) : Int) < (q : Int) := by omega
    have u3 : (f : Int) < (q : Int) := by omega
    have HS0 := Lib.hid hS0
    have HB0 := Lib.hid hB0
    have HE0 := Lib.hid hE0
    have hft2 : ¬ ((f : Int) = (t : Int)) := by omega
    obtain ⟨t', ht'⟩ : ∃ t', t - 1 = t' := ⟨_, rfl⟩
    clear p0 p1 p3 p4 p5 r0 r1 r2 r4 r5
    rw [ht'] at u0 u1 u2 r3
    clear hl hlv hF hY hown hlp hlvp hOL hC hbeg hend hS0 hB0 hE0
    go_enter Tryd.func33, Tryd.ntmps33
    go_wp2_with fail
    go_quiet (fail)
    have hBV := below_drewN (Below.refl W0.heap.size W0) nq
    generalize W0.drewN nq = V0 at *
    have HEV := Lib.hid ((hBV.block w.heap.size (by rw [HS0.out]; omega)).trans HE0.out)
    have HBV := Lib.hid (HB0.out.trans (hBV.mono HB0.out.size))
    have v0 : (0 : Int) ≤ (fa : Int) := by omega
    have v1 : (fa : Int) ≤ (tb : Int) := by omega
    have v2 : (tb : Int) ≤ (c : Int) := by omega
    have v3 : (tb : Int) ≤ (d : Int) := by omega
    have v4 : ¬ (c = fa) := by omega
    have v5 : ¬ (d = fa) := by omega
    clear z0 z1 z2 z3 z4 z5 z6 p2 r3 hBV hW0 u0 u1 u2
    obtain ⟨⟨z0, z1, z2, z3, z4, z5, z6⟩, -⟩ := seven_cells HEV.out
    have HL7 := Lib.hid (fun (V V' : World) (h0 : Below V0.heap.size V0 V) (h : Below V.heap.size V V') => (show V'.heap[w.heap.size]? = _ ∧ Below w.heap.size w V' ∧ V0.heap.size ≤ V.heap.size from And.intro (((h0.trans (h.mono h0.size)).block w.heap.size ((Array.getElem?_eq_some_iff.1 HEV.out).1)).trans HEV.out) (And.intro (HBV.out.trans ((h0.trans (h.mono h0.size)).mono HBV.out.size)) h0.size)))
    go_wp2_with fail
    go_region_with (go_at_call 47; refine (HLINE.out _ (by first | exact HBV.out | exact below_drew HBV.out | exact below_drewN HBV.out _) _ _).mono ?_; rintro r5 w7 ⟨A8, c8, rfl, ho7, hb7⟩; obtain ⟨hq1, hq2, hq3⟩ := HL7.out _ _ (by first | exact Below.refl _ _ | exact below_drew (Below.refl _ _) | exact below_drewN (Below.refl _ _) _) hb7; obtain ⟨⟨z0, z1, z2, z3, z4, z5, z6⟩, -⟩ := seven_cells hq1)
    all_goals
      have HE7 := Lib.hid hq1
      have HB7 := Lib.hid hq2
      have HO7 := Lib.hid ho7
      obtain ⟨A9, c9, e8, hi8⟩ := intsAt_icl (n := tb - fa) ho7 HOL.out
      injection e8 with e81 _ _
      subst e81
      have HI8 := Lib.hid hi8
      have w0 : (0 : Int) ≤ (f : Int) := by omega
      have w1 : (f : Int) ≤ (s : Int) := by omega
      have w2 : (s : Int) ≤ (e : Int) := by omega
      have w3 : ¬ (e = f) := by omega
      clear hq1 hq2 hq3 ho7 hb7 hi8 HL7 HLINE HEV HBV HE0 HB0 HS0
      go_wp2_with fail
      go_loopw [11, 12, 60] (fun s11 s12 s60 wx => ∃ (i : Nat) (v1 v2 : Value), i ≤ s - f ∧ s60 = .int .i64 i ∧ s11 = v1 ∧ s12 = v2 ∧ wx.ownsRow w7.heap.size 40 6 v1 (seenK C OW fa f i).length (cellsC ((seenK C OW fa f i).map (·.1))) ∧ wx.ownsRow w7.heap.size 3 1 v2 (seenK C OW fa f i).length (icl ((seenK C OW fa f i).map (·.2))) ∧ Below w7.heap.size w7 wx) (fun _ _ s60 _ => (s - f) - (RowKit.intOf s60).toNat)
      case atStart => exact ⟨0, _, _, Nat.zero_le _, rfl, rfl, rfl, World.ownsRow_nil _ _ _ _, World.ownsRow_nil _ _ _ _, Below.refl _ _⟩
      case round =>
        obtain ⟨i, v1, v2, hi, rfl, rfl, rfl, ho1, ho2, hbl⟩ := hrel
        by_cases hlt : i < s - f
        · have hiC : f + i < C.length := by rw [HCL.out]; omega
          obtain ⟨fi, ef, ef1, ef2⟩ := HFT.out (f + i) hiC (by omega) (by omega)
          have hSK : seenK C OW fa f (i + 1) = seenK C OW fa f i ++ (if 0 < C[f + i].w then [(C[f + i], OW.getD (fi - fa) 0)] else []) := by
            show _ ++ (if 0 < (C.getD (f + i) d6).w then [(C.getD (f + i) d6, OW.getD ((C.getD (f + i) d6).f.toNat - fa) 0)] else []) = _
            rw [getD_at hiC, ef]
            rfl
          have HSK := Lib.hid hSK
          obtain ⟨gx, ox, ex, hgx, c0, c1, c2, c3, c4, c5⟩ := (HG.out.below (HB7.out.trans (hbl.mono HB7.out.size))).at_ hiC
          injection ex with ex
          injection ex with ex1 ex2
          subst ex1 ex2
          rw [show oc + (f + i) * 6 = oc + f * 6 + i * 6 from by omega] at c0 c1 c2 c3 c4 c5
          obtain ⟨x, hxi⟩ : ∃ x, C[f + i] = x := ⟨_, rfl⟩
          rw [hxi] at ef HSK c0 c1 c2 c3 c4 c5
          have HEF := Lib.hid ef
          clear ef
          have i0 : (0 : Int) ≤ (i : Int) := by omega
          have i1 : (i : Int) < ((s - f : Nat) : Int) := by omega
          have HYL := Lib.hid (seenK_len C OW fa f i)
          have hsf : s - f ≤ 100000 := by omega
          have HALL := Lib.hid (And.intro ho1 (And.intro ho2 hbl))
          by_cases hxw : 0 < x.w
          · have t1 : decide ((0 : Int) < x.w) = true := decide_eq_true hxw
            have t1' : decide (x.w > (0 : Int)) = true := decide_eq_true hxw
            rw [if_pos hxw] at HSK
            clear ho1 ho2 hbl hSK
            go_wp2_with fail
            obtain ⟨j0, hj, hj0, hj1, hj2⟩ := info_parts infoC
            obtain ⟨jI, hI, hI0, hI1, hI2⟩ := info_parts infoInt
            have HB9 := Lib.hid ((Below.refl wr.heap.size wr).alloc (Nat.le_refl _) (.cells #[.int .i64 x.a, .int .i64 x.z, .int .i64 x.f, .int .i64 x.t, .int .i64 x.w, .int .i64 x.c] 40))
            have HX9 := Lib.hid (heap_alloc_new wr (.cells #[.int .i64 x.a, .int .i64 x.z, .int .i64 x.f, .int .i64 x.t, .int .i64 x.w, .int .i64 x.c] 40))
            have HS9 := Lib.hid (show (wr.alloc (.cells #[.int .i64 x.a, .int .i64 x.z, .int .i64 x.f, .int .i64 x.t, .int .i64 x.w, .int .i64 x.c] 40)).heap.size = wr.heap.size + 1 by rw [World.size_alloc])
            have hwr : w7.heap.size ≤ wr.heap.size := HALL.out.2.2.size
            generalize hV1 : wr.alloc (.cells #[.int .i64 x.a, .int .i64 x.z, .int .i64 x.f, .int .i64 x.t, .int .i64 x.w, .int .i64 x.c] 40) = V1 at *
            generalize hbx : wr.heap.size = bx at *
            obtain ⟨jj, hjj⟩ : ∃ jj, fi - fa = jj := ⟨_, rfl⟩
            have hjO : jj < OW.length := by rw [HOL.out]; omega
            obtain ⟨gL, oL, eL, l0⟩ := (HI8.out.below HALL.out.2.2).at_ hjO
            have hgL : gL < w7.heap.size := by
              rcases HI8.out with h | ⟨b9, o9, e9, h9, -⟩
              · rw [h] at hjO; simp at hjO
              · rw [eL] at e9; injection e9 with e9; injection e9 with e9 _ _; omega
            subst eL
            have hgd : OW.getD (fi - fa) 0 = OW[jj] := by rw [hjj, List.getD_eq_getElem?_getD, List.getElem?_eq_getElem hjO]; rfl
            rw [hgd] at HSK
            generalize OW[jj] = z at *
            generalize seenK C OW fa f i = Y at *
            have hYl : Y.length ≤ 100000 := by have := HYL.out; omega
            have u0 : IntKind.i64.wrap (x.f - (fa : Int)) = (jj : Int) := by rw [HEF.out, IntKind.wrap_i64]; omega
            have u1 : (0 : Int) ≤ (jj : Int) := by omega
            have u2 : (jj : Int) < ((tb - fa : Nat) : Int) := by have := HOL.out; omega
            have HV := Lib.hid (show SeenV w7.heap.size V1 u11 u12 from by
              refine ⟨fun k hk => ?_, fun k hk => ?_, fun k hk hk2 => ?_, by rw [HS9.out]; omega⟩
              · have := HALL.out.1.lt k hk; rw [HS9.out]; omega
              · have := HALL.out.2.1.lt k hk; rw [HS9.out]; omega
              · exact absurd hk2 (seen_apart HALL.out.1 HALL.out.2.1 hk))
            have HNB := Lib.hid (show u11.ownBlock ≠ some bx ∧ u12.ownBlock ≠ some bx from ⟨fun e => by have := (HALL.out.1.lt bx e).2; omega, fun e => by have := (HALL.out.2.1.lt bx e).2; omega⟩)
            have HBXX := Lib.hid (fun (V : World) (h : SeenI w7.heap.size V1 u11 u12 V) => (show _ ∧ V.cell? ⟨gL, oL + jj, none⟩ = some (.int .i64 z) ∧ w7.heap.size ≤ V.heap.size from And.intro ((h.2.2 bx (by rw [HS9.out]; omega) HNB.out.1 HNB.out.2).trans HX9.out) (And.intro ((h.1.cell (p := ⟨gL, oL + jj, none⟩) hgL).trans ((HB9.out.cell (p := ⟨gL, oL + jj, none⟩) (by show gL < bx; omega)).trans l0)) (by have := h.2.1; rw [HS9.out] at this; omega))))
            have HOW := Lib.hid (And.intro (Cl.ownsRow_below HALL.out.1 (by rw [hbx]; exact HB9.out)) (And.intro (Cl.ownsRow_below HALL.out.2.1 (by rw [hbx]; exact HB9.out)) (HALL.out.2.2.trans (HB9.out.mono hwr))))
            clear hgd hjO l0 HI8 c0 c1 c2 c3 c4 c5
            refine wp_region_wordsR (Φ := SeenF w7.heap.size Y.length V1 u11 u12 (Y.map (·.1)) (Y.map (·.2)) x z fa jj (.slice (some ⟨gL, oL, none⟩) (tb - fa) c9) gL oL bx) (Ψ := SeenP w7.heap.size Y.length u11 u12 (Y.map (·.1)) (Y.map (·.2))) (I := SeenI w7.heap.size V1 u11 u12) (R := fun j a b => a.grownBy b (rowS u11 u12 j)) (N := 84) [67, 68, 69, 70, 71, 72, 73, 74, 75, 76, 77, 78, 79, 80, 11, 12] (by kernel_rfl) (by kernel_rfl) (by rfl) (by kernel_rfl) ?startI ?startP ?keepF ?keepP ?keepI ?step ?done
            case startI => exact ⟨below_drew (Below.refl _ _), Nat.le_refl _, fun _ _ _ _ => rfl⟩
            case startP => exact fun i9 _ => ⟨fun _ => HOW.out.1, fun _ => HOW.out.2.1⟩
            case keepF => exact fun i9 j9 v9 wa wb hij hnw _ hF hR => seenF_kept HV.out i9 j9 v9 wa wb hij (fun e => by obtain ⟨rfl, rfl⟩ := e; exact absurd (hnw 4) (by decide +kernel)) (fun e => by obtain ⟨rfl, rfl⟩ := e; exact absurd (hnw 4) (by decide +kernel)) hF hR
            case keepP => exact fun i9 j9 wa wb hij _ hP hR => seenP_kept HV.out hij hP hR
            case keepI => exact fun j9 wa wb hI9 hR => seenI_kept HV.out hI9 hR
            case step =>
              intro i9 o ho ff wx hI9 hP9 hd hun K9 hK
              have HUN := Lib.hid hun
              have HD := Lib.hid hd
              have HIX := Lib.hid hI9
              have HPX := Lib.hid hP9
              obtain ⟨hbb, hLz, hwb⟩ := HBXX.out wx hI9
              have HWB := Lib.hid hwb
              have b0 := cell_of_row wx bx 0 _ _ _ hbb
              have b1 := cell_of_row wx bx 1 _ _ _ hbb
              have b2 := cell_of_row wx bx 2 _ _ _ hbb
              have b3 := cell_of_row wx bx 3 _ _ _ hbb
              have b4 := cell_of_row wx bx 4 _ _ _ hbb
              have b5 := cell_of_row wx bx 5 _ _ _ hbb
              simp only [setF, List.foldl_cons, List.foldl_nil, List.setIfInBounds_toArray, List.set_cons_zero, List.set_cons_succ] at hK ⊢
              clear hd hun hI9 hP9 hbb hwb
              match i9, o, ho, hK, HD, HUN, HPX with
              | 0, o, ho, hK, HD, HUN, HPX =>
                obtain rfl := Option.some.inj ho
                clear ho
                have h11 : ff 11 = u11 := HUN.out 4 14 11 (by rfl) (by decide +kernel)
                simp only [h11] at hK ⊢
                go_simp
                exact hK.out u11 _ rfl (Wk.grown_refl _ _)
              | 1, o, ho, hK, HD, HUN, HPX =>
                obtain rfl := Option.some.inj ho
                clear ho
                go_simp
                exact hK.out (.agg #[.int .i64 x.a, .int .i64 x.z, .int .i64 x.f, .int .i64 x.t, .int .i64 x.w, .int .i64 x.c]) _ rfl (Wk.grown_refl _ _)
              | 2, o, ho, hK, HD, HUN, HPX =>
                obtain rfl := Option.some.inj ho
                clear ho
                have h68 : ff 68 = .agg #[.int .i64 x.a, .int .i64 x.z, .int .i64 x.f, .int .i64 x.t, .int .i64 x.w, .int .i64 x.c] := HD.out ⟨1, .data⟩ (by simp) rfl
                simp only [h68] at hK ⊢
                go_simp
                exact hK.out _ _ ⟨wx.heap.size, rfl, HIX.out.2.1, heap_alloc_new wx _⟩ (World.grownBy_alloc _ _ _)
              | 3, o, ho, hK, HD, HUN, HPX =>
                obtain rfl := Option.some.inj ho
                clear ho
                have h67 : ff 67 = u11 := HD.out ⟨0, .data⟩ (by simp) rfl
                simp only [h67] at hK ⊢
                obtain ⟨kb, hkb, hkb2, hkb3⟩ : OneC V1 x (ff 69) wx := HD.out ⟨2, .data⟩ (by simp) rfl
                simp only [hkb] at hK ⊢
                refine wp_append_lies wx (.tmp 67) (.tmp 69) 37 rfl w7.heap.size 40 j0 (.agg #[.int .i64 0, .int .i64 0, .int .i64 0, .int .i64 0, .int .i64 0, .int .i64 0]) 6 48 Tryd.underlying37 hj hj0 hj1 hj2 rfl (by decide) u11 Y.length (cellsC (Y.map (·.1))) (by rfl) (HPX.out.1 rfl) ⟨kb, 0, none⟩ 1 1 (c6 x).toList (by rfl) rfl (sc_at hkb3) (sc_one x) (by decide) (by unfold maxLen; omega) (by omega) HWB.out _ rfl ?_
                intro g cap w2 hw1 hw2 hw3 hw4
                refine hK.out _ _ ⟨g, cap, rfl, by rw [cellsC_append]; exact hw1, hw3.imp id (fun e => by rw [e]; exact HIX.out.2.1)⟩ hw2
              | 4, o, ho, hK, HD, HUN, HPX =>
                obtain rfl := Option.some.inj ho
                clear ho
                have h12 : ff 12 = u12 := HUN.out 4 15 12 (by rfl) (by decide +kernel)
                simp only [h12] at hK ⊢
                go_simp
                exact hK.out u12 _ rfl (Wk.grown_refl _ _)
              | 5, o, ho, hK, HD, HUN, HPX =>
                obtain rfl := Option.some.inj ho
                clear ho
                go_simp
                exact hK.out (.slice (some ⟨gL, oL, none⟩) (tb - fa) c9) _ rfl (Wk.grown_refl _ _)
              | 6, o, ho, hK, HD, HUN, HPX =>
                obtain rfl := Option.some.inj ho
                clear ho
                go_simp
                exact hK.out (.pointer (some ⟨bx, 2, none⟩)) _ rfl (Wk.grown_refl _ _)
              | 7, o, ho, hK, HD, HUN, HPX =>
                obtain rfl := Option.some.inj ho
                clear ho
                have h73 : ff 73 = .pointer (some ⟨bx, 2, none⟩) := HD.out ⟨6, .data⟩ (by simp) rfl
                simp only [h73] at hK ⊢
                go_simp
                exact hK.out (.int .i64 x.f) _ rfl (Wk.grown_refl _ _)
              | 8, o, ho, hK, HD, HUN, HPX =>
                obtain rfl := Option.some.inj ho
                clear ho
                go_simp
                exact hK.out (.int .i64 fa) _ rfl (Wk.grown_refl _ _)
              | 9, o, ho, hK, HD, HUN, HPX =>
                obtain rfl := Option.some.inj ho
                clear ho
                have h74 : ff 74 = .int .i64 x.f := HD.out ⟨7, .data⟩ (by simp) rfl
                simp only [h74] at hK ⊢
                have h75 : ff 75 = .int .i64 fa := HD.out ⟨8, .data⟩ (by simp) rfl
                simp only [h75] at hK ⊢
                go_simp
                exact hK.out (.int .i64 jj) _ rfl (Wk.grown_refl _ _)
              | 10, o, ho, hK, HD, HUN, HPX =>
                obtain rfl := Option.some.inj ho
                clear ho
                have h72 : ff 72 = .slice (some ⟨gL, oL, none⟩) (tb - fa) c9 := HD.out ⟨5, .data⟩ (by simp) rfl
                simp only [h72] at hK ⊢
                have h76 : ff 76 = .int .i64 jj := HD.out ⟨9, .data⟩ (by simp) rfl
                simp only [h76] at hK ⊢
                go_simp
                exact hK.out (.pointer (some ⟨gL, oL + jj, none⟩)) _ rfl (Wk.grown_refl _ _)
              | 11, o, ho, hK, HD, HUN, HPX =>
                obtain rfl := Option.some.inj ho
                clear ho
                have h77 : ff 77 = .pointer (some ⟨gL, oL + jj, none⟩) := HD.out ⟨10, .data⟩ (by simp) rfl
                simp only [h77] at hK ⊢
                go_simp
                exact hK.out (.int .i64 z) _ rfl (Wk.grown_refl _ _)
              | 12, o, ho, hK, HD, HUN, HPX =>
                obtain rfl := Option.some.inj ho
                clear ho
                have h78 : ff 78 = .int .i64 z := HD.out ⟨11, .data⟩ (by simp) rfl
                simp only [h78] at hK ⊢
                go_simp
                exact hK.out _ _ ⟨wx.heap.size, rfl, HIX.out.2.1, heap_alloc_new wx _⟩ (World.grownBy_alloc _ _ _)
              | 13, o, ho, hK, HD, HUN, HPX =>
                obtain rfl := Option.some.inj ho
                clear ho
                have h71 : ff 71 = u12 := HD.out ⟨4, .data⟩ (by simp) rfl
                simp only [h71] at hK ⊢
                obtain ⟨kb, hkb, hkb2, hkb3⟩ : OneI V1 z (ff 79) wx := HD.out ⟨12, .data⟩ (by simp) rfl
                simp only [hkb] at hK ⊢
                refine wp_append_lies wx (.tmp 71) (.tmp 79) 23 rfl w7.heap.size 3 jI (.int .i64 0) 1 8 Tryd.underlying23 hI hI0 hI1 hI2 rfl (by decide) u12 Y.length (icl (Y.map (·.2))) (by rfl) (HPX.out.2 rfl) ⟨kb, 0, none⟩ 1 1 [.int .i64 z] (by rfl) rfl (one_at hkb3) (ints_one [z]) (by decide) (by unfold maxLen; omega) (by omega) HWB.out _ rfl ?_
                intro g cap w2 hw1 hw2 hw3 hw4
                refine hK.out _ _ ⟨g, cap, rfl, by rw [icl_snoc]; exact hw1, hw3.imp id (fun e => by rw [e]; exact HIX.out.2.1)⟩ hw2
              | 14, o, ho, hK, HD, HUN, HPX =>
                obtain rfl := Option.some.inj ho
                clear ho
                obtain ⟨g9, cap9, h70, hr1, hr2⟩ : RowC w7.heap.size Y.length V1 u11 (Y.map (fun y : Sn => y.1)) x (ff 70) wx := HD.out ⟨3, .data⟩ (by simp) rfl
                simp only [h70] at hK ⊢
                go_simp
                exact hK.out _ _ ⟨g9, cap9, rfl, hr1, hr2⟩ (Wk.grown_refl _ _)
              | 15, o, ho, hK, HD, HUN, HPX =>
                obtain rfl := Option.some.inj ho
                clear ho
                obtain ⟨g9, cap9, h80, hr1, hr2⟩ : RowI w7.heap.size Y.length V1 u12 (Y.map (fun y : Sn => y.2)) z (ff 80) wx := HD.out ⟨13, .data⟩ (by simp) rfl
                simp only [h80] at hK ⊢
                go_simp
                exact hK.out _ _ ⟨g9, cap9, rfl, hr1, hr2⟩ (Wk.grown_refl _ _)
              | i9 + 16, o, ho, hK, HD, HUN, HPX => simp at ho
            case done =>
              intro ff wx hI9 hall
              obtain ⟨g1, k1, h11, ho1, -⟩ : RowC w7.heap.size Y.length V1 u11 (Y.map (fun y : Sn => y.1)) x (ff 11) wx := hall 14 (by decide)
              obtain ⟨g2, k2, h12, ho2, -⟩ : RowI w7.heap.size Y.length V1 u12 (Y.map (fun y : Sn => y.2)) z (ff 12) wx := hall 15 (by decide)
              have HO1 := Lib.hid ho1
              have HO2 := Lib.hid ho2
              have HBX := Lib.hid hI9.1
              have hV1s : w7.heap.size ≤ V1.heap.size := by rw [HS9.out]; omega
              clear hI9 hall ho1 ho2
              simp only [setF, List.foldl_cons, List.foldl_nil, List.setIfInBounds_toArray, List.set_cons_zero, List.set_cons_succ]
              rw [h11, h12]
              clear h11 h12
              generalize ff 67 = y67
              generalize ff 68 = y68
              generalize ff 69 = y69
              generalize ff 70 = y70
              generalize ff 71 = y71
              generalize ff 72 = y72
              generalize ff 73 = y73
              generalize ff 74 = y74
              generalize ff 75 = y75
              generalize ff 76 = y76
              generalize ff 77 = y77
              generalize ff 78 = y78
              generalize ff 79 = y79
              generalize ff 80 = y80
              clear ff
              have HFC := Lib.hid (show wx.ownsRow w7.heap.size 40 6 (.slice (some ⟨g1, 0, none⟩) (Y.length + 1) k1) (seenK C OW fa f (i + 1)).length (cellsC ((seenK C OW fa f (i + 1)).map (·.1))) from by
                rw [HSK.out, List.length_append, List.map_append, List.map_cons, List.map_nil]
                exact HO1.out)
              have HFI := Lib.hid (show wx.ownsRow w7.heap.size 3 1 (.slice (some ⟨g2, 0, none⟩) (Y.length + 1) k2) (seenK C OW fa f (i + 1)).length (icl ((seenK C OW fa f (i + 1)).map (·.2))) from by
                rw [HSK.out, List.length_append, List.map_append, List.map_cons, List.map_nil]
                exact HO2.out)
              have HBE := Lib.hid (HOW.out.2.2.trans (HBX.out.mono (Nat.le_refl _)))
              clear HO1 HO2 HBX
              go_wp2_with fail
              exact ⟨⟨i + 1, _, _, by omega, by go_num, rfl, rfl, HFC.out, HFI.out, HBE.out⟩, by simp [RowKit.intOf]; omega⟩
          · have t1 : decide ((0 : Int) < x.w) = false := decide_eq_false hxw
            have t1' : decide (x.w > (0 : Int)) = false := decide_eq_false hxw
            rw [if_neg hxw, List.append_nil] at HSK
            clear ho1 ho2 hbl hSK
            go_wp2_with fail
            have HB9 := Lib.hid ((Below.refl wr.heap.size wr).alloc (Nat.le_refl _) (.cells #[.int .i64 x.a, .int .i64 x.z, .int .i64 x.f, .int .i64 x.t, .int .i64 x.w, .int .i64 x.c] 40))
            exact ⟨⟨i + 1, _, _, by omega, by go_num, rfl, rfl, by rw [HSK.out]; exact Cl.ownsRow_below HALL.out.1 HB9.out, by rw [HSK.out]; exact Cl.ownsRow_below HALL.out.2.1 HB9.out, HALL.out.2.2.trans (HB9.out.mono HALL.out.2.2.size)⟩, by simp [RowKit.intOf]; omega⟩
        · obtain rfl : i = s - f := by omega
          have j1 : decide (((s - f : Nat) : Int) < ((s - f : Nat) : Int)) = false := decide_eq_false (by omega)
          have HALL := Lib.hid (And.intro ho1 (And.intro ho2 hbl))
          clear ho1 ho2 hbl
          go_wp2_with fail
          go_ret2
          exact ⟨_, _, rfl, Cl.ownsRow_mono HALL.out.1 HB7.out.size, Cl.ownsRow_mono HALL.out.2.1 HB7.out.size, HB7.out.trans (HALL.out.2.2.mono HB7.out.size)⟩
end Go.Proofs.YtlocnjenkanmpaaDoor.Pl
