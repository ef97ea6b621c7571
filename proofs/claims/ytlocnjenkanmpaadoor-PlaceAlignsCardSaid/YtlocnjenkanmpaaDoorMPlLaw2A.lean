/-
  Proved here: what parquetrylaw19.PlaceOnce returns for every row of runes, of levels, every line with dots and three numbers: true, for any program of placing that keeps to the plain one (SlotsOk), any of clusters that finds the document's (OfOk). It leaves what was in memory.
-/
import Derived.Test.YtlocnjenkanmpaaDoorM3
import Derived.Test.YtlocnjenkanmpaaDoorM30
set_option linter.unusedVariables false
namespace Go.Proofs.YtlocnjenkanmpaaDoor.Pl
open Go Go.RowKit Go.Lib Go.Proofs.YtlocnjenkanmpaaDoor.Ku Go.Proofs.YtlocnjenkanmpaaDoor.Wr Go.Proofs.YtlocnjenkanmpaaDoor.Arr Go.Proofs.YtlocnjenkanmpaaDoor.Cl
set_option maxHeartbeats 16000000 in
set_option maxRecDepth 100000 in
theorem once_lawA {H : World → Prop} (HS : SlotsOk H) (HOF : OfOk H) (HLT : Lasts H) (A B : Option Addr) (l : List R3) (lv : List Int) (n m c d : Nat) (x : L5) (para W al : Int) (w : World) (hH : H w) (hA : RuAt w A l) (hB : IntsAt w B lv) (hl : l.length = n) (hm : lv.length = m) (hcn : n ≤ c) (hdm : m ≤ d) (hnA : A = none → l = [] ∧ c = 0) (hnB : B = none → lv = [] ∧ d = 0) (hm63 : m ≤ 9223372036854775807) (hd : x.d = 1) :
    Calls Tryd.prog 4 #[.slice A n c, .slice B m d, lnV x, .int .i64 para, .int .i64 W, .int .i64 al] w fun e w' => e = .returned (.bool true) ∧ Below w.heap.size w w' := by
  have HD := Lib.hid hd
  clear hd
  have hB0 := (Below.refl w.heap.size w).alloc (Nat.le_refl _) (.cells #[.int .i64 x.f, .int .i64 x.t, .int .i64 x.s, .int .i64 x.h, .int .i64 x.d] 25)
  have HB0 := Lib.hid hB0
  have HAW := Lib.hid (fun V (h : Below w.heap.size w V) => awake_of HS HLT V (HLT w V hH h))
  have HE0 := Lib.hid (heap_alloc_new w (.cells #[.int .i64 x.f, .int .i64 x.t, .int .i64 x.s, .int .i64 x.h, .int .i64 x.d] 25))
  by_cases h1 : 200 < n
  · have d0 : decide ((200 : Int) < (n : Int)) = true := decide_eq_true (by omega)
    have e0 : decide (200 < n) = true := decide_eq_true h1
    unfold lnV
    go_enter Tryd.func4, Tryd.ntmps4
    go_wp2_with fail
    refine (HAW.out _ HB0.out).mono ?_
    rintro e w99 ⟨rfl, hb⟩
    have HB99 := Lib.hid (HB0.out.trans (hb.mono HB0.out.size))
    clear hb
    go_wp2_with fail
    go_ret
    exact ⟨by first | rfl | simp, HB99.out⟩
  have d0 : decide ((200 : Int) < (n : Int)) = false := decide_eq_false (by omega)
  have e0 : decide (200 < n) = false := decide_eq_false h1
  have HSL := Lib.hid (fun V (h : Below w.heap.size w V) => HS A B l lv n m c d x para W al V (HLT w V hH h) (hA.below h) (hB.below h) hl hm (by omega) hcn hdm hm63 (fun h => (hnA h).2) (fun h => (hnB h).2))
  have HCU := Lib.hid (fun V (h : Below w.heap.size w V) => HOF A l n c V (HLT w V hH h) (hA.below h) hl (by omega))
  have HFA := Lib.hid (fun hr he => once_facts (x := x) (para := para) (W := W) (al := al) hl hm hr he)
  have HNO := Lib.hid (fun (he : errP n m (ofC l).length x para W al ≠ 0) => (show ansP l lv x para W al = [] from by unfold ansP; rw [hl, hm, if_neg he]))
  have HWI := Lib.hid (ofC_wide l)
  have HCN := Lib.hid (show (ofC l).length ≤ n from by have := (ofC_ftc l).len; omega)
  have HA := Lib.hid hA
  have HL := Lib.hid hl
  clear hA hB hnA hnB hB0 HS HOF
  unfold lnV at *
  go_enter Tryd.func4, Tryd.ntmps4
  go_wp2_with fail
  go_loopw [13] (fun s13 wx => ∃ i : Nat, 1 ≤ i ∧ s13 = .int .i64 i ∧ Below w.heap.size w wx ∧ wx.heap[w.heap.size]? = some (.cells #[.int .i64 x.f, .int .i64 x.t, .int .i64 x.s, .int .i64 x.h, .int .i64 x.d] 25 (0, 0)) ∧ ∀ k (h2 : k + 1 < l.length), k + 1 < i → l[k].1 < l[k + 1].1) (fun s13 _ => n - (RowKit.intOf s13).toNat)
  case atStart => exact ⟨1, Nat.le_refl _, rfl, HB0.out, HE0.out, fun k h2 h3 => by omega⟩
  case round =>
    clear HB0 HE0
    obtain ⟨i, hi, rfl, hbw, hbx, hrise⟩ := hrel
    have HBW := Lib.hid hbw
    have HBX := Lib.hid hbx
    rcases Nat.lt_or_ge i n with hlt | hge
    · have hil : i < l.length := by rw [HL.out]; exact hlt
      have him : i - 1 < l.length := by omega
      obtain ⟨g, off, rfl, hg, c0, -⟩ := (HA.out.below hbw).at_ hil
      obtain ⟨g2, off2, he2, hg2, c1, -⟩ := (HA.out.below hbw).at_ him
      injection he2 with he2
      injection he2 with he3 he4
      subst he3 he4
      have HRI := Lib.hid (fun (h : l[i - 1].1 < l[i].1) => (fun k (h2 : k + 1 < l.length) (h3 : k + 1 < i + 1) => (show l[k].1 < l[k + 1].1 from by
        rcases Nat.lt_or_ge (k + 1) i with h4 | h4
        · exact hrise k h2 h4
        · obtain rfl : i = k + 1 := by omega
          exact h)))
      have k0 : (i : Int) < (n : Int) := by omega
      have k1 : (0 : Int) ≤ (i : Int) := by omega
      have e1 : IntKind.i64.wrap ((i : Int) - 1) = ((i - 1 : Nat) : Int) := by rw [IntWalk.i64_in _ (by omega)]; omega
      have k2 : ((i - 1 : Nat) : Int) < (n : Int) := by omega
      have k3 : (0 : Int) ≤ ((i - 1 : Nat) : Int) := by omega
      clear hrise hbw hbx HFA HSL HCU HA
      generalize l[i].1 = za at *
      generalize l[i - 1].1 = zb at *
      by_cases hle : za ≤ zb
      · have k4 : decide (za ≤ zb) = true := decide_eq_true hle
        clear HRI
        go_wp2_with fail
        go_quiet (fail)
        go_wp2_with fail
        refine (HAW.out _ (HBW.out.trans ((Arr.below_drewN (Below.refl _ _) _).mono HBW.out.size))).mono ?_
        rintro e w99 ⟨rfl, hb⟩
        have HB99 := Lib.hid ((HBW.out.trans ((Arr.below_drewN (Below.refl wr.heap.size wr) _).mono HBW.out.size)).trans (hb.mono (by have := HBW.out.size; simpa using this)))
        clear hb
        go_wp2_with fail
        go_ret
        exact ⟨by first | rfl | simp, HB99.out⟩
      · have k4 : decide (za ≤ zb) = false := decide_eq_false hle
        have HRJ := Lib.hid (HRI.out (by omega))
        clear HRI
        go_wp2_with fail
        go_quiet (fail)
        go_wp2_with fail
        go_roundw
        case rel => exact ⟨i + 1, by omega, by go_num, HBW.out.trans ((Arr.below_drewN (Below.refl _ _) _).mono HBW.out.size), HBX.out, HRJ.out⟩
        case measure => simp [RowKit.intOf]; omega
    · have HRI := Lib.hid (fun k (h2 : k + 1 < l.length) => hrise k h2 (by rw [HL.out] at h2; omega))
      have k0 : decide ((i : Int) < (n : Int)) = false := decide_eq_false (by omega)
      obtain ⟨⟨b0, b1, b2, b3, b4⟩, _⟩ := cell5 hbx
      clear hrise hbw hbx HA
      go_wp2_with fail
      refine (HSL.out _ HBW.out).mono ?_
      rintro e w2 ⟨A2, c2, rfl, hcu, hle, hb⟩
      have HB2 := Lib.hid (HBW.out.trans (hb.mono HBW.out.size))
      have HX2 := Lib.hid (box_kept HBX.out hb)
      have HU2 := Lib.hid hcu
      clear hcu hle hb b0 b1 b2 b3 b4 HSL HBX HBW k0
      by_cases h0 : errP n m (ofC l).length x para W al = 0
      · rw [h0]
        obtain ⟨N, f, s, t, D, V, rfl, hN1, hN2, hxf, hxs, hxt, q1, q2, q3, hSl, p0, p1, p2, p3⟩ := HFA.out HRI.out h0
        have hcn2 := HCN.out
        have hwi := HWI.out
        generalize ansP l lv x para N al = S at *
        rw [hSl]
        generalize ofC l = C at *
        have hwd : ∀ q, q < C.length → ((C.getD q d6).w.toNat : Int) = (C.getD q d6).w ∧ (C.getD q d6).w ≤ 2 := fun q hq => by
          rw [getD_at hq]
          have := hwi _ (List.getElem_mem hq)
          omega
        have hV : ∀ k, f + k ≤ s → V (f + k) ≤ 2 * k := fun k => by
          induction k with
          | zero => intro _; rw [Nat.add_zero, p0]; omega
          | succ k ih =>
            intro hk
            have h3 := p1 (f + k) (by omega)
            have h4 := ih (by omega)
            have h5 := hwd (f + k) (by omega)
            rw [show f + (k + 1) = f + k + 1 from by omega]
            omega
        have hmo : ∀ k q, q + k = s → f ≤ q → V q ≤ V s := fun k => by
          induction k with
          | zero => intro q h1 h2; rw [Nat.add_zero] at h1; rw [h1]; exact Nat.le_refl _
          | succ k ih =>
            intro q h1 h2
            have h3 := p1 q h2
            have h4 := ih (q + 1) (by omega) (by omega)
            omega
        have HMO := Lib.hid (fun q (h1 : f ≤ q) (h2 : q ≤ s) => hmo (s - q) q (by omega) h1)
        have HP1 := Lib.hid p1
        have HP3 := Lib.hid p3
        have HV := Lib.hid (fun q (h1 : f ≤ q) (h2 : q ≤ s) => (show V q ≤ 400 from by
          have := hV (q - f) (by omega)
          rw [show f + (q - f) = q from by omega] at this
          omega))
        have HWD := Lib.hid hwd
        have HLS := Lib.hid hSl
        clear HFA HNO HRI HCN HWI HL h0 p1 p3 hV hmo hwd hSl hwi hm
        have hcl : C.length ≤ 200 := by omega
        clear hcn2
        obtain ⟨cn, hcn3⟩ : ∃ cn, C.length = cn := ⟨_, rfl⟩
        have HLC := Lib.hid hcn3
        rw [hcn3] at q3 HCU hcl
        clear hcn3
        obtain ⟨xf, xt, xs, xh, xd⟩ := x
        simp only at hxf hxs hxt p2 HX2
        subst hxf hxs hxt
        go_wp2_with fail
        refine (HCU.out _ HB2.out).mono ?_
        rintro e w3 ⟨A3, c3, rfl, hcl2, hb⟩
        have HB3 := Lib.hid (HB2.out.trans (hb.mono HB2.out.size))
        have HX3 := Lib.hid (box_kept HX2.out hb)
        have HU3 := Lib.hid (HU2.out.below hb)
        have HC3 := Lib.hid hcl2
        clear hcl2 hb HX2 HU2 HCU
        obtain ⟨⟨b0, b1, b2, b3, b4⟩, _⟩ := cell5 HX3.out
        have hdt : decide ((cn : Int) < (t : Int)) = false := decide_eq_false (by omega)
        have hd : xd = 1 := HD.out
        · have hD : D = 1 := by rw [p2, if_pos hd]
          have hxd : (xd == (1 : Int)) = true := beq_iff_eq.2 hd
          subst hD
          clear p2
          have e0 : IntKind.i64.wrap ((N : Int) - 1) = (N : Int) - 1 := IntWalk.i64_in _ (by omega)
          go_wp2_with fail
          go_loopw [17, 18] (fun s17 s18 wx => ∃ (q : Nat) (r : Int), f ≤ q ∧ q ≤ s ∧ s18 = .int .i64 q ∧ s17 = .int .i64 r ∧ r = (N : Int) - 1 - (V q : Nat) ∧ Below w3.heap.size w3 wx) (fun _ s18 _ => s - (RowKit.intOf s18).toNat)
          case atStart => exact ⟨f, _, Nat.le_refl _, q1, rfl, rfl, by rw [p0]; omega, Below.refl _ _⟩
          case round =>
            clear b0 b1 b2 b3 b4 e0
            obtain ⟨q, r, hq, hqs, rfl, rfl, hr, hbw⟩ := hrel
            have HBW := Lib.hid hbw
            obtain ⟨⟨b0, b1, b2, b3, b4⟩, _⟩ := cell5 (box_kept HX3.out hbw)
            rcases Nat.lt_or_ge q s with hlt | hge
            · have hql : q < C.length := by rw [HLC.out]; omega
              have hp1 := HP1.out q hq
              have hv1 := HV.out q hq hqs
              have hv2 := HV.out (q + 1) (by omega) (by omega)
              obtain ⟨hw1, hw2⟩ := HWD.out q hql
              obtain ⟨g, off, rfl, hg, c0, c1', c2', c3', c4, c5⟩ := (HC3.out.below hbw).at_ hql
              rw [getD_at hql] at hp1 hw1 hw2
              clear HP1 HP3 HV HWD HU3 HC3 HMO hbw
              generalize C[q] = y at *
              generalize y.w = yw at *
              have k0 : (q : Int) < (s : Int) := by omega
              have k1 : (q : Int) < (cn : Int) := by omega
              have k2 : (0 : Int) ≤ (q : Int) := by omega
              have e1 : IntKind.i64.wrap (r - yw) = r - yw := IntWalk.i64_in _ (by omega)
              have HR := Lib.hid (show r - yw = (N : Int) - 1 - (V (q + 1) : Nat) from by omega)
              clear hr hp1 hv1 hv2 hw1 hw2
              go_wp2_with fail
              go_roundw
              case rel => exact ⟨q + 1, _, by omega, by omega, by go_num, rfl, HR.out, HBW.out⟩
              case measure => simp [RowKit.intOf]; omega
            · obtain rfl : s = q := by omega
              have k0 : decide ((s : Int) < (s : Int)) = false := decide_eq_false (by omega)
              by_cases hneg : r < 0
              · have k1 : decide (r < 0) = true := decide_eq_true hneg
                have HB4 := Lib.hid (HB3.out.trans (HBW.out.mono HB3.out.size))
                clear HP1 HP3 HV HWD HU3 HC3 HMO hbw hr
                go_wp2_with fail
                refine (HAW.out _ HB4.out).mono ?_
                rintro e w99 ⟨rfl, hb⟩
                have HB99 := Lib.hid (HB4.out.trans (hb.mono HB4.out.size))
                clear hb
                go_wp2_with fail
                go_ret
                exact ⟨by first | rfl | simp, HB99.out⟩
              · have k1 : decide (r < 0) = false := decide_eq_false hneg
                obtain ⟨cT, cD, t0, u0, tN, uN, hst, hpos⟩ := HP3.out (by omega)
                have HST := Lib.hid hst
                have HPO := Lib.hid hpos
                have HTN := Lib.hid tN
                have HUN := Lib.hid uN
                clear hst hpos HP3 hr hbw tN uN
                go_wp2_with fail
                go_loopw [19, 20, 21] (fun s19 s20 s21 wx => ∃ i : Nat, i ≤ N ∧ s21 = .int .i64 i ∧ s19 = .int .i64 (cT i : Nat) ∧ s20 = .int .i64 (cD i : Nat) ∧ cT i ≤ i ∧ cD i ≤ i ∧ Below w3.heap.size w3 wx) (fun _ _ s21 _ => N - (RowKit.intOf s21).toNat)
                case atStart => exact ⟨0, Nat.zero_le _, rfl, by rw [t0]; rfl, by rw [u0]; rfl, by omega, by omega, HBW.out⟩
                case round =>
                  clear b0 b1 b2 b3 b4 HBW k0 k1 hneg t0 u0
                  obtain ⟨i, hi, rfl, rfl, rfl, ht, hu, hbw⟩ := hrel
                  have HBW := Lib.hid hbw
                  rcases Nat.lt_or_ge i N with hlt | hge2
                  · obtain ⟨y, hy, hyc⟩ := HST.out i hlt
                    obtain ⟨hyl, hye⟩ := List.getElem?_eq_some_iff.1 hy
                    obtain ⟨g2, off2, rfl, hg2, d0', -⟩ := (HU3.out.below hbw).at_ hyl
                    rw [hye] at d0'
                    have k0 : (i : Int) < (N : Int) := by omega
                    have k1 : (0 : Int) ≤ (i : Int) := by omega
                    clear HP1 HV HWD HU3 HC3 HMO HST HPO HTN HUN hbw hy hyl hye
                    have HHH := Lib.hid hyc
                    clear hyc
                    obtain ⟨T1, hT1⟩ : ∃ T1, cT i = T1 := ⟨_, rfl⟩
                    obtain ⟨U1, hU1⟩ : ∃ U1, cD i = U1 := ⟨_, rfl⟩
                    rw [hT1] at ht ⊢
                    rw [hU1] at hu ⊢
                    have hyc := HHH.out
                    rw [hT1, hU1] at hyc
                    clear HHH hT1 hU1
                    rcases hyc with ⟨ha, h5, h6⟩ | ⟨ha, h5, h6⟩ | ⟨ha, h5, h6⟩
                    · have HRE := Lib.hid (And.intro h5 h6)
                      clear h5 h6
                      rw [ha] at d0'
                      go_wp2_with fail
                      go_roundw
                      case rel => exact ⟨i + 1, by omega, by go_num, by rw [HRE.out.1]; go_num, by rw [HRE.out.2], by rw [HRE.out.1]; omega, by rw [HRE.out.2]; omega, HBW.out⟩
                      case measure => simp [RowKit.intOf]; omega
                    · have HRE := Lib.hid (And.intro h5 h6)
                      clear h5 h6
                      rw [ha] at d0'
                      go_wp2_with fail
                      go_roundw
                      case rel => exact ⟨i + 1, by omega, by go_num, by rw [HRE.out.1], by rw [HRE.out.2]; go_num, by rw [HRE.out.1]; omega, by rw [HRE.out.2]; omega, HBW.out⟩
                      case measure => simp [RowKit.intOf]; omega
                    · have HRE := Lib.hid (And.intro h5 h6)
                      clear h5 h6
                      rw [ha] at d0'
                      go_wp2_with fail
                      go_roundw
                      case rel => exact ⟨i + 1, by omega, by go_num, by rw [HRE.out.1], by rw [HRE.out.2], by rw [HRE.out.1]; omega, by rw [HRE.out.2]; omega, HBW.out⟩
                      case measure => simp [RowKit.intOf]; omega
                  · obtain rfl : N = i := by omega
                    have k0 : decide ((N : Int) < (N : Int)) = false := decide_eq_false (by omega)
                    rw [HTN.out, show ((cD N : Nat) : Int) = 1 from by rw [HUN.out]; rfl]
                    obtain ⟨⟨b0, b1, b2, b3, b4⟩, _⟩ := cell5 (box_kept HX3.out hbw)
                    clear HST HTN HUN hbw ht hu
                    go_wp2_with fail
                    go_loopw [19, 22] (fun s19 s22 wx => ∃ q v : Nat, f ≤ q ∧ q ≤ s ∧ s22 = .int .i64 q ∧ s19 = .int .i64 v ∧ v + V q = V s ∧ Below w3.heap.size w3 wx) (fun _ s22 _ => s - (RowKit.intOf s22).toNat)
                    case atStart => exact ⟨f, V s, Nat.le_refl _, q1, rfl, rfl, by rw [p0]; rfl, HBW.out⟩
                    case round =>
                      clear b0 b1 b2 b3 b4 HBW k0
                      obtain ⟨q, v, hq, hqs, rfl, rfl, hr, hbw⟩ := hrel
                      have HBW := Lib.hid hbw
                      obtain ⟨⟨b0, b1, b2, b3, b4⟩, _⟩ := cell5 (box_kept HX3.out hbw)
                      rcases Nat.lt_or_ge q s with hlt | hge
                      · have hql : q < C.length := by rw [HLC.out]; omega
                        have h0S : 0 < S.length := by rw [HLS.out]; omega
                        have hp1 := HP1.out q hq
                        have hv1 := HV.out s (by omega) (Nat.le_refl _)
                        have hm2 := HMO.out (q + 1) (by omega) (by omega)
                        have hpo := HPO.out q hq hlt
                        obtain ⟨hw1, hw2⟩ := HWD.out q hql
                        obtain ⟨g, off, rfl, -⟩ := (HC3.out.below hbw).at_ hql
                        obtain ⟨g2, off2, rfl, -⟩ := (HU3.out.below hbw).at_ h0S
                        have HCA := Lib.hid (fun U (h : Below w3.heap.size w3 U) => cu_at (HC3.out.below h) hql)
                        have HSA := Lib.hid (fun U (h : Below w3.heap.size w3 U) k (hk : k < S.length) => cu_at (HU3.out.below h) hk)
                        rw [getD_at hql] at hp1 hw1 hw2 hpo
                        clear HP1 HV HWD HU3 HC3 HMO HPO hbw
                        generalize C[q] = y at *
                        obtain ⟨ya, yz, yf, yt, yw, yc⟩ := y
                        simp only at hp1 hw1 hw2 hpo HCA
                        have k0 : (q : Int) < (s : Int) := by omega
                        have k1 : (q : Int) < (cn : Int) := by omega
                        have k2 : (0 : Int) ≤ (q : Int) := by omega
                        have k3 : (0 : Int) < (N : Int) := by omega
                        have e2 : IntKind.i64.wrap ((v : Int) - yw) = ((v - yw.toNat : Nat) : Int) := by rw [IntWalk.i64_in _ (by omega)]; omega
                        have HRV := Lib.hid (show v - yw.toNat + V (q + 1) = V s from by omega)
                        rcases Int.lt_or_le 0 yw with hw | hw
                        · obtain ⟨p, dd, g1, g3, g4⟩ := hpo hw
                          have HG3 := Lib.hid g3
                          have HG4 := Lib.hid g4
                          have k4 : decide (0 < yw) = true := decide_eq_true hw
                          clear hpo g3 g4 hp1 hr hm2 hv1 hw2
                          go_wp2_with fail
                          go_loopw [23, 24] (fun s23 s24 wx => ∃ k : Nat, k ≤ N ∧ s24 = .int .i64 k ∧ (k ≤ p ∧ s23 = .int .i64 (-1) ∨ p < k ∧ s23 = .int .i64 p) ∧ Below w3.heap.size w3 wx) (fun _ s24 _ => N - (RowKit.intOf s24).toNat)
                          case atStart => exact ⟨0, Nat.zero_le _, rfl, .inl ⟨Nat.zero_le _, rfl⟩, HBW.out⟩
                          case round =>
                            clear b0 b1 b2 b3 b4 HBW
                            obtain ⟨k, hk, rfl, hat, hbw⟩ := hrel
                            have HBW := Lib.hid hbw
                            obtain ⟨hgl, c0, c1', c2', c3', c4, c5⟩ := HCA.out _ hbw
                            rcases Nat.lt_or_ge k N with hkN | hkN
                            · have hkl : k < S.length := by rw [HLS.out]; exact hkN
                              obtain ⟨hgl2, d0', d1, d2, d3, d4, d5⟩ := HSA.out _ hbw k hkl
                              have k5 : (k : Int) < (N : Int) := by omega
                              have k6 : (0 : Int) ≤ (k : Int) := by omega
                              have hx := HG4.out k S[k] (List.getElem?_eq_getElem hkl)
                              by_cases hkp : k = p
                              · subst hkp
                                have hsk := HG3.out 0 (by omega)
                                rw [Nat.add_zero, List.getElem?_eq_getElem hkl] at hsk
                                injection hsk with hsk
                                rw [hsk] at d0' d1 d2 d3 d4 d5
                                unfold txtS at d0' d1 d2 d3 d4 d5
                                simp only at d0' d1 d2 d3 d4 d5
                                rcases hat with ⟨_, rfl⟩ | ⟨h, _⟩
                                · clear HG3 HG4 HCA HSA hx hsk hbw hkl e2
                                  go_wp2_with fail
                                  go_quiet (fail)
                                  go_wp2_with fail
                                  go_roundw
                                  case rel => exact ⟨k + 1, by omega, by go_num, .inr ⟨by omega, rfl⟩, HBW.out.trans ((Arr.below_drewN (Below.refl _ _) _).mono HBW.out.size)⟩
                                  case measure => simp [RowKit.intOf]; omega
                                · exfalso
                                  omega
                              · have hno : ¬ (S[k].a = 4 ∧ S[k].t = ya ∧ S[k].w = 0) := fun h => hkp (hx h.1 h.2.1 h.2.2)
                                have HAT := Lib.hid (hat.imp (fun h => And.intro (show k + 1 ≤ p from by have := h.1; omega) h.2) (fun h => And.intro (show p < k + 1 from by have := h.1; omega) h.2))
                                clear HG3 HG4 HCA HSA hx hbw hat e2
                                generalize S[k] = z at *
                                obtain ⟨za, zz, zf, zt, zw, zc⟩ := z
                                simp only at hno d0' d1 d2 d3 d4 d5
                                by_cases h1 : za = 4
                                · have t1 : (za == (4 : Int)) = true := beq_iff_eq.2 h1
                                  by_cases h2 : zt = ya
                                  · have t2 : (zt == ya) = true := beq_iff_eq.2 h2
                                    have t3 : (zw == (0 : Int)) = false := beq_eq_false_iff_ne.2 (fun h3 => hno ⟨h1, h2, h3⟩)
                                    clear hno h1 h2 hkp hkl
                                    go_wp2_with fail
                                    go_quiet (fail)
                                    go_wp2_with fail
                                    go_roundw
                                    case rel => exact ⟨k + 1, by omega, by go_num, HAT.out, HBW.out.trans ((Arr.below_drewN (Below.refl _ _) _).mono HBW.out.size)⟩
                                    case measure => simp [RowKit.intOf]; omega
                                  · have t2 : (zt == ya) = false := beq_eq_false_iff_ne.2 h2
                                    clear hno h1 h2 hkp hkl
                                    go_wp2_with fail
                                    go_quiet (fail)
                                    go_wp2_with fail
                                    go_roundw
                                    case rel => exact ⟨k + 1, by omega, by go_num, HAT.out, HBW.out.trans ((Arr.below_drewN (Below.refl _ _) _).mono HBW.out.size)⟩
                                    case measure => simp [RowKit.intOf]; omega
                                · have t1 : (za == (4 : Int)) = false := beq_eq_false_iff_ne.2 h1
                                  clear hno h1 hkp hkl
                                  go_wp2_with fail
                                  go_quiet (fail)
                                  go_wp2_with fail
                                  go_roundw
                                  case rel => exact ⟨k + 1, by omega, by go_num, HAT.out, HBW.out.trans ((Arr.below_drewN (Below.refl _ _) _).mono HBW.out.size)⟩
                                  case measure => simp [RowKit.intOf]; omega
                            · obtain rfl : N = k := by omega
                              rcases hat with ⟨h, _⟩ | ⟨_, rfl⟩
                              · exfalso
                                omega
                              have k5 : decide ((N : Int) < (N : Int)) = false := decide_eq_false (by omega)
                              have k6 : decide ((p : Int) < 0) = false := decide_eq_false (by omega)
                              have k7 : IntKind.i64.wrap ((p : Int) + yw) = (p : Int) + yw := IntWalk.i64_in _ (by omega)
                              have k8 : decide ((N : Int) < (p : Int) + yw) = false := decide_eq_false (by omega)
                              clear HG4 hbw
                              go_wp2_with fail
                              go_loopw [25] (fun s25 wx => ∃ k : Nat, 1 ≤ k ∧ s25 = .int .i64 k ∧ Below w3.heap.size w3 wx) (fun s25 _ => yw.toNat - (RowKit.intOf s25).toNat)
                              case atStart => exact ⟨1, Nat.le_refl _, rfl, HBW.out⟩
                              case round =>
                                clear c0 c1' c2' c3' c4 c5 HBW hgl k5 k6 k7 k8
                                obtain ⟨k, hk1, rfl, hbw⟩ := hrel
                                have HBW := Lib.hid hbw
                                obtain ⟨hgl, c0, c1', c2', c3', c4, c5⟩ := HCA.out _ hbw
                                rcases Nat.lt_or_ge k yw.toNat with hkw | hkw
                                · have hs1 := HG3.out k hkw
                                  have hs0 := HG3.out 0 (by omega)
                                  rw [Nat.add_zero] at hs0
                                  obtain ⟨j1, j2⟩ := List.getElem?_eq_some_iff.1 hs1
                                  obtain ⟨j3, j4⟩ := List.getElem?_eq_some_iff.1 hs0
                                  obtain ⟨hgl2, d0', d1, d2, d3, d4, d5⟩ := HSA.out _ hbw _ j1
                                  obtain ⟨-, f0, f1, f2, f3, f4, f5⟩ := HSA.out _ hbw _ j3
                                  rw [j2] at d0' d1 d2 d3 d4 d5
                                  rw [j4] at f0 f1 f2 f3 f4 f5
                                  unfold txtS at d0' d1 d2 d3 d4 d5 f0 f1 f2 f3 f4 f5
                                  simp only at d0' d1 d2 d3 d4 d5 f0 f1 f2 f3 f4 f5
                                  have e1 : IntKind.i64.wrap ((p : Int) + (k : Int)) = ((p + k : Nat) : Int) := by rw [IntWalk.i64_in _ (by omega)]; omega
                                  have k5 : ((p + k : Nat) : Int) < (N : Int) := by omega
                                  have k6 : (0 : Int) ≤ ((p + k : Nat) : Int) := by omega
                                  have k7 : (k : Int) < yw := by omega
                                  have k8 : (p : Int) < (N : Int) := by omega
                                  have k9 : (0 : Int) ≤ (p : Int) := by omega
                                  clear HG3 HCA HSA hs1 hs0 j1 j2 j3 j4 hbw e2
                                  generalize p + k = u at *
                                  go_wp2_with fail
                                  go_quiet (fail)
                                  go_wp2_with fail
                                  go_roundw
                                  case rel => exact ⟨k + 1, by omega, by go_num, HBW.out.trans ((Arr.below_drewN (Below.refl _ _) _).mono HBW.out.size)⟩
                                  case measure => simp [RowKit.intOf]; omega
                                · have k5 : decide ((k : Int) < yw) = false := decide_eq_false (by omega)
                                  clear HG3 HCA HSA hbw
                                  obtain ⟨v2, hv2⟩ : ∃ v2, v - yw.toNat = v2 := ⟨_, rfl⟩
                                  rw [hv2] at e2 HRV
                                  clear hv2
                                  go_wp2_with fail
                                  go_roundw
                                  case rel => exact ⟨q + 1, v2, by omega, by omega, by go_num, rfl, HRV.out, HBW.out⟩
                                  case measure => simp [RowKit.intOf]; omega
                        · obtain rfl : yw = 0 := by omega
                          have hRV := HRV.out
                          simp only [Int.toNat_zero, Nat.sub_zero] at hRV
                          have e3 : IntKind.i64.wrap (v : Int) = (v : Int) := IntWalk.i64_in _ (by omega)
                          clear hpo hp1 hr hm2 hv1 hw2 hw1 hw HSA e2 HRV
                          have HRV := Lib.hid hRV
                          clear hRV
                          go_wp2_with fail
                          go_loopw [23, 24] (fun s23 s24 wx => s23 = .int .i64 (-1) ∧ s24 = .int .i64 0 ∧ Below w3.heap.size w3 wx) (fun _ _ _ => 0)
                          case atStart => exact ⟨rfl, rfl, HBW.out⟩
                          case round =>
                            clear b0 b1 b2 b3 b4 HBW
                            obtain ⟨rfl, rfl, hbw⟩ := hrel
                            have HBW := Lib.hid hbw
                            obtain ⟨hgl, c0, c1', c2', c3', c4, c5⟩ := HCA.out _ hbw
                            clear hbw
                            go_wp2_with fail
                            go_loopw [25] (fun s25 wx => s25 = .int .i64 1 ∧ Below w3.heap.size w3 wx) (fun _ _ => 0)
                            case atStart => exact ⟨rfl, HBW.out⟩
                            case round =>
                              clear c0 c1' c2' c3' c4 c5 HBW hgl
                              obtain ⟨rfl, hbw⟩ := hrel
                              have HBW := Lib.hid hbw
                              obtain ⟨hgl, c0, c1', c2', c3', c4, c5⟩ := HCA.out _ hbw
                              clear hbw HCA
                              go_wp2_with fail
                              go_roundw
                              case rel => exact ⟨q + 1, v, by omega, by omega, by go_num, rfl, HRV.out, HBW.out⟩
                              case measure => simp [RowKit.intOf]; omega
                      · obtain rfl : s = q := by omega
                        obtain rfl : v = 0 := by omega
                        have k0 : decide ((s : Int) < (s : Int)) = false := decide_eq_false (by omega)
                        have HB5 := Lib.hid (HB3.out.trans (HBW.out.mono HB3.out.size))
                        clear HP1 HV HWD HU3 HC3 HMO HPO hbw hr
                        go_wp2_with fail
                        refine (HAW.out _ HB5.out).mono ?_
                        rintro e w99 ⟨rfl, hb⟩
                        have HB99 := Lib.hid (HB5.out.trans (hb.mono HB5.out.size))
                        clear hb
                        go_wp2_with fail
                        go_ret
                        exact ⟨by first | rfl | simp, HB99.out⟩
      · have her : (errP n m (ofC l).length x para W al == (0 : Int)) = false := beq_eq_false_iff_ne.2 h0
        have her2 : (errP n m (ofC l).length x para W al != (0 : Int)) = true := bne_iff_ne.2 h0
        rw [HNO.out h0]
        generalize errP n m (ofC l).length x para W al = er at *
        clear HFA HNO HRI HCN HWI HL HU2 HX2 HCU
        simp only [List.length_nil]
        go_wp2_with fail
        refine (HAW.out _ HB2.out).mono ?_
        rintro e w99 ⟨rfl, hb⟩
        have HB99 := Lib.hid (HB2.out.trans (hb.mono HB2.out.size))
        clear hb
        go_wp2_with fail
        go_ret
        exact ⟨by first | rfl | simp, HB99.out⟩
end Go.Proofs.YtlocnjenkanmpaaDoor.Pl
