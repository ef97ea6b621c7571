/-
  Proved here: for every row of numbers and every number SeqsBoth returns true (where there is no B, an initiator and its PDI stand in one sequence, where the row is of at most 500), and the row stays. No condition.
-/
import Derived.Test.YtehndhkcmccpmaaSqLawKit
import Derived.Test.YtehndhkcmccpmaaLawKit
import Derived.Test.YtehndhkcmccpmaaLawInts
import Derived.Stop.Joined
set_option linter.unusedVariables false
namespace Go.Proofs.Ytehndhkcmccpmaa.SeqsBoth
open Go.ChangeShapes Go.WideShapes Go.ChangeAt Go.RowKit Go.Lib Go.Proofs.Ytehndhkcmccpmaa.Lv Go.Proofs.Ytehndhkcmccpmaa.Cl Go.Proofs.Ytehndhkcmccpmaa.Sq Go.Proofs.Ytehndhkcmccpmaa.Ba

set_option maxHeartbeats 8000000 in
set_option maxRecDepth 1000000 in
theorem walk (w : World) (A : Option Addr) (zs : List Int) (c : Nat) (hr : IntsAt w A zs) (hnil : A = none → zs = [] ∧ c = 0) (hlz : zs.length ≤ 9223372036854775807) (hcap : zs.length ≤ c) (x : Int) :
    Calls Try.prog 9 #[.slice A zs.length c, .int .i64 x] w fun e w' => e = .returned (.bool true) ∧ Below w.heap.size w w' := by
  by_cases hbig : 500 < zs.length
  · go_enter Try.func9, Try.ntmps9
    go_wp2_with (go_at_call 15; refine (awake_any _).mono ?_; rintro e w' ⟨rfl, hb⟩)
    go_ret
    exact ⟨rfl, hb⟩
  · obtain ⟨b, hb, hbx⟩ := low_bit x
    obtain ⟨n, hn⟩ : ∃ n, zs.length = n := ⟨_, rfl⟩
    rw [hn] at hbig hcap ⊢
    have HN := Lib.hid hn
    have HR := Lib.hid hr
    have HSQ := Lib.hid (fun V (h : Below w.heap.size w V) => seqs_reads A zs (b : Int) n c V hn (hr.below h) (by omega) hcap)
    rw [zOf_B zs hb] at HSQ
    have HMT := Lib.hid (fun V (h : Below w.heap.size w V) => match_any A zs n c V hn (hr.below h) (by omega))
    have hzl : (zB zs b).length = n := by rw [zB_len, hn]
    have HZL := Lib.hid hzl
    clear hr hnil hn hlz hzl hb
    go_enter Try.func9, Try.ntmps9
    go_wp2_with fail
    go_loopw [5] (fun s5 wr => ∃ k : Nat, s5 = .int .i64 k ∧ k ≤ n ∧ (∀ y ∈ zs.take k, y ≠ 10) ∧ Below w.heap.size w wr) (fun s5 _ => n - (RowKit.intOf s5).toNat)
    case atStart => exact ⟨0, rfl, Nat.zero_le _, fun y hy => by simp at hy, Below.refl _ _⟩
    case round =>
      obtain ⟨k, rfl, hk, hno, hbb⟩ := hrel
      have HNO := Lib.hid hno
      have HB := Lib.hid hbb
      clear hno hbb
      by_cases hlt : k < n
      · have hkl : k < zs.length := by rw [HN.out]; exact hlt
        obtain ⟨bz, oz, rfl, hc⟩ := (HR.out.below HB.out).at_ hkl
        have HT := Lib.hid (show zs.take (k + 1) = zs.take k ++ [zs[k]] from List.take_succ_eq_append_getElem hkl)
        generalize zs[k] = q at *
        have hki : (0 : Int) ≤ (k : Int) := by omega
        have hki2 : (k : Int) < (n : Int) := by omega
        by_cases hq : q = 10
        · have kq : (q == 10) = true := by simpa using hq
          clear HT hq
          go_wp2_with (go_at_call 15; refine (awake_any _).mono ?_; rintro e w1 ⟨rfl, hb1⟩)
          go_ret
          exact ⟨rfl, HB.out.trans (hb1.mono HB.out.size)⟩
        · have kq : (q == 10) = false := by simpa using hq
          have HNO2 := Lib.hid (show ∀ y ∈ zs.take (k + 1), y ≠ 10 from fun y hy => by
            rw [HT.out] at hy
            rcases List.mem_append.1 hy with hy | hy
            · exact HNO.out y hy
            · simp at hy; rw [hy]; exact hq)
          clear HT hq
          go_wp2_with fail
          go_roundw
          case rel => exact ⟨k + 1, by simp, by omega, HNO2.out, HB.out⟩
          case measure => simp [RowKit.intOf]; omega
      · obtain rfl : k = n := by omega
        have HNB := Lib.hid (show ∀ y ∈ zs, y ≠ 10 from fun y hy => HNO.out y (by rw [← HN.out, List.take_length]; exact hy))
        clear HNO
        go_wp2_with fail
        refine (HSQ.out _ HB.out).mono ?_
        rintro e w2 ⟨A1, c1, T, rfl, hT, hall, hb2⟩
        have HALL := Lib.hid hall
        have HB2 := Lib.hid (HB.out.trans (hb2.mono HB.out.size))
        have htl : T.length ≤ k := by have := hall.len; rw [HZL.out] at this; exact this
        have HWH := Lib.hid (where_any A1 T T.length c1 k w2 rfl hT (by omega) (by omega) hall.uniq hall.up (fun s hs p hp => by have := hall.lt s hs p hp; rw [HZL.out] at this; exact this) (fun s hs => by have := hall.sl s hs; rw [HZL.out] at this; exact this))
        obtain ⟨tl, htl2⟩ : ∃ tl, T.length = tl := ⟨_, rfl⟩
        rw [htl2] at HWH ⊢
        have HTL := Lib.hid htl2
        clear hT hall hb2 htl htl2
        go_wp2_with fail
        refine HWH.out.mono ?_
        rintro e w3 ⟨v, f, rfl, hown, hwp, hb3⟩
        obtain ⟨Aw, cw, rfl, hiw⟩ := intsAt_icl hown (wl_len k f)
        have HWP := Lib.hid hwp
        have HB3 := Lib.hid (HB2.out.trans (hb3.mono HB2.out.size))
        have HIW := Lib.hid hiw
        clear hown hwp hb3 hiw
        go_wp2_with fail
        refine (HMT.out _ HB3.out).mono ?_
        rintro e w4 ⟨g, rfl, hmo, hb4⟩
        obtain ⟨Am, cm, hve, him⟩ := intsAt_icl hmo (by rw [matchL_len, HN.out])
        obtain ⟨rfl, rfl⟩ : some ⟨g, 0, none⟩ = Am ∧ k = cm := by injection hve with e1 e2 e3; exact ⟨e1, e3⟩
        have HB4 := Lib.hid (HB3.out.trans (hb4.mono HB3.out.size))
        have HIW4 := Lib.hid (HIW.out.below hb4)
        have HIM4 := Lib.hid him
        clear hmo hb4 him hve HIW HWH HMT HSQ
        go_wp2_with fail
        go_loopw [8] (fun s8 V => ∃ i : Nat, s8 = .int .i64 i ∧ i ≤ k ∧ Below w4.heap.size w4 V) (fun s8 _ => k - (RowKit.intOf s8).toNat)
        case atStart => exact ⟨0, rfl, Nat.zero_le _, Below.refl _ _⟩
        case round =>
          obtain ⟨i, rfl, hi, hbi⟩ := hrel
          have HBI := Lib.hid hbi
          clear hbi
          have HBV := Lib.hid (HB4.out.trans (HBI.out.mono HB4.out.size))
          by_cases hlt2 : i < k
          · have hil : i < zs.length := by rw [HN.out]; exact hlt2
            have hii : (0 : Int) ≤ (i : Int) := by omega
            have hii2 : (i : Int) < (k : Int) := by omega
            have hmt : (matchL zs)[i]? = some (mtK zs zs.length i) := by
              rw [List.getElem?_eq_getElem (by rw [matchL_len]; exact hil), matchL_at zs i hil]
            obtain ⟨bz, oz, rfl, hcz⟩ := (HR.out.below HBV.out).at_ hil
            by_cases hq : zs[i] = 22
            · have hP : isP zs[i] = true := by rw [hq]; rfl
              have hmp := mt_P (k := zs.length) hil hP
              cases hs : stk zs i with
              | nil =>
                have hm1 : mtK zs zs.length i = -1 := by rw [hmp, hs]
                rw [hm1] at hmt
                obtain ⟨bm, om, ebm, hcm⟩ := at_val (HIM4.out.below HBI.out) hmt
                obtain ⟨rfl, rfl⟩ : g = bm ∧ 0 = om := by injection ebm with e; injection e with e1 e2; exact ⟨e1, e2⟩
                rw [Nat.zero_add] at hcm
                rw [hq] at hcz
                clear hmt hmp hm1 hP hq hs ebm
                go_wp2_with fail
                go_quiet (fail)
                have HQ := Lib.hid (Arr.below_drewN HBI.out nq)
                go_wp2_with fail
                go_roundw
                case rel => exact ⟨i + 1, by simp, by omega, HQ.out⟩
                case measure => simp [RowKit.intOf]; omega
              | cons t r =>
                have hm1 : mtK zs zs.length i = (t : Int) := by rw [hmp, hs]
                obtain ⟨he, hti, hIt⟩ := ends_top hil hP hs
                have htl : t < zs.length := by omega
                rw [List.getElem?_eq_getElem htl] at hIt
                have hIt' : isI zs[t] = true := by simpa using hIt
                obtain ⟨idx, s, hs1, hs2, hs3⟩ := both_in HALL.out HNB.out htl hIt' (by rw [he]; exact hil)
                rw [he] at hs3
                have hf1 := HWP.out.at_ HTL.out hs1 hs2
                have hf2 := HWP.out.at_ HTL.out hs1 hs3
                have hw1 := wl_at (n := k) (f := f) (p := i) hlt2
                have hw2 := wl_at (n := k) (f := f) (p := t) (by omega)
                rw [hf2] at hw1
                rw [hf1] at hw2
                rw [hm1] at hmt
                obtain ⟨bm, om, ebm, hcm⟩ := at_val (HIM4.out.below HBI.out) hmt
                obtain ⟨rfl, rfl⟩ : g = bm ∧ 0 = om := by injection ebm with e; injection e with e1 e2; exact ⟨e1, e2⟩
                rw [Nat.zero_add] at hcm
                obtain ⟨bw, ow, rfl, hcw1, hcw2⟩ := two_vals (HIW4.out.below HBI.out) hw1 hw2
                rw [hq] at hcz
                have k1 : decide ((0 : Int) ≤ (t : Int)) = true := by simp
                have k2 : decide ((i : Int) ≤ (t : Int)) = false := by simp; omega
                have k3 : (0 : Int) ≤ (t : Int) := by omega
                have k4 : (t : Int) < (k : Int) := by omega
                have k5 : decide ((idx : Int) < 0) = false := by simp
                clear hmt hmp hm1 hP hq hs ebm he hIt hIt' hs1 hs2 hs3 hf1 hf2 hw1 hw2
                go_wp2_with fail
                go_quiet (fail)
                have HQ := Lib.hid (Arr.below_drewN HBI.out nq)
                go_wp2_with fail
                go_roundw
                case rel => exact ⟨i + 1, by simp, by omega, HQ.out⟩
                case measure => simp [RowKit.intOf]; omega
            · have kq : (zs[i] == 22) = false := by simpa using hq
              generalize zs[i] = q at *
              clear hmt hq
              go_wp2_with fail
              go_quiet (fail)
              have HQ := Lib.hid (Arr.below_drewN HBI.out nq)
              go_wp2_with fail
              go_roundw
              case rel => exact ⟨i + 1, by simp, by omega, HQ.out⟩
              case measure => simp [RowKit.intOf]; omega
          · obtain rfl : i = k := by omega
            go_wp2_with fail
            refine (awake_any _).mono ?_
            rintro e w5 ⟨rfl, hb5⟩
            have HE := Lib.hid (HBV.out.trans (hb5.mono HBV.out.size))
            clear hb5
            go_wp2_with fail
            go_ret
            exact ⟨rfl, HE.out⟩

set_option maxRecDepth 100000 in
theorem lifted (os : Os) (started : os.Started) (H : Type) (enc : TypeId × Value → H) :
    ReturnsInHanded {} Try.checked os 9 .any (Rows.seqsBothSpec.pre6 enc Try.prog Try.f9 Rows.seqsBothRow.domain false) (Rows.seqsBothSpec.post enc Try.prog Try.f9 false true false false) := by
  refine returnsInHanded_of_change (C := Try.checked) law_own started (by kernel_rfl) Try.func9
    (ChangeSpec.witness6 (enc := enc) (C := Try.checked) false ⟨#[], #[.slice none 0 0, .int .i64 0], []⟩ 8 (by kernel_rfl) (by kernel_rfl) (by kernel_rfl) (by kernel_rfl)) ?_
  intro W base args ds gs before hval0 hW _ _
  have hval : ∀ (j : Nat) t v, Try.f9.params[j]? = some t → args[j]? = some v → Value.okWide Try.prog W .any base t v := hval0
  have hW' := hW
  obtain ⟨p, q, hA0, hV, rfl, hfz, hnd⟩ := hW
  have hA : DataW.TrodAll enc Try.prog W 0 (fun _ => true) true Try.f9.params.toList args.toList ds p := hA0
  rw [Try.params9] at hA hval
  obtain ⟨v0, vs0, d0, ds0, p0, q0, hargs, rfl, rfl, h0, r0⟩ := ChangeShapes.trodAll_cons hA
  obtain ⟨v1, vs1, d1, ds1, p1, q1, rfl, rfl, rfl, h1, r1⟩ := ChangeShapes.trodAll_cons r0
  obtain ⟨rfl, rfl, rfl⟩ := ChangeShapes.trodAll_nil r1
  obtain rfl : args = #[v0, v1] := by cases args; simp_all
  obtain ⟨rfl, rfl⟩ := ChangeShapes.trodVars_none hV
  obtain ⟨A0, zs0, c0, rfl, hr0, hnil0, hl0, hz0, hc0⟩ := open_introwc (hval 0 22 v0 rfl rfl) h0
  obtain ⟨x1, rfl, rfl, rfl, wx1⟩ := open_int Try.underlying3 (hval 1 3 v1 rfl rfl) h1
  refine (walk W A0 zs0 c0 hr0 hnil0 hl0 hc0 x1).mono fun e W' ⟨he, hB⟩ => ?_
  subst he
  exact ⟨_, rfl, law_post hW' rfl rfl (by kernel_rfl) rfl hB⟩

theorem holds : Rows.SeqsBothSaid :=
  OpenClaim.holds_of_wide 9 Try.f9 rfl rfl rfl rfl rfl rfl rfl ⟨rfl, rfl, rfl, rfl, rfl⟩ rfl rfl rfl rfl rfl (by kernel_rfl) Try.func9 (by kernel_rfl)
    (of_decide_eq_true (by kernel_rfl)) (by unfold Func.isWrapper; first | (rw [if_pos (by decide +kernel)]; kernel_rfl) | (rw [if_neg (by decide +kernel)]; exact ⟨rfl, rfl⟩))
    (fun os started H enc _ => lifted os started H enc)
end Go.Proofs.Ytehndhkcmccpmaa.SeqsBoth
