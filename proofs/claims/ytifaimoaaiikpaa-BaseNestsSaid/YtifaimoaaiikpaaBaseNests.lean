/-
  Proved here: for every row of numbers BaseNests returns true (of at most 150 classes: each initiator that has a PDI is that one's, and stands ahead of it; of two such isolates the one stands in the other one, or they stand apart; behind an initiator without a PDI each PDI has an initiator behind that one), and the row stays. No condition.
-/
import Derived.Test.YtifaimoaaiikpaaBaAwake
import Derived.Test.YtifaimoaaiikpaaBaNest
import Derived.Test.YtifaimoaaiikpaaLawKit
import Derived.Test.YtifaimoaaiikpaaLawInts
import Derived.Stop.Joined
set_option linter.unusedVariables false
namespace Go.Proofs.Ytifaimoaaiikpaa.BaseNests
open Go.ChangeShapes Go.WideShapes Go.ChangeAt Go.RowKit Go.Lib Go.Proofs.Ytifaimoaaiikpaa.Ba Go.Proofs.Ytifaimoaaiikpaa.Cl Go.Proofs.Ytifaimoaaiikpaa.Rc
open Go.Proofs.Ytifaimoaaiikpaa.Ku (R3 RuAt cellsR cellsR_len cellsR_one ruAt_own infoR)

set_option maxHeartbeats 2000000 in
set_option maxRecDepth 100000 in
theorem walk (w : World) (A : Option Addr) (zs : List Int) (c : Nat) (hr : IntsAt w A zs) (hnil : A = none → zs = [] ∧ c = 0) (hlz : zs.length ≤ 9223372036854775807) (hzz : ∀ z ∈ zs, -9223372036854775808 ≤ z ∧ z ≤ 9223372036854775807) :
    Calls Try.prog 6 #[.slice A zs.length c] w fun e w' => e = .returned (.bool true) ∧ Below w.heap.size w w' := by
  by_cases hbig : 150 < zs.length
  · go_enter Try.func6, Try.ntmps6
    go_wp2_with (go_at_call 9; refine (awake_any _).mono ?_; rintro e w' ⟨rfl, hb⟩)
    go_ret
    exact ⟨rfl, hb⟩
  · obtain ⟨n, hn⟩ : ∃ n, zs.length = n := ⟨_, rfl⟩
    have HMA := Lib.hid (match_reads A zs n c w hn hr (by omega))
    rw [hn] at hbig hlz ⊢
    have HN := Lib.hid hn
    have HR := Lib.hid hr
    have HML := Lib.hid (matchL_len zs)
    have HMT := Lib.hid (fun i (h : i < zs.length) => matchL_at zs i h)
    have HNI := Lib.hid (fun i (h : i < zs.length) hi => nest_I h hi)
    have HNP := Lib.hid (fun i (h : i < zs.length) hi => nest_P h hi)
    have HNN := Lib.hid (fun i (h : i < zs.length) hp hi => mt_N (k := zs.length) h hp hi)
    have HII := Lib.hid (fun i k (h : i < zs.length) hi hik hke (hk : k < zs.length) hkI => nest_in_I h hi hik hke hk hkI)
    have HIP := Lib.hid (fun i k (h : i < zs.length) hi hik hke (hk : k < zs.length) hp => nest_in_P h hi hik hke hk hp)
    have c22 : ∀ c : Int, isP c = true → c = 22 := fun c h => by simpa [isP] using h
    have cnn : ∀ c : Int, isI c = false → (c == 19) = false ∧ (c == 20) = false ∧ (c == 21) = false := fun c h => by
      simp only [isI, Bool.or_eq_false_iff] at h
      exact h
    have H22 := Lib.hid c22
    have HCN := Lib.hid cnn
    have d150 : decide ((150 : Int) < (n : Int)) = false := decide_eq_false (by omega)
    clear hn hr hnil hlz hzz c22 cnn
    go_enter Try.func6, Try.ntmps6
    go_wp2_with fail
    refine HMA.out.mono ?_
    rintro e w1 ⟨g, rfl, -, hm1, hown1, hb1⟩
    have HCELL := Lib.hid (fun i (h : i < zs.length) => (show w1.cell? ⟨g, i, none⟩ = some (.int .i64 (mtK zs zs.length i)) from by
      obtain ⟨b', off', e, hc⟩ := hm1.at_ (k := i) (by rw [HML.out]; exact h)
      injection e with e
      injection e with e1 e2
      subst e1 e2
      rw [HMT.out i h, Nat.zero_add] at hc
      exact hc))
    have HR1 := Lib.hid (HR.out.below hb1)
    have HB1 := Lib.hid hb1
    clear hm1 hown1 hb1 HMA HR HMT HML
    go_wp2_with fail
    go_loop [5] (fun s5 => ∃ i : Nat, i ≤ n ∧ s5 = .int .i64 i) (fun s5 => n - (RowKit.intOf s5).toNat)
    case atStart => exact ⟨0, Nat.zero_le _, rfl⟩
    case round =>
      obtain ⟨i, hi, rfl⟩ := hrel
      by_cases hlt : i < n
      · have hil : i < zs.length := by rw [HN.out]; exact hlt
        obtain ⟨b, off, rfl, hc⟩ := HR1.out.at_ hil
        have hmc := HCELL.out i hil
        cases hI : isI zs[i] with
        | true =>
          obtain ⟨h1, h2, h3, h4⟩ := HNI.out i hil hI
          rw [h1] at hmc
          have HII2 := Lib.hid (fun k h => HII.out i k hil hI h)
          have HIP2 := Lib.hid (fun k h => HIP.out i k hil hI h)
          have HE := Lib.hid (fun he : endAt zs i < zs.length => (⟨(HCELL.out _ he).trans (by rw [(h4 he).2]), by rw [List.getElem?_eq_getElem he, H22.out _ (h4 he).1]⟩ : w1.cell? ⟨g, endAt zs i, none⟩ = some (.int .i64 (i : Int)) ∧ zs[endAt zs i]? = some 22))
          obtain ⟨e, he⟩ : ∃ e, endAt zs i = e := ⟨_, rfl⟩
          rw [HN.out] at h3
          simp only [he] at h2 h3 hmc HE HII2 HIP2
          generalize zs[i] = ci at *
          have d1 : decide (e ≤ i) = false := decide_eq_false (by omega)
          have d2 : decide (n < e) = false := decide_eq_false (by omega)
          have hP2 : (ci == 22) = false := by
            have := isI_not_isP hI
            simpa [isP] using this
          clear h1 h4 he
          by_cases hen : e < n
          · have d3 : decide (e < n) = true := decide_eq_true hen
            have hel : e < zs.length := by rw [HN.out]; exact hen
            obtain ⟨hme, hze0⟩ := HE.out hel
            have hze : zs[e] = 22 := by rw [List.getElem?_eq_getElem hel] at hze0; simpa using hze0
            clear hze0
            obtain ⟨b', off', hab, hce⟩ := HR1.out.at_ hel
            injection hab with hab
            injection hab with e1 e2
            subst e1 e2
            rw [hze] at hce
            clear HE hze
            go_wp2_with (first | (go_at_call 18; refine (opens_any _ _).mono ?_; rintro e w' ⟨rfl, rfl⟩))
            go_loop [7] (fun s7 => ∃ k : Nat, i < k ∧ k ≤ e ∧ s7 = .int .i64 k) (fun s7 => e - (RowKit.intOf s7).toNat)
            case atStart => exact ⟨i + 1, by omega, by omega, by go_num⟩
            case round =>
              obtain ⟨k, hik, hke, rfl⟩ := hrel
              by_cases hk2 : k < e
              · have hd : decide (k < e) = true := decide_eq_true hk2
                have hkl : k < zs.length := by rw [HN.out]; omega
                obtain ⟨b', off', hab, hck⟩ := HR1.out.at_ hkl
                injection hab with hab
                injection hab with e1 e2
                subst e1 e2
                have hmk := HCELL.out k hkl
                have HX1 := Lib.hid (HII2.out k hik hk2 hkl)
                have HX2 := Lib.hid (HIP2.out k hik hk2 hkl)
                have HX3 := Lib.hid (fun h => (HNI.out k hkl h).1)
                obtain ⟨y, hy⟩ : ∃ y, zs[k] = y := ⟨_, rfl⟩
                rw [hy] at hck HX1 HX2 HX3
                clear hy
                generalize mtK zs zs.length k = mk at *
                generalize endAt zs k = f at *
                cases hyI : isI y with
                | true =>
                  obtain rfl := HX3.out hyI
                  have hfe := HX1.out hyI
                  have hd2 : decide (e < f) = false := decide_eq_false (by omega)
                  have hy2 : (y == 22) = false := by
                    have := isI_not_isP hyI
                    simpa [isP] using this
                  clear HX1 HX2 HX3 hfe
                  go_wp2_with (first | (go_at_call 18; refine (opens_any _ _).mono ?_; rintro e w' ⟨rfl, rfl⟩))
                  go_round
                  case measure => simp [RowKit.intOf]; omega
                  case rel => exact ⟨k + 1, by omega, by omega, by go_num⟩
                | false =>
                  by_cases hyP : y = 22
                  · subst hyP
                    obtain ⟨t, rfl, hit⟩ := HX2.out rfl
                    have hd2 : decide (t ≤ i) = false := decide_eq_false (by omega)
                    clear HX1 HX2 HX3 hit
                    go_wp2_with (first | (go_at_call 18; refine (opens_any _ _).mono ?_; rintro e w' ⟨rfl, rfl⟩))
                    go_round
                    case measure => simp [RowKit.intOf]; omega
                    case rel => exact ⟨k + 1, by omega, by omega, by go_num⟩
                  · have hy2 : (y == 22) = false := by simpa using hyP
                    clear HX1 HX2 HX3 hyP
                    go_wp2_with (first | (go_at_call 18; refine (opens_any _ _).mono ?_; rintro e w' ⟨rfl, rfl⟩))
                    go_round
                    case measure => simp [RowKit.intOf]; omega
                    case rel => exact ⟨k + 1, by omega, by omega, by go_num⟩
              · have hd : decide (k < e) = false := decide_eq_false hk2
                go_wp2_with (first | (go_at_call 18; refine (opens_any _ _).mono ?_; rintro e w' ⟨rfl, rfl⟩))
                go_round
                case measure => simp [RowKit.intOf]; omega
                case rel => exact ⟨i + 1, by omega, by go_num⟩
          · have d3 : decide (e < n) = false := decide_eq_false hen
            clear HE
            go_wp2_with (first | (go_at_call 18; refine (opens_any _ _).mono ?_; rintro e w' ⟨rfl, rfl⟩))
            go_loop [7] (fun s7 => ∃ k : Nat, i < k ∧ k ≤ e ∧ s7 = .int .i64 k) (fun s7 => e - (RowKit.intOf s7).toNat)
            case atStart => exact ⟨i + 1, by omega, by omega, by go_num⟩
            case round =>
              obtain ⟨k, hik, hke, rfl⟩ := hrel
              by_cases hk2 : k < e
              · have hd : decide (k < e) = true := decide_eq_true hk2
                have hkl : k < zs.length := by rw [HN.out]; omega
                obtain ⟨b', off', hab, hck⟩ := HR1.out.at_ hkl
                injection hab with hab
                injection hab with e1 e2
                subst e1 e2
                have hmk := HCELL.out k hkl
                have HX1 := Lib.hid (HII2.out k hik hk2 hkl)
                have HX2 := Lib.hid (HIP2.out k hik hk2 hkl)
                have HX3 := Lib.hid (fun h => (HNI.out k hkl h).1)
                obtain ⟨y, hy⟩ : ∃ y, zs[k] = y := ⟨_, rfl⟩
                rw [hy] at hck HX1 HX2 HX3
                clear hy
                generalize mtK zs zs.length k = mk at *
                generalize endAt zs k = f at *
                cases hyI : isI y with
                | true =>
                  obtain rfl := HX3.out hyI
                  have hfe := HX1.out hyI
                  have hd2 : decide (e < f) = false := decide_eq_false (by omega)
                  have hy2 : (y == 22) = false := by
                    have := isI_not_isP hyI
                    simpa [isP] using this
                  clear HX1 HX2 HX3 hfe
                  go_wp2_with (first | (go_at_call 18; refine (opens_any _ _).mono ?_; rintro e w' ⟨rfl, rfl⟩))
                  go_round
                  case measure => simp [RowKit.intOf]; omega
                  case rel => exact ⟨k + 1, by omega, by omega, by go_num⟩
                | false =>
                  by_cases hyP : y = 22
                  · subst hyP
                    obtain ⟨t, rfl, hit⟩ := HX2.out rfl
                    have hd2 : decide (t ≤ i) = false := decide_eq_false (by omega)
                    clear HX1 HX2 HX3 hit
                    go_wp2_with (first | (go_at_call 18; refine (opens_any _ _).mono ?_; rintro e w' ⟨rfl, rfl⟩))
                    go_round
                    case measure => simp [RowKit.intOf]; omega
                    case rel => exact ⟨k + 1, by omega, by omega, by go_num⟩
                  · have hy2 : (y == 22) = false := by simpa using hyP
                    clear HX1 HX2 HX3 hyP
                    go_wp2_with (first | (go_at_call 18; refine (opens_any _ _).mono ?_; rintro e w' ⟨rfl, rfl⟩))
                    go_round
                    case measure => simp [RowKit.intOf]; omega
                    case rel => exact ⟨k + 1, by omega, by omega, by go_num⟩
              · have hd : decide (k < e) = false := decide_eq_false hk2
                go_wp2_with (first | (go_at_call 18; refine (opens_any _ _).mono ?_; rintro e w' ⟨rfl, rfl⟩))
                go_round
                case measure => simp [RowKit.intOf]; omega
                case rel => exact ⟨i + 1, by omega, by go_num⟩
        | false =>
          by_cases hP : zs[i] = 22
          · have hcases := HNP.out i hil (by rw [hP]; rfl)
            rw [hP] at hc hI
            clear hP HNI HNP HNN HII HIP
            rcases hcases with hm | ⟨t, hti, hm, hmt⟩
            · rw [hm] at hmc
              have d1 : decide ((i : Int) ≤ -1) = false := decide_eq_false (by omega)
              clear hm
              go_wp2_with (first | (go_at_call 18; refine (opens_any _ _).mono ?_; rintro e w' ⟨rfl, rfl⟩))
              go_loop [7] (fun s7 => s7 = .int .i64 ((i : Int) + 1)) (fun _ => 0)
              case atStart => go_num
              case round =>
                obtain rfl := hrel
                go_wp2_with (first | (go_at_call 18; refine (opens_any _ _).mono ?_; rintro e w' ⟨rfl, rfl⟩))
                go_round
                case measure => simp [RowKit.intOf]; omega
                case rel => exact ⟨i + 1, by omega, by go_num⟩
            · rw [hm] at hmc
              have htl : t < zs.length := by omega
              have hmt2 := HCELL.out t htl
              rw [hmt] at hmt2
              have d1 : decide (i ≤ t) = false := decide_eq_false (by omega)
              have d2 : decide ((t : Int) < -1) = false := decide_eq_false (by omega)
              have d3 : decide ((0 : Int) ≤ (t : Int)) = true := decide_eq_true (by omega)
              have d4 : decide (0 ≤ t) = true := decide_eq_true (by omega)
              have i3 : (t : Int) < n := by omega
              have htn : t < n := by omega
              clear hm hmt
              go_wp2_with (first | (go_at_call 18; refine (opens_any _ _).mono ?_; rintro e w' ⟨rfl, rfl⟩))
              go_loop [7] (fun s7 => s7 = .int .i64 ((i : Int) + 1)) (fun _ => 0)
              case atStart => go_num
              case round =>
                obtain rfl := hrel
                go_wp2_with (first | (go_at_call 18; refine (opens_any _ _).mono ?_; rintro e w' ⟨rfl, rfl⟩))
                go_round
                case measure => simp [RowKit.intOf]; omega
                case rel => exact ⟨i + 1, by omega, by go_num⟩
          · have hm := HNN.out i hil (by simpa [isP] using hP) hI
            rw [hm] at hmc
            have hP2 : (zs[i] == 22) = false := by simpa using hP
            generalize zs[i] = ci at *
            clear hm HNI HNP HNN HII HIP
            go_wp2_with (first | (go_at_call 18; refine (opens_any _ _).mono ?_; rintro e w' ⟨rfl, rfl⟩))
            go_round
            case measure => simp [RowKit.intOf]; omega
            case rel => exact ⟨i + 1, by omega, by go_num⟩
      · obtain rfl : i = n := by omega
        go_wp2_with fail
        refine (awake_any _).mono ?_
        rintro e wa ⟨rfl, hba⟩
        go_wp2
        go_ret
        exact ⟨rfl, HB1.out.trans (hba.mono HB1.out.size)⟩

set_option maxRecDepth 100000 in
theorem lifted (os : Os) (started : os.Started) (H : Type) (enc : TypeId × Value → H) :
    ReturnsInHanded {} Try.checked os 6 .any (Rows.baseNestsSpec.pre6 enc Try.prog Try.f6 Rows.baseNestsRow.domain false) (Rows.baseNestsSpec.post enc Try.prog Try.f6 false true false false) := by
  refine returnsInHanded_of_change (C := Try.checked) law_own started (by kernel_rfl) Try.func6
    (ChangeSpec.witness6 (enc := enc) (C := Try.checked) false ⟨#[], #[.slice none 0 0], []⟩ 8 (by kernel_rfl) (by kernel_rfl) (by kernel_rfl) (by kernel_rfl)) ?_
  intro W base args ds gs before hval0 hW _ _
  have hval : ∀ (j : Nat) t v, Try.f6.params[j]? = some t → args[j]? = some v → Value.okWide Try.prog W .any base t v := hval0
  have hW' := hW
  obtain ⟨p, q, hA0, hV, rfl, hfz, hnd⟩ := hW
  have hA : DataW.TrodAll enc Try.prog W 0 (fun _ => true) true Try.f6.params.toList args.toList ds p := hA0
  rw [Try.params6] at hA hval
  obtain ⟨v0, vs0, d0, ds0, p0, q0, hargs, rfl, rfl, h0, r0⟩ := ChangeShapes.trodAll_cons hA
  obtain ⟨rfl, rfl, rfl⟩ := ChangeShapes.trodAll_nil r0
  obtain rfl : args = #[v0] := by cases args; simp_all
  obtain ⟨rfl, rfl⟩ := ChangeShapes.trodVars_none hV
  obtain ⟨A0, zs0, c0, rfl, hr0, hnil0, hl0, hz0⟩ := open_introw (hval 0 25 v0 rfl rfl) h0
  refine (walk W A0 zs0 c0 hr0 hnil0 hl0 hz0).mono fun e W' ⟨he, hB⟩ => ?_
  subst he
  exact ⟨_, rfl, law_post hW' rfl rfl (by kernel_rfl) rfl hB⟩

theorem holds : Rows.BaseNestsSaid :=
  OpenClaim.holds_of_wide 6 Try.f6 rfl rfl rfl rfl rfl rfl rfl ⟨rfl, rfl, rfl, rfl, rfl⟩ rfl rfl rfl rfl rfl (by kernel_rfl) Try.func6 (by kernel_rfl)
    (of_decide_eq_true (by kernel_rfl)) (by unfold Func.isWrapper; first | (rw [if_pos (by decide +kernel)]; kernel_rfl) | (rw [if_neg (by decide +kernel)]; exact ⟨rfl, rfl⟩))
    (fun os started H enc _ => lifted os started H enc)
end Go.Proofs.Ytifaimoaaiikpaa.BaseNests
