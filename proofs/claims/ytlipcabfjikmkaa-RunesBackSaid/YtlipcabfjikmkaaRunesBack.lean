/-
  Proved here: for all rows of numbers and every text, RunesBack returns true (the text of at most 1000 code points is valid and has them as its runes; a valid text is the text of its runes' numbers; unlike code points make unlike texts), and all three stay. No condition.
-/
import Derived.Test.YtlipcabfjikmkaaRnAwake
import Derived.Test.YtlipcabfjikmkaaRnBackFns
import Derived.Test.YtlipcabfjikmkaaLawInts
import Derived.Deep.QuietTactic
import Derived.BigQuiet
set_option linter.unusedVariables false
namespace Go.Proofs.Ytlipcabfjikmkaa.RunesBack
open Go.RowKit Go.Lib Go.Proofs.Ytlipcabfjikmkaa.Rn

theorem below_draws (w : World) : ∀ n, Below w.heap.size w (w.drewN n)
  | 0 => Below.refl _ _
  | n + 1 => (below_draws w n).drew
theorem size_text (zs : List Int) (hn : zs.length ≤ 1000) : (⟨(textB zs).toArray⟩ : ByteArray).size ≤ 4000 := by
  rw [Lib.size_eq]
  show (textB zs).length ≤ 4000
  have : ∀ l : List Int, (textB l).length ≤ 4 * l.length := by
    intro l
    induction l with
    | nil => simp [textB]
    | cons z l ih => rw [textB_cons, List.length_append, List.length_cons]; have := encodeRune_len (fitZ z); omega
  have := this zs
  omega
theorem mk_back (s : ByteArray) : (⟨s.data.toList.toArray⟩ : ByteArray) = s := by cases s; simp

set_option maxHeartbeats 2000000 in
set_option maxRecDepth 1000000 in
theorem walk (A B : Option Addr) (zs ys : List Int) (c d : Nat) (s : ByteArray) (w : World) (hr : IntsAt w A zs) (hq : IntsAt w B ys) (hnil : A = none → zs = [] ∧ c = 0) (hnil' : B = none → ys = [] ∧ d = 0)
    (h1 : zs.length ≤ 9223372036854775807) (h2 : ys.length ≤ 9223372036854775807) (h3 : s.size ≤ 9223372036854775807) :
    Calls Try.prog 7 #[.slice A zs.length c, .slice B ys.length d, .string s] w fun e w' => e = .returned (.bool true) ∧ Below w.heap.size w w' := by
  by_cases hz : 1000 < zs.length
  · go_enter Try.func7, Try.ntmps7
    go_wp2_with (go_at_call 9; refine (awake_any _).mono ?_; rintro e w' ⟨rfl, hb⟩)
    go_ret
    exact ⟨rfl, hb⟩
  · by_cases hy : 1000 < ys.length
    · have tz : decide ((1000 : Int) < (zs.length : Int)) = false := by simp; omega
      go_enter Try.func7, Try.ntmps7
      go_wp2_with (go_at_call 9; refine (awake_any _).mono ?_; rintro e w' ⟨rfl, hb⟩)
      go_ret
      exact ⟨rfl, hb⟩
    · by_cases hs : 1000 < s.size
      · have tz : decide ((1000 : Int) < (zs.length : Int)) = false := by simp; omega
        have ty : decide ((1000 : Int) < (ys.length : Int)) = false := by simp; omega
        go_enter Try.func7, Try.ntmps7
        go_wp2_with (go_at_call 9; refine (awake_any _).mono ?_; rintro e w' ⟨rfl, hb⟩)
        go_ret
        exact ⟨rfl, hb⟩
      · have tz : decide ((1000 : Int) < (zs.length : Int)) = false := by simp; omega
        have ty : decide ((1000 : Int) < (ys.length : Int)) = false := by simp; omega
        have ts : decide ((1000 : Int) < (s.size : Int)) = false := by simp; omega
        have hsz := size_text zs (by omega)
        have cT1 := lawtext_any A zs c w hr hnil (by omega)
        have cT2 := fun (W : World) (h : Below w.heap.size w W) => lawtext_any B ys d W (hq.below h) hnil' (by omega)
        have cS := fun (W : World) => split_reads ⟨(textB zs).toArray⟩ W (by omega)
        have cV := fun (W : World) => valid_any ⟨(textB zs).toArray⟩ W (by omega)
        have e0 : (⟨(textB zs).toArray⟩ : ByteArray).data.toList = textB zs := by simp
        rw [e0] at cS cV
        rw [valid_text] at cV
        have hlen := split_text_len zs
        have hat := split_text_at zs
        have hend := sameK_end zs ys
        have hnot := sameK_not zs ys
        have HR := Lib.hid hr
        have HQ := Lib.hid hq
        obtain ⟨rs, hrs⟩ : ∃ rs, splitA (textB zs) 0 = rs := ⟨_, rfl⟩
        rw [hrs] at hlen hat cS
        have hab : ((⟨(textB zs).toArray⟩ : ByteArray).toList == (⟨(textB ys).toArray⟩ : ByteArray).toList) = decide (textB zs = textB ys) := by
          rw [Lib.toList_data, Lib.toList_data, Bool.eq_iff_iff]
          simp
        obtain ⟨TA, hTA⟩ : ∃ T : ByteArray, ⟨(textB zs).toArray⟩ = T := ⟨_, rfl⟩
        obtain ⟨TB, hTB⟩ : ∃ T : ByteArray, ⟨(textB ys).toArray⟩ = T := ⟨_, rfl⟩
        rw [hTA] at cT1 cS cV hab hsz
        rw [hTB] at cT2 hab
        have H1 := Lib.hid cT1
        have H2 := Lib.hid cT2
        have HS := Lib.hid cS
        have HV := Lib.hid cV
        have HL := Lib.hid hlen
        have HAT := Lib.hid hat
        have HEND := Lib.hid hend
        have HNOT := Lib.hid hnot
        have HAB := Lib.hid hab
        have hle1 : rs.length ≤ zs.length := by omega
        have hle2 : zs.length ≤ rs.length := by omega
        clear hrs hTA hTB hr hq cT1 cT2 cS cV hlen hat hend hnot hab e0 hnil hnil'
        go_enter Try.func7, Try.ntmps7
        go_wp2_with fail
        refine H1.out.mono ?_
        rintro e w1 ⟨rfl, b1⟩
        go_wp2_with fail
        refine (H2.out w1 b1).mono ?_
        rintro e w2 ⟨rfl, b2⟩
        go_wp2_with fail
        refine (HS.out w2).mono ?_
        rintro e w3 ⟨X, cx, rfl, hx, b3⟩
        have HX := Lib.hid hx
        clear hx H1 H2 HS
        go_wp2_with fail
        refine (HV.out w3).mono ?_
        rintro e w4 ⟨rfl, b4⟩
        have b14 : Below w.heap.size w w4 := ((b1.trans (b2.mono b1.size)).trans (b3.mono (Nat.le_trans b1.size b2.size))).trans (b4.mono (Nat.le_trans (Nat.le_trans b1.size b2.size) b3.size))
        have HX4 := Lib.hid (HX.out.below b4)
        have HR4 := Lib.hid (HR.out.below b14)
        have HQ4 := Lib.hid (HQ.out.below b14)
        clear HV HX HR HQ b1 b2 b3 b4
        have tn : ((rs.length : Int) != (zs.length : Int)) = false := by rw [HL.out]; simp
        go_wp2_with fail
        go_loopw [10] (fun s10 wx => ∃ k : Nat, k ≤ zs.length ∧ s10 = .int .i64 k ∧ Below w4.heap.size w4 wx) (fun s10 _ => zs.length - (RowKit.intOf s10).toNat)
        case atStart => exact ⟨0, Nat.zero_le _, rfl, Below.refl _ _⟩
        case round =>
          obtain ⟨k, hk, rfl, hbw⟩ := hrel
          by_cases hlt : k < zs.length
          · have hlt' : k < rs.length := by omega
            obtain ⟨g, rfl, hg, c0, c1, c2⟩ := (HX4.out.below hbw) k hlt'
            obtain ⟨b, off, rfl, hc⟩ := (HR4.out.below hbw).at_ hlt
            have hfit := HAT.out k hlt hlt'
            obtain ⟨y, hy⟩ : ∃ y, rs[k].2.2 = y := ⟨_, rfl⟩
            rw [hy] at c2 hfit
            obtain ⟨z, hz⟩ : ∃ z, zs[k] = z := ⟨_, rfl⟩
            rw [hz] at hc hfit
            have tne : ((y : Int) != fitZ z) = false := by rw [hfit]; simp
            clear hfit hy hz HX4 HR4 HQ4 HAT HEND HNOT HAB HL c0 c1 tn
            go_wp2_with fail
            go_quiet ((go_at_call 19; exact Calls.quiet_of_same (fit_any _ _)))
            go_wp2_with fail
            go_roundw
            case rel => exact ⟨k + 1, by omega, by go_num, hbw.trans ((below_draws _ _).mono hbw.size)⟩
            case measure => simp [RowKit.intOf]; omega
          · have b15 := b14.trans (hbw.mono b14.size)
            have HR5 := Lib.hid (HR4.out.below hbw)
            have HQ5 := Lib.hid (HQ4.out.below hbw)
            have cV := valid_any s wr (by omega)
            clear HR4 HQ4 HX4 hbw b14 HAT
            have cS := fun (W : World) => split_reads s W (by omega)
            have hback := fun h => text_back s.data.toList.length s.data.toList 0 (Nat.le_refl _) h
            have hls := splitA_len s.data.toList.length s.data.toList 0 (Nat.le_refl _)
            rw [← Lib.size_eq] at hls
            have hvd : ((splitA s.data.toList 0).all fun r => !oddR r) = validA s.data.toList := rfl
            rw [hvd] at hback
            clear hvd
            obtain ⟨qs, hqs⟩ : ∃ qs, splitA s.data.toList 0 = qs := ⟨_, rfl⟩
            rw [hqs] at cS hback hls
            have HCS := Lib.hid cS
            have HB := Lib.hid hback
            clear hqs cS hback
            cases hv : validA s.data.toList
            case' false =>
              rw [hv] at cV
              have HV := Lib.hid cV
              clear hv cV HB HCS
              go_wp2_with fail
              refine HV.out.mono ?_
              rintro e w6 ⟨rfl, b6⟩
              have b16 := b15.trans (b6.mono b15.size)
              have HR6 := Lib.hid (HR5.out.below b6)
              have HQ6 := Lib.hid (HQ5.out.below b6)
              clear HV b6 HR5 HQ5 b15
            case' true =>
              have hbk := HB.out hv
              rw [hv] at cV
              have HV := Lib.hid cV
              have HBK := Lib.hid hbk
              clear hv cV hbk HB
              go_wp2_with fail
              refine HV.out.mono ?_
              rintro e w51 ⟨rfl, b51⟩
              go_wp2_with fail
              refine (HCS.out w51).mono ?_
              rintro e w52 ⟨Q, cq, rfl, hqr, b52⟩
              go_wp2_with fail
              refine (codes_any Q qs cq w52 hqr (by omega)).mono ?_
              rintro e w53 ⟨P, cp, rfl, hp, b53⟩
              have cT := text_any P (qs.map fun r => (r.2.2 : Int)) cp w53 hp (by rw [List.length_map]; omega)
              rw [List.length_map, HBK.out, mk_back] at cT
              have HT := Lib.hid cT
              clear cT hp hqr
              go_wp2_with fail
              refine HT.out.mono ?_
              rintro e w6 ⟨rfl, b54⟩
              have b6 := ((b51.trans (b52.mono b51.size)).trans (b53.mono (Nat.le_trans b51.size b52.size))).trans (b54.mono (Nat.le_trans (Nat.le_trans b51.size b52.size) b53.size))
              have b16 := b15.trans (b6.mono b15.size)
              have HR6 := Lib.hid (HR5.out.below b6)
              have HQ6 := Lib.hid (HQ5.out.below b6)
              clear HV b6 HR5 HQ5 b15 b51 b52 b53 b54 HT HBK HCS
            all_goals
              have hst : ((zs.length : Int) == (ys.length : Int)) = sameK zs ys 0 := by
                rw [Bool.eq_iff_iff]
                simp [sameK]
                omega
              go_wp2_with fail
              clear hst
              go_loopw [11, 12] (fun s11 s12 wx => ∃ k : Nat, k ≤ zs.length ∧ s12 = .int .i64 k ∧ s11 = .bool (sameK zs ys k) ∧ Below w6.heap.size w6 wx) (fun _ s12 _ => zs.length - (RowKit.intOf s12).toNat)
              case atStart => exact ⟨0, Nat.zero_le _, rfl, rfl, Below.refl _ _⟩
              case round =>
                obtain ⟨k, hk, rfl, rfl, hbw⟩ := hrel
                cases hsm : sameK zs ys k
                · have htab : (TA.toList == TB.toList) = false := by rw [HAB.out]; simpa using HNOT.out k hsm
                  have b17 := b16.trans (hbw.mono b16.size)
                  clear hsm HAB HNOT HEND HR6 HQ6 HL tn
                  by_cases hlt : k < zs.length
                  · go_wp2_with (go_at_call 9; refine (awake_any _).mono ?_; rintro e w' ⟨rfl, hb⟩)
                    go_ret
                    exact ⟨rfl, b17.trans (hb.mono b17.size)⟩
                  · have tk1 : decide (k < zs.length) = false := by simpa using hlt
                    go_wp2_with (go_at_call 9; refine (awake_any _).mono ?_; rintro e w' ⟨rfl, hb⟩)
                    go_ret
                    exact ⟨rfl, b17.trans (hb.mono b17.size)⟩
                · by_cases hlt : k < zs.length
                  · have hlt' : k < ys.length := by
                      have := hsm
                      simp only [sameK, Bool.and_eq_true, decide_eq_true_eq] at this
                      omega
                    have hnx := sameK_next zs ys k hlt hlt' hsm
                    obtain ⟨b, off, rfl, hc⟩ := (HR6.out.below hbw).at_ hlt
                    obtain ⟨b', off', rfl, hc'⟩ := (HQ6.out.below hbw).at_ hlt'
                    obtain ⟨z, hz⟩ : ∃ z, zs[k] = z := ⟨_, rfl⟩
                    obtain ⟨y, hy⟩ : ∃ y, ys[k] = y := ⟨_, rfl⟩
                    rw [hz] at hc hnx
                    rw [hy] at hc' hnx
                    have HN := Lib.hid hnx
                    clear hz hy hnx hsm HAB HNOT HEND HR6 HQ6 HL tn
                    go_wp2_with fail
                    go_quiet ((go_at_call 19; exact Calls.quiet_of_same (fit_any _ _)))
                    go_wp2_with fail
                    go_roundw
                    case rel => exact ⟨k + 1, by omega, by go_num, by rw [HN.out], hbw.trans ((below_draws _ _).mono hbw.size)⟩
                    case measure => simp [RowKit.intOf]; omega
                  · have tk1 : decide (k < zs.length) = false := by simpa using hlt
                    have htab : (TA.toList == TB.toList) = true := by
                      rw [HAB.out]
                      obtain rfl : k = zs.length := by omega
                      simpa using HEND.out hsm
                    have b17 := b16.trans (hbw.mono b16.size)
                    clear hsm HAB HNOT HEND HR6 HQ6 HL tn
                    go_wp2_with (go_at_call 9; refine (awake_any _).mono ?_; rintro e w' ⟨rfl, hb⟩)
                    go_ret
                    exact ⟨rfl, b17.trans (hb.mono b17.size)⟩

set_option maxRecDepth 100000 in
theorem lifted (os : Os) (started : os.Started) (H : Type) (enc : TypeId × Value → H) :
    ReturnsInHanded {} Try.checked os 7 .any (Rows.runesBackSpec.pre6 enc Try.prog Try.f7 Rows.runesBackRow.domain false) (Rows.runesBackSpec.post enc Try.prog Try.f7 false true false false) := by
  refine returnsInHanded_of_change (C := Try.checked) law_own started (by kernel_rfl) Try.func7
    (ChangeSpec.witness6 (enc := enc) (C := Try.checked) false ⟨#[], #[.slice none 0 0, .slice none 0 0, .string ⟨#[]⟩], []⟩ 8 (by kernel_rfl) (by kernel_rfl) (by kernel_rfl) (by kernel_rfl)) ?_
  intro W base args ds gs before hval0 hW _ _
  have hval : ∀ (j : Nat) t v, Try.f7.params[j]? = some t → args[j]? = some v → Value.okWide Try.prog W .any base t v := hval0
  have hW' := hW
  obtain ⟨p, q, hA0, hV, rfl, hfz, hnd⟩ := hW
  have hA : DataW.TrodAll enc Try.prog W 0 (fun _ => true) true Try.f7.params.toList args.toList ds p := hA0
  rw [Try.params7] at hA hval
  obtain ⟨v0, vs0, d0, ds0, p0, q0, hargs, rfl, rfl, h0, r0⟩ := ChangeShapes.trodAll_cons hA
  obtain ⟨v1, vs1, d1, ds1, p1, q1, rfl, rfl, rfl, h1, r1⟩ := ChangeShapes.trodAll_cons r0
  obtain ⟨v2, vs2, d2, ds2, p2, q2, rfl, rfl, rfl, h2, r2⟩ := ChangeShapes.trodAll_cons r1
  obtain ⟨rfl, rfl, rfl⟩ := ChangeShapes.trodAll_nil r2
  obtain rfl : args = #[v0, v1, v2] := by cases args; simp_all
  obtain ⟨rfl, rfl⟩ := ChangeShapes.trodVars_none hV
  obtain ⟨A, zs, c, rfl, hr, hnil, hl, _⟩ := open_introw (hval 0 30 v0 rfl rfl) h0
  obtain ⟨B, ys, d, rfl, hq, hnil', hl', _⟩ := open_introw (hval 1 30 v1 rfl rfl) h1
  obtain ⟨s, rfl, rfl, rfl, ws⟩ := ChangeMaps.open_string Try.underlying9 (hval 2 9 v2 rfl rfl) h2
  unfold maxLen at ws
  refine (walk A B zs ys c d s W hr hq hnil hnil' hl hl' (by omega)).mono fun e W' ⟨he, hB⟩ => ?_
  subst he
  exact ⟨_, rfl, law_post hW' rfl rfl (by kernel_rfl) rfl hB⟩

theorem holds : Rows.RunesBackSaid :=
  OpenClaim.holds_of_wide 7 Try.f7 rfl rfl rfl rfl rfl rfl rfl ⟨rfl, rfl, rfl, rfl, rfl⟩ rfl rfl rfl rfl rfl (by kernel_rfl) Try.func7 (by kernel_rfl)
    (of_decide_eq_true (by kernel_rfl)) (by unfold Func.isWrapper; first | (rw [if_pos (by decide +kernel)]; kernel_rfl) | (rw [if_neg (by decide +kernel)]; exact ⟨rfl, rfl⟩))
    (fun os started H enc _ => lifted os started H enc)
end Go.Proofs.Ytlipcabfjikmkaa.RunesBack
