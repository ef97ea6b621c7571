/-
  Proved here: for every row of runes BaseCovers returns true (of at most 1000 runes: paragraphs end at rising places, the last one behind the last rune; with a rune 2029 ahead of it a text has one paragraph more, and those that it has by itself), and the row stays. No condition.
-/
import Derived.Test.YtifaimoaaiikpaaBaAwake
import Derived.Test.YtifaimoaaiikpaaBaCover
import Derived.Test.YtifaimoaaiikpaaRuOpen
import Derived.Test.YtifaimoaaiikpaaAppSrc
import Derived.Test.YtifaimoaaiikpaaAddInts
import Derived.Test.YtifaimoaaiikpaaLawKit
import Derived.Stop.Joined
set_option linter.unusedVariables false
namespace Go.Proofs.Ytifaimoaaiikpaa.BaseCovers
open Go.ChangeShapes Go.WideShapes Go.ChangeAt Go.RowKit Go.Lib Go.Proofs.Ytifaimoaaiikpaa.Ba Go.Proofs.Ytifaimoaaiikpaa.Cl Go.Proofs.Ytifaimoaaiikpaa.Rc
open Go.Proofs.Ytifaimoaaiikpaa.Ku (R3 RuAt cellsR cellsR_len cellsR_one ruAt_own infoR)

set_option maxHeartbeats 2000000 in
set_option maxRecDepth 100000 in
theorem walk (w : World) (A : Option Addr) (l : List R3) (c : Nat) (hr : RuAt w A l) (hnil : A = none → l = [] ∧ c = 0) (hlz : l.length ≤ 9223372036854775807) :
    Calls Try.prog 8 #[.slice A l.length c] w fun e w' => e = .returned (.bool true) ∧ Below w.heap.size w w' := by
  by_cases hbig : 1000 < l.length
  · go_enter Try.func8, Try.ntmps8
    go_wp2_with (go_at_call 9; refine (awake_any _).mono ?_; rintro e w' ⟨rfl, hb⟩)
    go_ret
    exact ⟨rfl, hb⟩
  · obtain ⟨i0, hi, hz0, hz1, hz2⟩ := info_parts infoR
    have HA := Lib.hid (fun h => (by rw [(hnil h).1]; rfl : l.length = 0))
    have HR := Lib.hid hr
    have hcr := cellsR_len l
    clear hnil hr
    have HPQ := Lib.hid (parL_cons ((0, 3, 8233) : R3) l rfl l.length)
    have HPL := Lib.hid (fun i h => lastv_lt (l := l) (k := l.length) (i := i) h)
    have HPE := Lib.hid (lastv_end l l.length rfl)
    have HPB := Lib.hid (fun i => lastv_bound l l.length i)
    have HPM := Lib.hid (fun z h => parL_mem (l := l) (k := l.length) (z := z) h)
    have hpl := parL_len l l.length
    have HQA := Lib.hid (fun A c W h => pars_reads A ((0, 3, 8233) :: l) (l.length + 1) c W rfl h (by omega))
    have HPA := Lib.hid (fun A c W h => pars_reads A l l.length c W rfl h (by omega))
    rw [HPQ.out] at HQA
    have hql : (1 :: (parL l l.length).map (· + 1)).length = (parL l l.length).length + 1 := by simp
    rw [hql] at HQA
    have HQ0 := Lib.hid (fun (W : World) (D : Option Addr) (h : IntsAt W D (1 :: (parL l l.length).map (· + 1))) => (show ∃ b off, D = some ⟨b, off, none⟩ ∧ W.cell? ⟨b, off, none⟩ = some (.int .i64 1) from by
      obtain ⟨b, off, e, hc⟩ := h.at_ (k := 0) (by simp)
      exact ⟨b, off, e, hc⟩))
    have HQS := Lib.hid (fun (W : World) (b off : Nat) (h : IntsAt W (some ⟨b, off, none⟩) (1 :: (parL l l.length).map (· + 1))) (i : Nat) (hi : i < (parL l l.length).length) => (show W.cell? ⟨b, off + (i + 1), none⟩ = some (.int .i64 ((parL l l.length)[i] + 1)) from by
      obtain ⟨b', off', e, hc⟩ := h.at_ (k := i + 1) (by simp; omega)
      injection e with e
      injection e with e1 e2
      subst e1 e2
      rw [hc]
      simp))
    obtain ⟨ps, hps⟩ : ∃ ps, parL l l.length = ps := ⟨_, rfl⟩
    rw [hps] at hpl HPL HPE HPB HPM HQA HPA HQ0 HQS
    obtain ⟨n, hn⟩ : ∃ n, l.length = n := ⟨_, rfl⟩
    rw [hn] at hpl HPE HPB HPM HQA HPA HA hcr hbig ⊢
    obtain ⟨np, hnp⟩ : ∃ np, ps.length = np := ⟨_, rfl⟩
    rw [hnp] at hpl HPE HQA HPA
    have HNP := Lib.hid hnp
    have HN := Lib.hid hn
    clear hps hnp hn HPQ hql
    go_enter Try.func8, Try.ntmps8
    go_wp2_with fail
    refine (HPA.out _ _ _ HR.out).mono ?_
    rintro e w1 ⟨D1, d1, rfl, hi1, hb1⟩
    have hb1a := below_made w1 (.cells #[.int .i64 0, .int .i64 3, .int .i64 8233] 36)
    have hown1 : (w1.alloc (.cells #[.int .i64 0, .int .i64 3, .int .i64 8233] 36)).ownsRow w1.heap.size 36 3 (.slice (some ⟨w1.heap.size, 0, none⟩) 1 1) 1 (cellsR [((0, 3, 8233) : R3)]) := World.ownsRow_lit w1 #[.int .i64 0, .int .i64 3, .int .i64 8233] 1 (Nat.le_refl _) (by decide) rfl
    have HM := Lib.hid hown1
    have HR1 := Lib.hid ((HR.out.below hb1).below hb1a)
    have HI1 := Lib.hid hi1
    have HB1 := Lib.hid hb1
    have HB1A := Lib.hid hb1a
    have hs1a : w1.heap.size ≤ (w1.alloc (.cells #[.int .i64 0, .int .i64 3, .int .i64 8233] 36)).heap.size := hb1a.size
    clear hi1 hb1 hb1a hown1 HPA
    go_wp2_with (at_builtin; refine wpList_append_src _ rfl _ _ 22 rfl w1.heap.size 36 i0 (.agg #[.int .i64 0, .int .i64 0, .int .i64 0]) 3 24 Try.underlying22 hi hz0 hz1 hz2 rfl (by decide) _ 1 _ rfl HM.out A n c (cellsR l) rfl hcr HA.out (fun ad had => (had ▸ HR1.out : RuAt _ (some ad) l).news) (cellsR_one _) (by unfold maxLen; omega) (by omega) hs1a ?_)
    intro v' w2 hown' hgrow
    have hown2 : w2.ownsRow w1.heap.size 36 3 v' ((((0, 3, 8233) : R3) :: l)).length (cellsR (((0, 3, 8233) : R3) :: l)) := by
      rw [List.length_cons, HN.out, Nat.add_comm]
      exact hown'
    have hb2 : Below w1.heap.size w1 w2 := HB1A.out.grown hgrow hs1a (fun g hg => (HM.out.lt g hg).1)
    obtain ⟨A', c', rfl, hr'⟩ := ruAt_own hown2
    have HO2 := Lib.hid hr'
    have HB2 := Lib.hid hb2
    rw [List.length_cons, HN.out]
    have HI2 := Lib.hid (HI1.out.below hb2)
    clear hgrow hown' hown2 hr' hb2 HM HR HR1 HA hi hz0 hz1 hz2 hcr HI1 HB1A hs1a
    go_wp2_with fail
    refine (HQA.out _ _ _ HO2.out).mono ?_
    rintro e w3 ⟨D3, d3, rfl, hi3, hb3⟩
    obtain ⟨b3, off3, rfl, hq0⟩ := HQ0.out _ _ hi3
    have HI3 := Lib.hid hi3
    have HP3 := Lib.hid (HI2.out.below hb3)
    have HB3 := Lib.hid (HB1.out.trans ((HB2.out.trans (hb3.mono HB2.out.size)).mono HB1.out.size))
    clear hi3 hb3 HQ0 HQA HO2 HI2 HB2
    have hwp : IntKind.i64.wrap ((np : Int) + 1) = (np : Int) + 1 := IntWalk.i64_in _ (by omega)
    have hz : ((np : Int) + 1 == 0) = false := by rw [beq_eq_false_iff_ne]; omega
    go_wp2_with fail
    go_loopw [5, 6] (fun s5 s6 wx => ∃ i : Nat, i ≤ np ∧ s6 = .int .i64 i ∧ s5 = .int .i64 (lastv ps i) ∧ Below w3.heap.size w3 wx) (fun _ s6 _ => np - (RowKit.intOf s6).toNat)
    case atStart => exact ⟨0, Nat.zero_le _, rfl, rfl, Below.refl _ _⟩
    case round =>
      obtain ⟨i, hi, rfl, rfl, hb⟩ := hrel
      by_cases hlt : i < np
      · have hip : i < ps.length := by rw [HNP.out]; exact hlt
        obtain ⟨bp, offp, rfl, hcp⟩ := (HP3.out.below hb).at_ hip
        have hcq := HQS.out _ _ _ (HI3.out.below hb) i hip
        have h1 := HPL.out i hip
        have h2 := HPM.out _ (List.getElem_mem hip)
        have HX := Lib.hid (lastv_next hip)
        have HB := Lib.hid hb
        generalize ps[i] = z at *
        generalize lastv ps i = v at *
        have hd : decide (z ≤ v) = false := decide_eq_false (by omega)
        have hw : IntKind.i64.wrap (z + 1) = z + 1 := IntWalk.i64_in _ (by omega)
        have hwi : IntKind.i64.wrap ((i : Int) + 1) = (i : Int) + 1 := IntWalk.i64_in _ (by omega)
        have i1 : (i : Int) + 1 < (np : Int) + 1 := by omega
        have i2 : (0 : Int) ≤ (i : Int) + 1 := by omega
        clear hb HQS HPL HPM HPB HPE
        go_wp2_with fail
        go_quiet (fail)
        go_wp2_with fail
        have hdr := Arr.below_drewN (Below.refl wr.heap.size wr) nq
        go_roundw
        case measure => simp [RowKit.intOf]; omega
        case rel => exact ⟨i + 1, by omega, by go_num, by rw [HX.out], HB.out.trans (hdr.mono HB.out.size)⟩
      · obtain rfl : i = np := by omega
        have he := HPE.out
        rw [he]
        have HB := Lib.hid (HB3.out.trans (hb.mono HB3.out.size))
        clear hb he
        go_wp2_with fail
        refine (awake_any _).mono ?_
        rintro e wa ⟨rfl, hba⟩
        go_wp2
        go_ret
        exact ⟨rfl, HB.out.trans (hba.mono HB.out.size)⟩

set_option maxRecDepth 100000 in
theorem lifted (os : Os) (started : os.Started) (H : Type) (enc : TypeId × Value → H) :
    ReturnsInHanded {} Try.checked os 8 .any (Rows.baseCoversSpec.pre6 enc Try.prog Try.f8 Rows.baseCoversRow.domain false) (Rows.baseCoversSpec.post enc Try.prog Try.f8 false true false false) := by
  refine returnsInHanded_of_change (C := Try.checked) law_own started (by kernel_rfl) Try.func8
    (ChangeSpec.witness6 (enc := enc) (C := Try.checked) false ⟨#[], #[.slice none 0 0], []⟩ 8 (by kernel_rfl) (by kernel_rfl) (by kernel_rfl) (by kernel_rfl)) ?_
  intro W base args ds gs before hval0 hW _ _
  have hval : ∀ (j : Nat) t v, Try.f8.params[j]? = some t → args[j]? = some v → Value.okWide Try.prog W .any base t v := hval0
  have hW' := hW
  obtain ⟨p, q, hA0, hV, rfl, hfz, hnd⟩ := hW
  have hA : DataW.TrodAll enc Try.prog W 0 (fun _ => true) true Try.f8.params.toList args.toList ds p := hA0
  rw [Try.params8] at hA hval
  obtain ⟨v0, vs0, d0, ds0, p0, q0, hargs, rfl, rfl, h0, r0⟩ := ChangeShapes.trodAll_cons hA
  obtain ⟨rfl, rfl, rfl⟩ := ChangeShapes.trodAll_nil r0
  obtain rfl : args = #[v0] := by cases args; simp_all
  obtain ⟨rfl, rfl⟩ := ChangeShapes.trodVars_none hV
  obtain ⟨A0, l0, c0, rfl, hr0, hnil0, hc0, hl0, hz0⟩ := open_runes (hval 0 22 v0 rfl rfl) h0
  refine (walk W A0 l0 c0 hr0 hnil0 hl0).mono fun e W' ⟨he, hB⟩ => ?_
  subst he
  exact ⟨_, rfl, law_post hW' rfl rfl (by kernel_rfl) rfl hB⟩

theorem holds : Rows.BaseCoversSaid :=
  OpenClaim.holds_of_wide 8 Try.f8 rfl rfl rfl rfl rfl rfl rfl ⟨rfl, rfl, rfl, rfl, rfl⟩ rfl rfl rfl rfl rfl (by kernel_rfl) Try.func8 (by kernel_rfl)
    (of_decide_eq_true (by kernel_rfl)) (by unfold Func.isWrapper; first | (rw [if_pos (by decide +kernel)]; kernel_rfl) | (rw [if_neg (by decide +kernel)]; exact ⟨rfl, rfl⟩))
    (fun os started H enc _ => lifted os started H enc)
end Go.Proofs.Ytifaimoaaiikpaa.BaseCovers
