/-
  Proved here: for every row of numbers BaseMatches returns true (which isolates are closed where, among at most 120 numbers, is what the document says; these stay), and the row stays. No condition.
-/
import Derived.Test.YtifaimoaaiikpaaBaAwake
import Derived.Test.YtifaimoaaiikpaaBaRefM
import Derived.Test.YtifaimoaaiikpaaAppSrc
import Derived.Test.YtifaimoaaiikpaaClearInts
import Derived.Test.YtifaimoaaiikpaaLawKit
import Derived.Test.YtifaimoaaiikpaaLawInts
import Derived.Stop.Joined
set_option linter.unusedVariables false
namespace Go.Proofs.Ytifaimoaaiikpaa.BaseMatches
open Go.ChangeShapes Go.WideShapes Go.ChangeAt Go.RowKit Go.Lib Go.Proofs.Ytifaimoaaiikpaa.Ba Go.Proofs.Ytifaimoaaiikpaa.Cl Go.Proofs.Ytifaimoaaiikpaa.Rc
open Go.Proofs.Ytifaimoaaiikpaa.Ku (R3 RuAt cellsR cellsR_len cellsR_one ruAt_own infoR)

set_option maxHeartbeats 2000000 in
set_option maxRecDepth 100000 in
theorem walk (w : World) (A : Option Addr) (zs : List Int) (c : Nat) (hr : IntsAt w A zs) (hnil : A = none → zs = [] ∧ c = 0) (hlz : zs.length ≤ 9223372036854775807) (hzz : ∀ z ∈ zs, -9223372036854775808 ≤ z ∧ z ≤ 9223372036854775807) :
    Calls Try.prog 4 #[.slice A zs.length c] w fun e w' => e = .returned (.bool true) ∧ Below w.heap.size w w' := by
  by_cases hbig : 120 < zs.length
  · go_enter Try.func4, Try.ntmps4
    go_wp2_with (go_at_call 9; refine (awake_any _).mono ?_; rintro e w' ⟨rfl, hb⟩)
    go_ret
    exact ⟨rfl, hb⟩
  · obtain ⟨i0, hi, hz0, hz1, hz2⟩ := info_parts infoInt
    have hmade : (w.alloc (.cells #[] 3)).ownsRow w.heap.size 3 1 (.slice (some ⟨w.heap.size, 0, none⟩) 0 0) 0 [] := World.ownsRow_made w #[] 0 (Nat.le_refl _) (Nat.zero_le _) rfl
    have hr1 := hr.below ((Below.refl w.heap.size w).alloc (Nat.le_refl _) (.cells #[] 3))
    have HM := Lib.hid hmade
    have HR1 := Lib.hid hr1
    have HR := Lib.hid hr
    have HA := Lib.hid (fun h => (by rw [(hnil h).1]; rfl : zs.length = 0))
    clear hmade hr1 hnil hr
    obtain ⟨n, hn⟩ : ∃ n, zs.length = n := ⟨_, rfl⟩
    rw [hn] at HA hbig ⊢
    have HN := Lib.hid hn
    have hicl : (icl zs).length = n * 1 := by rw [Nat.mul_one, ← hn]; simp [icl]
    clear hn
    go_enter Try.func4, Try.ntmps4
    go_wp2_with (at_builtin; refine wpList_append_src _ rfl _ _ 25 rfl w.heap.size 3 i0 (.int .i64 0) 1 8 Try.underlying25 hi hz0 hz1 hz2 rfl (by decide) _ _ _ rfl HM.out A n c (icl zs) rfl hicl HA.out (fun ad had => (had ▸ HR1.out : IntsAt _ (some ad) zs).news) (ints_one _) (by unfold maxLen; omega) (by omega) (by simp) ?_)
    intro v' w2 hown' hgrow
    have hown2 : w2.ownsRow w.heap.size 3 1 v' zs.length (zs.map (.int .i64)) := by
      rw [HN.out]
      simpa [icl] using hown'
    have hb2 : Below w.heap.size w w2 := ((Below.refl w.heap.size w).alloc (Nat.le_refl _) _).grown hgrow (by simp) (fun g hg => by simp [Value.ownBlock] at hg; omega)
    obtain ⟨A', c', rfl, hr'⟩ := intsAt_own hown2
    have HO2 := Lib.hid hr'
    have HC2 := Lib.hid (HR.out.below hb2)
    have HB2 := Lib.hid hb2
    rw [HN.out]
    clear hgrow hown' hown2 hr' hb2 HM HR HR1 HA hi hz0 hz1 hz2 hicl
    go_wp2_with fail
    refine (match_reads _ _ _ _ _ HN.out HO2.out (by omega)).mono ?_
    rintro e w3 ⟨g, rfl, hg, hm3, hown3, hb3⟩
    have HM3 := Lib.hid hm3
    have HOWN3 := Lib.hid hown3
    have HC3 := Lib.hid (HC2.out.below hb3)
    have HB3 := Lib.hid hb3
    clear hm3 hown3 hb3
    go_wp2_with fail
    refine (refmatch_reads _ _ _ _ _ HN.out HC3.out (by omega)).mono ?_
    rintro e w4 ⟨D4, d4, rfl, hm4, hb4⟩
    have HM4 := Lib.hid hm4
    have HM34 := Lib.hid (HM3.out.below hb4)
    have HB4 := Lib.hid hb4
    clear hm4 hb4
    have HSA := Lib.hid (fun W h1 h2 => same_ints (some ⟨g, 0, none⟩) D4 (matchL zs) n d4 W h1 h2 (by rw [matchL_len, HN.out]; omega))
    rw [matchL_len, HN.out] at HSA
    go_wp2_with fail
    refine (HSA.out _ HM34.out HM4.out).mono ?_
    rintro e w5 ⟨rfl, hb5⟩
    have hb35 := HB4.out.trans (hb5.mono HB4.out.size)
    have hown5 := ownsRow_below HOWN3.out hb35
    obtain ⟨w6, hcl, hgr⟩ := clear_ints hown5
    have hb26 : Below w2.heap.size w2 w6 := (HB3.out.trans (hb35.mono HB3.out.size)).grown hgr (HB3.out.trans (hb35.mono HB3.out.size)).size (fun x hx => by simp [Value.ownBlock] at hx; omega)
    have HO6 := Lib.hid (HO2.out.below hb26)
    have HC6 := Lib.hid (HC2.out.below hb26)
    have HB6 := Lib.hid (HB2.out.trans (hb26.mono HB2.out.size))
    have HSB := Lib.hid (fun W h1 h2 => same_ints A' A zs c' c W h1 h2 (by rw [HN.out]; omega))
    rw [HN.out] at HSB
    clear hb5 hb35 hown5 hgr hb26
    go_wp2_with fail
    refine (HSB.out _ HO6.out HC6.out).mono ?_
    rintro e w7 ⟨rfl, hb7⟩
    have HB7 := Lib.hid (HB6.out.trans (hb7.mono HB6.out.size))
    go_wp2_with fail
    refine (awake_any _).mono ?_
    rintro e wa ⟨rfl, hba⟩
    go_wp2
    go_ret
    exact ⟨rfl, HB7.out.trans (hba.mono HB7.out.size)⟩

set_option maxRecDepth 100000 in
theorem lifted (os : Os) (started : os.Started) (H : Type) (enc : TypeId × Value → H) :
    ReturnsInHanded {} Try.checked os 4 .any (Rows.baseMatchesSpec.pre6 enc Try.prog Try.f4 Rows.baseMatchesRow.domain false) (Rows.baseMatchesSpec.post enc Try.prog Try.f4 false true false false) := by
  refine returnsInHanded_of_change (C := Try.checked) law_own started (by kernel_rfl) Try.func4
    (ChangeSpec.witness6 (enc := enc) (C := Try.checked) false ⟨#[], #[.slice none 0 0], []⟩ 8 (by kernel_rfl) (by kernel_rfl) (by kernel_rfl) (by kernel_rfl)) ?_
  intro W base args ds gs before hval0 hW _ _
  have hval : ∀ (j : Nat) t v, Try.f4.params[j]? = some t → args[j]? = some v → Value.okWide Try.prog W .any base t v := hval0
  have hW' := hW
  obtain ⟨p, q, hA0, hV, rfl, hfz, hnd⟩ := hW
  have hA : DataW.TrodAll enc Try.prog W 0 (fun _ => true) true Try.f4.params.toList args.toList ds p := hA0
  rw [Try.params4] at hA hval
  obtain ⟨v0, vs0, d0, ds0, p0, q0, hargs, rfl, rfl, h0, r0⟩ := ChangeShapes.trodAll_cons hA
  obtain ⟨rfl, rfl, rfl⟩ := ChangeShapes.trodAll_nil r0
  obtain rfl : args = #[v0] := by cases args; simp_all
  obtain ⟨rfl, rfl⟩ := ChangeShapes.trodVars_none hV
  obtain ⟨A0, zs0, c0, rfl, hr0, hnil0, hl0, hz0⟩ := open_introw (hval 0 25 v0 rfl rfl) h0
  refine (walk W A0 zs0 c0 hr0 hnil0 hl0 hz0).mono fun e W' ⟨he, hB⟩ => ?_
  subst he
  exact ⟨_, rfl, law_post hW' rfl rfl (by kernel_rfl) rfl hB⟩

theorem holds : Rows.BaseMatchesSaid :=
  OpenClaim.holds_of_wide 4 Try.f4 rfl rfl rfl rfl rfl rfl rfl ⟨rfl, rfl, rfl, rfl, rfl⟩ rfl rfl rfl rfl rfl (by kernel_rfl) Try.func4 (by kernel_rfl)
    (of_decide_eq_true (by kernel_rfl)) (by unfold Func.isWrapper; first | (rw [if_pos (by decide +kernel)]; kernel_rfl) | (rw [if_neg (by decide +kernel)]; exact ⟨rfl, rfl⟩))
    (fun os started H enc _ => lifted os started H enc)
end Go.Proofs.Ytifaimoaaiikpaa.BaseMatches
