/-
  Proved here: for every row of runes BaseEnds returns true (where the paragraphs of at most 1000 runes end is what the document says; these stay), and the row stays. No condition.
-/
import Derived.Test.YtifaimoaaiikpaaBaAwake
import Derived.Test.YtifaimoaaiikpaaBaRefP
import Derived.Test.YtifaimoaaiikpaaRuSame
import Derived.Test.YtifaimoaaiikpaaRuOpen
import Derived.Test.YtifaimoaaiikpaaAppSrc
import Derived.Test.YtifaimoaaiikpaaLawKit
import Derived.Stop.Joined
set_option linter.unusedVariables false
namespace Go.Proofs.Ytifaimoaaiikpaa.BaseEnds
open Go.ChangeShapes Go.WideShapes Go.ChangeAt Go.RowKit Go.Lib Go.Proofs.Ytifaimoaaiikpaa.Ba Go.Proofs.Ytifaimoaaiikpaa.Cl Go.Proofs.Ytifaimoaaiikpaa.Rc
open Go.Proofs.Ytifaimoaaiikpaa.Ku (R3 RuAt cellsR cellsR_len cellsR_one ruAt_own infoR)

set_option maxHeartbeats 2000000 in
set_option maxRecDepth 100000 in
theorem walk (w : World) (A : Option Addr) (l : List R3) (c : Nat) (hr : RuAt w A l) (hnil : A = none → l = [] ∧ c = 0) (hlz : l.length ≤ 9223372036854775807) :
    Calls Try.prog 3 #[.slice A l.length c] w fun e w' => e = .returned (.bool true) ∧ Below w.heap.size w w' := by
  by_cases hbig : 1000 < l.length
  · go_enter Try.func3, Try.ntmps3
    go_wp2_with (go_at_call 9; refine (awake_any _).mono ?_; rintro e w' ⟨rfl, hb⟩)
    go_ret
    exact ⟨rfl, hb⟩
  · obtain ⟨i0, hi, hz0, hz1, hz2⟩ := info_parts infoR
    have hmade : (w.alloc (.cells #[] 36)).ownsRow w.heap.size 36 3 (.slice (some ⟨w.heap.size, 0, none⟩) 0 0) 0 [] := World.ownsRow_made w #[] 0 (Nat.le_refl _) (Nat.zero_le _) rfl
    have hr1 := hr.below ((Below.refl w.heap.size w).alloc (Nat.le_refl _) (.cells #[] 36))
    have HM := Lib.hid hmade
    have HR1 := Lib.hid hr1
    have HR := Lib.hid hr
    have HA := Lib.hid (fun h => (by rw [(hnil h).1]; rfl : l.length = 0))
    have hcr := cellsR_len l
    clear hmade hr1 hnil hr
    obtain ⟨n, hn⟩ : ∃ n, l.length = n := ⟨_, rfl⟩
    rw [hn] at HA hbig hcr ⊢
    have HN := Lib.hid hn
    clear hn
    go_enter Try.func3, Try.ntmps3
    go_wp2_with (at_builtin; refine wpList_append_src _ rfl _ _ 22 rfl w.heap.size 36 i0 (.agg #[.int .i64 0, .int .i64 0, .int .i64 0]) 3 24 Try.underlying22 hi hz0 hz1 hz2 rfl (by decide) _ _ _ rfl HM.out A n c (cellsR l) rfl hcr HA.out (fun ad had => (had ▸ HR1.out : RuAt _ (some ad) l).news) (cellsR_one _) (by unfold maxLen; omega) (by omega) (by simp) ?_)
    intro v' w2 hown' hgrow
    have hown2 : w2.ownsRow w.heap.size 36 3 v' l.length (cellsR l) := by
      rw [HN.out]
      simpa using hown'
    have hb2 : Below w.heap.size w w2 := ((Below.refl w.heap.size w).alloc (Nat.le_refl _) _).grown hgrow (by simp) (fun g hg => by simp [Value.ownBlock] at hg; omega)
    obtain ⟨A', c', rfl, hr'⟩ := ruAt_own hown2
    have HO2 := Lib.hid hr'
    have HC2 := Lib.hid (HR.out.below hb2)
    have HB2 := Lib.hid hb2
    rw [HN.out]
    clear hgrow hown' hown2 hr' hb2 HM HR HR1 HA hi hz0 hz1 hz2 hcr
    have HPA := Lib.hid (fun A c W h => pars_reads A l n c W HN.out h (by omega))
    have HPB := Lib.hid (fun A c W h => refpars_reads A l n c W HN.out h (by omega))
    have hpl := parL_len l n
    have HRS := Lib.hid (fun A B c d W ha hb => Ku.rsame_yes A B l n c d W HN.out ha hb (by omega))
    have HSA := Lib.hid (fun A B c d W ha hb => same_ints A B (parL l n) c d W ha hb (by omega))
    generalize parL l n = ps at *
    go_wp2_with fail
    refine (HPA.out _ _ _ HO2.out).mono ?_
    rintro e w3 ⟨D3, d3, rfl, hi3, hb3⟩
    have HI3 := Lib.hid hi3
    have HO3 := Lib.hid (HO2.out.below hb3)
    have HC3 := Lib.hid (HC2.out.below hb3)
    have HB3 := Lib.hid (HB2.out.trans (hb3.mono HB2.out.size))
    clear hi3 hb3 HO2 HC2 HB2
    go_wp2_with fail
    refine (HPB.out _ _ _ HC3.out).mono ?_
    rintro e w4 ⟨D4, d4, rfl, hi4, hb4⟩
    have HI4 := Lib.hid hi4
    have HI34 := Lib.hid (HI3.out.below hb4)
    have HO4 := Lib.hid (HO3.out.below hb4)
    have HC4 := Lib.hid (HC3.out.below hb4)
    have HB4 := Lib.hid (HB3.out.trans (hb4.mono HB3.out.size))
    clear hi4 hb4 HO3 HC3 HB3 HI3
    go_wp2_with fail
    refine (HSA.out _ _ _ _ _ HI34.out HI4.out).mono ?_
    rintro e w5 ⟨rfl, hb5⟩
    have HO5 := Lib.hid (HO4.out.below hb5)
    have HC5 := Lib.hid (HC4.out.below hb5)
    have HB5 := Lib.hid (HB4.out.trans (hb5.mono HB4.out.size))
    clear hb5 HO4 HC4 HB4
    go_wp2_with fail
    refine (HRS.out _ _ _ _ _ HO5.out HC5.out).mono ?_
    rintro e w7 ⟨rfl, hb7⟩
    have HB7 := Lib.hid (HB5.out.trans (hb7.mono HB5.out.size))
    go_wp2_with fail
    refine (awake_any _).mono ?_
    rintro e wa ⟨rfl, hba⟩
    go_wp2
    go_ret
    exact ⟨rfl, HB7.out.trans (hba.mono HB7.out.size)⟩

set_option maxRecDepth 100000 in
theorem lifted (os : Os) (started : os.Started) (H : Type) (enc : TypeId × Value → H) :
    ReturnsInHanded {} Try.checked os 3 .any (Rows.baseEndsSpec.pre6 enc Try.prog Try.f3 Rows.baseEndsRow.domain false) (Rows.baseEndsSpec.post enc Try.prog Try.f3 false true false false) := by
  refine returnsInHanded_of_change (C := Try.checked) law_own started (by kernel_rfl) Try.func3
    (ChangeSpec.witness6 (enc := enc) (C := Try.checked) false ⟨#[], #[.slice none 0 0], []⟩ 8 (by kernel_rfl) (by kernel_rfl) (by kernel_rfl) (by kernel_rfl)) ?_
  intro W base args ds gs before hval0 hW _ _
  have hval : ∀ (j : Nat) t v, Try.f3.params[j]? = some t → args[j]? = some v → Value.okWide Try.prog W .any base t v := hval0
  have hW' := hW
  obtain ⟨p, q, hA0, hV, rfl, hfz, hnd⟩ := hW
  have hA : DataW.TrodAll enc Try.prog W 0 (fun _ => true) true Try.f3.params.toList args.toList ds p := hA0
  rw [Try.params3] at hA hval
  obtain ⟨v0, vs0, d0, ds0, p0, q0, hargs, rfl, rfl, h0, r0⟩ := ChangeShapes.trodAll_cons hA
  obtain ⟨rfl, rfl, rfl⟩ := ChangeShapes.trodAll_nil r0
  obtain rfl : args = #[v0] := by cases args; simp_all
  obtain ⟨rfl, rfl⟩ := ChangeShapes.trodVars_none hV
  obtain ⟨A0, l0, c0, rfl, hr0, hnil0, hc0, hl0, hz0⟩ := open_runes (hval 0 22 v0 rfl rfl) h0
  refine (walk W A0 l0 c0 hr0 hnil0 hl0).mono fun e W' ⟨he, hB⟩ => ?_
  subst he
  exact ⟨_, rfl, law_post hW' rfl rfl (by kernel_rfl) rfl hB⟩

theorem holds : Rows.BaseEndsSaid :=
  OpenClaim.holds_of_wide 3 Try.f3 rfl rfl rfl rfl rfl rfl rfl ⟨rfl, rfl, rfl, rfl, rfl⟩ rfl rfl rfl rfl rfl (by kernel_rfl) Try.func3 (by kernel_rfl)
    (of_decide_eq_true (by kernel_rfl)) (by unfold Func.isWrapper; first | (rw [if_pos (by decide +kernel)]; kernel_rfl) | (rw [if_neg (by decide +kernel)]; exact ⟨rfl, rfl⟩))
    (fun os started H enc _ => lifted os started H enc)
end Go.Proofs.Ytifaimoaaiikpaa.BaseEnds
