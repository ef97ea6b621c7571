/-
 Proved here: for every row of runes and every number as the paragraph's level BidiResolves returns true (the levels of at most 60 runes are what the document's answer says), and the row stays. No condition.
-/
import Derived.ChangeSlices
import Derived.Laws.IdiomAt
import Derived.Laws.IdiomElems
import Derived.Test.YtfclpecbnailgaaGreatR24
import Derived.Test.YtfclpecbnailgaaGreatRBrRes
import Derived.Test.YtfclpecbnailgaaGreatR2
import Derived.Test.YtfclpecbnailgaaGreatR40
set_option linter.unusedVariables false
namespace Go.Proofs.YtfclpecbnailgaaGreat.BidiResolves
open Go Go.ChangeShapes Go.WideShapes Go.ChangeAt Go.RowKit Go.Lib Go.Proofs.YtfclpecbnailgaaGreat.Cl Go.Proofs.YtfclpecbnailgaaGreat.Rc Go.Proofs.YtfclpecbnailgaaGreat.Bi
open Go.Proofs.YtfclpecbnailgaaGreat.Ku (R3 RuAt cellsR cellsR_len cellsR_one ruAt_own infoR)
set_option maxHeartbeats 4000000 in
set_option maxRecDepth 100000 in
theorem walk (w : World) (A : Option Addr) (l : List R3) (c : Nat) (hr : RuAt w A l) (hnil : A = none → l = [] ∧ c = 0) (hlz : l.length ≤ 9223372036854775807) (x : Int) :
  Calls Tryz.prog 3 #[.slice A l.length c, .int .i64 x] w fun e w' => e = .returned (.bool true) ∧ Below w.heap.size w w' := by
 by_cases hbig : 60 < l.length
 ·have d0 : decide ((60 : Int) < (l.length : Int)) = true := decide_eq_true (by omega)
  have e0 : decide (60 < l.length) = true := decide_eq_true hbig
  go_enter Tryz.func3, Tryz.ntmps3
  go_wp2_with (go_at_call 10; refine (awake_any _).mono ?_; rintro e w' ⟨rfl, hb⟩)
  go_ret
  exact ⟨rfl, hb⟩
 ·obtain ⟨i0, hi, hz0, hz1, hz2⟩ := info_parts infoR
  have hmade : (w.alloc (.cells #[] 38)).ownsRow w.heap.size 38 3 (.slice (some ⟨w.heap.size, 0, none⟩) 0 0) 0 [] := World.ownsRow_made w #[] 0 (Nat.le_refl _) (Nat.zero_le _) rfl
  have hr1 := hr.below ((Below.refl w.heap.size w).alloc (Nat.le_refl _) (.cells #[] 38))
  have HM := Lib.hid hmade
  have HR1 := Lib.hid hr1
  have HR := Lib.hid hr
  have HA := Lib.hid (fun h => (by rw [(hnil h).1]; rfl : l.length = 0))
  have hcr := cellsR_len l
  clear hmade hr1 hnil hr
  obtain ⟨n, hn⟩ : ∃ n, l.length = n := ⟨_, rfl⟩
  rw [hn] at HA hbig hcr ⊢
  have d0 : decide ((60 : Int) < (n : Int)) = false := decide_eq_false (by omega)
  have e0 : decide (60 < n) = false := decide_eq_false hbig
  have HN := Lib.hid hn
  clear hn
  go_enter Tryz.func3, Tryz.ntmps3
  go_wp2_with (at_builtin; refine wpList_append_src _ rfl _ _ 22 rfl w.heap.size 38 i0 (.agg #[.int .i64 0, .int .i64 0, .int .i64 0]) 3 24 Tryz.underlying22 hi hz0 hz1 hz2 rfl (by decide) _ _ _ rfl HM.out A n c (cellsR l) rfl hcr HA.out (fun ad had => (had ▸ HR1.out : RuAt _ (some ad) l).news) (cellsR_one _) (by unfold maxLen; omega) (by omega) (by simp) ?_)
  intro v' w2 hown' hgrow
  have hown2 : w2.ownsRow w.heap.size 38 3 v' l.length (cellsR l) := by
   rw [HN.out]
   simpa using hown'
  have hb2 : Below w.heap.size w w2 := ((Below.refl w.heap.size w).alloc (Nat.le_refl _) _).grown hgrow (by simp) (fun g hg => by simp [Value.ownBlock] at hg; omega)
  obtain ⟨A1, c1, rfl, hr'⟩ := ruAt_own hown2
  rw [HN.out]
  have HO2 := Lib.hid hr'
  have HC2 := Lib.hid (HR.out.below hb2)
  have HB2 := Lib.hid hb2
  clear hgrow hown' hown2 hr' hb2 HM HR HR1 HA hi hz0 hz1 hz2 hcr
  have HRA := Lib.hid (resolve_any A1 l x n c1 w2 HN.out HO2.out (by omega))
  have HRB := Lib.hid (fun (V : World) (h : RuAt V A l) => rresolve_any A l x n c V HN.out h (by omega))
  have HRS := Lib.hid (fun A B c d W ha hb => Ku.rsame_yes A B l n c d W HN.out ha hb (by omega))
  have HSL := Lib.hid (show (resZ (clsR l) (codR l) x).length ≤ 60 from by have h := resZ_le (clsR l) (codR l) x; rw [clsR_len, HN.out] at h; omega)
  generalize resZ (clsR l) (codR l) x = S at *
  obtain ⟨m, hm⟩ : ∃ m, S.length = m := ⟨_, rfl⟩
  rw [hm] at HRA HRB HSL
  have HSM := Lib.hid hm
  have hm6 := HSL.out
  clear hm
  go_wp2_with fail
  refine HRA.out.mono ?_
  rintro e w4 ⟨A4, c4, rfl, hown, hb⟩
  have HOW4 := Lib.hid hown
  have HB4 := Lib.hid (bt HB2.out hb)
  have HO4 := Lib.hid (HO2.out.below hb)
  have HC4 := Lib.hid (HC2.out.below hb)
  have HRB2 := Lib.hid (HRB.out w4 HC4.out)
  clear hown hb HRA HRB HO2 HC2 HB2
  go_wp2_with fail
  refine HRB2.out.mono ?_
  rintro e w5 ⟨A5, c5, rfl, hown, hb⟩
  have HB5 := Lib.hid (bt HB4.out hb)
  have HO5 := Lib.hid (HO4.out.below hb)
  have HC5 := Lib.hid (HC4.out.below hb)
  have HS := Lib.hid (same_n A4 A5 S m c4 c5 w5 HSM.out (own_reads (ownsRow_below HOW4.out hb) HSM.out) (own_reads hown HSM.out) (by omega))
  clear hown hb HRB2 HOW4 HO4 HC4 HB4
  go_wp2_with fail
  refine HS.out.mono ?_
  rintro e w6 ⟨rfl, hb⟩
  have HB6 := Lib.hid (bt HB5.out hb)
  have HRS2 := Lib.hid (HRS.out A1 A c1 c w6 (HO5.out.below hb) (HC5.out.below hb))
  clear hb HS HRS HO5 HC5 HB5
  go_wp2_with fail
  refine HRS2.out.mono ?_
  rintro e w8 ⟨rfl, hb⟩
  have HBZ := Lib.hid (bt HB6.out hb)
  clear hb HRS2
  go_wp2_with fail
  refine (awake_any _).mono ?_
  rintro e w99 ⟨rfl, hb⟩
  have HB99 := Lib.hid (HBZ.out.trans (hb.mono HBZ.out.size))
  clear hb
  go_wp2
  go_ret
  exact ⟨by first | rfl | simp, HB99.out⟩
set_option maxRecDepth 100000 in
theorem lifted (os : Os) (started : os.Started) (H : Type) (enc : TypeId × Value → H) :
  ReturnsInHanded {} Tryz.checked os 3 .any (Rows.bidiResolvesSpec.pre6 enc Tryz.prog Tryz.f3 Rows.bidiResolvesRow.domain false) (Rows.bidiResolvesSpec.post enc Tryz.prog Tryz.f3 false true false false) := by
 refine returnsInHanded_of_change (C := Tryz.checked) law_own started (by kernel_rfl) Tryz.func3
  (ChangeSpec.witness6 (enc := enc) (C := Tryz.checked) false ⟨#[], #[.slice none 0 0, .int .i64 0], []⟩ 8 (by kernel_rfl) (by kernel_rfl) (by kernel_rfl) (by kernel_rfl)) ?_
 intro W base args ds gs before hval0 hW _ _
 have hval : ∀ (j : Nat) t v, Tryz.f3.params[j]? = some t → args[j]? = some v → Value.okWide Tryz.prog W .any base t v := hval0
 have hW' := hW
 obtain ⟨p, q, hA0, hV, rfl, hfz, hnd⟩ := hW
 have hA : DataW.TrodAll enc Tryz.prog W 0 (fun _ => true) true Tryz.f3.params.toList args.toList ds p := hA0
 rw [Tryz.params3] at hA hval
 obtain ⟨v0, vs0, d0, ds0, p0, q0, hargs, rfl, rfl, h0, r0⟩ := ChangeShapes.trodAll_cons hA
 obtain ⟨v1, vs1, d1, ds1, p1, q1, rfl, rfl, rfl, h1, r1⟩ := ChangeShapes.trodAll_cons r0
 obtain ⟨rfl, rfl, rfl⟩ := ChangeShapes.trodAll_nil r1
 obtain rfl : args = #[v0, v1] := by cases args; simp_all
 obtain ⟨rfl, rfl⟩ := ChangeShapes.trodVars_none hV
 obtain ⟨A0, l0, c0, rfl, hr0, hnil0, hc0, hl0, hz0⟩ := open_runes (hval 0 22 v0 rfl rfl) h0
 obtain ⟨x1, rfl, rfl, rfl, wx1⟩ := open_int Tryz.underlying3 (hval 1 3 v1 rfl rfl) h1
 refine (walk W A0 l0 c0 hr0 hnil0 hl0 x1).mono fun e W' ⟨he, hB⟩ => ?_
 subst he
 exact ⟨_, rfl, law_post hW' rfl rfl (by kernel_rfl) rfl hB⟩
theorem holds : Rows.BidiResolvesSaid :=
 OpenClaim.holds_of_wide 3 Tryz.f3 rfl rfl rfl rfl rfl rfl rfl ⟨rfl, rfl, rfl, rfl, rfl⟩ rfl rfl rfl rfl rfl (by kernel_rfl) Tryz.func3 (by kernel_rfl)
  (of_decide_eq_true (by kernel_rfl)) (by unfold Func.isWrapper; first | (rw [if_pos (by decide +kernel)]; kernel_rfl) | (rw [if_neg (by decide +kernel)]; exact ⟨rfl, rfl⟩))
  (fun os started H enc _ => lifted os started H enc)
end Go.Proofs.YtfclpecbnailgaaGreat.BidiResolves
