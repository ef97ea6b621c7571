/-
  Proved here: for every row of numbers BidiOrders returns true (the order of at most 200 numbers as levels is what the document's answer says), and the row stays. No condition.
-/
import Derived.Test.YtfclpecbnailgaaGreatM24
import Derived.Test.YtfclpecbnailgaaGreatM25
set_option linter.unusedVariables false
namespace Go.Proofs.YtfclpecbnailgaaGreat.BidiOrders
open Go Go.ChangeShapes Go.WideShapes Go.ChangeAt Go.RowKit Go.Lib Go.Proofs.YtfclpecbnailgaaGreat.Cl Go.Proofs.YtfclpecbnailgaaGreat.Rc Go.Proofs.YtfclpecbnailgaaGreat.Bi
open Go.Proofs.YtfclpecbnailgaaGreat.Ku (R3 RuAt cellsR cellsR_len cellsR_one ruAt_own infoR)
set_option maxHeartbeats 4000000 in
set_option maxRecDepth 100000 in
theorem walk_n (w : World) (A : Option Addr) (T : List Int) (n ca : Nat) (hA : IntsAt w A T) (hlT : T.length = n) :
    Calls Tryz.prog 5 #[.slice A n ca] w fun e w' => e = .returned (.bool true) ∧ Below w.heap.size w w' := by
  by_cases h0 : 200 < n
  · have d0 : decide ((200 : Int) < (n : Int)) = true := decide_eq_true (by omega)
    have e0 : decide (200 < n) = true := decide_eq_true h0
    go_enter Tryz.func5, Tryz.ntmps5
    go_wp2_with (go_at_call 10; refine (awake_any _).mono ?_; rintro e w' ⟨rfl, hb⟩)
    go_ret
    exact ⟨rfl, hb⟩
  · have d0 : decide ((200 : Int) < (n : Int)) = false := decide_eq_false (by omega)
    have e0 : decide (200 < n) = false := decide_eq_false h0
    have HA := Lib.hid hA
    have HLT := Lib.hid hlT
    have HSL := Lib.hid (show (Sq.ns (Bo.orderP T)).length = n from by rw [Sq.ns_len, Bo.order_len, hlT])
    clear hA hlT
    go_enter Tryz.func5, Tryz.ntmps5
    have hdd := below_made w (.cells #[] 3)
    have HSRC := Lib.hid (HA.out.below hdd)
    have HDD := Lib.hid hdd
    clear hdd
    go_wp2_with (at_builtin; refine wpList_add rfl _ _ rfl w.heap.size _ 0 [] rfl (made_nil w) A n ca T rfl HSRC.out HLT.out (by omega) (by simp) ?_)
    intro v1 w1 hown hb
    try simp only [List.nil_append, Nat.zero_add] at hown
    obtain ⟨A1, c1, rfl, hat⟩ := intsAt_icl hown HLT.out
    have HB1 := Lib.hid (HDD.out.trans hb)
    have HO1 := Lib.hid hat
    clear hown hb hat HDD HSRC
    have HBR := Lib.hid (order_any A1 T n c1 w1 HO1.out HLT.out (by omega))
    have HRB := Lib.hid (fun (V : World) (h : IntsAt V A T) => rorder_any A T n ca V h HLT.out (by omega))
    generalize Sq.ns (Bo.orderP T) = S at *
    go_wp2_with fail
    refine HBR.out.mono ?_
    rintro e w4 ⟨A4, c4, rfl, hown, hb⟩
    have HOW4 := Lib.hid hown
    have HB4 := Lib.hid (bt HB1.out hb)
    have HO14 := Lib.hid (HO1.out.below hb)
    have HRB2 := Lib.hid (HRB.out w4 (HA.out.below HB4.out))
    clear hown hb HBR HRB
    go_wp2_with fail
    refine HRB2.out.mono ?_
    rintro e w5 ⟨A5, c5, rfl, hown, hb⟩
    have HOW5 := Lib.hid (ownsRow_below HOW4.out hb)
    have HB5 := Lib.hid (bt HB4.out hb)
    have HO15 := Lib.hid (HO14.out.below hb)
    have HS := Lib.hid (same_n A4 A5 S n c4 c5 w5 HSL.out (own_reads HOW5.out HSL.out) (own_reads hown HSL.out) (by omega))
    clear hown hb HRB2 HOW4
    go_wp2_with fail
    refine HS.out.mono ?_
    rintro e w6 ⟨rfl, hb⟩
    have HB6 := Lib.hid (bt HB5.out hb)
    have HS1 := Lib.hid (same_n A1 A T n c1 ca w6 HLT.out (HO15.out.below hb) (HA.out.below HB6.out) (by omega))
    clear hb HS HOW5
    go_wp2_with fail
    refine HS1.out.mono ?_
    rintro e w8 ⟨rfl, hb⟩
    have HBZ := Lib.hid (bt HB6.out hb)
    clear hb HS1
    go_wp2_with fail
    refine (awake_any _).mono ?_
    rintro e w99 ⟨rfl, hb⟩
    have HB99 := Lib.hid (HBZ.out.trans (hb.mono HBZ.out.size))
    clear hb
    go_wp2
    go_ret
    exact ⟨by first | rfl | simp, HB99.out⟩
theorem walk (w : World) (A : Option Addr) (T : List Int) (ca : Nat) (hA : IntsAt w A T) (_ : A = none → T = [] ∧ ca = 0) (_ : T.length ≤ 9223372036854775807) (_ : ∀ z ∈ T, -9223372036854775808 ≤ z ∧ z ≤ 9223372036854775807) :
    Calls Tryz.prog 5 #[.slice A T.length ca] w fun e w' => e = .returned (.bool true) ∧ Below w.heap.size w w' :=
  walk_n w A T T.length ca hA rfl
set_option maxRecDepth 100000 in
theorem lifted (os : Os) (started : os.Started) (H : Type) (enc : TypeId × Value → H) :
    ReturnsInHanded {} Tryz.checked os 5 .any (Rows.bidiOrdersSpec.pre6 enc Tryz.prog Tryz.f5 Rows.bidiOrdersRow.domain false) (Rows.bidiOrdersSpec.post enc Tryz.prog Tryz.f5 false true false false) := by
  refine returnsInHanded_of_change (C := Tryz.checked) law_own started (by kernel_rfl) Tryz.func5
    (ChangeSpec.witness6 (enc := enc) (C := Tryz.checked) false ⟨#[], #[.slice none 0 0], []⟩ 8 (by kernel_rfl) (by kernel_rfl) (by kernel_rfl) (by kernel_rfl)) ?_
  intro W base args ds gs before hval0 hW _ _
  have hval : ∀ (j : Nat) t v, Tryz.f5.params[j]? = some t → args[j]? = some v → Value.okWide Tryz.prog W .any base t v := hval0
  have hW' := hW
  obtain ⟨p, q, hA0, hV, rfl, hfz, hnd⟩ := hW
  have hA : DataW.TrodAll enc Tryz.prog W 0 (fun _ => true) true Tryz.f5.params.toList args.toList ds p := hA0
  rw [Tryz.params5] at hA hval
  obtain ⟨v0, vs0, d0, ds0, p0, q0, hargs, rfl, rfl, h0, r0⟩ := ChangeShapes.trodAll_cons hA
  obtain ⟨rfl, rfl, rfl⟩ := ChangeShapes.trodAll_nil r0
  obtain rfl : args = #[v0] := by cases args; simp_all
  obtain ⟨rfl, rfl⟩ := ChangeShapes.trodVars_none hV
  obtain ⟨A0, zs0, c0, rfl, hr0, hnil0, hl0, hz0⟩ := open_introw (hval 0 25 v0 rfl rfl) h0
  refine (walk W A0 zs0 c0 hr0 hnil0 hl0 hz0).mono fun e W' ⟨he, hB⟩ => ?_
  subst he
  exact ⟨_, rfl, law_post hW' rfl rfl (by kernel_rfl) rfl hB⟩
theorem holds : Rows.BidiOrdersSaid :=
  OpenClaim.holds_of_wide 5 Tryz.f5 rfl rfl rfl rfl rfl rfl rfl ⟨rfl, rfl, rfl, rfl, rfl⟩ rfl rfl rfl rfl rfl (by kernel_rfl) Tryz.func5 (by kernel_rfl)
    (of_decide_eq_true (by kernel_rfl)) (by unfold Func.isWrapper; first | (rw [if_pos (by decide +kernel)]; kernel_rfl) | (rw [if_neg (by decide +kernel)]; exact ⟨rfl, rfl⟩))
    (fun os started H enc _ => lifted os started H enc)
end Go.Proofs.YtfclpecbnailgaaGreat.BidiOrders
