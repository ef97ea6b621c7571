/-
  Proved here: for every two numbers MirrorMeets returns true (whether they meet, and the first one and what is beside its counterpart, is as the document says), and they stay. No condition.
-/
import Derived.Test.YtheiganlbjdkeaaMiAwake
import Derived.Test.YtheiganlbjdkeaaMrFns
import Derived.Test.YtheiganlbjdkeaaLawKit
import Derived.Stop.Joined
set_option linter.unusedVariables false
namespace Go.Proofs.Ytheiganlbjdkeaa.MirrorMeets
open Go.ChangeShapes Go.WideShapes Go.ChangeAt Go.RowKit Go.Lib Go.Proofs.Ytheiganlbjdkeaa.Mi


set_option maxHeartbeats 2000000 in
set_option maxRecDepth 100000 in
theorem walk (w : World) (a b : Int) :
    Calls Try.prog 4 #[.int .i64 a, .int .i64 b] w fun e w' => e = .returned (.bool true) ∧ Below w.heap.size w w' := by
  have CA := Lib.hid (Mr.refPair_any a)
  have ho := pair_bounds a
  generalize pairT a = p at CA ho
  obtain ⟨k, o⟩ := p
  simp only at CA ho
  obtain ⟨_, _, ho1, ho2⟩ := ho
  go_enter Try.func4, Try.ntmps4
  go_wp2_with fail
  refine (CA.out _).mono ?_
  rintro e w0 ⟨rfl, hb0⟩
  go_wp2_with fail
  go_loopw [7] (fun s7 wx => ∃ d : Int, -2 ≤ d ∧ d ≤ 3 ∧ s7 = .int .i64 d ∧ Below w.heap.size w wx) (fun s7 _ => (3 - RowKit.intOf s7).toNat)
  case atStart => exact ⟨-2, by omega, by omega, rfl, hb0⟩
  case round =>
    obtain ⟨d, hd1, hd2, rfl, hb⟩ := hrel
    by_cases hlt : d ≤ 2
    · go_wp2_with fail
      refine (mMeet_any a (o + d) _).mono ?_
      rintro e w1 ⟨rfl, hb1⟩
      go_wp2_with fail
      refine (Mr.refMeet_any a (o + d) _).mono ?_
      rintro e w2 ⟨rfl, hb2⟩
      generalize meetT a (o + d) = m
      cases m
      all_goals
        go_wp2
        go_roundw
        case rel => exact ⟨d + 1, by omega, by omega, by go_num, hb.trans ((hb1.trans (hb2.mono hb1.size)).mono hb.size)⟩
        case measure => simp [RowKit.intOf]; omega
    · go_wp2_with fail
      refine (mMeet_any a b _).mono ?_
      rintro e w1 ⟨rfl, hb1⟩
      go_wp2_with fail
      refine (Mr.refMeet_any a b _).mono ?_
      rintro e w2 ⟨rfl, hb2⟩
      generalize meetT a b = m
      cases m
      all_goals
        go_wp2_with fail
        refine (awake_any _).mono ?_
        rintro e w5 ⟨rfl, hb5⟩
        go_wp2
        go_ret
        have hB := hb.trans ((hb1.trans (hb2.mono hb1.size)).mono hb.size)
        exact ⟨rfl, hB.trans (hb5.mono hB.size)⟩

set_option maxRecDepth 100000 in
theorem lifted (os : Os) (started : os.Started) (H : Type) (enc : TypeId × Value → H) :
    ReturnsInHanded {} Try.checked os 4 .any (Rows.mirrorMeetsSpec.pre6 enc Try.prog Try.f4 Rows.mirrorMeetsRow.domain false) (Rows.mirrorMeetsSpec.post enc Try.prog Try.f4 false true false false) := by
  refine returnsInHanded_of_change (C := Try.checked) law_own started (by kernel_rfl) Try.func4
    (ChangeSpec.witness6 (enc := enc) (C := Try.checked) false ⟨#[], #[.int .i64 0, .int .i64 0], []⟩ 8 (by kernel_rfl) (by kernel_rfl) (by kernel_rfl) (by kernel_rfl)) ?_
  intro W base args ds gs before hval0 hW _ _
  have hval : ∀ (j : Nat) t v, Try.f4.params[j]? = some t → args[j]? = some v → Value.okWide Try.prog W .any base t v := hval0
  have hW' := hW
  obtain ⟨p, q, hA0, hV, rfl, hfz, hnd⟩ := hW
  have hA : DataW.TrodAll enc Try.prog W 0 (fun _ => true) true Try.f4.params.toList args.toList ds p := hA0
  rw [Try.params4] at hA hval
  obtain ⟨v0, vs0, d0, ds0, p0, q0, hargs, rfl, rfl, h0, r0⟩ := ChangeShapes.trodAll_cons hA
  obtain ⟨v1, vs1, d1, ds1, p1, q1, rfl, rfl, rfl, h1, r1⟩ := ChangeShapes.trodAll_cons r0
  obtain ⟨rfl, rfl, rfl⟩ := ChangeShapes.trodAll_nil r1
  obtain rfl : args = #[v0, v1] := by cases args; simp_all
  obtain ⟨rfl, rfl⟩ := ChangeShapes.trodVars_none hV
  obtain ⟨x0, rfl, rfl, rfl, wx0⟩ := open_int Try.underlying3 (hval 0 3 v0 rfl rfl) h0
  obtain ⟨x1, rfl, rfl, rfl, wx1⟩ := open_int Try.underlying3 (hval 1 3 v1 rfl rfl) h1
  refine (walk W x0 x1).mono fun e W' ⟨he, hB⟩ => ?_
  subst he
  exact ⟨_, rfl, law_post hW' rfl rfl (by kernel_rfl) rfl hB⟩

theorem holds : Rows.MirrorMeetsSaid :=
  OpenClaim.holds_of_wide 4 Try.f4 rfl rfl rfl rfl rfl rfl rfl ⟨rfl, rfl, rfl, rfl, rfl⟩ rfl rfl rfl rfl rfl (by kernel_rfl) Try.func4 (by kernel_rfl)
    (of_decide_eq_true (by kernel_rfl)) (by unfold Func.isWrapper; first | (rw [if_pos (by decide +kernel)]; kernel_rfl) | (rw [if_neg (by decide +kernel)]; exact ⟨rfl, rfl⟩))
    (fun os started H enc _ => lifted os started H enc)
end Go.Proofs.Ytheiganlbjdkeaa.MirrorMeets
