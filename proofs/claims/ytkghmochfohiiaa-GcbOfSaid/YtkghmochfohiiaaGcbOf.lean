/-
  Proved here: for every number GcbOf returns true (its kind, and whether it is a pictograph, and those of the numbers beside it, are what the document says), and it stays. No condition.
-/
import Derived.Test.YtkghmochfohiiaaGcAwake
import Derived.Test.YtkghmochfohiiaaGrFns
import Derived.Test.YtkghmochfohiiaaGrRuns
import Derived.Test.YtkghmochfohiiaaLawKit
import Derived.Stop.Joined
set_option linter.unusedVariables false
namespace Go.Proofs.Ytkghmochfohiiaa.GcbOf
open Go.ChangeShapes Go.WideShapes Go.ChangeAt Go.RowKit Go.Lib Go.Proofs.Ytkghmochfohiiaa.Gc Go.Proofs.Ytkghmochfohiiaa.Gu
open Go.Proofs.Ytkghmochfohiiaa.Cl (IntsAt)


set_option maxHeartbeats 1000000 in
set_option maxRecDepth 100000 in
theorem walk (w : World) (c : Int) :
    Calls Try.prog 3 #[.int .i64 c] w fun e w' => e = .returned (.bool true) ∧ Below w.heap.size w w' := by
  go_enter Try.func3, Try.ntmps3
  go_wp2_with fail
  go_loopw [3] (fun s3 wx => ∃ d : Int, -2 ≤ d ∧ d ≤ 3 ∧ s3 = .int .i64 d ∧ Below w.heap.size w wx) (fun s3 _ => (3 - RowKit.intOf s3).toNat)
  case atStart => exact ⟨-2, by omega, by omega, rfl, Below.refl _ _⟩
  case round =>
    obtain ⟨d, hd1, hd2, rfl, hb⟩ := hrel
    by_cases hlt : d ≤ 2
    · go_wp2_with fail
      generalize wrap64 (bits BinOp.and IntKind.i64 c 4194303 + d) = y
      refine (gOf_any y _).mono ?_
      rintro e w1 ⟨rfl, hb1⟩
      go_wp2_with fail
      refine (Gr.refOf_kind y _).mono ?_
      rintro e w2 ⟨rfl, hb2⟩
      generalize kindT y = k
      go_wp2_with fail
      refine (gPict_any y _).mono ?_
      rintro e w3 ⟨rfl, hb3⟩
      go_wp2_with fail
      refine (Gr.refPict_any y _).mono ?_
      rintro e w4 ⟨rfl, hb4⟩
      generalize pictT y = p
      have h2 := hb1.trans (hb2.mono hb1.size)
      have h3 := h2.trans (hb3.mono h2.size)
      have h4 := h3.trans (hb4.mono h3.size)
      clear hb1 hb2 hb3 hb4 h2 h3
      go_wp2
      go_roundw
      case rel => exact ⟨d + 1, by omega, by omega, by go_num, hb.trans (h4.mono hb.size)⟩
      case measure => simp [RowKit.intOf]; omega
    · go_wp2_with fail
      refine (gOf_any c _).mono ?_
      rintro e w1 ⟨rfl, hb1⟩
      go_wp2_with fail
      refine (Gr.refOf_kind c _).mono ?_
      rintro e w2 ⟨rfl, hb2⟩
      generalize kindT c = k
      go_wp2_with fail
      refine (gPict_any c _).mono ?_
      rintro e w3 ⟨rfl, hb3⟩
      go_wp2_with fail
      refine (Gr.refPict_any c _).mono ?_
      rintro e w4 ⟨rfl, hb4⟩
      generalize pictT c = p
      have h2 := hb1.trans (hb2.mono hb1.size)
      have h3 := h2.trans (hb3.mono h2.size)
      have h4 := h3.trans (hb4.mono h3.size)
      have hB := hb.trans (h4.mono hb.size)
      clear hb1 hb2 hb3 hb4 h2 h3 h4 hb
      go_wp2_with fail
      refine (awake_any _).mono ?_
      rintro e w5 ⟨rfl, hb5⟩
      go_wp2
      go_ret
      exact ⟨rfl, hB.trans (hb5.mono hB.size)⟩

set_option maxRecDepth 100000 in
theorem lifted (os : Os) (started : os.Started) (H : Type) (enc : TypeId × Value → H) :
    ReturnsInHanded {} Try.checked os 3 .any (Rows.gcbOfSpec.pre6 enc Try.prog Try.f3 Rows.gcbOfRow.domain false) (Rows.gcbOfSpec.post enc Try.prog Try.f3 false true false false) := by
  refine returnsInHanded_of_change (C := Try.checked) law_own started (by kernel_rfl) Try.func3
    (ChangeSpec.witness6 (enc := enc) (C := Try.checked) false ⟨#[], #[.int .i64 0], []⟩ 8 (by kernel_rfl) (by kernel_rfl) (by kernel_rfl) (by kernel_rfl)) ?_
  intro W base args ds gs before hval0 hW _ _
  have hval : ∀ (j : Nat) t v, Try.f3.params[j]? = some t → args[j]? = some v → Value.okWide Try.prog W .any base t v := hval0
  have hW' := hW
  obtain ⟨p, q, hA0, hV, rfl, hfz, hnd⟩ := hW
  have hA : DataW.TrodAll enc Try.prog W 0 (fun _ => true) true Try.f3.params.toList args.toList ds p := hA0
  rw [Try.params3] at hA hval
  obtain ⟨v0, vs0, d0, ds0, p0, q0, hargs, rfl, rfl, h0, r0⟩ := ChangeShapes.trodAll_cons hA
  obtain ⟨rfl, rfl, rfl⟩ := ChangeShapes.trodAll_nil r0
  obtain rfl : args = #[v0] := by cases args; simp_all
  obtain ⟨rfl, rfl⟩ := ChangeShapes.trodVars_none hV
  obtain ⟨x0, rfl, rfl, rfl, wx0⟩ := open_int Try.underlying3 (hval 0 3 v0 rfl rfl) h0
  refine (walk W x0).mono fun e W' ⟨he, hB⟩ => ?_
  subst he
  exact ⟨_, rfl, law_post hW' rfl rfl (by kernel_rfl) rfl hB⟩

theorem holds : Rows.GcbOfSaid :=
  OpenClaim.holds_of_wide 3 Try.f3 rfl rfl rfl rfl rfl rfl rfl ⟨rfl, rfl, rfl, rfl, rfl⟩ rfl rfl rfl rfl rfl (by kernel_rfl) Try.func3 (by kernel_rfl)
    (of_decide_eq_true (by kernel_rfl)) (by unfold Func.isWrapper; first | (rw [if_pos (by decide +kernel)]; kernel_rfl) | (rw [if_neg (by decide +kernel)]; exact ⟨rfl, rfl⟩))
    (fun os started H enc _ => lifted os started H enc)
end Go.Proofs.Ytkghmochfohiiaa.GcbOf
