/-
  Proved here: for every number LevelRemoved returns true (whether any number is a class that is removed is what the document says), and the number stays. No condition.
-/
import Derived.Test.YtkeialfnmdicoaaLvAwake
import Derived.Test.YtkeialfnmdicoaaLvRefS
import Derived.Test.YtkeialfnmdicoaaLawKit
import Derived.Test.YtkeialfnmdicoaaLawInts
import Derived.Stop.Joined
set_option linter.unusedVariables false
namespace Go.Proofs.Ytkeialfnmdicoaa.LevelRemoved
open Go.ChangeShapes Go.WideShapes Go.ChangeAt Go.RowKit Go.Lib Go.Proofs.Ytkeialfnmdicoaa.Lv Go.Proofs.Ytkeialfnmdicoaa.Cl

set_option maxHeartbeats 2000000 in
set_option maxRecDepth 100000 in
theorem walk (w : World) (x : Int) :
    Calls Try.prog 4 #[.int .i64 x] w fun e w' => e = .returned (.bool true) ∧ Below w.heap.size w w' := by
  have HA := Lib.hid (fun c W => removed_any c W)
  have HB := Lib.hid (fun c W => nRemoved_any c W)
  go_enter Try.func4, Try.ntmps4
  go_wp2_with fail
  go_loop [3] (fun s3 => ∃ c : Int, s3 = .int .i64 c ∧ -1 ≤ c ∧ c ≤ 24) (fun s3 => (24 - RowKit.intOf s3).toNat)
  case atStart => exact ⟨-1, rfl, by decide, by decide⟩
  case round =>
    obtain ⟨c, rfl, h1, h2⟩ := hrel
    by_cases hlt : c < 24
    · have kl : decide (c < 24) = true := decide_eq_true hlt
      go_wp2_with fail
      refine (HA.out c _).mono ?_
      rintro e w1 ⟨rfl, rfl⟩
      go_wp2_with fail
      refine (HB.out c _).mono ?_
      rintro e w2 ⟨rfl, rfl⟩
      have kn : (remB c != remB c) = false := by simp
      generalize remB c = q at *
      go_wp2
      go_round
      case measure => simp [RowKit.intOf]; omega
      case rel => exact ⟨c + 1, by go_num, by omega, by omega⟩
    · have kl : decide (c < 24) = false := decide_eq_false hlt
      go_wp2_with fail
      refine (HA.out x _).mono ?_
      rintro e w1 ⟨rfl, rfl⟩
      go_wp2_with fail
      refine (HB.out x _).mono ?_
      rintro e w2 ⟨rfl, rfl⟩
      have kn : (remB x == remB x) = true := by simp
      generalize remB x = q at *
      go_wp2_with fail
      refine (awake_any _).mono ?_
      rintro e w3 ⟨rfl, hb3⟩
      go_wp2
      go_ret
      exact ⟨rfl, hb3⟩

set_option maxRecDepth 100000 in
theorem lifted (os : Os) (started : os.Started) (H : Type) (enc : TypeId × Value → H) :
    ReturnsInHanded {} Try.checked os 4 .any (Rows.levelRemovedSpec.pre6 enc Try.prog Try.f4 Rows.levelRemovedRow.domain false) (Rows.levelRemovedSpec.post enc Try.prog Try.f4 false true false false) := by
  refine returnsInHanded_of_change (C := Try.checked) law_own started (by kernel_rfl) Try.func4
    (ChangeSpec.witness6 (enc := enc) (C := Try.checked) false ⟨#[], #[.int .i64 0], []⟩ 8 (by kernel_rfl) (by kernel_rfl) (by kernel_rfl) (by kernel_rfl)) ?_
  intro W base args ds gs before hval0 hW _ _
  have hval : ∀ (j : Nat) t v, Try.f4.params[j]? = some t → args[j]? = some v → Value.okWide Try.prog W .any base t v := hval0
  have hW' := hW
  obtain ⟨p, q, hA0, hV, rfl, hfz, hnd⟩ := hW
  have hA : DataW.TrodAll enc Try.prog W 0 (fun _ => true) true Try.f4.params.toList args.toList ds p := hA0
  rw [Try.params4] at hA hval
  obtain ⟨v0, vs0, d0, ds0, p0, q0, hargs, rfl, rfl, h0, r0⟩ := ChangeShapes.trodAll_cons hA
  obtain ⟨rfl, rfl, rfl⟩ := ChangeShapes.trodAll_nil r0
  obtain rfl : args = #[v0] := by cases args; simp_all
  obtain ⟨rfl, rfl⟩ := ChangeShapes.trodVars_none hV
  obtain ⟨x0, rfl, rfl, rfl, wx0⟩ := open_int Try.underlying3 (hval 0 3 v0 rfl rfl) h0
  refine (walk W x0).mono fun e W' ⟨he, hB⟩ => ?_
  subst he
  exact ⟨_, rfl, law_post hW' rfl rfl (by kernel_rfl) rfl hB⟩

theorem holds : Rows.LevelRemovedSaid :=
  OpenClaim.holds_of_wide 4 Try.f4 rfl rfl rfl rfl rfl rfl rfl ⟨rfl, rfl, rfl, rfl, rfl⟩ rfl rfl rfl rfl rfl (by kernel_rfl) Try.func4 (by kernel_rfl)
    (of_decide_eq_true (by kernel_rfl)) (by unfold Func.isWrapper; first | (rw [if_pos (by decide +kernel)]; kernel_rfl) | (rw [if_neg (by decide +kernel)]; exact ⟨rfl, rfl⟩))
    (fun os started H enc _ => lifted os started H enc)
end Go.Proofs.Ytkeialfnmdicoaa.LevelRemoved
