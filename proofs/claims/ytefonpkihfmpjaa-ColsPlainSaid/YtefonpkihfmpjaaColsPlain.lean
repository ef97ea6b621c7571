/-
  Proved here: for every number ColsPlain returns true (the signs of ASCII take one slot each, its controls none; what is no code point takes one), and it stays. No condition.
-/
import Derived.Test.YtefonpkihfmpjaaCoAwake
import Derived.Laws.Bits128
import Derived.Test.YtefonpkihfmpjaaLawKit
import Derived.Stop.Joined
set_option linter.unusedVariables false
namespace Go.Proofs.Ytefonpkihfmpjaa.ColsPlain
open Go.ChangeShapes Go.WideShapes Go.ChangeAt Go.RowKit Go.Lib Go.Proofs.Ytefonpkihfmpjaa.Co
open Go.Proofs.Ytefonpkihfmpjaa.Cl (IntsAt)


theorem plain_yes {y : Int} (h0 : 0 ≤ y) (h1 : y < 128) (h : y < 32 ∨ y = 127) : slotsT y = 0 := by rw [plain_of h0 h1, plainW, if_pos h]
theorem plain_no {y : Int} (h0 : 0 ≤ y) (h1 : y < 128) (h : ¬ (y < 32 ∨ y = 127)) : slotsT y = 1 := by rw [plain_of h0 h1, plainW, if_neg h]

set_option maxHeartbeats 2000000 in
set_option maxRecDepth 100000 in
theorem walk (w : World) (c : Int) :
    Calls Try.prog 6 #[.int .i64 c] w fun e w' => e = .returned (.bool true) ∧ Below w.heap.size w w' := by
  have hy := i64_and127 c
  have m1 : 0 ≤ c % 128 := by omega
  have m2 : c % 128 < 128 := by omega
  generalize c % 128 = y at *
  have main : ∀ (v : Int) (p1 p2 : Bool), slotsT y = v → decide (y < 32) = p1 → (y == 127) = p2 → v = (if (p1 || p2) = true then 0 else 1) → Calls Try.prog 6 #[.int .i64 c] w fun e w' => e = .returned (.bool true) ∧ Below w.heap.size w w' := by
    intro v p1 p2 hv h1 h2 h3
    have CY := Lib.hid (fun W => of_as y v hv W)
    clear hv
    have CA := Lib.hid (fun W => awake_any W)
    have fin : ∀ (q1 q2 : Bool), decide (0 ≤ c) = q1 → decide (c < 1114112) = q2 → ((q1 && q2) = false → ∀ W, Calls Try.prog 7 #[.int .i64 c] W fun e w' => e = .returned (.int .i64 1) ∧ Below W.heap.size W w') → Calls Try.prog 6 #[.int .i64 c] w fun e w' => e = .returned (.bool true) ∧ Below w.heap.size w w' := by
      intro q1 q2 h4 h5 h6
      have CC := Lib.hid h6
      clear h6
      cases p1 <;> cases p2 <;> subst h3 <;> cases q1 <;> cases q2
      all_goals
        go_enter Try.func6, Try.ntmps6
        go_wp2_with fail
        refine (CY.out _).mono ?_
        rintro e w1 ⟨rfl, hb1⟩
        go_wp2_with fail
        first
        | ((with_reducible refine (CA.out _).mono ?_)
           rintro e w2 ⟨rfl, hb2⟩
           go_wp2
           go_ret
           exact ⟨rfl, hb1.trans (hb2.mono hb1.size)⟩)
        | ((with_reducible refine (CC.out (by simp) _).mono ?_)
           rintro e w2 ⟨rfl, hb2⟩
           go_wp2_with fail
           refine (CA.out _).mono ?_
           rintro e w3 ⟨rfl, hb3⟩
           go_wp2
           go_ret
           have hc := hb1.trans (hb2.mono hb1.size)
           exact ⟨rfl, hc.trans (hb3.mono hc.size)⟩)
    refine fin _ _ rfl rfl fun h W => ?_
    refine of_as c 1 (out_one ?_) W
    simp only [Bool.and_eq_false_iff, decide_eq_false_iff_not] at h
    omega
  by_cases h : y < 32 ∨ y = 127
  · refine main 0 _ _ (plain_yes m1 m2 h) rfl rfl ?_
    rw [if_pos (by simpa using h)]
  · refine main 1 _ _ (plain_no m1 m2 h) rfl rfl ?_
    rw [if_neg (by simpa using h)]

set_option maxRecDepth 100000 in
theorem lifted (os : Os) (started : os.Started) (H : Type) (enc : TypeId × Value → H) :
    ReturnsInHanded {} Try.checked os 6 .any (Rows.colsPlainSpec.pre6 enc Try.prog Try.f6 Rows.colsPlainRow.domain false) (Rows.colsPlainSpec.post enc Try.prog Try.f6 false true false false) := by
  refine returnsInHanded_of_change (C := Try.checked) law_own started (by kernel_rfl) Try.func6
    (ChangeSpec.witness6 (enc := enc) (C := Try.checked) false ⟨#[], #[.int .i64 0], []⟩ 8 (by kernel_rfl) (by kernel_rfl) (by kernel_rfl) (by kernel_rfl)) ?_
  intro W base args ds gs before hval0 hW _ _
  have hval : ∀ (j : Nat) t v, Try.f6.params[j]? = some t → args[j]? = some v → Value.okWide Try.prog W .any base t v := hval0
  have hW' := hW
  obtain ⟨p, q, hA0, hV, rfl, hfz, hnd⟩ := hW
  have hA : DataW.TrodAll enc Try.prog W 0 (fun _ => true) true Try.f6.params.toList args.toList ds p := hA0
  rw [Try.params6] at hA hval
  obtain ⟨v0, vs0, d0, ds0, p0, q0, hargs, rfl, rfl, h0, r0⟩ := ChangeShapes.trodAll_cons hA
  obtain ⟨rfl, rfl, rfl⟩ := ChangeShapes.trodAll_nil r0
  obtain rfl : args = #[v0] := by cases args; simp_all
  obtain ⟨rfl, rfl⟩ := ChangeShapes.trodVars_none hV
  obtain ⟨x0, rfl, rfl, rfl, wx0⟩ := open_int Try.underlying3 (hval 0 3 v0 rfl rfl) h0
  refine (walk W x0).mono fun e W' ⟨he, hB⟩ => ?_
  subst he
  exact ⟨_, rfl, law_post hW' rfl rfl (by kernel_rfl) rfl hB⟩

theorem holds : Rows.ColsPlainSaid :=
  OpenClaim.holds_of_wide 6 Try.f6 rfl rfl rfl rfl rfl rfl rfl ⟨rfl, rfl, rfl, rfl, rfl⟩ rfl rfl rfl rfl rfl (by kernel_rfl) Try.func6 (by kernel_rfl)
    (of_decide_eq_true (by kernel_rfl)) (by unfold Func.isWrapper; first | (rw [if_pos (by decide +kernel)]; kernel_rfl) | (rw [if_neg (by decide +kernel)]; exact ⟨rfl, rfl⟩))
    (fun os started H enc _ => lifted os started H enc)
end Go.Proofs.Ytefonpkihfmpjaa.ColsPlain
