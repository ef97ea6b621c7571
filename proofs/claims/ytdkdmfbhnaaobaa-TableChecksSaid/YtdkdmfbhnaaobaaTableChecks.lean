/-
  Proved here: for every records, TableChecks returns true (the width of at most 60 records of 60 fields of 4000 bytes is the document's, and so is what is wrong with them), and the records stay. Without a condition.
-/
import Derived.Test.YtdkdmfbhnaaobaaTbAwake
import Derived.Test.YtdkdmfbhnaaobaaTbOwn
import Derived.Test.YtdkdmfbhnaaobaaTbOpen
set_option linter.unusedVariables false
namespace Go.Proofs.Ytdkdmfbhnaaobaa.TableChecks
open Go.ChangeShapes Go.WideShapes Go.ChangeAt Go.RowKit Go.Lib Go.Proofs.Ytdkdmfbhnaaobaa.Cv Go.Proofs.Ytdkdmfbhnaaobaa.Tb

set_option maxHeartbeats 2000000 in
set_option maxRecDepth 1000000 in
theorem walk (w : World) (A : Option Addr) (R : Rec) (c : Nat) (hA : RecsC w A R) (hl : R.length ≤ 140737488355328) (hr : ∀ r ∈ R, r.length ≤ 140737488355328) (hx : ∀ r ∈ R, ∀ x ∈ r, x.length ≤ 140737488355328) :
    Calls Try.prog 3 #[.slice A R.length c] w fun e w' => e = .returned (.bool true) ∧ Below w.heap.size w w' := by
  have HA := Lib.hid hA.recs
  have HX := Lib.hid hx
  have HW := Lib.hid (toowide_any A R R.length c rfl w hA.recs hl hr hx)
  clear hA hl hr hx
  go_enter Try.func3, Try.ntmps3
  go_wp2_with fail
  refine HW.out.mono ?_
  rintro e w0 ⟨⟨b, rfl, hsm⟩, hw0⟩
  subst hw0
  cases b with
  | true =>
    clear hsm
    go_wp2_with fail
    refine (awake_any _).mono ?_
    rintro e w1 ⟨rfl, hb1⟩
    go_wp2
    go_ret
    exact ⟨rfl, hb1⟩
  | false =>
    have hS := hsm rfl
    have HF := Lib.hid hS.few
    have H1 := Lib.hid (width_any A R R.length c rfl w0 HA.out HF.out)
    have H2 := Lib.hid (refWidth_any A R R.length c rfl w0 HA.out HF.out)
    have H3 := Lib.hid (check_any A R R.length c rfl w0 HA.out HF.out HX.out)
    have H4 := Lib.hid (fun W hW => refCheck_any A R R.length c rfl W (HA.out.below hW) HF.out HX.out)
    generalize widthT R = m at *
    generalize checkT R = z at *
    clear hsm hS HW
    go_wp2_with fail
    refine H1.out.mono ?_
    rintro e w1 ⟨rfl, rfl⟩
    go_wp2_with fail
    refine H2.out.mono ?_
    rintro e w1 ⟨rfl, rfl⟩
    go_wp2_with fail
    refine H3.out.mono ?_
    rintro e w1 ⟨rfl, hb1⟩
    have K4 := Lib.hid (H4.out w1 hb1)
    have B1 := Lib.hid hb1
    clear hb1 H1 H2 H3 H4
    go_wp2_with fail
    refine K4.out.mono ?_
    rintro e w2 ⟨rfl, hb2⟩
    have B2 := Lib.hid (B1.out.trans (hb2.mono B1.out.size))
    clear hb2 K4
    go_wp2_with fail
    refine (awake_any _).mono ?_
    rintro e w3 ⟨rfl, hb3⟩
    go_wp2
    go_ret
    exact ⟨rfl, B2.out.trans (hb3.mono B2.out.size)⟩

set_option maxRecDepth 100000 in
theorem lifted (os : Os) (started : os.Started) (H : Type) (enc : TypeId × Value → H) :
    ReturnsInHanded {} Try.checked os 3 .any (Rows.tableChecksSpec.pre6 enc Try.prog Try.f3 Rows.tableChecksRow.domain false) (Rows.tableChecksSpec.post enc Try.prog Try.f3 false true false false) := by
  refine returns_w started (by kernel_rfl) Try.func3 (ChangeSpec.witness6 (enc := enc) (C := Try.checked) false ⟨#[], #[.slice none 0 0], []⟩ 8 (by kernel_rfl) (by kernel_rfl) (by kernel_rfl) (by kernel_rfl)) rfl rfl (by kernel_rfl) ?_ ?_
  · intro ds hds
    rw [show Try.f3.params.toList.length = 1 from by kernel_rfl] at hds
    match ds, hds with
    | [d0], _ => rfl
  intro W base args ds p hval hA hwe
  rw [Try.params3] at hA hval hwe
  obtain ⟨v0, vs0, d0, ds0, p0, q0, hargs, rfl, rfl, h0, r0⟩ := ChangeShapes.trodAll_cons hA
  obtain ⟨rfl, rfl, rfl⟩ := ChangeShapes.trodAll_nil r0
  obtain rfl : args = #[v0] := by cases args; simp_all
  obtain ⟨A0, R0, c0, rfl, hr0, -, hl0, hrl0, hxl0⟩ := open_recsC (hval 0 22 v0 rfl rfl) h0 (hwe 0 _ _ rfl rfl)
  exact walk W A0 R0 c0 hr0 hl0 hrl0 hxl0

theorem holds : Rows.TableChecksSaid :=
  OpenClaim.holds_of_wide 3 Try.f3 rfl rfl rfl rfl rfl rfl rfl ⟨rfl, rfl, rfl, rfl, rfl⟩ rfl rfl rfl rfl rfl (by kernel_rfl) Try.func3 (by kernel_rfl)
    (of_decide_eq_true (by kernel_rfl)) (by unfold Func.isWrapper; first | (rw [if_pos (by decide +kernel)]; kernel_rfl) | (rw [if_neg (by decide +kernel)]; exact ⟨rfl, rfl⟩))
    (fun os started H enc _ => lifted os started H enc)
end Go.Proofs.Ytdkdmfbhnaaobaa.TableChecks
