/-
  Proved here: for every row of clusters, every line and every number ClipFits returns true (of at most 300, a line that may be, a number from 1 to 2^30: what is clipped or cut takes at most w slots; with dots it shows as much as fits beside them, no more than it showed; without all that it showed, and clipped again it is the same), and what is handed in stays. No condition.
-/
import Derived.Test.YtikjchebffohdaaCkLaw1
import Derived.Test.YtikjchebffohdaaCuOpen
import Derived.Test.YtikjchebffohdaaLnOpen
import Derived.Test.YtikjchebffohdaaLawInts
set_option linter.unusedVariables false
namespace Go.Proofs.Ytikjchebffohdaa.ClipFits
open Go Go.ChangeShapes Go.WideShapes Go.ChangeAt Go.RowKit Go.Lib Go.Proofs.Ytikjchebffohdaa.Wr Go.Proofs.Ytikjchebffohdaa.Ku Go.Proofs.Ytikjchebffohdaa.Ck

theorem walk (w : World) (A : Option Addr) (l : List C6) (c : Nat) (hr : CuAt w A l) (hnil : A = none → l = [] ∧ c = 0) (hc : l.length ≤ c) (_ : l.length ≤ 9223372036854775807) (x : L5) (u : Int) :
    Calls Try.prog 3 #[.slice A l.length c, lnV x, .int .i64 u] w fun e w' => e = .returned (.bool true) ∧ Below w.heap.size w w' :=
  fits_law18 A l l.length c x u w hr rfl (fun h => (hnil h).2) hc

set_option maxRecDepth 100000 in
theorem lifted (os : Os) (started : os.Started) (H : Type) (enc : TypeId × Value → H) :
    ReturnsInHanded {} Try.checked os 3 .any (Rows.clipFitsSpec.pre6 enc Try.prog Try.f3 Rows.clipFitsRow.domain false) (Rows.clipFitsSpec.post enc Try.prog Try.f3 false true false false) := by
  refine returnsInHanded_of_change (C := Try.checked) law_own started (by kernel_rfl) Try.func3
    (ChangeSpec.witness6 (enc := enc) (C := Try.checked) false ⟨#[], #[.slice none 0 0, .agg #[.int .i64 0, .int .i64 0, .int .i64 0, .int .i64 0, .int .i64 0], .int .i64 0], []⟩ 8 (by kernel_rfl) (by kernel_rfl) (by kernel_rfl) (by kernel_rfl)) ?_
  intro W base args ds gs before hval0 hW _ _
  have hval : ∀ (j : Nat) t v, Try.f3.params[j]? = some t → args[j]? = some v → Value.okWide Try.prog W .any base t v := hval0
  have hW' := hW
  obtain ⟨p, q, hA0, hV, rfl, hfz, hnd⟩ := hW
  have hA : DataW.TrodAll enc Try.prog W 0 (fun _ => true) true Try.f3.params.toList args.toList ds p := hA0
  rw [Try.params3] at hA hval
  obtain ⟨v0, vs0, d0, ds0, p0, q0, hargs, rfl, rfl, h0, r0⟩ := ChangeShapes.trodAll_cons hA
  obtain ⟨v1, vs1, d1, ds1, p1, q1, rfl, rfl, rfl, h1, r1⟩ := ChangeShapes.trodAll_cons r0
  obtain ⟨v2, vs2, d2, ds2, p2, q2, rfl, rfl, rfl, h2, r2⟩ := ChangeShapes.trodAll_cons r1
  obtain ⟨rfl, rfl, rfl⟩ := ChangeShapes.trodAll_nil r2
  obtain rfl : args = #[v0, v1, v2] := by cases args; simp_all
  obtain ⟨rfl, rfl⟩ := ChangeShapes.trodVars_none hV
  obtain ⟨A0, l0, c0, rfl, hr0, hnil0, hc0, hl0, hz0⟩ := Wr.open_clusters (hval 0 22 v0 rfl rfl) h0
  obtain ⟨x1, rfl, hx1⟩ := Wr.open_line (hval 1 24 v1 rfl rfl) h1
  obtain ⟨x2, rfl, rfl, rfl, wx2⟩ := open_int Try.underlying3 (hval 2 3 v2 rfl rfl) h2
  refine (walk W A0 l0 c0 hr0 hnil0 hc0 hl0 x1 x2).mono fun e W' ⟨he, hB⟩ => ?_
  subst he
  exact ⟨_, rfl, law_post hW' rfl rfl (by kernel_rfl) rfl hB⟩

theorem holds : Rows.ClipFitsSaid :=
  OpenClaim.holds_of_wide 3 Try.f3 rfl rfl rfl rfl rfl rfl rfl ⟨rfl, rfl, rfl, rfl, rfl⟩ rfl rfl rfl rfl rfl (by kernel_rfl) Try.func3 (by kernel_rfl)
    (of_decide_eq_true (by kernel_rfl)) (by unfold Func.isWrapper; first | (rw [if_pos (by decide +kernel)]; kernel_rfl) | (rw [if_neg (by decide +kernel)]; exact ⟨rfl, rfl⟩))
    (fun os started H enc _ => lifted os started H enc)
end Go.Proofs.Ytikjchebffohdaa.ClipFits
