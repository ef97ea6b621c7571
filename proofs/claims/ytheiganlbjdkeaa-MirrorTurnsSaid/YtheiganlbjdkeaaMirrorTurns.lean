/-
  Proved here: for every number MirrorTurns returns true (a glyph's glyph is the sign itself; brackets meet their counterparts, not the other way round), and it stays. No condition.
-/
import Derived.Test.YtheiganlbjdkeaaMiAwake
import Derived.Test.YtheiganlbjdkeaaLawKit
import Derived.Stop.Joined
set_option linter.unusedVariables false
namespace Go.Proofs.Ytheiganlbjdkeaa.MirrorTurns
open Go.ChangeShapes Go.WideShapes Go.ChangeAt Go.RowKit Go.Lib Go.Proofs.Ytheiganlbjdkeaa.Mi


theorem turn_cases (y : Int) : pairT y = (0, 0) ∨ (∃ o, pairT y = (1, o) ∧ pairT o = (2, y) ∧ glyphT y = o ∧ glyphT o = y ∧ meetT y o = true ∧ meetT o y = false) ∨
    (∃ o, pairT y = (2, o) ∧ pairT o = (1, y) ∧ glyphT y = o ∧ glyphT o = y ∧ meetT o y = true ∧ meetT y o = false) := by
  have hb := pair_bounds y
  have hz := inR_zero brL y
  have ho := @pair_other y
  have hg := glyph_glyph y
  generalize hp : pairT y = p at *
  obtain ⟨k, o⟩ := p
  simp only at hb ho
  by_cases h0 : k = 0
  · left
    have : (inR brL y).1 = 0 := by show (pairT y).1 = 0; rw [hp]; exact h0
    have h1 := hz this
    rw [← hp]
    exact h1
  · right
    obtain ⟨h1, h2, h3, h4, h5⟩ := ho h0
    generalize hq : pairT o = q at *
    obtain ⟨m, x⟩ := q
    simp only at h1 h2
    subst h2
    rw [h3] at hg
    by_cases hk : k = 2
    · right
      obtain ⟨h6, h7⟩ := h4 hk
      exact ⟨o, by rw [hk], by rw [hq]; congr 1; omega, h3, hg, h6, h7⟩
    · left
      obtain ⟨h6, h7⟩ := h5 hk
      exact ⟨o, by congr 1; omega, by rw [hq]; congr 1; omega, h3, hg, h6, h7⟩
theorem pair_as (c k o : Int) (h : pairT c = (k, o)) (w : World) :
    Calls Try.prog 17 #[.int .i64 c] w fun e w' => e = .returned (.tuple #[.int .i64 k, .int .i64 o]) ∧ Below w.heap.size w w' := by
  have := mPair_any c w
  rw [h] at this
  exact this

set_option maxHeartbeats 2000000 in
set_option maxRecDepth 100000 in
theorem walk (w : World) (c : Int) :
    Calls Try.prog 6 #[.int .i64 c] w fun e w' => e = .returned (.bool true) ∧ Below w.heap.size w w' := by
  go_enter Try.func6, Try.ntmps6
  go_wp2_with fail
  go_loopw [3] (fun s3 wx => ∃ d : Int, -1 ≤ d ∧ d ≤ 2 ∧ s3 = .int .i64 d ∧ Below w.heap.size w wx) (fun s3 _ => (2 - RowKit.intOf s3).toNat)
  case atStart => exact ⟨-1, by omega, by omega, rfl, Below.refl _ _⟩
  case round =>
    obtain ⟨d, hd1, hd2, rfl, hb⟩ := hrel
    by_cases hlt : d ≤ 1
    · go_wp2_with fail
      generalize wrap64 (bits BinOp.and IntKind.i64 c 2097151 + d) = y
      rcases turn_cases y with h | ⟨o, h1, h2, h3, h4, h5, h6⟩ | ⟨o, h1, h2, h3, h4, h5, h6⟩
      · have CG := Lib.hid (mGlyph_any y)
        have GG := Lib.hid (glyph_as (glyphT y) y (glyph_glyph y))
        have CP := Lib.hid (pair_as y 0 0 h)
        clear h
        generalize glyphT y = g at *
        refine (CG.out _).mono ?_
        rintro e w1 ⟨rfl, hb1⟩
        go_wp2_with fail
        refine (GG.out _).mono ?_
        rintro e w2 ⟨rfl, hb2⟩
        go_wp2_with fail
        refine (CP.out _).mono ?_
        rintro e w3 ⟨rfl, hb3⟩
        go_wp2
        go_roundw
        case rel =>
          have hb12 := hb1.trans (hb2.mono hb1.size)
          have hb13 := hb12.trans (hb3.mono hb12.size)
          exact ⟨d + 1, by omega, by omega, by go_num, hb.trans (hb13.mono hb.size)⟩
        case measure => simp [RowKit.intOf]; omega
      all_goals
        have CG := Lib.hid (glyph_as y o h3)
        have GG := Lib.hid (glyph_as o y h4)
        have CP := Lib.hid (pair_as y _ o h1)
        have CO := Lib.hid (pair_as o _ y h2)
        have M1 := Lib.hid (meet_as _ _ _ h5)
        have M2 := Lib.hid (meet_as _ _ _ h6)
        clear h1 h2 h3 h4 h5 h6
        refine (CG.out _).mono ?_
        rintro e w1 ⟨rfl, hb1⟩
        go_wp2_with fail
        refine (GG.out _).mono ?_
        rintro e w2 ⟨rfl, hb2⟩
        go_wp2_with fail
        refine (CP.out _).mono ?_
        rintro e w3 ⟨rfl, hb3⟩
        go_wp2_with fail
        refine (CO.out _).mono ?_
        rintro e w4 ⟨rfl, hb4⟩
        go_wp2_with fail
        refine (CG.out _).mono ?_
        rintro e w5 ⟨rfl, hb5⟩
        go_wp2_with fail
        refine (M1.out _).mono ?_
        rintro e w6 ⟨rfl, hb6⟩
        go_wp2_with fail
        refine (M2.out _).mono ?_
        rintro e w7 ⟨rfl, hb7⟩
        go_wp2
        go_roundw
        case rel =>
          have hb12 := hb1.trans (hb2.mono hb1.size)
          have hb13 := hb12.trans (hb3.mono hb12.size)
          have hb14 := hb13.trans (hb4.mono hb13.size)
          have hb15 := hb14.trans (hb5.mono hb14.size)
          have hb16 := hb15.trans (hb6.mono hb15.size)
          have hb17 := hb16.trans (hb7.mono hb16.size)
          exact ⟨d + 1, by omega, by omega, by go_num, hb.trans (hb17.mono hb.size)⟩
        case measure => simp [RowKit.intOf]; omega
    · go_wp2_with fail
      refine (awake_any _).mono ?_
      rintro e w3 ⟨rfl, hb3⟩
      go_wp2
      go_ret
      exact ⟨rfl, hb.trans (hb3.mono hb.size)⟩

set_option maxRecDepth 100000 in
theorem lifted (os : Os) (started : os.Started) (H : Type) (enc : TypeId × Value → H) :
    ReturnsInHanded {} Try.checked os 6 .any (Rows.mirrorTurnsSpec.pre6 enc Try.prog Try.f6 Rows.mirrorTurnsRow.domain false) (Rows.mirrorTurnsSpec.post enc Try.prog Try.f6 false true false false) := by
  refine returnsInHanded_of_change (C := Try.checked) law_own started (by kernel_rfl) Try.func6
    (ChangeSpec.witness6 (enc := enc) (C := Try.checked) false ⟨#[], #[.int .i64 0], []⟩ 8 (by kernel_rfl) (by kernel_rfl) (by kernel_rfl) (by kernel_rfl)) ?_
  intro W base args ds gs before hval0 hW _ _
  have hval : ∀ (j : Nat) t v, Try.f6.params[j]? = some t → args[j]? = some v → Value.okWide Try.prog W .any base t v := hval0
  have hW' := hW
  obtain ⟨p, q, hA0, hV, rfl, hfz, hnd⟩ := hW
  have hA : DataW.TrodAll enc Try.prog W 0 (fun _ => true) true Try.f6.params.toList args.toList ds p := hA0
  rw [Try.params6] at hA hval
  obtain ⟨v0, vs0, d0, ds0, p0, q0, hargs, rfl, rfl, h0, r0⟩ := ChangeShapes.trodAll_cons hA
  obtain ⟨rfl, rfl, rfl⟩ := ChangeShapes.trodAll_nil r0
  obtain rfl : args = #[v0] := by cases args; simp_all
  obtain ⟨rfl, rfl⟩ := ChangeShapes.trodVars_none hV
  obtain ⟨x0, rfl, rfl, rfl, wx0⟩ := open_int Try.underlying3 (hval 0 3 v0 rfl rfl) h0
  refine (walk W x0).mono fun e W' ⟨he, hB⟩ => ?_
  subst he
  exact ⟨_, rfl, law_post hW' rfl rfl (by kernel_rfl) rfl hB⟩

theorem holds : Rows.MirrorTurnsSaid :=
  OpenClaim.holds_of_wide 6 Try.f6 rfl rfl rfl rfl rfl rfl rfl ⟨rfl, rfl, rfl, rfl, rfl⟩ rfl rfl rfl rfl rfl (by kernel_rfl) Try.func6 (by kernel_rfl)
    (of_decide_eq_true (by kernel_rfl)) (by unfold Func.isWrapper; first | (rw [if_pos (by decide +kernel)]; kernel_rfl) | (rw [if_neg (by decide +kernel)]; exact ⟨rfl, rfl⟩))
    (fun os started H enc _ => lifted os started H enc)
end Go.Proofs.Ytheiganlbjdkeaa.MirrorTurns
