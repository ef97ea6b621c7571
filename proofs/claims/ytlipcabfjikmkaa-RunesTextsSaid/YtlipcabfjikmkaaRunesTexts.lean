/-
  Proved here: for every row of numbers, RunesTexts returns true (the text of at most 1000 numbers is the document's; they stay), and the row stays. No condition.
-/
import Derived.Test.YtlipcabfjikmkaaRnAwake
import Derived.Test.YtlipcabfjikmkaaRfFirstKit
import Derived.Test.YtlipcabfjikmkaaRnInts
import Derived.Test.YtlipcabfjikmkaaLawInts
import Derived.Deep.QuietTactic
import Derived.BigQuiet
set_option linter.unusedVariables false
namespace Go.Proofs.Ytlipcabfjikmkaa.RunesTexts
open Go.RowKit Go.Lib Go.Proofs.Ytlipcabfjikmkaa.Rn

set_option maxHeartbeats 1000000 in
set_option maxRecDepth 100000 in
theorem walk (A : Option Addr) (zs : List Int) (c : Nat) (w : World) (hr : IntsAt w A zs) (hnil : A = none → zs = [] ∧ c = 0) (hs0 : zs.length ≤ 9223372036854775807) :
    Calls Try.prog 4 #[.slice A zs.length c] w fun e w' => e = .returned (.bool true) ∧ Below w.heap.size w w' := by
  by_cases hbig : 1000 < zs.length
  · go_enter Try.func4, Try.ntmps4
    go_wp2_with (go_at_call 9; refine (awake_any _).mono ?_; rintro e w' ⟨rfl, hb⟩)
    go_ret
    exact ⟨rfl, hb⟩
  · obtain ⟨i0, hi, hz0, hz1, hz2⟩ := info_parts infoInt
    have hmade : (w.alloc (.cells #[] 3)).ownsRow w.heap.size 3 1 (.slice (some ⟨w.heap.size, 0, none⟩) 0 0) 0 [] := World.ownsRow_made w #[] 0 (Nat.le_refl _) (Nat.zero_le _) rfl
    have hr1 := hr.below ((Below.refl w.heap.size w).alloc (Nat.le_refl _) (.cells #[] 3))
    have HM := Lib.hid hmade
    have HR := Lib.hid hr1
    clear hmade hr1
    rcases A with _ | ad
    · obtain ⟨rfl, rfl⟩ := hnil rfl
      clear hnil
      have hb2 : Below w.heap.size w (w.alloc (.cells #[] 3)) := (Below.refl w.heap.size w).alloc (Nat.le_refl _) _
      have hr2 := hr.below hb2
      have hr' : IntsAt (w.alloc (.cells #[] 3)) (some ⟨w.heap.size, 0, none⟩) [] := .inl rfl
      go_enter Try.func4, Try.ntmps4
      go_wp2_with fail
      clear HM HR
      generalize w.alloc (.cells #[] 3) = w2 at *
      go_wp2_with fail
      refine (text_any _ [] _ _ hr' (by decide)).mono ?_
      rintro e w3 ⟨rfl, hb3⟩
      go_wp2_with fail
      refine (reftext_any _ [] _ _ (.inl rfl) (by decide)).mono ?_
      rintro e w4 ⟨rfl, hb4⟩
      go_wp2_with fail
      go_loopw [4] (fun s4 wx => s4 = .int .i64 0 ∧ wx = w4) (fun _ _ => 0)
      case atStart => exact ⟨rfl, rfl⟩
      case round =>
        obtain ⟨rfl, rfl⟩ := hrel
        go_wp2_with (go_at_call 9; refine (awake_any _).mono ?_; rintro e w' ⟨rfl, hb⟩)
        go_ret
        exact ⟨rfl, (((hb2.trans (hb3.mono hb2.size)).trans (hb4.mono (Nat.le_trans hb2.size hb3.size))).trans (hb.mono (Nat.le_trans (Nat.le_trans hb2.size hb3.size) hb4.size)))⟩
    · clear hnil
      go_enter Try.func4, Try.ntmps4
      go_wp2_with (at_builtin; refine wpList_append_own _ rfl _ _ 30 rfl w.heap.size 3 i0 (.int .i64 0) 1 8 Try.underlying30 hi hz0 hz1 hz2 rfl (by decide) _ _ _ rfl HM.out ad _ _ (zs.map (Value.int .i64)) rfl (by simp) HR.out.news (ints_one _) ?c3 ?c4 ?c5 ?_)
      case c3 => unfold maxLen; omega
      case c4 => omega
      case c5 => simp
      intro v' w2 hown' hgrow _
      have hown2 : w2.ownsRow w.heap.size 3 1 v' zs.length (zs.map (Value.int .i64)) := by simpa using hown'
      have hb2 : Below w.heap.size w w2 := ((Below.refl w.heap.size w).alloc (Nat.le_refl _) _).grown hgrow (by simp) (fun g hg => by simp [Value.ownBlock] at hg; omega)
      obtain ⟨A', c', rfl, hr'⟩ := intsAt_own hown2
      have hr2 := hr.below hb2
      clear hgrow hown' hown2 HM HR
      go_wp2_with fail
      refine (text_any _ zs _ _ hr' (by omega)).mono ?_
      rintro e w3 ⟨rfl, hb3⟩
      have hr3 := hr2.below hb3
      have hr3' := hr'.below hb3
      go_wp2_with fail
      refine (reftext_any _ zs _ _ hr3 (by omega)).mono ?_
      rintro e w4 ⟨rfl, hb4⟩
      have hr4 := hr3.below hb4
      have hr4' := hr3'.below hb4
      have R4 := Lib.hid hr4
      have R4' := Lib.hid hr4'
      clear hr hr2 hr3 hr4 hr' hr3' hr4'
      have hb14 : Below w.heap.size w w4 := (hb2.trans (hb3.mono hb2.size)).trans (hb4.mono (Nat.le_trans hb2.size hb3.size))
      clear hb2 hb3 hb4
      go_wp2_with fail
      go_loopw [4] (fun s4 wx => ∃ k : Nat, k ≤ zs.length ∧ s4 = .int .i64 k ∧ Below w4.heap.size w4 wx) (fun s4 _ => zs.length - (RowKit.intOf s4).toNat)
      case atStart => exact ⟨0, Nat.zero_le _, rfl, Below.refl _ _⟩
      case round =>
        obtain ⟨k, hk, rfl, hbw⟩ := hrel
        by_cases hlt : k < zs.length
        · obtain ⟨b, off, hA, hc⟩ := (R4.out.below hbw).at_ hlt
          obtain ⟨b', off', hA', hc'⟩ := (R4'.out.below hbw).at_ hlt
          injection hA with hA
          subst hA
          subst hA'
          clear R4 R4'
          generalize zs[k] = z at *
          go_wp2_with fail
          go_quiet (fail)
          go_wp2_with fail
          go_roundw
          case rel => exact ⟨k + 1, by omega, by go_num, hbw.trans ((below_drewN _ _).mono hbw.size)⟩
          case measure => simp [RowKit.intOf]; omega
        · go_wp2_with (go_at_call 9; refine (awake_any _).mono ?_; rintro e w' ⟨rfl, hb⟩)
          go_ret
          exact ⟨rfl, (hb14.trans (hbw.mono hb14.size)).trans (hb.mono (Nat.le_trans hb14.size hbw.size))⟩

set_option maxRecDepth 100000 in
theorem lifted (os : Os) (started : os.Started) (H : Type) (enc : TypeId × Value → H) :
    ReturnsInHanded {} Try.checked os 4 .any (Rows.runesTextsSpec.pre6 enc Try.prog Try.f4 Rows.runesTextsRow.domain false) (Rows.runesTextsSpec.post enc Try.prog Try.f4 false true false false) := by
  refine returnsInHanded_of_change (C := Try.checked) law_own started (by kernel_rfl) Try.func4
    (ChangeSpec.witness6 (enc := enc) (C := Try.checked) false ⟨#[], #[.slice none 0 0], []⟩ 8 (by kernel_rfl) (by kernel_rfl) (by kernel_rfl) (by kernel_rfl)) ?_
  intro W base args ds gs before hval0 hW _ _
  have hval : ∀ (j : Nat) t v, Try.f4.params[j]? = some t → args[j]? = some v → Value.okWide Try.prog W .any base t v := hval0
  have hW' := hW
  obtain ⟨p, q, hA0, hV, rfl, hfz, hnd⟩ := hW
  have hA : DataW.TrodAll enc Try.prog W 0 (fun _ => true) true Try.f4.params.toList args.toList ds p := hA0
  rw [Try.params4] at hA hval
  obtain ⟨v0, vs0, d0, ds0, p0, q0, hargs, rfl, rfl, h0, r0⟩ := ChangeShapes.trodAll_cons hA
  obtain ⟨rfl, rfl, rfl⟩ := ChangeShapes.trodAll_nil r0
  obtain rfl : args = #[v0] := by cases args; simp_all
  obtain ⟨rfl, rfl⟩ := ChangeShapes.trodVars_none hV
  obtain ⟨A, zs, c, rfl, hr, hnil, hl, _⟩ := open_introw (hval 0 30 v0 rfl rfl) h0
  refine (walk A zs c W hr hnil hl).mono fun e W' ⟨he, hB⟩ => ?_
  subst he
  exact ⟨_, rfl, law_post hW' rfl rfl (by kernel_rfl) rfl hB⟩

theorem holds : Rows.RunesTextsSaid :=
  OpenClaim.holds_of_wide 4 Try.f4 rfl rfl rfl rfl rfl rfl rfl ⟨rfl, rfl, rfl, rfl, rfl⟩ rfl rfl rfl rfl rfl (by kernel_rfl) Try.func4 (by kernel_rfl)
    (of_decide_eq_true (by kernel_rfl)) (by unfold Func.isWrapper; first | (rw [if_pos (by decide +kernel)]; kernel_rfl) | (rw [if_neg (by decide +kernel)]; exact ⟨rfl, rfl⟩))
    (fun os started H enc _ => lifted os started H enc)
end Go.Proofs.Ytlipcabfjikmkaa.RunesTexts
