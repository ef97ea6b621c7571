/-
  Proved here: for every row of numbers GcbRuns returns true (the runs of at most 100 numbers are what the document says; these stay), and the row stays. No condition.
-/
import Derived.Test.YtkghmochfohiiaaGcAwake
import Derived.Test.YtkghmochfohiiaaGrRuns
import Derived.Test.YtkghmochfohiiaaLawInts
import Derived.Test.YtkghmochfohiiaaAppSrc
import Derived.Test.YtkghmochfohiiaaLawKit
import Derived.Stop.Joined
set_option linter.unusedVariables false
namespace Go.Proofs.Ytkghmochfohiiaa.GcbRuns
open Go.ChangeShapes Go.WideShapes Go.ChangeAt Go.RowKit Go.Lib Go.Proofs.Ytkghmochfohiiaa.Gc Go.Proofs.Ytkghmochfohiiaa.Gu
open Go.Proofs.Ytkghmochfohiiaa.Cl (IntsAt)


open Go.Proofs.Ytkghmochfohiiaa.Arr
def intsOf (R : List Nat) : List Int := R.map fun (n : Nat) => (n : Int)
theorem natC_ints (R : List Nat) : natC R = (intsOf R).map (Value.int .i64) := by simp [natC, intsOf]
theorem intsOf_len (R : List Nat) : (intsOf R).length = R.length := by simp [intsOf]
theorem runs_at {w : World} {B : Nat} {v : Value} {R : List Nat} (h : w.ownsRow B 3 1 v R.length (natC R)) : ∃ A c, v = .slice A (intsOf R).length c ∧ IntsAt w A (intsOf R) := by
  rw [natC_ints, ← intsOf_len R] at h
  exact Cl.intsAt_own h

set_option maxHeartbeats 2000000 in
set_option maxRecDepth 100000 in
theorem walk (w : World) (A : Option Addr) (zs : List Int) (c : Nat) (hr : IntsAt w A zs) (hnil : A = none → zs = [] ∧ c = 0) (hs0 : zs.length ≤ 9223372036854775807) (hz : ∀ z ∈ zs, -9223372036854775808 ≤ z ∧ z ≤ 9223372036854775807) :
    Calls Try.prog 4 #[.slice A zs.length c] w fun e w' => e = .returned (.bool true) ∧ Below w.heap.size w w' := by
  clear hz
  by_cases hbig : 100 < zs.length
  · go_enter Try.func4, Try.ntmps4
    go_wp2_with fail
    refine (awake_any _).mono ?_
    rintro e w3 ⟨rfl, hb3⟩
    go_wp2
    go_ret
    exact ⟨rfl, hb3⟩
  obtain ⟨i0, hi, hz0, hz1, hz2⟩ := Cl.info_parts Cl.infoInt
  have hmade : (w.alloc (.cells #[] 3)).ownsRow w.heap.size 3 1 (.slice (some ⟨w.heap.size, 0, none⟩) 0 0) 0 [] := World.ownsRow_made w #[] 0 (Nat.le_refl _) (Nat.zero_le _) rfl
  have hr1 := hr.below ((Below.refl w.heap.size w).alloc (Nat.le_refl _) (.cells #[] 3))
  have HM := Lib.hid hmade
  have HR := Lib.hid hr1
  have HA := Lib.hid (fun h => (hr.nil_len h))
  clear hmade hr1 hnil
  go_enter Try.func4, Try.ntmps4
  go_wp2_with (at_builtin; refine wpList_append_src _ rfl _ _ 25 rfl w.heap.size 3 i0 (.int .i64 0) 1 8 Try.underlying25 hi hz0 hz1 hz2 rfl (by decide) _ _ _ rfl HM.out A _ _ (zs.map (Value.int .i64)) rfl (by simp) HA.out (fun ad had => (had ▸ HR.out : IntsAt _ (some ad) zs).news) (Cl.ints_one _) ?c3 ?c4 ?c5 ?_)
  case c3 => unfold maxLen; omega
  case c4 => omega
  case c5 => simp
  intro v' w2 hown' hgrow
  have hown2 : w2.ownsRow w.heap.size 3 1 v' zs.length (zs.map (Value.int .i64)) := by simpa using hown'
  have hb2 : Below w.heap.size w w2 := ((Below.refl w.heap.size w).alloc (Nat.le_refl _) _).grown hgrow (by simp) (fun g hg => by simp [Value.ownBlock] at hg; omega)
  obtain ⟨A', c', rfl, hr'⟩ := Cl.intsAt_own hown2
  have hr2 := hr.below hb2
  have HBW := Lib.hid hb2
  clear hgrow hown' hown2 HM HR HA hi hz0 hz1 hz2
  go_wp2_with fail
  refine (runs_any _ zs _ _ hr' (by omega)).mono ?_
  rintro e w3 ⟨v, rfl, hown3, hb3⟩
  have hr3 := hr2.below hb3
  have hr3' := hr'.below hb3
  go_wp2_with fail
  refine (Gr.refRuns_any _ zs _ _ hr3 (by omega)).mono ?_
  rintro e w4 ⟨v2, rfl, hown4, hb4⟩
  obtain ⟨A1, c1, rfl, hl⟩ := runs_at (Cl.ownsRow_below hown3 hb4)
  obtain ⟨A2, c2, rfl, hq⟩ := runs_at hown4
  have HRC := Lib.hid (hr3.below hb4)
  have HRO := Lib.hid (hr3'.below hb4)
  have HL := Lib.hid hl
  have HQ := Lib.hid hq
  have h34 := hb3.trans (hb4.mono hb3.size)
  have HB4 := Lib.hid (HBW.out.trans (h34.mono HBW.out.size))
  have hrl : (intsOf (runsT (kindsOf zs))).length ≤ zs.length := by
    rw [intsOf_len]
    have := (runs_bound (kindsOf_pos zs)).1
    rwa [show (kindsOf zs).length = zs.length from by simp [kindsOf]] at this
  clear hr hr' hr2 hr3 hr3' hown3 hown4 hb2 hb3 hb4 h34 hl hq HBW
  generalize intsOf (runsT (kindsOf zs)) = rs at *
  go_wp2_with fail
  go_loopw [6] (fun s6 wx => ∃ k : Nat, k ≤ rs.length ∧ s6 = .int .i64 k ∧ Below w4.heap.size w4 wx) (fun s6 _ => rs.length - (RowKit.intOf s6).toNat)
  case atStart => exact ⟨0, Nat.zero_le _, rfl, Below.refl _ _⟩
  case round =>
    obtain ⟨k, hk, rfl, hb⟩ := hrel
    have HB := Lib.hid hb
    clear hb
    by_cases hlt : k < rs.length
    · obtain ⟨b1, o1, rfl, hc1⟩ := (HL.out.below HB.out).at_ hlt
      obtain ⟨b2, o2, rfl, hc2⟩ := (HQ.out.below HB.out).at_ hlt
      generalize rs[k] = z at *
      go_wp2
      go_quiet (fail)
      go_wp2
      go_roundw
      case rel => exact ⟨k + 1, by omega, by go_num, below_drewN HB.out _⟩
      case measure => simp [RowKit.intOf]; omega
    · obtain rfl : k = rs.length := by omega
      go_wp2_with fail
      go_loopw [7] (fun s7 wx => ∃ k : Nat, k ≤ zs.length ∧ s7 = .int .i64 k ∧ Below w4.heap.size w4 wx) (fun s7 _ => zs.length - (RowKit.intOf s7).toNat)
      case atStart => exact ⟨0, Nat.zero_le _, rfl, HB.out⟩
      case round =>
        obtain ⟨k, hk, rfl, hb⟩ := hrel
        have HB2 := Lib.hid hb
        clear hb
        by_cases hlt : k < zs.length
        · obtain ⟨b1, o1, rfl, hc1⟩ := (HRC.out.below HB2.out).at_ hlt
          obtain ⟨b2, o2, rfl, hc2⟩ := (HRO.out.below HB2.out).at_ hlt
          generalize zs[k] = z at *
          go_wp2
          go_quiet (fail)
          go_wp2
          go_roundw
          case rel => exact ⟨k + 1, by omega, by go_num, below_drewN HB2.out _⟩
          case measure => simp [RowKit.intOf]; omega
        · obtain rfl : k = zs.length := by omega
          go_wp2_with fail
          refine (awake_any _).mono ?_
          rintro e w9 ⟨rfl, hb9⟩
          go_wp2
          go_ret
          have h0 := HB4.out.trans (HB2.out.mono HB4.out.size)
          exact ⟨rfl, h0.trans (hb9.mono h0.size)⟩

set_option maxRecDepth 100000 in
theorem lifted (os : Os) (started : os.Started) (H : Type) (enc : TypeId × Value → H) :
    ReturnsInHanded {} Try.checked os 4 .any (Rows.gcbRunsSpec.pre6 enc Try.prog Try.f4 Rows.gcbRunsRow.domain false) (Rows.gcbRunsSpec.post enc Try.prog Try.f4 false true false false) := by
  refine returnsInHanded_of_change (C := Try.checked) law_own started (by kernel_rfl) Try.func4
    (ChangeSpec.witness6 (enc := enc) (C := Try.checked) false ⟨#[], #[.slice none 0 0], []⟩ 8 (by kernel_rfl) (by kernel_rfl) (by kernel_rfl) (by kernel_rfl)) ?_
  intro W base args ds gs before hval0 hW _ _
  have hval : ∀ (j : Nat) t v, Try.f4.params[j]? = some t → args[j]? = some v → Value.okWide Try.prog W .any base t v := hval0
  have hW' := hW
  obtain ⟨p, q, hA0, hV, rfl, hfz, hnd⟩ := hW
  have hA : DataW.TrodAll enc Try.prog W 0 (fun _ => true) true Try.f4.params.toList args.toList ds p := hA0
  rw [Try.params4] at hA hval
  obtain ⟨v0, vs0, d0, ds0, p0, q0, hargs, rfl, rfl, h0, r0⟩ := ChangeShapes.trodAll_cons hA
  obtain ⟨rfl, rfl, rfl⟩ := ChangeShapes.trodAll_nil r0
  obtain rfl : args = #[v0] := by cases args; simp_all
  obtain ⟨rfl, rfl⟩ := ChangeShapes.trodVars_none hV
  obtain ⟨A0, zs0, c0, rfl, hr0, hnil0, hl0, hz0⟩ := open_introw (hval 0 25 v0 rfl rfl) h0
  refine (walk W A0 zs0 c0 hr0 hnil0 hl0 hz0).mono fun e W' ⟨he, hB⟩ => ?_
  subst he
  exact ⟨_, rfl, law_post hW' rfl rfl (by kernel_rfl) rfl hB⟩

theorem holds : Rows.GcbRunsSaid :=
  OpenClaim.holds_of_wide 4 Try.f4 rfl rfl rfl rfl rfl rfl rfl ⟨rfl, rfl, rfl, rfl, rfl⟩ rfl rfl rfl rfl rfl (by kernel_rfl) Try.func4 (by kernel_rfl)
    (of_decide_eq_true (by kernel_rfl)) (by unfold Func.isWrapper; first | (rw [if_pos (by decide +kernel)]; kernel_rfl) | (rw [if_neg (by decide +kernel)]; exact ⟨rfl, rfl⟩))
    (fun os started H enc _ => lifted os started H enc)
end Go.Proofs.Ytkghmochfohiiaa.GcbRuns
