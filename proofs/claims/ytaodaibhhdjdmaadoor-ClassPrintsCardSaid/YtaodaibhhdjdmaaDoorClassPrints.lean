/-
  Proved here: for every row of numbers, ClassPrints returns true (how at most 300 numbers are printed, or that they are no classes, is the document's; they stay), and the row stays. Conditions: the package variables that the row lists hold what the program's text lays (the card ties them).
-/
import Derived.Test.YtaodaibhhdjdmaaDoorRcPrint
import Derived.Test.YtaodaibhhdjdmaaDoorRcBack
import Derived.Test.YtaodaibhhdjdmaaDoorRcSame
import Derived.Test.YtaodaibhhdjdmaaDoorClAwake
import Derived.Test.YtaodaibhhdjdmaaDoorLawInts
import Derived.Test.YtaodaibhhdjdmaaDoorClLaid
import Derived.Test.YtaodaibhhdjdmaaDoorTie
import Derived.Test.YtaodaibhhdjdmaaDoorCards
set_option linter.unusedVariables false
namespace Go.Proofs.YtaodaibhhdjdmaaDoor.ClassPrints
open Go.ChangeShapes Go.WideShapes Go.ChangeAt Go.RowKit Go.Lib Go.Proofs.YtaodaibhhdjdmaaDoor.Cl


set_option maxHeartbeats 1000000 in
set_option maxRecDepth 100000 in
theorem walk (w : World) (hH : Held w) (A : Option Addr) (zs : List Int) (c : Nat) (hr : IntsAt w A zs) (hnil : A = none → zs = [] ∧ c = 0) (hs0 : zs.length ≤ 9223372036854775807) (hz : ∀ z ∈ zs, -9223372036854775808 ≤ z ∧ z ≤ 9223372036854775807) :
    Calls Tryd.prog 5 #[.slice A zs.length c] w fun e w' => e = .returned (.bool true) ∧ Below w.heap.size w w' := by
  have HH := Lib.hid hH
  clear hH hz
  by_cases hbig : 300 < zs.length
  · go_enter Tryd.func5, Tryd.ntmps5
    go_wp2_with fail
    refine (awake_any _ HH.out).mono ?_
    rintro e w3 ⟨rfl, hb3⟩
    go_wp2
    go_ret
    exact ⟨rfl, hb3⟩
  · obtain ⟨i0, hi, hz0, hz1, hz2⟩ := info_parts infoInt
    obtain ⟨S, b, hP⟩ := Rc.printV_form zs
    have HP := Lib.hid hP
    clear hP
    have hmade : (w.alloc (.cells #[] 3)).ownsRow w.heap.size 3 1 (.slice (some ⟨w.heap.size, 0, none⟩) 0 0) 0 [] := World.ownsRow_made w #[] 0 (Nat.le_refl _) (Nat.zero_le _) rfl
    have hr1 := hr.below ((Below.refl w.heap.size w).alloc (Nat.le_refl _) (.cells #[] 3))
    have HM := Lib.hid hmade
    have HR := Lib.hid hr1
    clear hmade hr1
    rcases A with _ | ad
    · obtain ⟨rfl, rfl⟩ := hnil rfl
      clear hnil
      have hb2 : Below w.heap.size w (w.alloc (.cells #[] 3)) := (Below.refl w.heap.size w).alloc (Nat.le_refl _) _
      have hr2 := hr.below hb2
      have hr' : IntsAt (w.alloc (.cells #[] 3)) (some ⟨w.heap.size, 0, none⟩) [] := .inl rfl
      have HH2 := Lib.hid (HH.out.below hb2)
      go_enter Tryd.func5, Tryd.ntmps5
      go_wp2_with fail
      clear HM HR
      generalize w.alloc (.cells #[] 3) = w2 at *
      go_wp2_with fail
      refine (print_any _ [] _ _ hr' HH2.out (by decide)).mono ?_
      rintro e w3 ⟨rfl, hb3⟩
      have hB3 := hb2.trans (hb3.mono hb2.size)
      have hr3 := hr2.below hb3
      have hr3' := hr'.below hb3
      rw [HP.out]
      go_wp2_with fail
      refine (Rc.refprint_any _ [] _ _ hr3 (by decide)).mono ?_
      rintro e w4 ⟨rfl, hb4⟩
      have hB4 := hB3.trans (hb4.mono hB3.size)
      have hr4 := hr3.below hb4
      have hr4' := hr3'.below hb4
      rw [HP.out]
      go_wp2_with fail
      refine (Rc.same_ints _ _ [] _ _ _ hr4' hr4 (by decide)).mono ?_
      rintro e w5 ⟨rfl, hb5⟩
      have hB5 := hB4.trans (hb5.mono hB4.size)
      have H5 := Lib.hid (HH.out.below hB5)
      go_wp2_with fail
      refine (awake_any _ H5.out).mono ?_
      rintro e w6 ⟨rfl, hb6⟩
      go_wp2
      go_ret
      exact ⟨rfl, hB5.trans (hb6.mono hB5.size)⟩
    · clear hnil
      go_enter Tryd.func5, Tryd.ntmps5
      go_wp2_with (at_builtin; refine wpList_append_own _ rfl _ _ 28 rfl w.heap.size 3 i0 (.int .i64 0) 1 8 Tryd.underlying28 hi hz0 hz1 hz2 rfl (by decide) _ _ _ rfl HM.out ad _ _ (zs.map (Value.int .i64)) rfl (by simp) HR.out.news (ints_one _) ?c3 ?c4 ?c5 ?_)
      case c3 => unfold maxLen; omega
      case c4 => omega
      case c5 => simp
      intro v' w2 hown' hgrow _
      have hown2 : w2.ownsRow w.heap.size 3 1 v' zs.length (zs.map (Value.int .i64)) := by simpa using hown'
      have hb2 : Below w.heap.size w w2 := ((Below.refl w.heap.size w).alloc (Nat.le_refl _) _).grown hgrow (by simp) (fun g hg => by simp [Value.ownBlock] at hg; omega)
      obtain ⟨A', c', rfl, hr'⟩ := intsAt_own hown2
      have hr2 := hr.below hb2
      have HH2 := Lib.hid (HH.out.below hb2)
      clear hgrow hown' hown2 HM HR
      go_wp2_with fail
      refine (print_any _ zs _ _ hr' HH2.out (by omega)).mono ?_
      rintro e w3 ⟨rfl, hb3⟩
      have hB3 := hb2.trans (hb3.mono hb2.size)
      have hr3 := hr2.below hb3
      have hr3' := hr'.below hb3
      rw [HP.out]
      go_wp2_with fail
      refine (Rc.refprint_any _ zs _ _ hr3 (by omega)).mono ?_
      rintro e w4 ⟨rfl, hb4⟩
      have hB4 := hB3.trans (hb4.mono hB3.size)
      have hr4 := hr3.below hb4
      have hr4' := hr3'.below hb4
      rw [HP.out]
      go_wp2_with fail
      refine (Rc.same_ints _ _ zs _ _ _ hr4' hr4 (by omega)).mono ?_
      rintro e w5 ⟨rfl, hb5⟩
      have hB5 := hB4.trans (hb5.mono hB4.size)
      have H5 := Lib.hid (HH.out.below hB5)
      go_wp2_with fail
      refine (awake_any _ H5.out).mono ?_
      rintro e w6 ⟨rfl, hb6⟩
      go_wp2
      go_ret
      exact ⟨rfl, hB5.trans (hb6.mono hB5.size)⟩

set_option maxRecDepth 100000 in
theorem lifted (os : Os) (started : os.Started) (H : Type) (enc : TypeId × Value → H) :
    ReturnsInHanded {} Tryd.checked os 5 .any (fun w args => (Rows.classPrintsSpec.pre enc Tryd.prog Tryd.f5 [] false w args ∧ laidMetH Tryd.prog laidL w) ∧ sizedMet enc Tryd.prog Tryd.f5 (OpenSpec.ofChange Rows.classPrintsSpec) false w args) (Rows.classPrintsSpec.post enc Tryd.prog Tryd.f5 false true false false) := by
  refine returns_laid started (by kernel_rfl) Tryd.func5 #[.slice none 0 0] (by kernel_rfl) (World.shaped_of_ZipB (by kernel_rfl) (by kernel_rfl)) (by rw [MakeChecks.laidMetH_plain _ _ _ (by kernel_rfl)]; exact laidMet_laidAll _ (by kernel_rfl) (by kernel_rfl)) (by kernel_rfl) (by kernel_rfl) rfl rfl (by kernel_rfl) ?_ ?_
  · intro ds hds
    rw [show Tryd.f5.params.toList.length = 1 from by kernel_rfl] at hds
    match ds, hds with
    | [d0], _ => rfl
  intro W base args ds p hval hA hH
  rw [Tryd.params5] at hA hval
  obtain ⟨v0, vs0, d0, ds0, p0, q0, hargs, rfl, rfl, h0, r0⟩ := ChangeShapes.trodAll_cons hA
  obtain ⟨rfl, rfl, rfl⟩ := ChangeShapes.trodAll_nil r0
  obtain rfl : args = #[v0] := by cases args; simp_all
  obtain ⟨A0, zs0, c0, rfl, hr0, hnil0, hl0, hz0⟩ := open_introw (hval 0 28 v0 rfl rfl) h0
  exact walk W hH A0 zs0 c0 hr0 hnil0 hl0 hz0

theorem holds : Rows.ClassPrintsSaid :=
  OpenClaim.holds_of_wide 5 Tryd.f5 rfl rfl rfl rfl rfl rfl rfl ⟨rfl, rfl, rfl, rfl, rfl⟩ rfl rfl rfl rfl rfl (by kernel_rfl) Tryd.func5 (by kernel_rfl)
    (of_decide_eq_true (by kernel_rfl)) (by unfold Func.isWrapper; first | (rw [if_pos (by decide +kernel)]; kernel_rfl) | (rw [if_neg (by decide +kernel)]; exact ⟨rfl, rfl⟩))
    (fun os started H enc _ => lifted os started H enc)

theorem card : Rows.ClassPrintsCardSaid :=
  Claim7.holds_tied_plain_at .later [] [.data, .data, .pinned] true (true, "a1140fc0831c133a07e12b67bd1474e5056586aa66a5fa6a6cdd2235dd1ce2cf") false
    holds (fun _ h => by cases h) (by kernel_rfl) (fun _ h => by cases h) classPrints_row_tie rfl ⟨rfl, rfl⟩ (by kernel_rfl) rfl
    (fun f fn hf hfn => by
      obtain rfl : f = 5 := Option.some.inj ((show Tryd.prog.funcNamed "parquetry/parquetrylaw02.ClassPrints" = some 5 by kernel_rfl).symm.trans hf) |>.symm
      obtain rfl : fn = Tryd.f5 := (Option.some.inj (Tryd.func5.symm.trans hfn)).symm
      exact ⟨by kernel_rfl, fun j t ht => by
        rw [Tryd.params5] at ht
        have hm : t ∈ [28] := by simpa using Array.mem_of_getElem? ht
        have hall : ([28].all fun u => !Tryd.prog.wantsStandIn u) = true := by kernel_rfl
        exact (show Tryd.prog.wantsStandIn t = false by simpa using List.all_eq_true.1 hall t hm)⟩)
    (by kernel_rfl)
end Go.Proofs.YtaodaibhhdjdmaaDoor.ClassPrints
