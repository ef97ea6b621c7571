/-
  Proved here: for every row of numbers and each level NeutralLevels returns true (the levels of any numbers as classes, in a sequence of any level from 0 on, are those of the document's answer, where they are at most 300), and the rows stay. Conditions: the package variables that the row lists hold what the program's text lays (the card ties them).
-/
import Derived.Test.YtkhhfodbldemeaaDoorNeAwake
import Derived.Test.YtkhhfodbldemeaaDoorNeRefL
import Derived.Test.YtkhhfodbldemeaaDoorNeBits
import Derived.Test.YtkhhfodbldemeaaDoorLawInts
import Derived.Test.YtkhhfodbldemeaaDoorClLaid
import Derived.Test.YtkhhfodbldemeaaDoorTie
import Derived.Test.YtkhhfodbldemeaaDoorCards
set_option linter.unusedVariables false
namespace Go.Proofs.YtkhhfodbldemeaaDoor.NeutralLevels
open Go Go.ChangeShapes Go.WideShapes Go.ChangeAt Go.RowKit Go.Lib Go.Proofs.YtkhhfodbldemeaaDoor.Cl Go.Proofs.YtkhhfodbldemeaaDoor.Ne

set_option maxHeartbeats 4000000 in
set_option maxRecDepth 100000 in
theorem walk_n (w : World) (hH : Held w) (A : Option Addr) (T : List Int) (n ca : Nat) (hA : IntsAt w A T) (hlT : T.length = n) (lv : Int) :
    Calls Tryd.prog 4 #[.slice A n ca, .int .i64 lv] w fun e w' => e = .returned (.bool true) ∧ Below w.heap.size w w' := by
  by_cases h0 : 300 < n
  · have d0 : decide ((300 : Int) < (n : Int)) = true := decide_eq_true (by omega)
    have e0 : decide (300 < n) = true := decide_eq_true h0
    go_enter Tryd.func4, Tryd.ntmps4
    go_wp2_with (go_at_call 9; refine (awake_any _ hH).mono ?_; rintro e w' ⟨rfl, hb⟩)
    go_ret
    exact ⟨rfl, hb⟩
  · have d0 : decide ((300 : Int) < (n : Int)) = false := decide_eq_false (by omega)
    have e0 : decide (300 < n) = false := decide_eq_false h0
    have HH := Lib.hid hH
    have HA := Lib.hid hA
    have HLT := Lib.hid hlT
    obtain ⟨y, hy⟩ : ∃ y, bits .and .i64 lv 2147483647 = y := ⟨_, rfl⟩
    have HY := Lib.hid hy
    have HY0 := Lib.hid (show 0 ≤ y ∧ y ≤ 2147483647 from by rw [← hy, i64_and31]; omega)
    clear hy
    have HML := Lib.hid (show (T.map (levN y)).length = n from by rw [List.length_map, hlT])
    clear hH hA hlT
    go_enter Tryd.func4, Tryd.ntmps4
    have hdd := below_made w (.cells #[] 3)
    have HSRC := Lib.hid (HA.out.below hdd)
    have HDD := Lib.hid hdd
    clear hdd
    go_wp2_with (at_builtin; refine wpList_add rfl _ _ rfl w.heap.size _ 0 [] rfl (made_nil w) A n ca T rfl HSRC.out HLT.out (by omega) (by simp) ?_)
    intro v1 w1 hown hb
    try simp only [List.nil_append, Nat.zero_add] at hown
    obtain ⟨A1, c1, rfl, hat⟩ := intsAt_icl hown HLT.out
    have HB1 := Lib.hid (HDD.out.trans hb)
    have HO1 := Lib.hid hat
    clear hown hb hat HDD HSRC
    have HBR := Lib.hid (levels_any A1 T n c1 y w1 HO1.out HLT.out (by omega) HY0.out.1 HY0.out.2)
    have HRB := Lib.hid (fun (V : World) (h : IntsAt V A T) => rlevels_any A T n ca y V h HLT.out (by omega) HY0.out.1 HY0.out.2)
    generalize T.map (levN y) = S at *
    go_wp2_with fail
    simp only [HY.out]
    refine HBR.out.mono ?_
    rintro e w4 ⟨A4, c4, rfl, hown, hb⟩
    have HOW4 := Lib.hid hown
    have HBB4 := Lib.hid hb
    have HB4 := Lib.hid (bt HB1.out hb)
    have HRB2 := Lib.hid (HRB.out w4 (HA.out.below HB4.out))
    clear hown hb HBR HRB
    go_wp2_with fail
    refine HRB2.out.mono ?_
    rintro e w5 ⟨A5, c5, rfl, hown, hb⟩
    have HOW5 := Lib.hid (ownsRow_below HOW4.out hb)
    have HBB5 := Lib.hid (bt HBB4.out hb)
    have HS := Lib.hid (same_n A4 A5 S n c4 c5 w5 HML.out (ints_of HOW5.out HML.out) (ints_of hown HML.out) (by omega))
    clear hown hb HRB2 HOW4
    go_wp2_with fail
    refine HS.out.mono ?_
    rintro e w7 ⟨rfl, hb⟩
    have HBB7 := Lib.hid (bt HBB5.out hb)
    have HB7 := Lib.hid (bt HB1.out HBB7.out)
    have HS1 := Lib.hid (same_n A1 A T n c1 ca w7 HLT.out (HO1.out.below HBB7.out) (HA.out.below HB7.out) (by omega))
    clear hb HS HOW5
    go_wp2_with fail
    refine HS1.out.mono ?_
    rintro e w8 ⟨rfl, hb⟩
    have HB8 := Lib.hid (bt HB7.out hb)
    clear hb HS1
    have HH8 := Lib.hid (HH.out.below HB8.out)
    go_wp2_with fail
    refine (awake_any w8 HH8.out).mono ?_
    rintro e w99 ⟨rfl, hb⟩
    have HB99 := Lib.hid (bt HB8.out hb)
    clear hb
    go_wp2
    go_ret
    exact ⟨by first | rfl | simp, HB99.out⟩
theorem walk (w : World) (hH : Held w) (A : Option Addr) (T : List Int) (ca : Nat) (hA : IntsAt w A T) (_ : A = none → T = [] ∧ ca = 0) (_ : T.length ≤ 9223372036854775807) (_ : ∀ z ∈ T, -9223372036854775808 ≤ z ∧ z ≤ 9223372036854775807) (lv : Int) :
    Calls Tryd.prog 4 #[.slice A T.length ca, .int .i64 lv] w fun e w' => e = .returned (.bool true) ∧ Below w.heap.size w w' :=
  walk_n w hH A T T.length ca hA rfl lv

set_option maxRecDepth 100000 in
theorem lifted (os : Os) (started : os.Started) (H : Type) (enc : TypeId × Value → H) :
    ReturnsInHanded {} Tryd.checked os 4 .any (fun w args => (Rows.neutralLevelsSpec.pre enc Tryd.prog Tryd.f4 [] false w args ∧ laidMetH Tryd.prog laidL w) ∧ sizedMet enc Tryd.prog Tryd.f4 (OpenSpec.ofChange Rows.neutralLevelsSpec) false w args) (Rows.neutralLevelsSpec.post enc Tryd.prog Tryd.f4 false true false false) := by
  refine returns_laid started (by kernel_rfl) Tryd.func4 #[.slice none 0 0, .int .i64 0] (by kernel_rfl) (World.shaped_of_ZipB (by kernel_rfl) (by kernel_rfl)) (by rw [MakeChecks.laidMetH_plain _ _ _ (by kernel_rfl)]; exact laidMet_laidAll _ (by kernel_rfl) (by kernel_rfl)) (by kernel_rfl) (by kernel_rfl) rfl rfl (by kernel_rfl) ?_ ?_
  · intro ds hds
    rw [show Tryd.f4.params.toList.length = 2 from by kernel_rfl] at hds
    match ds, hds with
    | [d0, d1], _ => rfl
  intro W base args ds p hval hA hH
  rw [Tryd.params4] at hA hval
  obtain ⟨v0, vs0, d0, ds0, p0, q0, hargs, rfl, rfl, h0, r0⟩ := ChangeShapes.trodAll_cons hA
  obtain ⟨v1, vs1, d1, ds1, p1, q1, rfl, rfl, rfl, h1, r1⟩ := ChangeShapes.trodAll_cons r0
  obtain ⟨rfl, rfl, rfl⟩ := ChangeShapes.trodAll_nil r1
  obtain rfl : args = #[v0, v1] := by cases args; simp_all
  obtain ⟨A0, zs0, c0, rfl, hr0, hnil0, hl0, hz0⟩ := open_introw (hval 0 22 v0 rfl rfl) h0
  obtain ⟨x1, rfl, rfl, rfl, wx1⟩ := open_int Tryd.underlying3 (hval 1 3 v1 rfl rfl) h1
  exact walk W hH A0 zs0 c0 hr0 hnil0 hl0 hz0 x1

theorem holds : Rows.NeutralLevelsSaid :=
  OpenClaim.holds_of_wide 4 Tryd.f4 rfl rfl rfl rfl rfl rfl rfl ⟨rfl, rfl, rfl, rfl, rfl⟩ rfl rfl rfl rfl rfl (by kernel_rfl) Tryd.func4 (by kernel_rfl)
    (of_decide_eq_true (by kernel_rfl)) (by unfold Func.isWrapper; first | (rw [if_pos (by decide +kernel)]; kernel_rfl) | (rw [if_neg (by decide +kernel)]; exact ⟨rfl, rfl⟩))
    (fun os started H enc _ => lifted os started H enc)

theorem card : Rows.NeutralLevelsCardSaid :=
  Claim7.holds_tied_plain_at .later [] [.data, .data, .pinned] true (true, "840f1c67af3e153f943a0914da229d03cc3e8ef09a9798dbdb7d3fac22e2053f") false
    holds (fun _ h => by cases h) (by kernel_rfl) (fun _ h => by cases h) neutralLevels_row_tie rfl ⟨rfl, rfl⟩ (by kernel_rfl) rfl
    (fun f fn hf hfn => by
      obtain rfl : f = 4 := Option.some.inj ((show Tryd.prog.funcNamed "parquetry/parquetrylaw15.NeutralLevels" = some 4 by kernel_rfl).symm.trans hf) |>.symm
      obtain rfl : fn = Tryd.f4 := (Option.some.inj (Tryd.func4.symm.trans hfn)).symm
      exact ⟨by kernel_rfl, fun j t ht => by
        rw [Tryd.params4] at ht
        have hm : t ∈ [22, 3] := by simpa using Array.mem_of_getElem? ht
        have hall : ([22, 3].all fun u => !Tryd.prog.wantsStandIn u) = true := by kernel_rfl
        exact (show Tryd.prog.wantsStandIn t = false by simpa using List.all_eq_true.1 hall t hm)⟩)
    (by kernel_rfl)
end Go.Proofs.YtkhhfodbldemeaaDoor.NeutralLevels
