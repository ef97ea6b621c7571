/-
  Proved here: for every row of numbers, each level and each two numbers as directions NeutralSettles returns true (what any classes become, in a sequence of any level, between any directions, is what the document's answer says, where they are at most 300), and the rows stay. Conditions: the package variables that the row lists hold what the program's text lays (the card ties them).
-/
import Derived.Test.YtkhhfodbldemeaaDoorNeAwake
import Derived.Test.YtkhhfodbldemeaaDoorNeRef
import Derived.Test.YtkhhfodbldemeaaDoorClearInts
import Derived.Test.YtkhhfodbldemeaaDoorLawInts
import Derived.Test.YtkhhfodbldemeaaDoorClLaid
import Derived.Test.YtkhhfodbldemeaaDoorTie
import Derived.Test.YtkhhfodbldemeaaDoorCards
set_option linter.unusedVariables false
namespace Go.Proofs.YtkhhfodbldemeaaDoor.NeutralSettles
open Go Go.ChangeShapes Go.WideShapes Go.ChangeAt Go.RowKit Go.Lib Go.Proofs.YtkhhfodbldemeaaDoor.Cl Go.Proofs.YtkhhfodbldemeaaDoor.Ne

set_option maxHeartbeats 4000000 in
set_option maxRecDepth 100000 in
theorem walk_n (w : World) (hH : Held w) (A : Option Addr) (T : List Int) (n ca : Nat) (hA : IntsAt w A T) (hlT : T.length = n) (l s b : Int) :
    Calls Tryd.prog 3 #[.slice A n ca, .int .i64 l, .int .i64 s, .int .i64 b] w fun e w' => e = .returned (.bool true) ∧ Below w.heap.size w w' := by
  by_cases h0 : 300 < n
  · have d0 : decide ((300 : Int) < (n : Int)) = true := decide_eq_true (by omega)
    have e0 : decide (300 < n) = true := decide_eq_true h0
    go_enter Tryd.func3, Tryd.ntmps3
    go_wp2_with (go_at_call 9; refine (awake_any _ hH).mono ?_; rintro e w' ⟨rfl, hb⟩)
    go_ret
    exact ⟨rfl, hb⟩
  · have d0 : decide ((300 : Int) < (n : Int)) = false := decide_eq_false (by omega)
    have e0 : decide (300 < n) = false := decide_eq_false h0
    have HH := Lib.hid hH
    have HA := Lib.hid hA
    have HLT := Lib.hid hlT
    have HSL := Lib.hid (show (settleN l b s T).length = n from by rw [settle_len, hlT])
    clear hH hA hlT
    go_enter Tryd.func3, Tryd.ntmps3
    have hdd := below_made w (.cells #[] 3)
    have HSRC := Lib.hid (HA.out.below hdd)
    have HDD := Lib.hid hdd
    clear hdd
    go_wp2_with (at_builtin; refine wpList_add rfl _ _ rfl w.heap.size _ 0 [] rfl (made_nil w) A n ca T rfl HSRC.out HLT.out (by omega) (by simp) ?_)
    intro v1 w1 hown hb
    try simp only [List.nil_append, Nat.zero_add] at hown
    obtain ⟨A1, c1, rfl, hat⟩ := intsAt_icl hown HLT.out
    have HB1 := Lib.hid (HDD.out.trans hb)
    have HO1 := Lib.hid hat
    clear hown hb hat HDD HSRC
    have HBR := Lib.hid (settle_any A1 T n c1 l s b w1 HO1.out HLT.out (by omega))
    have HRB := Lib.hid (fun (V : World) (h : IntsAt V A T) => rsettle_any A T n ca l s b V h HLT.out (by omega))
    generalize settleN l b s T = S at *
    go_wp2_with fail
    refine HBR.out.mono ?_
    rintro e w4 ⟨A4, c4, rfl, hown, hb⟩
    have HOW4 := Lib.hid hown
    have HBB4 := Lib.hid hb
    have HB4 := Lib.hid (bt HB1.out hb)
    have HRB2 := Lib.hid (HRB.out w4 (HA.out.below HB4.out))
    clear hown hb HBR HRB
    go_wp2_with fail
    refine HRB2.out.mono ?_
    rintro e w5 ⟨A5, c5, rfl, hown, hb⟩
    have HOW5 := Lib.hid (ownsRow_below HOW4.out hb)
    have HBB5 := Lib.hid (bt HBB4.out hb)
    have HS := Lib.hid (same_n A4 A5 S n c4 c5 w5 HSL.out (ints_of HOW5.out HSL.out) (ints_of hown HSL.out) (by omega))
    clear hown hb HRB2 HOW4
    go_wp2_with fail
    refine HS.out.mono ?_
    rintro e w6 ⟨rfl, hb⟩
    have HOW6 := Lib.hid (ownsRow_below HOW5.out hb)
    have HBB6 := Lib.hid (bt HBB5.out hb)
    clear hb HS HOW5
    obtain ⟨w7, hcl, hgr⟩ := clear_ints HOW6.out
    have HBB7 := Lib.hid (HBB6.out.grown hgr HBB6.out.size (fun k hk => (HOW6.out.lt k hk).1))
    have HB7 := Lib.hid (bt HB1.out HBB7.out)
    have HS1 := Lib.hid (same_n A1 A T n c1 ca w7 HLT.out (HO1.out.below HBB7.out) (HA.out.below HB7.out) (by omega))
    clear hgr
    go_wp2_with fail
    refine HS1.out.mono ?_
    rintro e w8 ⟨rfl, hb⟩
    have HB8 := Lib.hid (bt HB7.out hb)
    clear hb HS1 hcl
    have HH8 := Lib.hid (HH.out.below HB8.out)
    go_wp2_with fail
    refine (awake_any w8 HH8.out).mono ?_
    rintro e w99 ⟨rfl, hb⟩
    have HB99 := Lib.hid (bt HB8.out hb)
    clear hb
    go_wp2
    go_ret
    exact ⟨by first | rfl | simp, HB99.out⟩
theorem walk (w : World) (hH : Held w) (A : Option Addr) (T : List Int) (ca : Nat) (hA : IntsAt w A T) (_ : A = none → T = [] ∧ ca = 0) (_ : T.length ≤ 9223372036854775807) (_ : ∀ z ∈ T, -9223372036854775808 ≤ z ∧ z ≤ 9223372036854775807) (l s b : Int) :
    Calls Tryd.prog 3 #[.slice A T.length ca, .int .i64 l, .int .i64 s, .int .i64 b] w fun e w' => e = .returned (.bool true) ∧ Below w.heap.size w w' :=
  walk_n w hH A T T.length ca hA rfl l s b

set_option maxRecDepth 100000 in
theorem lifted (os : Os) (started : os.Started) (H : Type) (enc : TypeId × Value → H) :
    ReturnsInHanded {} Tryd.checked os 3 .any (fun w args => (Rows.neutralSettlesSpec.pre enc Tryd.prog Tryd.f3 [] false w args ∧ laidMetH Tryd.prog laidL w) ∧ sizedMet enc Tryd.prog Tryd.f3 (OpenSpec.ofChange Rows.neutralSettlesSpec) false w args) (Rows.neutralSettlesSpec.post enc Tryd.prog Tryd.f3 false true false false) := by
  refine returns_laid started (by kernel_rfl) Tryd.func3 #[.slice none 0 0, .int .i64 0, .int .i64 0, .int .i64 0] (by kernel_rfl) (World.shaped_of_ZipB (by kernel_rfl) (by kernel_rfl)) (by rw [MakeChecks.laidMetH_plain _ _ _ (by kernel_rfl)]; exact laidMet_laidAll _ (by kernel_rfl) (by kernel_rfl)) (by kernel_rfl) (by kernel_rfl) rfl rfl (by kernel_rfl) ?_ ?_
  · intro ds hds
    rw [show Tryd.f3.params.toList.length = 4 from by kernel_rfl] at hds
    match ds, hds with
    | [d0, d1, d2, d3], _ => rfl
  intro W base args ds p hval hA hH
  rw [Tryd.params3] at hA hval
  obtain ⟨v0, vs0, d0, ds0, p0, q0, hargs, rfl, rfl, h0, r0⟩ := ChangeShapes.trodAll_cons hA
  obtain ⟨v1, vs1, d1, ds1, p1, q1, rfl, rfl, rfl, h1, r1⟩ := ChangeShapes.trodAll_cons r0
  obtain ⟨v2, vs2, d2, ds2, p2, q2, rfl, rfl, rfl, h2, r2⟩ := ChangeShapes.trodAll_cons r1
  obtain ⟨v3, vs3, d3, ds3, p3, q3, rfl, rfl, rfl, h3, r3⟩ := ChangeShapes.trodAll_cons r2
  obtain ⟨rfl, rfl, rfl⟩ := ChangeShapes.trodAll_nil r3
  obtain rfl : args = #[v0, v1, v2, v3] := by cases args; simp_all
  obtain ⟨A0, zs0, c0, rfl, hr0, hnil0, hl0, hz0⟩ := open_introw (hval 0 22 v0 rfl rfl) h0
  obtain ⟨x1, rfl, rfl, rfl, wx1⟩ := open_int Tryd.underlying3 (hval 1 3 v1 rfl rfl) h1
  obtain ⟨x2, rfl, rfl, rfl, wx2⟩ := open_int Tryd.underlying3 (hval 2 3 v2 rfl rfl) h2
  obtain ⟨x3, rfl, rfl, rfl, wx3⟩ := open_int Tryd.underlying3 (hval 3 3 v3 rfl rfl) h3
  exact walk W hH A0 zs0 c0 hr0 hnil0 hl0 hz0 x1 x2 x3

theorem holds : Rows.NeutralSettlesSaid :=
  OpenClaim.holds_of_wide 3 Tryd.f3 rfl rfl rfl rfl rfl rfl rfl ⟨rfl, rfl, rfl, rfl, rfl⟩ rfl rfl rfl rfl rfl (by kernel_rfl) Tryd.func3 (by kernel_rfl)
    (of_decide_eq_true (by kernel_rfl)) (by unfold Func.isWrapper; first | (rw [if_pos (by decide +kernel)]; kernel_rfl) | (rw [if_neg (by decide +kernel)]; exact ⟨rfl, rfl⟩))
    (fun os started H enc _ => lifted os started H enc)

theorem card : Rows.NeutralSettlesCardSaid :=
  Claim7.holds_tied_plain_at .later [] [.data, .data, .pinned] true (true, "840f1c67af3e153f943a0914da229d03cc3e8ef09a9798dbdb7d3fac22e2053f") false
    holds (fun _ h => by cases h) (by kernel_rfl) (fun _ h => by cases h) neutralSettles_row_tie rfl ⟨rfl, rfl⟩ (by kernel_rfl) rfl
    (fun f fn hf hfn => by
      obtain rfl : f = 3 := Option.some.inj ((show Tryd.prog.funcNamed "parquetry/parquetrylaw15.NeutralSettles" = some 3 by kernel_rfl).symm.trans hf) |>.symm
      obtain rfl : fn = Tryd.f3 := (Option.some.inj (Tryd.func3.symm.trans hfn)).symm
      exact ⟨by kernel_rfl, fun j t ht => by
        rw [Tryd.params3] at ht
        have hm : t ∈ [22, 3] := by simpa using Array.mem_of_getElem? ht
        have hall : ([22, 3].all fun u => !Tryd.prog.wantsStandIn u) = true := by kernel_rfl
        exact (show Tryd.prog.wantsStandIn t = false by simpa using List.all_eq_true.1 hall t hm)⟩)
    (by kernel_rfl)
end Go.Proofs.YtkhhfodbldemeaaDoor.NeutralSettles
