/-
  Proved here: for all two rows of numbers PairsFound returns true (the pairs of any classes and code points are those of the document's answer, where they are at most 300 each; they stay), and the rows stay. Conditions: the package variables that the row lists hold what the program's text lays (the card ties them).
-/
import Derived.Test.YtapeebnbiappgaaDoorPbLaw
import Derived.Test.YtapeebnbiappgaaDoorPrRefF
import Derived.Test.YtapeebnbiappgaaDoorLawInts
import Derived.Test.YtapeebnbiappgaaDoorClLaid
import Derived.Test.YtapeebnbiappgaaDoorTie
import Derived.Test.YtapeebnbiappgaaDoorCards
set_option linter.unusedVariables false
namespace Go.Proofs.YtapeebnbiappgaaDoor.PairsFound
open Go Go.ChangeShapes Go.WideShapes Go.ChangeAt Go.RowKit Go.Lib Go.Proofs.YtapeebnbiappgaaDoor.Cl Go.Proofs.YtapeebnbiappgaaDoor.Pr Go.Proofs.YtapeebnbiappgaaDoor.Pb

set_option maxHeartbeats 4000000 in
set_option maxRecDepth 100000 in
theorem walk_n (w : World) (hH : Held w) (A : Option Addr) (T : List Int) (n ca : Nat) (hA : IntsAt w A T) (hlT : T.length = n) (B : Option Addr) (C : List Int) (m cb : Nat) (hB : IntsAt w B C) (hlC : C.length = m) :
    Calls Tryd.prog 3 #[.slice A n ca, .slice B m cb] w fun e w' => e = .returned (.bool true) ∧ Below w.heap.size w w' := by
  by_cases h1 : 300 < n
  · have d1 : decide ((300 : Int) < (n : Int)) = true := decide_eq_true (by omega)
    have d2 : decide (300 < n) = true := decide_eq_true h1
    go_enter Tryd.func3, Tryd.ntmps3
    go_wp2_with (go_at_call 8; refine (awake_any _ hH).mono ?_; rintro e w' ⟨rfl, hb⟩)
    go_ret
    exact ⟨rfl, hb⟩
  · have d1 : decide ((300 : Int) < (n : Int)) = false := decide_eq_false (by omega)
    have d2 : decide (300 < n) = false := decide_eq_false h1
    by_cases h2 : 300 < m
    · have d3 : decide ((300 : Int) < (m : Int)) = true := decide_eq_true (by omega)
      have d4 : decide (300 < m) = true := decide_eq_true h2
      go_enter Tryd.func3, Tryd.ntmps3
      go_wp2_with (go_at_call 8; refine (awake_any _ hH).mono ?_; rintro e w' ⟨rfl, hb⟩)
      go_ret
      exact ⟨rfl, hb⟩
    · have d3 : decide ((300 : Int) < (m : Int)) = false := decide_eq_false (by omega)
      have d4 : decide (300 < m) = false := decide_eq_false h2
      have HH := Lib.hid hH
      have HA := Lib.hid hA
      have HB := Lib.hid hB
      have HLT := Lib.hid hlT
      have HLC := Lib.hid hlC
      have HPn := Lib.hid (show (findP T C).length ≤ 300 from Nat.le_trans find_len (by rw [hlC]; omega))
      have HD := Lib.hid (below_made w (.cells #[] 3))
      have HA1 := Lib.hid (hA.below HD.out)
      clear hH hA hB hlT hlC
      go_enter Tryd.func3, Tryd.ntmps3
      go_wp2_with (at_builtin; refine wpList_add rfl _ _ rfl w.heap.size _ 0 [] rfl (made_nil w) A n ca T rfl HA1.out HLT.out (by omega) (by simp) ?_)
      intro v1 w1 hown hb
      try simp only [List.nil_append, Nat.zero_add] at hown
      obtain ⟨A1, c1, rfl, hat⟩ := intsAt_icl hown HLT.out
      have HB1 := Lib.hid (HD.out.trans hb)
      have HO1 := Lib.hid hat
      have hsz1 := HB1.out.size
      have HD1 := Lib.hid (below_made w1 (.cells #[] 3))
      have HB2a := Lib.hid ((HB.out.below HB1.out).below HD1.out)
      clear hown hb hat HA1
      go_wp2_with (at_builtin; refine wpList_add rfl _ _ rfl w1.heap.size _ 0 [] rfl (made_nil w1) B m cb C rfl HB2a.out HLC.out (by omega) (by simp) ?_)
      intro v2 w2 hown hb
      try simp only [List.nil_append, Nat.zero_add] at hown
      obtain ⟨A2, c2, rfl, hat⟩ := intsAt_icl hown HLC.out
      have HBB2 := Lib.hid (HD1.out.trans hb)
      have HB2 := Lib.hid (bt HB1.out HBB2.out)
      have HO2 := Lib.hid hat
      have HO1b := Lib.hid (HO1.out.below HBB2.out)
      have HF := Lib.hid (find_any A1 A2 T C n m c1 c2 w2 HO1b.out HO2.out HLT.out HLC.out (by omega))
      clear hown hb hat HB2a
      go_wp2_with fail
      refine HF.out.mono ?_
      rintro e w3 ⟨v3, rfl, hown, hb⟩
      obtain ⟨A3, c3, rfl, hpa⟩ := paAt_own hown rfl
      have HB3 := Lib.hid (bt HB2.out hb)
      have HBB3 := Lib.hid hb
      have HP3 := Lib.hid hpa
      have HRF := Lib.hid (rfind_any A B T C n m ca cb w3 (HA.out.below HB3.out) (HB.out.below HB3.out) HLT.out HLC.out (by omega))
      clear hown hb hpa HF
      go_wp2_with fail
      refine HRF.out.mono ?_
      rintro e w4 ⟨v4, rfl, hown, hb⟩
      obtain ⟨A4, c4, rfl, hpa⟩ := paAt_own hown rfl
      have HB4 := Lib.hid (bt HB3.out hb)
      have HBB4 := Lib.hid (bt HBB3.out hb)
      have HS := Lib.hid (rsame_any A3 A4 (findP T C) _ c3 c4 w4 (HP3.out.below hb) hpa rfl (by have := HPn.out; omega))
      clear hown hb hpa HRF
      generalize (findP T C).length = p at *
      go_wp2_with fail
      refine HS.out.mono ?_
      rintro e w5 ⟨rfl, hb⟩
      have HB5 := Lib.hid (bt HB4.out hb)
      have HBB5 := Lib.hid (bt HBB4.out hb)
      have HS1 := Lib.hid (same_n A1 A T n c1 ca w5 HLT.out (HO1b.out.below HBB5.out) (HA.out.below HB5.out) (by omega))
      clear hb HS
      go_wp2_with fail
      refine HS1.out.mono ?_
      rintro e w6 ⟨rfl, hb⟩
      have HB6 := Lib.hid (bt HB5.out hb)
      have HBB6 := Lib.hid (bt HBB5.out hb)
      have HS2 := Lib.hid (same_n A2 B C m c2 cb w6 HLC.out (HO2.out.below HBB6.out) (HB.out.below HB6.out) (by omega))
      clear hb HS1
      go_wp2_with fail
      refine HS2.out.mono ?_
      rintro e w7 ⟨rfl, hb⟩
      have HB7 := Lib.hid (bt HB6.out hb)
      have HH7 := Lib.hid (HH.out.below HB7.out)
      clear hb HS2
      go_wp2_with fail
      refine (awake_any w7 HH7.out).mono ?_
      rintro e w8 ⟨rfl, hb⟩
      have HB8 := Lib.hid (bt HB7.out hb)
      clear hb
      go_wp2
      go_ret
      exact ⟨rfl, HB8.out⟩
theorem walk (w : World) (hH : Held w) (A : Option Addr) (T : List Int) (ca : Nat) (hA : IntsAt w A T) (_ : A = none → T = [] ∧ ca = 0) (_ : T.length ≤ 9223372036854775807) (_ : ∀ z ∈ T, -9223372036854775808 ≤ z ∧ z ≤ 9223372036854775807)
    (B : Option Addr) (C : List Int) (cb : Nat) (hB : IntsAt w B C) (_ : B = none → C = [] ∧ cb = 0) (_ : C.length ≤ 9223372036854775807) (_ : ∀ z ∈ C, -9223372036854775808 ≤ z ∧ z ≤ 9223372036854775807) :
    Calls Tryd.prog 3 #[.slice A T.length ca, .slice B C.length cb] w fun e w' => e = .returned (.bool true) ∧ Below w.heap.size w w' :=
  walk_n w hH A T T.length ca hA rfl B C C.length cb hB rfl

set_option maxRecDepth 100000 in
theorem lifted (os : Os) (started : os.Started) (H : Type) (enc : TypeId × Value → H) :
    ReturnsInHanded {} Tryd.checked os 3 .any (fun w args => (Rows.pairsFoundSpec.pre enc Tryd.prog Tryd.f3 [] false w args ∧ laidMetH Tryd.prog laidL w) ∧ sizedMet enc Tryd.prog Tryd.f3 (OpenSpec.ofChange Rows.pairsFoundSpec) false w args) (Rows.pairsFoundSpec.post enc Tryd.prog Tryd.f3 false true false false) := by
  refine returns_laid started (by kernel_rfl) Tryd.func3 #[.slice none 0 0, .slice none 0 0] (by kernel_rfl) (World.shaped_of_ZipB (by kernel_rfl) (by kernel_rfl)) (by rw [MakeChecks.laidMetH_plain _ _ _ (by kernel_rfl)]; exact laidMet_laidAll _ (by kernel_rfl) (by kernel_rfl)) (by kernel_rfl) (by kernel_rfl) rfl rfl (by kernel_rfl) ?_ ?_
  · intro ds hds
    rw [show Tryd.f3.params.toList.length = 2 from by kernel_rfl] at hds
    match ds, hds with
    | [d0, d1], _ => rfl
  intro W base args ds p hval hA hH
  rw [Tryd.params3] at hA hval
  obtain ⟨v0, vs0, d0, ds0, p0, q0, hargs, rfl, rfl, h0, r0⟩ := ChangeShapes.trodAll_cons hA
  obtain ⟨v1, vs1, d1, ds1, p1, q1, rfl, rfl, rfl, h1, r1⟩ := ChangeShapes.trodAll_cons r0
  obtain ⟨rfl, rfl, rfl⟩ := ChangeShapes.trodAll_nil r1
  obtain rfl : args = #[v0, v1] := by cases args; simp_all
  obtain ⟨A0, zs0, c0, rfl, hr0, hnil0, hl0, hz0⟩ := open_introw (hval 0 22 v0 rfl rfl) h0
  obtain ⟨A1, zs1, c1, rfl, hr1, hnil1, hl1, hz1⟩ := open_introw (hval 1 22 v1 rfl rfl) h1
  exact walk W hH A0 zs0 c0 hr0 hnil0 hl0 hz0 A1 zs1 c1 hr1 hnil1 hl1 hz1

theorem holds : Rows.PairsFoundSaid :=
  OpenClaim.holds_of_wide 3 Tryd.f3 rfl rfl rfl rfl rfl rfl rfl ⟨rfl, rfl, rfl, rfl, rfl⟩ rfl rfl rfl rfl rfl (by kernel_rfl) Tryd.func3 (by kernel_rfl)
    (of_decide_eq_true (by kernel_rfl)) (by unfold Func.isWrapper; first | (rw [if_pos (by decide +kernel)]; kernel_rfl) | (rw [if_neg (by decide +kernel)]; exact ⟨rfl, rfl⟩))
    (fun os started H enc _ => lifted os started H enc)

theorem card : Rows.PairsFoundCardSaid :=
  Claim7.holds_tied_plain_at .later [] [.data, .data, .pinned] true (true, "5ab8faf20a61821e78c39df3730befa666d67ea68e19ab1afc714c671500d4f5") false
    holds (fun _ h => by cases h) (by kernel_rfl) (fun _ h => by cases h) pairsFound_row_tie rfl ⟨rfl, rfl⟩ (by kernel_rfl) rfl
    (fun f fn hf hfn => by
      obtain rfl : f = 3 := Option.some.inj ((show Tryd.prog.funcNamed "parquetry/parquetrylaw14.PairsFound" = some 3 by kernel_rfl).symm.trans hf) |>.symm
      obtain rfl : fn = Tryd.f3 := (Option.some.inj (Tryd.func3.symm.trans hfn)).symm
      exact ⟨by kernel_rfl, fun j t ht => by
        rw [Tryd.params3] at ht
        have hm : t ∈ [22] := by simpa using Array.mem_of_getElem? ht
        have hall : ([22].all fun u => !Tryd.prog.wantsStandIn u) = true := by kernel_rfl
        exact (show Tryd.prog.wantsStandIn t = false by simpa using List.all_eq_true.1 hall t hm)⟩)
    (by kernel_rfl)
end Go.Proofs.YtapeebnbiappgaaDoor.PairsFound
