/-
  Proved here: for all three rows of numbers, each level and each number as direction ahead PairsSettle returns true (what any classes become by their brackets is what the document's answer says, where each row has at most 300; all stay), and the rows stay. Conditions: the package variables that the row lists hold what the program's text lays (the card ties them).
-/
import Derived.Test.YtapeebnbiappgaaDoorPbLaw
import Derived.Test.YtapeebnbiappgaaDoorPrRefK
import Derived.Test.YtapeebnbiappgaaDoorClearInts
import Derived.Test.YtapeebnbiappgaaDoorLawInts
import Derived.Test.YtapeebnbiappgaaDoorClLaid
import Derived.Test.YtapeebnbiappgaaDoorTie
import Derived.Test.YtapeebnbiappgaaDoorCards
set_option linter.unusedVariables false
namespace Go.Proofs.YtapeebnbiappgaaDoor.PairsSettle
open Go Go.ChangeShapes Go.WideShapes Go.ChangeAt Go.RowKit Go.Lib Go.Proofs.YtapeebnbiappgaaDoor.Cl Go.Proofs.YtapeebnbiappgaaDoor.Pr Go.Proofs.YtapeebnbiappgaaDoor.Pb

set_option maxHeartbeats 4000000 in
set_option maxRecDepth 100000 in
theorem walk_n (w : World) (hH : Held w) (A : Option Addr) (T : List Int) (n ca : Nat) (hA : IntsAt w A T) (hlT : T.length = n) (B : Option Addr) (C : List Int) (m cb : Nat) (hB : IntsAt w B C) (hlC : C.length = m) (D : Option Addr) (O : List Int) (q cd : Nat) (hD : IntsAt w D O) (hlO : O.length = q) (lv s : Int) :
    Calls Tryd.prog 4 #[.slice A n ca, .slice B m cb, .slice D q cd, .int .i64 lv, .int .i64 s] w fun e w' => e = .returned (.bool true) ∧ Below w.heap.size w w' := by
  by_cases h0 : 300 < n
  · have d0 : decide ((300 : Int) < (n : Int)) = true := decide_eq_true (by omega)
    have d1 : decide (300 < n) = true := decide_eq_true h0
    go_enter Tryd.func4, Tryd.ntmps4
    go_wp2_with (go_at_call 8; refine (awake_any _ hH).mono ?_; rintro e w' ⟨rfl, hb⟩)
    go_ret
    exact ⟨rfl, hb⟩
  · have d0 : decide ((300 : Int) < (n : Int)) = false := decide_eq_false (by omega)
    have d1 : decide (300 < n) = false := decide_eq_false h0
    by_cases h1 : 300 < m
    · have d2 : decide ((300 : Int) < (m : Int)) = true := decide_eq_true (by omega)
      have d3 : decide (300 < m) = true := decide_eq_true h1
      go_enter Tryd.func4, Tryd.ntmps4
      go_wp2_with (go_at_call 8; refine (awake_any _ hH).mono ?_; rintro e w' ⟨rfl, hb⟩)
      go_ret
      exact ⟨rfl, hb⟩
    · have d2 : decide ((300 : Int) < (m : Int)) = false := decide_eq_false (by omega)
      have d3 : decide (300 < m) = false := decide_eq_false h1
      by_cases h2 : 300 < q
      · have d4 : decide ((300 : Int) < (q : Int)) = true := decide_eq_true (by omega)
        have d5 : decide (300 < q) = true := decide_eq_true h2
        go_enter Tryd.func4, Tryd.ntmps4
        go_wp2_with (go_at_call 8; refine (awake_any _ hH).mono ?_; rintro e w' ⟨rfl, hb⟩)
        go_ret
        exact ⟨rfl, hb⟩
      · have d4 : decide ((300 : Int) < (q : Int)) = false := decide_eq_false (by omega)
        have d5 : decide (300 < q) = false := decide_eq_false h2
        have HH := Lib.hid hH
        have HA := Lib.hid hA
        have HB := Lib.hid hB
        have HD := Lib.hid hD
        have HLT := Lib.hid hlT
        have HLC := Lib.hid hlC
        have HLO := Lib.hid hlO
        have HSL := Lib.hid (show (settleZ T C O lv s).length ≤ 300 from by
          by_cases h : T.length = C.length ∧ O.length = C.length
          · rw [settleZ_len lv s h.1 h.2]; omega
          · rw [settle_unlike lv s h]; simp)
        have HBL0 := Lib.hid (Below.refl w.heap.size w)
        clear hH hA hB hD hlT hlC hlO
        go_enter Tryd.func4, Tryd.ntmps4
        have hdd := below_made w (.cells #[] 3)
        have HSRC := Lib.hid ((HA.out.below HBL0.out).below hdd)
        have HDD := Lib.hid hdd
        have hsz0 := HBL0.out.size
        clear hdd
        go_wp2_with (at_builtin; refine wpList_add rfl _ _ rfl w.heap.size _ 0 [] rfl (made_nil w) A n ca T rfl HSRC.out HLT.out (by omega) (by simp) ?_)
        intro v1 w1 hown hb
        try simp only [List.nil_append, Nat.zero_add] at hown
        obtain ⟨A1, c1, rfl, hat⟩ := intsAt_icl hown HLT.out
        have hbb := HDD.out.trans hb
        have HBL1 := Lib.hid (bt HBL0.out hbb)
        have HO1_1 := Lib.hid hat
        clear hown hb hat hbb HDD HSRC
        have hdd := below_made w1 (.cells #[] 3)
        have HSRC := Lib.hid ((HB.out.below HBL1.out).below hdd)
        have HDD := Lib.hid hdd
        have hsz1 := HBL1.out.size
        clear hdd
        go_wp2_with (at_builtin; refine wpList_add rfl _ _ rfl w1.heap.size _ 0 [] rfl (made_nil w1) B m cb C rfl HSRC.out HLC.out (by omega) (by simp) ?_)
        intro v2 w2 hown hb
        try simp only [List.nil_append, Nat.zero_add] at hown
        obtain ⟨A2, c2, rfl, hat⟩ := intsAt_icl hown HLC.out
        have hbb := HDD.out.trans hb
        have HBL2 := Lib.hid (bt HBL1.out hbb)
        have HO2_2 := Lib.hid hat
        have HO1_2 := Lib.hid (HO1_1.out.below hbb)
        clear hown hb hat hbb HDD HSRC
        have hdd := below_made w2 (.cells #[] 3)
        have HSRC := Lib.hid ((HD.out.below HBL2.out).below hdd)
        have HDD := Lib.hid hdd
        have hsz2 := HBL2.out.size
        clear hdd
        go_wp2_with (at_builtin; refine wpList_add rfl _ _ rfl w2.heap.size _ 0 [] rfl (made_nil w2) D q cd O rfl HSRC.out HLO.out (by omega) (by simp) ?_)
        intro v3 w3 hown hb
        try simp only [List.nil_append, Nat.zero_add] at hown
        obtain ⟨A3, c3, rfl, hat⟩ := intsAt_icl hown HLO.out
        have hbb := HDD.out.trans hb
        have HBL3 := Lib.hid (bt HBL2.out hbb)
        have HO3_3 := Lib.hid hat
        have HO1_3 := Lib.hid (HO1_2.out.below hbb)
        have HO2_3 := Lib.hid (HO2_2.out.below hbb)
        clear hown hb hat hbb HDD HSRC
        have HBR := Lib.hid (brackets_any A1 A2 A3 T C O n m q c1 c2 c3 lv s w3 HO1_3.out HO2_3.out HO3_3.out HLT.out HLC.out HLO.out (by omega))
        generalize hS : settleZ T C O lv s = S at *
        obtain ⟨p, hp⟩ : ∃ p, S.length = p := ⟨_, rfl⟩
        have HP := Lib.hid hp
        have HSE := Lib.hid hS
        rw [hp] at HBR HSL
        clear hp hS
        go_wp2_with fail
        refine HBR.out.mono ?_
        rintro e w4 ⟨A4, c4, rfl, hown, hb⟩
        have HOW4 := Lib.hid hown
        have HBB4 := Lib.hid hb
        have HBL4 := Lib.hid (bt HBL3.out hb)
        have hrb := rbrackets_any A B D T C O n m q ca cb cd lv s w4 (HA.out.below HBL4.out) (HB.out.below HBL4.out) (HD.out.below HBL4.out) HLT.out HLC.out HLO.out (by omega)
        rw [HSE.out, HP.out] at hrb
        have HRB := Lib.hid hrb
        clear hown hb hrb HBR
        go_wp2_with fail
        refine HRB.out.mono ?_
        rintro e w5 ⟨A5, c5, rfl, hown, hb⟩
        have HOW5 := Lib.hid (ownsRow_below HOW4.out hb)
        have HBB5 := Lib.hid (bt HBB4.out hb)
        have HS := Lib.hid (same_n A4 A5 S p c4 c5 w5 HP.out (ints_of HOW5.out HP.out) (ints_of hown HP.out) (by have := HSL.out; omega))
        clear hown hb HRB HOW4
        go_wp2_with fail
        refine HS.out.mono ?_
        rintro e w6 ⟨rfl, hb⟩
        have HOW6 := Lib.hid (ownsRow_below HOW5.out hb)
        have HBB6 := Lib.hid (bt HBB5.out hb)
        clear hb HS HOW5
        obtain ⟨w7, hcl, hgr⟩ := clear_ints HOW6.out
        have HBB7 := Lib.hid (HBB6.out.grown hgr HBB6.out.size (fun k hk => (HOW6.out.lt k hk).1))
        have HB7 := Lib.hid (bt HBL3.out HBB7.out)
        have HS1 := Lib.hid (same_n A1 A T n c1 ca w7 HLT.out (HO1_3.out.below HBB7.out) (HA.out.below HB7.out) (by omega))
        clear hgr
        go_wp2_with fail
        refine HS1.out.mono ?_
        rintro e w8 ⟨rfl, hb⟩
        have HBB8 := Lib.hid (bt HBB7.out hb)
        have HB8 := Lib.hid (bt HB7.out hb)
        have HS2 := Lib.hid (same_n A2 B C m c2 cb w8 HLC.out (HO2_3.out.below HBB8.out) (HB.out.below HB8.out) (by omega))
        clear hb HS1 hcl
        go_wp2_with fail
        refine HS2.out.mono ?_
        rintro e w9 ⟨rfl, hb⟩
        have HBB9 := Lib.hid (bt HBB8.out hb)
        have HB9 := Lib.hid (bt HB8.out hb)
        have HS3 := Lib.hid (same_n A3 D O q c3 cd w9 HLO.out (HO3_3.out.below HBB9.out) (HD.out.below HB9.out) (by omega))
        clear hb HS2
        go_wp2_with fail
        refine HS3.out.mono ?_
        rintro e w10 ⟨rfl, hb⟩
        have HB10 := Lib.hid (bt HB9.out hb)
        have HH10 := Lib.hid (HH.out.below HB10.out)
        clear hb HS3
        go_wp2_with fail
        refine (awake_any w10 HH10.out).mono ?_
        rintro e w11 ⟨rfl, hb⟩
        have HB11 := Lib.hid (bt HB10.out hb)
        clear hb
        go_wp2
        go_ret
        exact ⟨rfl, HB11.out⟩
theorem walk (w : World) (hH : Held w) (A : Option Addr) (T : List Int) (ca : Nat) (hA : IntsAt w A T) (_ : A = none → T = [] ∧ ca = 0) (_ : T.length ≤ 9223372036854775807) (_ : ∀ z ∈ T, -9223372036854775808 ≤ z ∧ z ≤ 9223372036854775807) (B : Option Addr) (C : List Int) (cb : Nat) (hB : IntsAt w B C) (_ : B = none → C = [] ∧ cb = 0) (_ : C.length ≤ 9223372036854775807) (_ : ∀ z ∈ C, -9223372036854775808 ≤ z ∧ z ≤ 9223372036854775807) (D : Option Addr) (O : List Int) (cd : Nat) (hD : IntsAt w D O) (_ : D = none → O = [] ∧ cd = 0) (_ : O.length ≤ 9223372036854775807) (_ : ∀ z ∈ O, -9223372036854775808 ≤ z ∧ z ≤ 9223372036854775807) (lv s : Int) :
    Calls Tryd.prog 4 #[.slice A T.length ca, .slice B C.length cb, .slice D O.length cd, .int .i64 lv, .int .i64 s] w fun e w' => e = .returned (.bool true) ∧ Below w.heap.size w w' :=
  walk_n w hH A T T.length ca hA rfl B C C.length cb hB rfl D O O.length cd hD rfl lv s

set_option maxRecDepth 100000 in
theorem lifted (os : Os) (started : os.Started) (H : Type) (enc : TypeId × Value → H) :
    ReturnsInHanded {} Tryd.checked os 4 .any (fun w args => (Rows.pairsSettleSpec.pre enc Tryd.prog Tryd.f4 [] false w args ∧ laidMetH Tryd.prog laidL w) ∧ sizedMet enc Tryd.prog Tryd.f4 (OpenSpec.ofChange Rows.pairsSettleSpec) false w args) (Rows.pairsSettleSpec.post enc Tryd.prog Tryd.f4 false true false false) := by
  refine returns_laid started (by kernel_rfl) Tryd.func4 #[.slice none 0 0, .slice none 0 0, .slice none 0 0, .int .i64 0, .int .i64 0] (by kernel_rfl) (World.shaped_of_ZipB (by kernel_rfl) (by kernel_rfl)) (by rw [MakeChecks.laidMetH_plain _ _ _ (by kernel_rfl)]; exact laidMet_laidAll _ (by kernel_rfl) (by kernel_rfl)) (by kernel_rfl) (by kernel_rfl) rfl rfl (by kernel_rfl) ?_ ?_
  · intro ds hds
    rw [show Tryd.f4.params.toList.length = 5 from by kernel_rfl] at hds
    match ds, hds with
    | [d0, d1, d2, d3, d4], _ => rfl
  intro W base args ds p hval hA hH
  rw [Tryd.params4] at hA hval
  obtain ⟨v0, vs0, d0, ds0, p0, q0, hargs, rfl, rfl, h0, r0⟩ := ChangeShapes.trodAll_cons hA
  obtain ⟨v1, vs1, d1, ds1, p1, q1, rfl, rfl, rfl, h1, r1⟩ := ChangeShapes.trodAll_cons r0
  obtain ⟨v2, vs2, d2, ds2, p2, q2, rfl, rfl, rfl, h2, r2⟩ := ChangeShapes.trodAll_cons r1
  obtain ⟨v3, vs3, d3, ds3, p3, q3, rfl, rfl, rfl, h3, r3⟩ := ChangeShapes.trodAll_cons r2
  obtain ⟨v4, vs4, d4, ds4, p4, q4, rfl, rfl, rfl, h4, r4⟩ := ChangeShapes.trodAll_cons r3
  obtain ⟨rfl, rfl, rfl⟩ := ChangeShapes.trodAll_nil r4
  obtain rfl : args = #[v0, v1, v2, v3, v4] := by cases args; simp_all
  obtain ⟨A0, zs0, c0, rfl, hr0, hnil0, hl0, hz0⟩ := open_introw (hval 0 22 v0 rfl rfl) h0
  obtain ⟨A1, zs1, c1, rfl, hr1, hnil1, hl1, hz1⟩ := open_introw (hval 1 22 v1 rfl rfl) h1
  obtain ⟨A2, zs2, c2, rfl, hr2, hnil2, hl2, hz2⟩ := open_introw (hval 2 22 v2 rfl rfl) h2
  obtain ⟨x3, rfl, rfl, rfl, wx3⟩ := open_int Tryd.underlying3 (hval 3 3 v3 rfl rfl) h3
  obtain ⟨x4, rfl, rfl, rfl, wx4⟩ := open_int Tryd.underlying3 (hval 4 3 v4 rfl rfl) h4
  exact walk W hH A0 zs0 c0 hr0 hnil0 hl0 hz0 A1 zs1 c1 hr1 hnil1 hl1 hz1 A2 zs2 c2 hr2 hnil2 hl2 hz2 x3 x4

theorem holds : Rows.PairsSettleSaid :=
  OpenClaim.holds_of_wide 4 Tryd.f4 rfl rfl rfl rfl rfl rfl rfl ⟨rfl, rfl, rfl, rfl, rfl⟩ rfl rfl rfl rfl rfl (by kernel_rfl) Tryd.func4 (by kernel_rfl)
    (of_decide_eq_true (by kernel_rfl)) (by unfold Func.isWrapper; first | (rw [if_pos (by decide +kernel)]; kernel_rfl) | (rw [if_neg (by decide +kernel)]; exact ⟨rfl, rfl⟩))
    (fun os started H enc _ => lifted os started H enc)

theorem card : Rows.PairsSettleCardSaid :=
  Claim7.holds_tied_plain_at .later [] [.data, .data, .pinned] true (true, "5ab8faf20a61821e78c39df3730befa666d67ea68e19ab1afc714c671500d4f5") false
    holds (fun _ h => by cases h) (by kernel_rfl) (fun _ h => by cases h) pairsSettle_row_tie rfl ⟨rfl, rfl⟩ (by kernel_rfl) rfl
    (fun f fn hf hfn => by
      obtain rfl : f = 4 := Option.some.inj ((show Tryd.prog.funcNamed "parquetry/parquetrylaw14.PairsSettle" = some 4 by kernel_rfl).symm.trans hf) |>.symm
      obtain rfl : fn = Tryd.f4 := (Option.some.inj (Tryd.func4.symm.trans hfn)).symm
      exact ⟨by kernel_rfl, fun j t ht => by
        rw [Tryd.params4] at ht
        have hm : t ∈ [22, 3] := by simpa using Array.mem_of_getElem? ht
        have hall : ([22, 3].all fun u => !Tryd.prog.wantsStandIn u) = true := by kernel_rfl
        exact (show Tryd.prog.wantsStandIn t = false by simpa using List.all_eq_true.1 hall t hm)⟩)
    (by kernel_rfl)
end Go.Proofs.YtapeebnbiappgaaDoor.PairsSettle
