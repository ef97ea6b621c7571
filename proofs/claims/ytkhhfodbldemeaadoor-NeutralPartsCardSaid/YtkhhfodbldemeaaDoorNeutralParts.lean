/-
  Proved here: for every two rows of numbers, each level, each two numbers as directions and each letter between NeutralParts returns true (behind an L or an R the rest is settled as a sequence that has that as its direction ahead, and what stands ahead as one that has it behind, where they are at most 1000), and the rows stay. Conditions: the package variables that the row lists hold what the program's text lays (the card ties them).
-/
import Derived.Test.YtkhhfodbldemeaaDoorNeAwake
import Derived.Test.YtkhhfodbldemeaaDoorNeLike
import Derived.Test.YtkhhfodbldemeaaDoorLawInts
import Derived.Test.YtkhhfodbldemeaaDoorClLaid
import Derived.Test.YtkhhfodbldemeaaDoorTie
import Derived.Test.YtkhhfodbldemeaaDoorCards
set_option linter.unusedVariables false
namespace Go.Proofs.YtkhhfodbldemeaaDoor.NeutralParts
open Go Go.ChangeShapes Go.WideShapes Go.ChangeAt Go.RowKit Go.Lib Go.Proofs.YtkhhfodbldemeaaDoor.Cl Go.Proofs.YtkhhfodbldemeaaDoor.Ne

set_option maxHeartbeats 4000000 in
set_option maxRecDepth 100000 in
theorem walk_n (w : World) (hH : Held w) (A : Option Addr) (za : List Int) (na ca : Nat) (hA : IntsAt w A za) (hlA : za.length = na) (B : Option Addr) (zb : List Int) (nb cb : Nat) (hB : IntsAt w B zb) (hlB : zb.length = nb) (l s eo : Int) (r : Bool) :
    Calls Tryd.prog 6 #[.slice A na ca, .slice B nb cb, .int .i64 l, .int .i64 s, .int .i64 eo, .bool r] w fun e w' => e = .returned (.bool true) ∧ Below w.heap.size w w' := by
  by_cases h0 : 1000 < na
  · have d0 : decide ((1000 : Int) < (na : Int)) = true := decide_eq_true (by omega)
    have e0 : decide (1000 < na) = true := decide_eq_true h0
    go_enter Tryd.func6, Tryd.ntmps6
    go_wp2_with (go_at_call 9; refine (awake_any _ hH).mono ?_; rintro e w' ⟨rfl, hb⟩)
    go_ret
    exact ⟨rfl, hb⟩
  · have d0 : decide ((1000 : Int) < (na : Int)) = false := decide_eq_false (by omega)
    have e0 : decide (1000 < na) = false := decide_eq_false h0
    by_cases h1 : 1000 < nb
    · have d1 : decide ((1000 : Int) < (nb : Int)) = true := decide_eq_true (by omega)
      have e1 : decide (1000 < nb) = true := decide_eq_true h1
      go_enter Tryd.func6, Tryd.ntmps6
      go_wp2_with (go_at_call 9; refine (awake_any _ hH).mono ?_; rintro e w' ⟨rfl, hb⟩)
      go_ret
      exact ⟨rfl, hb⟩
    · have d1 : decide ((1000 : Int) < (nb : Int)) = false := decide_eq_false (by omega)
      have e1 : decide (1000 < nb) = false := decide_eq_false h1
      have HH := Lib.hid hH
      have HA := Lib.hid hA
      have HZ := Lib.hid hB
      have HLA := Lib.hid hlA
      have HLZ := Lib.hid hlB
      have HDR := Lib.hid (fun (V : World) => direct_any r V)
      have ht01 := dirB_01 r
      generalize dirB r = t at *
      have HPT := Lib.hid (settle_parted l eo t ht01 za zb s)
      have HLX := Lib.hid (show (settleN l t s za).length = na from by rw [settle_len, hlA])
      have HLY := Lib.hid (show (settleN l eo t zb).length = nb from by rw [settle_len, hlB])
      have HW := Lib.hid (fun (V : World) (A3 : Option Addr) (c3 : Nat) (h : IntsAt V A3 (za ++ t :: zb)) => settle_any A3 (za ++ t :: zb) (na + 1 + nb) c3 l s eo V h (by simp [hlA, hlB]; omega) (by omega))
      have HX := Lib.hid (fun (V : World) (h : IntsAt V A za) => settle_any A za na ca l s t V h hlA (by omega))
      have HY := Lib.hid (fun (V : World) (h : IntsAt V B zb) => settle_any B zb nb cb l t eo V h hlB (by omega))
      rw [HPT.out] at HW
      generalize settleN l t s za = X at *
      generalize settleN l eo t zb = Y at *
      clear hH hA hB hlA hlB HPT
      go_enter Tryd.func6, Tryd.ntmps6
      go_wp2_with fail
      refine (HDR.out _).mono ?_
      rintro e w9 ⟨rfl, e9⟩
      obtain rfl := e9.symm
      have HM0 := Lib.hid (made_nil w)
      have HD0 := Lib.hid (below_made w (.cells #[] 3))
      have HA0 := Lib.hid (HA.out.below HD0.out)
      go_wp2_with (at_builtin; refine wpList_add rfl _ _ rfl w.heap.size _ 0 [] rfl HM0.out A na ca za rfl HA0.out HLA.out (by omega) (by simp) ?_)
      intro v1 w1 hown hb
      try simp only [List.nil_append, Nat.zero_add] at hown
      obtain ⟨A1, c1, rfl, hat1⟩ := intsAt_icl hown (by exact HLA.out)
      have HB1 := Lib.hid (HD0.out.trans hb)
      have HO1 := Lib.hid (ownsRow_below hown (below_made w1 (.cells #[.int .i64 t] 3)))
      have HT := Lib.hid (made_ints [t] _ 3 w1 rfl)
      clear hown hb hat1 HM0 HD0 HA0
      go_wp2_with (at_builtin; refine wpList_add rfl _ _ rfl w.heap.size _ na za rfl HO1.out _ 1 1 [t] rfl HT.out rfl (by omega) (by simp; have := HB1.out.size; omega) ?_)
      intro v2 w2 hown hb
      try simp only [List.nil_append, Nat.zero_add] at hown
      obtain ⟨A2, c2, rfl, hat2⟩ := intsAt_icl hown (by simp [HLA.out])
      have HB2 := Lib.hid ((bt HB1.out (below_made w1 _)).trans hb)
      have HO2 := Lib.hid hown
      have HZ2 := Lib.hid (HZ.out.below HB2.out)
      clear hown hb hat2 HO1 HT
      go_wp2_with (at_builtin; refine wpList_add rfl _ _ rfl w.heap.size _ (na + 1) (za ++ [t]) rfl HO2.out B nb cb zb rfl HZ2.out HLZ.out (by omega) HB2.out.size ?_)
      intro v3 w3 hown hb
      try simp only [List.nil_append, Nat.zero_add] at hown
      obtain ⟨A3, c3, rfl, hat3⟩ := intsAt_icl hown (by simp [HLA.out, HLZ.out]; omega)
      have HB3 := Lib.hid (HB2.out.trans hb)
      have HA3 := Lib.hid (show IntsAt w3 A3 (za ++ t :: zb) from by simpa using hat3)
      have HM3 := Lib.hid (made_nil w3)
      have HD3 := Lib.hid (below_made w3 (.cells #[] 3))
      have HX3 := Lib.hid (HX.out _ ((HA.out.below HB3.out).below HD3.out))
      clear hown hb hat3 HO2 HZ2 HX
      go_wp2_with fail
      refine HX3.out.mono ?_
      rintro e w4 ⟨A4, c4, rfl, hown, hb⟩
      have HB34 := Lib.hid (bt HD3.out hb)
      have HM4 := Lib.hid (ownsRow_below HM3.out hb)
      have HA4 := Lib.hid (ints_of hown HLX.out)
      clear hown hb HX3 HM3 HD3
      go_wp2_with (at_builtin; refine wpList_add rfl _ _ rfl w3.heap.size _ 0 [] rfl HM4.out A4 na c4 X rfl HA4.out HLX.out (by omega) HB34.out.size ?_)
      intro v5 w5 hown hb
      try simp only [List.nil_append, Nat.zero_add] at hown
      obtain ⟨A5, c5, rfl, hat5⟩ := intsAt_icl hown (by exact HLX.out)
      have HB35 := Lib.hid (HB34.out.trans hb)
      have HO5 := Lib.hid (ownsRow_below hown (below_made w5 (.cells #[.int .i64 t] 3)))
      have HT5 := Lib.hid (made_ints [t] _ 3 w5 rfl)
      clear hown hb hat5 HM4 HA4
      go_wp2_with (at_builtin; refine wpList_add rfl _ _ rfl w3.heap.size _ na X rfl HO5.out _ 1 1 [t] rfl HT5.out rfl (by omega) (by simp; have := HB35.out.size; omega) ?_)
      intro v6 w6 hown hb
      try simp only [List.nil_append, Nat.zero_add] at hown
      obtain ⟨A6, c6, rfl, hat6⟩ := intsAt_icl hown (by simp [HLX.out])
      have HB36 := Lib.hid ((bt HB35.out (below_made w5 _)).trans hb)
      have HO6 := Lib.hid hown
      have HY6 := Lib.hid (HY.out w6 ((HZ.out.below HB3.out).below HB36.out))
      clear hown hb hat6 HO5 HT5 HY
      go_wp2_with fail
      refine HY6.out.mono ?_
      rintro e w7 ⟨A7, c7, rfl, hown, hb⟩
      have HB37 := Lib.hid (bt HB36.out hb)
      have HO7 := Lib.hid (ownsRow_below HO6.out hb)
      have HA7 := Lib.hid (ints_of hown HLY.out)
      clear hown hb HY6 HO6
      go_wp2_with (at_builtin; refine wpList_add rfl _ _ rfl w3.heap.size _ (na + 1) (X ++ [t]) rfl HO7.out A7 nb c7 Y rfl HA7.out HLY.out (by omega) HB37.out.size ?_)
      intro v8 w8 hown hb
      try simp only [List.nil_append, Nat.zero_add] at hown
      obtain ⟨A8, c8, rfl, hat8⟩ := intsAt_icl hown (by simp [HLX.out, HLY.out]; omega)
      have HB38 := Lib.hid (HB37.out.trans hb)
      have HB8 := Lib.hid (bt HB3.out HB38.out)
      have HA8 := Lib.hid (show IntsAt w8 A8 (X ++ t :: Y) from by simpa using hat8)
      have HL8 := Lib.hid (show (X ++ t :: Y).length = na + 1 + nb from by simp [HLX.out, HLY.out]; omega)
      have HW8 := Lib.hid (HW.out w8 A3 c3 (HA3.out.below HB38.out))
      clear hown hb hat8 HO7 HA7 HW
      generalize X ++ t :: Y = Q at *
      go_wp2_with fail
      refine HW8.out.mono ?_
      rintro e w9 ⟨A9, c9, rfl, hown, hb⟩
      have HB9 := Lib.hid (bt HB8.out hb)
      have HLK := Lib.hid (like_n A9 A8 Q (na + 1 + nb) c9 c8 w9 HL8.out (ints_of hown HL8.out) (HA8.out.below hb) (by omega))
      clear hown hb HW8
      go_wp2_with fail
      refine HLK.out.mono ?_
      rintro e w10 ⟨rfl, hb⟩
      have HB10 := Lib.hid (bt HB9.out hb)
      clear hb HLK
      have HH10 := Lib.hid (HH.out.below HB10.out)
      go_wp2_with fail
      refine (awake_any w10 HH10.out).mono ?_
      rintro e w99 ⟨rfl, hb⟩
      have HB99 := Lib.hid (bt HB10.out hb)
      clear hb
      go_wp2
      go_ret
      exact ⟨by first | rfl | simp, HB99.out⟩
theorem walk (w : World) (hH : Held w) (A : Option Addr) (za : List Int) (ca : Nat) (hA : IntsAt w A za) (_ : A = none → za = [] ∧ ca = 0) (_ : za.length ≤ 9223372036854775807) (_ : ∀ z ∈ za, -9223372036854775808 ≤ z ∧ z ≤ 9223372036854775807) (B : Option Addr) (zb : List Int) (cb : Nat) (hB : IntsAt w B zb) (_ : B = none → zb = [] ∧ cb = 0) (_ : zb.length ≤ 9223372036854775807) (_ : ∀ z ∈ zb, -9223372036854775808 ≤ z ∧ z ≤ 9223372036854775807) (l s eo : Int) (r : Bool) :
    Calls Tryd.prog 6 #[.slice A za.length ca, .slice B zb.length cb, .int .i64 l, .int .i64 s, .int .i64 eo, .bool r] w fun e w' => e = .returned (.bool true) ∧ Below w.heap.size w w' :=
  walk_n w hH A za za.length ca hA rfl B zb zb.length cb hB rfl l s eo r

set_option maxRecDepth 100000 in
theorem lifted (os : Os) (started : os.Started) (H : Type) (enc : TypeId × Value → H) :
    ReturnsInHanded {} Tryd.checked os 6 .any (fun w args => (Rows.neutralPartsSpec.pre enc Tryd.prog Tryd.f6 [] false w args ∧ laidMetH Tryd.prog laidL w) ∧ sizedMet enc Tryd.prog Tryd.f6 (OpenSpec.ofChange Rows.neutralPartsSpec) false w args) (Rows.neutralPartsSpec.post enc Tryd.prog Tryd.f6 false true false false) := by
  refine returns_laid started (by kernel_rfl) Tryd.func6 #[.slice none 0 0, .slice none 0 0, .int .i64 0, .int .i64 0, .int .i64 0, .bool false] (by kernel_rfl) (World.shaped_of_ZipB (by kernel_rfl) (by kernel_rfl)) (by rw [MakeChecks.laidMetH_plain _ _ _ (by kernel_rfl)]; exact laidMet_laidAll _ (by kernel_rfl) (by kernel_rfl)) (by kernel_rfl) (by kernel_rfl) rfl rfl (by kernel_rfl) ?_ ?_
  · intro ds hds
    rw [show Tryd.f6.params.toList.length = 6 from by kernel_rfl] at hds
    match ds, hds with
    | [d0, d1, d2, d3, d4, d5], _ => rfl
  intro W base args ds p hval hA hH
  rw [Tryd.params6] at hA hval
  obtain ⟨v0, vs0, d0, ds0, p0, q0, hargs, rfl, rfl, h0, r0⟩ := ChangeShapes.trodAll_cons hA
  obtain ⟨v1, vs1, d1, ds1, p1, q1, rfl, rfl, rfl, h1, r1⟩ := ChangeShapes.trodAll_cons r0
  obtain ⟨v2, vs2, d2, ds2, p2, q2, rfl, rfl, rfl, h2, r2⟩ := ChangeShapes.trodAll_cons r1
  obtain ⟨v3, vs3, d3, ds3, p3, q3, rfl, rfl, rfl, h3, r3⟩ := ChangeShapes.trodAll_cons r2
  obtain ⟨v4, vs4, d4, ds4, p4, q4, rfl, rfl, rfl, h4, r4⟩ := ChangeShapes.trodAll_cons r3
  obtain ⟨v5, vs5, d5, ds5, p5, q5, rfl, rfl, rfl, h5, r5⟩ := ChangeShapes.trodAll_cons r4
  obtain ⟨rfl, rfl, rfl⟩ := ChangeShapes.trodAll_nil r5
  obtain rfl : args = #[v0, v1, v2, v3, v4, v5] := by cases args; simp_all
  obtain ⟨A0, zs0, c0, rfl, hr0, hnil0, hl0, hz0⟩ := open_introw (hval 0 22 v0 rfl rfl) h0
  obtain ⟨A1, zs1, c1, rfl, hr1, hnil1, hl1, hz1⟩ := open_introw (hval 1 22 v1 rfl rfl) h1
  obtain ⟨x2, rfl, rfl, rfl, wx2⟩ := open_int Tryd.underlying3 (hval 2 3 v2 rfl rfl) h2
  obtain ⟨x3, rfl, rfl, rfl, wx3⟩ := open_int Tryd.underlying3 (hval 3 3 v3 rfl rfl) h3
  obtain ⟨x4, rfl, rfl, rfl, wx4⟩ := open_int Tryd.underlying3 (hval 4 3 v4 rfl rfl) h4
  obtain ⟨x5, rfl, rfl, rfl⟩ := open_bool Tryd.underlying4 (hval 5 4 v5 rfl rfl) h5
  exact walk W hH A0 zs0 c0 hr0 hnil0 hl0 hz0 A1 zs1 c1 hr1 hnil1 hl1 hz1 x2 x3 x4 x5

theorem holds : Rows.NeutralPartsSaid :=
  OpenClaim.holds_of_wide 6 Tryd.f6 rfl rfl rfl rfl rfl rfl rfl ⟨rfl, rfl, rfl, rfl, rfl⟩ rfl rfl rfl rfl rfl (by kernel_rfl) Tryd.func6 (by kernel_rfl)
    (of_decide_eq_true (by kernel_rfl)) (by unfold Func.isWrapper; first | (rw [if_pos (by decide +kernel)]; kernel_rfl) | (rw [if_neg (by decide +kernel)]; exact ⟨rfl, rfl⟩))
    (fun os started H enc _ => lifted os started H enc)

theorem card : Rows.NeutralPartsCardSaid :=
  Claim7.holds_tied_plain_at .later [] [.data, .data, .pinned] true (true, "840f1c67af3e153f943a0914da229d03cc3e8ef09a9798dbdb7d3fac22e2053f") false
    holds (fun _ h => by cases h) (by kernel_rfl) (fun _ h => by cases h) neutralParts_row_tie rfl ⟨rfl, rfl⟩ (by kernel_rfl) rfl
    (fun f fn hf hfn => by
      obtain rfl : f = 6 := Option.some.inj ((show Tryd.prog.funcNamed "parquetry/parquetrylaw15.NeutralParts" = some 6 by kernel_rfl).symm.trans hf) |>.symm
      obtain rfl : fn = Tryd.f6 := (Option.some.inj (Tryd.func6.symm.trans hfn)).symm
      exact ⟨by kernel_rfl, fun j t ht => by
        rw [Tryd.params6] at ht
        have hm : t ∈ [22, 3, 4] := by simpa using Array.mem_of_getElem? ht
        have hall : ([22, 3, 4].all fun u => !Tryd.prog.wantsStandIn u) = true := by kernel_rfl
        exact (show Tryd.prog.wantsStandIn t = false by simpa using List.all_eq_true.1 hall t hm)⟩)
    (by kernel_rfl)
end Go.Proofs.YtkhhfodbldemeaaDoor.NeutralParts
