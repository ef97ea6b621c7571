/-
  Proved here: for every row of numbers, each level and each two directions NeutralLeaves returns true (between L and R as directions nothing but L, R, EN and AN is left; these stay; what is settled stays so, where they are at most 1000), and the rows stay. Conditions: the package variables that the row lists hold what the program's text lays (the card ties them).
-/
import Derived.Test.YtkhhfodbldemeaaDoorNeAwake
import Derived.Test.YtkhhfodbldemeaaDoorNeLike
import Derived.Test.YtkhhfodbldemeaaDoorLawInts
import Derived.Test.YtkhhfodbldemeaaDoorClLaid
import Derived.Test.YtkhhfodbldemeaaDoorTie
import Derived.Test.YtkhhfodbldemeaaDoorCards
set_option linter.unusedVariables false
namespace Go.Proofs.YtkhhfodbldemeaaDoor.NeutralLeaves
open Go Go.ChangeShapes Go.WideShapes Go.ChangeAt Go.RowKit Go.Lib Go.Proofs.YtkhhfodbldemeaaDoor.Cl Go.Proofs.YtkhhfodbldemeaaDoor.Ne

set_option maxHeartbeats 4000000 in
set_option maxRecDepth 100000 in
theorem walk_n (w : World) (hH : Held w) (A : Option Addr) (T : List Int) (n ca : Nat) (hA : IntsAt w A T) (hlT : T.length = n) (l : Int) (r a : Bool) :
    Calls Tryd.prog 5 #[.slice A n ca, .int .i64 l, .bool r, .bool a] w fun e w' => e = .returned (.bool true) ∧ Below w.heap.size w w' := by
  by_cases hbig : 1000 < n
  · have d9 : decide ((1000 : Int) < (n : Int)) = true := decide_eq_true (by omega)
    have e9 : decide (1000 < n) = true := decide_eq_true hbig
    go_enter Tryd.func5, Tryd.ntmps5
    go_wp2_with (go_at_call 9; refine (awake_any _ hH).mono ?_; rintro e w' ⟨rfl, hb⟩)
    go_ret
    exact ⟨rfl, hb⟩
  · have d9 : decide ((1000 : Int) < (n : Int)) = false := decide_eq_false (by omega)
    have e9 : decide (1000 < n) = false := decide_eq_false hbig
    have HH := Lib.hid hH
    have HA := Lib.hid hA
    have HLT := Lib.hid hlT
    have HSL := Lib.hid (show (settleN l (dirB a) (dirB r) T).length = n from by rw [settle_len, hlT])
    have HSET := Lib.hid (settle_any A T n ca l (dirB r) (dirB a) w hA hlT (by omega))
    have HLF := Lib.hid (fun (k : Nat) (h : k < T.length) => settle_left (l := l) (dirB_01 r) (dirB_01 a) h)
    have HAG := Lib.hid (settle_again l (dirB r) (dirB a) (dirB_01 r) (dirB_01 a) T)
    have HDR := Lib.hid (fun (V : World) => direct_any r V)
    have HDA := Lib.hid (fun (V : World) => direct_any a V)
    generalize dirB r = s at *
    generalize dirB a = b at *
    generalize settleN l b s T = S at *
    clear hH hA hlT
    go_enter Tryd.func5, Tryd.ntmps5
    go_wp2_with fail
    refine (HDR.out _).mono ?_
    rintro e w9 ⟨rfl, e9⟩
    obtain rfl := e9.symm
    go_wp2_with fail
    refine (HDA.out _).mono ?_
    rintro e w9 ⟨rfl, e9⟩
    obtain rfl := e9.symm
    go_wp2_with fail
    refine HSET.out.mono ?_
    rintro e w1 ⟨A1, c1, rfl, hown, hb⟩
    have HO := Lib.hid (ints_of hown HSL.out)
    have HB := Lib.hid hb
    clear hown hb HSET
    go_wp2_with fail
    go_loopw [10] (fun s10 wx => ∃ k : Nat, k ≤ n ∧ s10 = .int .i64 k ∧ wx = w1) (fun s10 _ => n - (RowKit.intOf s10).toNat)
    case atStart => exact ⟨0, Nat.zero_le _, rfl, rfl⟩
    case round =>
      obtain ⟨k, hk, rfl, rfl⟩ := hrel
      by_cases hlt : k < n
      · have hkw : k < S.length := by rw [HSL.out]; exact hlt
        have hkz : k < T.length := by rw [HLT.out]; exact hlt
        obtain ⟨g1, o1, rfl, hc1⟩ := HO.out.at_ hkw
        obtain ⟨g2, o2, rfl, hc2⟩ := (HA.out.below HB.out).at_ hkz
        obtain ⟨q, hq, hs1, hs2⟩ := HLF.out k hkz
        rw [List.getElem?_eq_getElem hkw] at hq
        injection hq with hq
        rw [hq] at hc1
        generalize T[k] = x at *
        have hk0 : (0 : Int) ≤ (k : Int) := by omega
        have hk1 : (k : Int) < (n : Int) := by omega
        clear hkw hkz hq HLF
        by_cases h0 : x = 0
        · obtain rfl : q = x := hs1 (dirN_has.2 (by omega))
          subst h0
          clear hs1 hs2
          go_wp2
          go_roundw
          case rel => exact ⟨k + 1, by omega, by go_num, by first | rfl | trivial⟩
          case measure => simp [RowKit.intOf]; omega
        have b0 : (x == 0) = false := beq_eq_false_iff_ne.2 h0
        by_cases h1 : x = 1
        · obtain rfl : q = x := hs1 (dirN_has.2 (by omega))
          subst h1
          clear hs1 hs2
          go_wp2
          go_roundw
          case rel => exact ⟨k + 1, by omega, by go_num, by first | rfl | trivial⟩
          case measure => simp [RowKit.intOf]; omega
        have b1 : (x == 1) = false := beq_eq_false_iff_ne.2 h1
        by_cases h3 : x = 3
        · obtain rfl : q = x := hs1 (dirN_has.2 (by omega))
          subst h3
          clear hs1 hs2
          go_wp2
          go_roundw
          case rel => exact ⟨k + 1, by omega, by go_num, by first | rfl | trivial⟩
          case measure => simp [RowKit.intOf]; omega
        have b3 : (x == 3) = false := beq_eq_false_iff_ne.2 h3
        by_cases h6 : x = 6
        · obtain rfl : q = x := hs1 (dirN_has.2 (by omega))
          subst h6
          clear hs1 hs2
          go_wp2
          go_roundw
          case rel => exact ⟨k + 1, by omega, by go_num, by first | rfl | trivial⟩
          case measure => simp [RowKit.intOf]; omega
        have b6 : (x == 6) = false := beq_eq_false_iff_ne.2 h6
        have hq := hs2 (by have h := dirN_no h0 h1 h3 h6; omega)
        clear hs1 hs2 h0 h1 h3 h6
        rcases hq with rfl | rfl
        · go_wp2
          go_roundw
          case rel => exact ⟨k + 1, by omega, by go_num, by first | rfl | trivial⟩
          case measure => simp [RowKit.intOf]; omega
        · go_wp2
          go_roundw
          case rel => exact ⟨k + 1, by omega, by go_num, by first | rfl | trivial⟩
          case measure => simp [RowKit.intOf]; omega
      · obtain rfl : k = n := by omega
        have HW2 := Lib.hid (settle_any A1 S k c1 l s b wr HO.out HSL.out (by omega))
        rw [HAG.out] at HW2
        clear hlt hk
        go_wp2_with fail
        refine (HDR.out _).mono ?_
        rintro e w9 ⟨rfl, e9⟩
        obtain rfl := e9.symm
        go_wp2_with fail
        refine (HDA.out _).mono ?_
        rintro e w9 ⟨rfl, e9⟩
        obtain rfl := e9.symm
        go_wp2_with fail
        refine HW2.out.mono ?_
        rintro e w2 ⟨A2, c2, rfl, hown, hb⟩
        have HLK := Lib.hid (like_n A2 A1 S k c2 c1 w2 HSL.out (ints_of hown HSL.out) (HO.out.below hb) (by omega))
        have HB2 := Lib.hid (bt HB.out hb)
        clear hown hb HW2
        go_wp2_with fail
        refine HLK.out.mono ?_
        rintro e w3 ⟨rfl, hb⟩
        have HB3 := Lib.hid (bt HB2.out hb)
        clear hb HLK
        have HH3 := Lib.hid (HH.out.below HB3.out)
        go_wp2_with fail
        refine (awake_any w3 HH3.out).mono ?_
        rintro e w99 ⟨rfl, hb⟩
        have HB99 := Lib.hid (bt HB3.out hb)
        clear hb
        go_wp2
        go_ret
        exact ⟨by first | rfl | simp, HB99.out⟩
theorem walk (w : World) (hH : Held w) (A : Option Addr) (T : List Int) (ca : Nat) (hA : IntsAt w A T) (_ : A = none → T = [] ∧ ca = 0) (_ : T.length ≤ 9223372036854775807) (_ : ∀ z ∈ T, -9223372036854775808 ≤ z ∧ z ≤ 9223372036854775807) (l : Int) (r a : Bool) :
    Calls Tryd.prog 5 #[.slice A T.length ca, .int .i64 l, .bool r, .bool a] w fun e w' => e = .returned (.bool true) ∧ Below w.heap.size w w' :=
  walk_n w hH A T T.length ca hA rfl l r a

set_option maxRecDepth 100000 in
theorem lifted (os : Os) (started : os.Started) (H : Type) (enc : TypeId × Value → H) :
    ReturnsInHanded {} Tryd.checked os 5 .any (fun w args => (Rows.neutralLeavesSpec.pre enc Tryd.prog Tryd.f5 [] false w args ∧ laidMetH Tryd.prog laidL w) ∧ sizedMet enc Tryd.prog Tryd.f5 (OpenSpec.ofChange Rows.neutralLeavesSpec) false w args) (Rows.neutralLeavesSpec.post enc Tryd.prog Tryd.f5 false true false false) := by
  refine returns_laid started (by kernel_rfl) Tryd.func5 #[.slice none 0 0, .int .i64 0, .bool false, .bool false] (by kernel_rfl) (World.shaped_of_ZipB (by kernel_rfl) (by kernel_rfl)) (by rw [MakeChecks.laidMetH_plain _ _ _ (by kernel_rfl)]; exact laidMet_laidAll _ (by kernel_rfl) (by kernel_rfl)) (by kernel_rfl) (by kernel_rfl) rfl rfl (by kernel_rfl) ?_ ?_
  · intro ds hds
    rw [show Tryd.f5.params.toList.length = 4 from by kernel_rfl] at hds
    match ds, hds with
    | [d0, d1, d2, d3], _ => rfl
  intro W base args ds p hval hA hH
  rw [Tryd.params5] at hA hval
  obtain ⟨v0, vs0, d0, ds0, p0, q0, hargs, rfl, rfl, h0, r0⟩ := ChangeShapes.trodAll_cons hA
  obtain ⟨v1, vs1, d1, ds1, p1, q1, rfl, rfl, rfl, h1, r1⟩ := ChangeShapes.trodAll_cons r0
  obtain ⟨v2, vs2, d2, ds2, p2, q2, rfl, rfl, rfl, h2, r2⟩ := ChangeShapes.trodAll_cons r1
  obtain ⟨v3, vs3, d3, ds3, p3, q3, rfl, rfl, rfl, h3, r3⟩ := ChangeShapes.trodAll_cons r2
  obtain ⟨rfl, rfl, rfl⟩ := ChangeShapes.trodAll_nil r3
  obtain rfl : args = #[v0, v1, v2, v3] := by cases args; simp_all
  obtain ⟨A0, zs0, c0, rfl, hr0, hnil0, hl0, hz0⟩ := open_introw (hval 0 22 v0 rfl rfl) h0
  obtain ⟨x1, rfl, rfl, rfl, wx1⟩ := open_int Tryd.underlying3 (hval 1 3 v1 rfl rfl) h1
  obtain ⟨x2, rfl, rfl, rfl⟩ := open_bool Tryd.underlying4 (hval 2 4 v2 rfl rfl) h2
  obtain ⟨x3, rfl, rfl, rfl⟩ := open_bool Tryd.underlying4 (hval 3 4 v3 rfl rfl) h3
  exact walk W hH A0 zs0 c0 hr0 hnil0 hl0 hz0 x1 x2 x3

theorem holds : Rows.NeutralLeavesSaid :=
  OpenClaim.holds_of_wide 5 Tryd.f5 rfl rfl rfl rfl rfl rfl rfl ⟨rfl, rfl, rfl, rfl, rfl⟩ rfl rfl rfl rfl rfl (by kernel_rfl) Tryd.func5 (by kernel_rfl)
    (of_decide_eq_true (by kernel_rfl)) (by unfold Func.isWrapper; first | (rw [if_pos (by decide +kernel)]; kernel_rfl) | (rw [if_neg (by decide +kernel)]; exact ⟨rfl, rfl⟩))
    (fun os started H enc _ => lifted os started H enc)

theorem card : Rows.NeutralLeavesCardSaid :=
  Claim7.holds_tied_plain_at .later [] [.data, .data, .pinned] true (true, "840f1c67af3e153f943a0914da229d03cc3e8ef09a9798dbdb7d3fac22e2053f") false
    holds (fun _ h => by cases h) (by kernel_rfl) (fun _ h => by cases h) neutralLeaves_row_tie rfl ⟨rfl, rfl⟩ (by kernel_rfl) rfl
    (fun f fn hf hfn => by
      obtain rfl : f = 5 := Option.some.inj ((show Tryd.prog.funcNamed "parquetry/parquetrylaw15.NeutralLeaves" = some 5 by kernel_rfl).symm.trans hf) |>.symm
      obtain rfl : fn = Tryd.f5 := (Option.some.inj (Tryd.func5.symm.trans hfn)).symm
      exact ⟨by kernel_rfl, fun j t ht => by
        rw [Tryd.params5] at ht
        have hm : t ∈ [22, 3, 4] := by simpa using Array.mem_of_getElem? ht
        have hall : ([22, 3, 4].all fun u => !Tryd.prog.wantsStandIn u) = true := by kernel_rfl
        exact (show Tryd.prog.wantsStandIn t = false by simpa using List.all_eq_true.1 hall t hm)⟩)
    (by kernel_rfl)
end Go.Proofs.YtkhhfodbldemeaaDoor.NeutralLeaves
