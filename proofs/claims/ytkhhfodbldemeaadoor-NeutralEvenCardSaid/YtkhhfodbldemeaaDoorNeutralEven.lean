/-
  Proved here: for every row of numbers and each level NeutralEven returns true (the level of an L, an EN, an AN is even, that of an R odd; of all others it is the sequence's; it is at most two above that, where they are at most 1000), and the rows stay. Conditions: the package variables that the row lists hold what the program's text lays (the card ties them).
-/
import Derived.Test.YtkhhfodbldemeaaDoorNeAwake
import Derived.Test.YtkhhfodbldemeaaDoorNeBits
import Derived.Test.YtkhhfodbldemeaaDoorLawInts
import Derived.Test.YtkhhfodbldemeaaDoorClLaid
import Derived.Test.YtkhhfodbldemeaaDoorTie
import Derived.Test.YtkhhfodbldemeaaDoorCards
set_option linter.unusedVariables false
namespace Go.Proofs.YtkhhfodbldemeaaDoor.NeutralEven
open Go Go.ChangeShapes Go.WideShapes Go.ChangeAt Go.RowKit Go.Lib Go.Proofs.YtkhhfodbldemeaaDoor.Cl Go.Proofs.YtkhhfodbldemeaaDoor.Ne

set_option maxHeartbeats 4000000 in
set_option maxRecDepth 100000 in
theorem walk_n (w : World) (hH : Held w) (A : Option Addr) (T : List Int) (n ca : Nat) (hA : IntsAt w A T) (hlT : T.length = n) (lv : Int) :
    Calls Tryd.prog 8 #[.slice A n ca, .int .i64 lv] w fun e w' => e = .returned (.bool true) ∧ Below w.heap.size w w' := by
  by_cases h9 : 1000 < n
  · have d9 : decide ((1000 : Int) < (n : Int)) = true := decide_eq_true (by omega)
    have e9 : decide (1000 < n) = true := decide_eq_true h9
    go_enter Tryd.func8, Tryd.ntmps8
    go_wp2_with (go_at_call 9; refine (awake_any _ hH).mono ?_; rintro e w' ⟨rfl, hb⟩)
    go_ret
    exact ⟨rfl, hb⟩
  · have d9 : decide ((1000 : Int) < (n : Int)) = false := decide_eq_false (by omega)
    have e9 : decide (1000 < n) = false := decide_eq_false h9
    have HH := Lib.hid hH
    have HA := Lib.hid hA
    have HLT := Lib.hid hlT
    obtain ⟨y, hy⟩ : ∃ y, bits .and .i64 lv 2147483647 = y := ⟨_, rfl⟩
    have HY := Lib.hid hy
    have HY0 := Lib.hid (show 0 ≤ y ∧ y ≤ 2147483647 from by rw [← hy, i64_and31]; omega)
    clear hy
    have HML := Lib.hid (show (T.map (levN y)).length = n from by rw [List.length_map, hlT])
    have HLV := Lib.hid (levels_any A T n ca y w hA hlT (by omega) HY0.out.1 HY0.out.2)
    clear hH hA hlT
    go_enter Tryd.func8, Tryd.ntmps8
    go_wp2_with fail
    simp only [HY.out]
    clear HY
    refine HLV.out.mono ?_
    rintro e w1 ⟨A1, c1, rfl, hown, hb⟩
    have HO := Lib.hid (ints_of hown HML.out)
    have HB := Lib.hid hb
    clear hown hb HLV
    go_wp2_with fail
    go_loopw [7] (fun s7 wx => ∃ k : Nat, k ≤ n ∧ s7 = .int .i64 k ∧ wx = w1) (fun s7 _ => n - (RowKit.intOf s7).toNat)
    case atStart => exact ⟨0, Nat.zero_le _, rfl, rfl⟩
    case round =>
      obtain ⟨k, hk, rfl, rfl⟩ := hrel
      by_cases hlt : k < n
      · have hkw : k < (T.map (levN y)).length := by rw [HML.out]; exact hlt
        have hkz : k < T.length := by rw [HLT.out]; exact hlt
        obtain ⟨g1, o1, rfl, hc1⟩ := HO.out.at_ hkw
        obtain ⟨g2, o2, rfl, hc2⟩ := (HA.out.below HB.out).at_ hkz
        rw [List.getElem_map] at hc1
        generalize T[k] = x at *
        have hlow := (lev_low x HY0.out.1).1
        have hhigh := (lev_low x HY0.out.1).2
        have hy0 := HY0.out.1
        have hy1 := HY0.out.2
        have hk0 : (0 : Int) ≤ (k : Int) := by omega
        have hk1 : (k : Int) < (n : Int) := by omega
        clear hkw hkz
        by_cases h0 : x = 0
        · subst h0
          have hv1 := (lev_L y).2
          have hv2 : bits .and .i64 (levN y 0) 1 = 0 := (i64_and1 _).trans (lev_L y).1
          generalize levN y 0 = v at *
          have q1 : decide (v < y) = false := decide_eq_false (by omega)
          have q2 : decide (y + 2 < v) = false := decide_eq_false (by omega)
          have q3 : decide (y + 1 < v) = false := decide_eq_false (by omega)
          clear hv1 hlow hhigh
          go_wp2
          go_roundw
          case rel => exact ⟨k + 1, by omega, by go_num, by first | rfl | trivial⟩
          case measure => simp [RowKit.intOf]; omega
        have b0 : (x == 0) = false := beq_eq_false_iff_ne.2 h0
        by_cases h3 : x = 3
        · subst h3
          have hv1 := (lev_N y (c := 3) (by decide)).2
          have hv2 : bits .and .i64 (levN y 3) 1 = 0 := (i64_and1 _).trans (lev_N y (by decide)).1
          generalize levN y 3 = v at *
          have q1 : decide (v < y) = false := decide_eq_false (by omega)
          have q2 : decide (y + 2 < v) = false := decide_eq_false (by omega)
          have q3 : (v == y) = false := beq_eq_false_iff_ne.2 hv1
          clear hv1 hlow hhigh
          go_wp2
          go_roundw
          case rel => exact ⟨k + 1, by omega, by go_num, by first | rfl | trivial⟩
          case measure => simp [RowKit.intOf]; omega
        have b3 : (x == 3) = false := beq_eq_false_iff_ne.2 h3
        by_cases h6 : x = 6
        · subst h6
          have hv1 := (lev_N y (c := 6) (by decide)).2
          have hv2 : bits .and .i64 (levN y 6) 1 = 0 := (i64_and1 _).trans (lev_N y (by decide)).1
          generalize levN y 6 = v at *
          have q1 : decide (v < y) = false := decide_eq_false (by omega)
          have q2 : decide (y + 2 < v) = false := decide_eq_false (by omega)
          have q3 : (v == y) = false := beq_eq_false_iff_ne.2 hv1
          clear hv1 hlow hhigh
          go_wp2
          go_roundw
          case rel => exact ⟨k + 1, by omega, by go_num, by first | rfl | trivial⟩
          case measure => simp [RowKit.intOf]; omega
        have b6 : (x == 6) = false := beq_eq_false_iff_ne.2 h6
        by_cases h1 : x = 1
        · subst h1
          have hv1 := (lev_R y).2
          have hv2 : bits .and .i64 (levN y 1) 1 = 1 := (i64_and1 _).trans (lev_R y).1
          generalize levN y 1 = v at *
          have q1 : decide (v < y) = false := decide_eq_false (by omega)
          have q2 : decide (y + 2 < v) = false := decide_eq_false (by omega)
          have q3 : decide (y + 1 < v) = false := decide_eq_false (by omega)
          clear hv1 hlow hhigh
          go_wp2
          go_roundw
          case rel => exact ⟨k + 1, by omega, by go_num, by first | rfl | trivial⟩
          case measure => simp [RowKit.intOf]; omega
        have b1 : (x == 1) = false := beq_eq_false_iff_ne.2 h1
        rw [lev_else h0 h1 h3 h6] at hc1 hlow hhigh
        clear h0 h1 h3 h6
        have q1 : decide (y < y) = false := decide_eq_false (by omega)
        have q2 : decide (y + 2 < y) = false := decide_eq_false (by omega)
        clear hlow hhigh
        go_wp2
        go_roundw
        case rel => exact ⟨k + 1, by omega, by go_num, by first | rfl | trivial⟩
        case measure => simp [RowKit.intOf]; omega
      · obtain rfl : k = n := by omega
        have HHR := Lib.hid (HH.out.below HB.out)
        clear hlt hk
        go_wp2_with fail
        refine (awake_any wr HHR.out).mono ?_
        rintro e w99 ⟨rfl, hb⟩
        have HB99 := Lib.hid (bt HB.out hb)
        clear hb
        go_wp2
        go_ret
        exact ⟨by first | rfl | simp, HB99.out⟩
theorem walk (w : World) (hH : Held w) (A : Option Addr) (T : List Int) (ca : Nat) (hA : IntsAt w A T) (_ : A = none → T = [] ∧ ca = 0) (_ : T.length ≤ 9223372036854775807) (_ : ∀ z ∈ T, -9223372036854775808 ≤ z ∧ z ≤ 9223372036854775807) (lv : Int) :
    Calls Tryd.prog 8 #[.slice A T.length ca, .int .i64 lv] w fun e w' => e = .returned (.bool true) ∧ Below w.heap.size w w' :=
  walk_n w hH A T T.length ca hA rfl lv

set_option maxRecDepth 100000 in
theorem lifted (os : Os) (started : os.Started) (H : Type) (enc : TypeId × Value → H) :
    ReturnsInHanded {} Tryd.checked os 8 .any (fun w args => (Rows.neutralEvenSpec.pre enc Tryd.prog Tryd.f8 [] false w args ∧ laidMetH Tryd.prog laidL w) ∧ sizedMet enc Tryd.prog Tryd.f8 (OpenSpec.ofChange Rows.neutralEvenSpec) false w args) (Rows.neutralEvenSpec.post enc Tryd.prog Tryd.f8 false true false false) := by
  refine returns_laid started (by kernel_rfl) Tryd.func8 #[.slice none 0 0, .int .i64 0] (by kernel_rfl) (World.shaped_of_ZipB (by kernel_rfl) (by kernel_rfl)) (by rw [MakeChecks.laidMetH_plain _ _ _ (by kernel_rfl)]; exact laidMet_laidAll _ (by kernel_rfl) (by kernel_rfl)) (by kernel_rfl) (by kernel_rfl) rfl rfl (by kernel_rfl) ?_ ?_
  · intro ds hds
    rw [show Tryd.f8.params.toList.length = 2 from by kernel_rfl] at hds
    match ds, hds with
    | [d0, d1], _ => rfl
  intro W base args ds p hval hA hH
  rw [Tryd.params8] at hA hval
  obtain ⟨v0, vs0, d0, ds0, p0, q0, hargs, rfl, rfl, h0, r0⟩ := ChangeShapes.trodAll_cons hA
  obtain ⟨v1, vs1, d1, ds1, p1, q1, rfl, rfl, rfl, h1, r1⟩ := ChangeShapes.trodAll_cons r0
  obtain ⟨rfl, rfl, rfl⟩ := ChangeShapes.trodAll_nil r1
  obtain rfl : args = #[v0, v1] := by cases args; simp_all
  obtain ⟨A0, zs0, c0, rfl, hr0, hnil0, hl0, hz0⟩ := open_introw (hval 0 22 v0 rfl rfl) h0
  obtain ⟨x1, rfl, rfl, rfl, wx1⟩ := open_int Tryd.underlying3 (hval 1 3 v1 rfl rfl) h1
  exact walk W hH A0 zs0 c0 hr0 hnil0 hl0 hz0 x1

theorem holds : Rows.NeutralEvenSaid :=
  OpenClaim.holds_of_wide 8 Tryd.f8 rfl rfl rfl rfl rfl rfl rfl ⟨rfl, rfl, rfl, rfl, rfl⟩ rfl rfl rfl rfl rfl (by kernel_rfl) Tryd.func8 (by kernel_rfl)
    (of_decide_eq_true (by kernel_rfl)) (by unfold Func.isWrapper; first | (rw [if_pos (by decide +kernel)]; kernel_rfl) | (rw [if_neg (by decide +kernel)]; exact ⟨rfl, rfl⟩))
    (fun os started H enc _ => lifted os started H enc)

theorem card : Rows.NeutralEvenCardSaid :=
  Claim7.holds_tied_plain_at .later [] [.data, .data, .pinned] true (true, "840f1c67af3e153f943a0914da229d03cc3e8ef09a9798dbdb7d3fac22e2053f") false
    holds (fun _ h => by cases h) (by kernel_rfl) (fun _ h => by cases h) neutralEven_row_tie rfl ⟨rfl, rfl⟩ (by kernel_rfl) rfl
    (fun f fn hf hfn => by
      obtain rfl : f = 8 := Option.some.inj ((show Tryd.prog.funcNamed "parquetry/parquetrylaw15.NeutralEven" = some 8 by kernel_rfl).symm.trans hf) |>.symm
      obtain rfl : fn = Tryd.f8 := (Option.some.inj (Tryd.func8.symm.trans hfn)).symm
      exact ⟨by kernel_rfl, fun j t ht => by
        rw [Tryd.params8] at ht
        have hm : t ∈ [22, 3] := by simpa using Array.mem_of_getElem? ht
        have hall : ([22, 3].all fun u => !Tryd.prog.wantsStandIn u) = true := by kernel_rfl
        exact (show Tryd.prog.wantsStandIn t = false by simpa using List.all_eq_true.1 hall t hm)⟩)
    (by kernel_rfl)
end Go.Proofs.YtkhhfodbldemeaaDoor.NeutralEven
