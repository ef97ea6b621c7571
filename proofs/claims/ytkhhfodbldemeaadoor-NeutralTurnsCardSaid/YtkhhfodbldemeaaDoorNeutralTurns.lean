/-
  Proved here: for every row of numbers, each level's direction and each two directions NeutralTurns returns true (with L and R exchanged, in the classes, on both sides, and by the level, classes without numbers become what they did, exchanged, where they are at most 1000), and the rows stay. Conditions: the package variables that the row lists hold what the program's text lays (the card ties them).
-/
import Derived.Test.YtkhhfodbldemeaaDoorNeAwake
import Derived.Test.YtkhhfodbldemeaaDoorNeLike
import Derived.Test.YtkhhfodbldemeaaDoorNeTurned
import Derived.Test.YtkhhfodbldemeaaDoorLawInts
import Derived.Test.YtkhhfodbldemeaaDoorClLaid
import Derived.Test.YtkhhfodbldemeaaDoorTie
import Derived.Test.YtkhhfodbldemeaaDoorCards
set_option linter.unusedVariables false
namespace Go.Proofs.YtkhhfodbldemeaaDoor.NeutralTurns
open Go Go.ChangeShapes Go.WideShapes Go.ChangeAt Go.RowKit Go.Lib Go.Proofs.YtkhhfodbldemeaaDoor.Cl Go.Proofs.YtkhhfodbldemeaaDoor.Ne

theorem nonum_take {T : List Int} {k : Nat} (hk : k < T.length) (h : ∀ c ∈ T.take k, c ≠ 3 ∧ c ≠ 6) (h3 : T[k] ≠ 3) (h6 : T[k] ≠ 6) : ∀ c ∈ T.take (k + 1), c ≠ 3 ∧ c ≠ 6 := by
  intro c hc
  rw [List.take_succ_eq_append_getElem hk] at hc
  rcases List.mem_append.1 hc with hc | hc
  · exact h c hc
  · obtain rfl : c = T[k] := by simpa using hc
    exact ⟨h3, h6⟩

set_option maxHeartbeats 4000000 in
set_option maxRecDepth 100000 in
theorem walk_n (w : World) (hH : Held w) (A : Option Addr) (T : List Int) (n ca : Nat) (hA : IntsAt w A T) (hlT : T.length = n) (o r a : Bool) :
    Calls Tryd.prog 7 #[.slice A n ca, .bool o, .bool r, .bool a] w fun e w' => e = .returned (.bool true) ∧ Below w.heap.size w w' := by
  by_cases h9 : 1000 < n
  · have d9 : decide ((1000 : Int) < (n : Int)) = true := decide_eq_true (by omega)
    have e9 : decide (1000 < n) = true := decide_eq_true h9
    go_enter Tryd.func7, Tryd.ntmps7
    go_wp2_with (go_at_call 9; refine (awake_any _ hH).mono ?_; rintro e w' ⟨rfl, hb⟩)
    go_ret
    exact ⟨rfl, hb⟩
  · have d9 : decide ((1000 : Int) < (n : Int)) = false := decide_eq_false (by omega)
    have e9 : decide (1000 < n) = false := decide_eq_false h9
    have HH := Lib.hid hH
    have HA := Lib.hid hA
    have HLT := Lib.hid hlT
    cases o with
    | true =>
      have HT2 := Lib.hid (fun (h : ∀ c ∈ T, c ≠ 3 ∧ c ≠ 6) => show settleN 0 (dirB (!a)) (dirB (!r)) (T.map turnN) = (settleN 1 (dirB a) (dirB r) T).map turnN from by rw [dirB_not, dirB_not]; exact settle_turn 1 (dirB a) (by decide) T h (dirB r) (dirB_01 r))
      have HSL := Lib.hid (show (settleN 1 (dirB a) (dirB r) T).length = n from by rw [settle_len, hlT])
      have HST := Lib.hid (show ((settleN 1 (dirB a) (dirB r) T).map turnN).length = n from by rw [List.length_map, settle_len, hlT])
      have HS1 := Lib.hid (settle_any A T n ca 1 (dirB r) (dirB a) w hA hlT (by omega))
      have HS2 := Lib.hid (fun (V : World) (A2 : Option Addr) (c2 : Nat) (h : IntsAt V A2 (T.map turnN)) => settle_any A2 (T.map turnN) n c2 0 (dirB (!r)) (dirB (!a)) V h (by rw [List.length_map, hlT]) (by omega))
      have HTL := Lib.hid (show (T.map turnN).length = n from by rw [List.length_map, hlT])
      have HDR := Lib.hid (fun (V : World) => direct_any r V)
      have HDA := Lib.hid (fun (V : World) => direct_any a V)
      have HNR := Lib.hid (fun (V : World) => direct_any (!r) V)
      have HNA := Lib.hid (fun (V : World) => direct_any (!a) V)
      generalize dirB r = s at *
      generalize dirB a = b at *
      generalize dirB (!r) = s2 at *
      generalize dirB (!a) = b2 at *
      generalize settleN 1 b s T = S at *
      clear hH hA hlT
      go_enter Tryd.func7, Tryd.ntmps7
      go_wp2_with fail
      go_loopw [9] (fun s9 wx => ∃ k : Nat, k ≤ n ∧ s9 = .int .i64 k ∧ (∀ c ∈ T.take k, c ≠ 3 ∧ c ≠ 6) ∧ wx = w) (fun s9 _ => n - (RowKit.intOf s9).toNat)
      case atStart => exact ⟨0, Nat.zero_le _, rfl, fun c hc => by simp at hc, rfl⟩
      case round =>
        obtain ⟨k, hk, rfl, hno, e9⟩ := hrel
        obtain rfl := e9.symm
        have HNO := Lib.hid hno
        clear hno
        by_cases hlt : k < n
        · have hkz : k < T.length := by rw [HLT.out]; exact hlt
          obtain ⟨g, off, rfl, hc⟩ := HA.out.at_ hkz
          have HNX := Lib.hid (fun h3 h6 => nonum_take hkz HNO.out h3 h6)
          generalize T[k] = z at *
          have hk0 : (0 : Int) ≤ (k : Int) := by omega
          have hk1 : (k : Int) < (n : Int) := by omega
          clear hkz
          by_cases h3 : z = 3
          · subst h3
            clear HNX
            go_wp2_with fail
            refine (awake_any _ HH.out).mono ?_
            rintro e w2 ⟨rfl, hb⟩
            go_wp2
            go_ret
            exact ⟨rfl, hb⟩
          · have b3 : (z == 3) = false := beq_eq_false_iff_ne.2 h3
            by_cases h6 : z = 6
            · subst h6
              clear HNX h3
              go_wp2_with fail
              refine (awake_any _ HH.out).mono ?_
              rintro e w2 ⟨rfl, hb⟩
              go_wp2
              go_ret
              exact ⟨rfl, hb⟩
            · have b6 : (z == 6) = false := beq_eq_false_iff_ne.2 h6
              have HN2 := Lib.hid (HNX.out h3 h6)
              clear HNX h3 h6
              go_wp2
              go_roundw
              case rel => exact ⟨k + 1, by omega, by go_num, HN2.out, by first | rfl | trivial⟩
              case measure => simp [RowKit.intOf]; omega
        · obtain rfl : k = n := by omega
          have HTT := Lib.hid (HT2.out (by
            have h := HNO.out
            rwa [List.take_of_length_le (by rw [HLT.out]; exact Nat.le_refl _)] at h))
          rw [HTT.out] at HS2
          clear HNO HT2 hlt hk
          go_wp2_with fail
          refine (HDR.out _).mono ?_
          rintro e w9 ⟨rfl, e9⟩
          obtain rfl := e9.symm
          go_wp2_with fail
          refine (HDA.out _).mono ?_
          rintro e w9 ⟨rfl, e9⟩
          obtain rfl := e9.symm
          go_wp2_with fail
          refine HS1.out.mono ?_
          rintro e w1 ⟨A1, c1, rfl, hown, hb⟩
          have HB1 := Lib.hid hb
          have HO1 := Lib.hid (ints_of hown HSL.out)
          have HTU := Lib.hid (turned_any A T k ca w1 (HA.out.below hb) HLT.out (by omega))
          clear hown hb HS1
          go_wp2_with fail
          refine HTU.out.mono ?_
          rintro e w2 ⟨A2, c2, rfl, hown, hb⟩
          have HB2 := Lib.hid (bt HB1.out hb)
          have HO2 := Lib.hid (HO1.out.below hb)
          have HST2 := Lib.hid (HS2.out w2 A2 c2 (ints_of hown HTL.out))
          clear hown hb HTU HS2
          go_wp2_with fail
          refine (HNR.out _).mono ?_
          rintro e w9 ⟨rfl, e9⟩
          obtain rfl := e9.symm
          go_wp2_with fail
          refine (HNA.out _).mono ?_
          rintro e w9 ⟨rfl, e9⟩
          obtain rfl := e9.symm
          go_wp2_with fail
          refine HST2.out.mono ?_
          rintro e w3 ⟨A3, c3, rfl, hown, hb⟩
          have HB3 := Lib.hid (bt HB2.out hb)
          have HO3 := Lib.hid (ints_of hown HST.out)
          have HTU := Lib.hid (turned_any A1 S k c1 w3 (HO2.out.below hb) HSL.out (by omega))
          clear hown hb HST2
          go_wp2_with fail
          refine HTU.out.mono ?_
          rintro e w4 ⟨A4, c4, rfl, hown, hb⟩
          have HB4 := Lib.hid (bt HB3.out hb)
          have HLK := Lib.hid (like_n A4 A3 (S.map turnN) k c4 c3 w4 HST.out (ints_of hown HST.out) (HO3.out.below hb) (by omega))
          clear hown hb HTU
          go_wp2_with fail
          refine HLK.out.mono ?_
          rintro e w5 ⟨rfl, hb⟩
          have HB5 := Lib.hid (bt HB4.out hb)
          clear hb HLK
          have HH5 := Lib.hid (HH.out.below HB5.out)
          go_wp2_with fail
          refine (awake_any w5 HH5.out).mono ?_
          rintro e w99 ⟨rfl, hb⟩
          have HB99 := Lib.hid (bt HB5.out hb)
          clear hb
          go_wp2
          go_ret
          exact ⟨by first | rfl | simp, HB99.out⟩
    | false =>
      have HT2 := Lib.hid (fun (h : ∀ c ∈ T, c ≠ 3 ∧ c ≠ 6) => show settleN 1 (dirB (!a)) (dirB (!r)) (T.map turnN) = (settleN 0 (dirB a) (dirB r) T).map turnN from by rw [dirB_not, dirB_not]; exact settle_turn 0 (dirB a) (by decide) T h (dirB r) (dirB_01 r))
      have HSL := Lib.hid (show (settleN 0 (dirB a) (dirB r) T).length = n from by rw [settle_len, hlT])
      have HST := Lib.hid (show ((settleN 0 (dirB a) (dirB r) T).map turnN).length = n from by rw [List.length_map, settle_len, hlT])
      have HS1 := Lib.hid (settle_any A T n ca 0 (dirB r) (dirB a) w hA hlT (by omega))
      have HS2 := Lib.hid (fun (V : World) (A2 : Option Addr) (c2 : Nat) (h : IntsAt V A2 (T.map turnN)) => settle_any A2 (T.map turnN) n c2 1 (dirB (!r)) (dirB (!a)) V h (by rw [List.length_map, hlT]) (by omega))
      have HTL := Lib.hid (show (T.map turnN).length = n from by rw [List.length_map, hlT])
      have HDR := Lib.hid (fun (V : World) => direct_any r V)
      have HDA := Lib.hid (fun (V : World) => direct_any a V)
      have HNR := Lib.hid (fun (V : World) => direct_any (!r) V)
      have HNA := Lib.hid (fun (V : World) => direct_any (!a) V)
      generalize dirB r = s at *
      generalize dirB a = b at *
      generalize dirB (!r) = s2 at *
      generalize dirB (!a) = b2 at *
      generalize settleN 0 b s T = S at *
      clear hH hA hlT
      go_enter Tryd.func7, Tryd.ntmps7
      go_wp2_with fail
      go_loopw [9] (fun s9 wx => ∃ k : Nat, k ≤ n ∧ s9 = .int .i64 k ∧ (∀ c ∈ T.take k, c ≠ 3 ∧ c ≠ 6) ∧ wx = w) (fun s9 _ => n - (RowKit.intOf s9).toNat)
      case atStart => exact ⟨0, Nat.zero_le _, rfl, fun c hc => by simp at hc, rfl⟩
      case round =>
        obtain ⟨k, hk, rfl, hno, e9⟩ := hrel
        obtain rfl := e9.symm
        have HNO := Lib.hid hno
        clear hno
        by_cases hlt : k < n
        · have hkz : k < T.length := by rw [HLT.out]; exact hlt
          obtain ⟨g, off, rfl, hc⟩ := HA.out.at_ hkz
          have HNX := Lib.hid (fun h3 h6 => nonum_take hkz HNO.out h3 h6)
          generalize T[k] = z at *
          have hk0 : (0 : Int) ≤ (k : Int) := by omega
          have hk1 : (k : Int) < (n : Int) := by omega
          clear hkz
          by_cases h3 : z = 3
          · subst h3
            clear HNX
            go_wp2_with fail
            refine (awake_any _ HH.out).mono ?_
            rintro e w2 ⟨rfl, hb⟩
            go_wp2
            go_ret
            exact ⟨rfl, hb⟩
          · have b3 : (z == 3) = false := beq_eq_false_iff_ne.2 h3
            by_cases h6 : z = 6
            · subst h6
              clear HNX h3
              go_wp2_with fail
              refine (awake_any _ HH.out).mono ?_
              rintro e w2 ⟨rfl, hb⟩
              go_wp2
              go_ret
              exact ⟨rfl, hb⟩
            · have b6 : (z == 6) = false := beq_eq_false_iff_ne.2 h6
              have HN2 := Lib.hid (HNX.out h3 h6)
              clear HNX h3 h6
              go_wp2
              go_roundw
              case rel => exact ⟨k + 1, by omega, by go_num, HN2.out, by first | rfl | trivial⟩
              case measure => simp [RowKit.intOf]; omega
        · obtain rfl : k = n := by omega
          have HTT := Lib.hid (HT2.out (by
            have h := HNO.out
            rwa [List.take_of_length_le (by rw [HLT.out]; exact Nat.le_refl _)] at h))
          rw [HTT.out] at HS2
          clear HNO HT2 hlt hk
          go_wp2_with fail
          refine (HDR.out _).mono ?_
          rintro e w9 ⟨rfl, e9⟩
          obtain rfl := e9.symm
          go_wp2_with fail
          refine (HDA.out _).mono ?_
          rintro e w9 ⟨rfl, e9⟩
          obtain rfl := e9.symm
          go_wp2_with fail
          refine HS1.out.mono ?_
          rintro e w1 ⟨A1, c1, rfl, hown, hb⟩
          have HB1 := Lib.hid hb
          have HO1 := Lib.hid (ints_of hown HSL.out)
          have HTU := Lib.hid (turned_any A T k ca w1 (HA.out.below hb) HLT.out (by omega))
          clear hown hb HS1
          go_wp2_with fail
          refine HTU.out.mono ?_
          rintro e w2 ⟨A2, c2, rfl, hown, hb⟩
          have HB2 := Lib.hid (bt HB1.out hb)
          have HO2 := Lib.hid (HO1.out.below hb)
          have HST2 := Lib.hid (HS2.out w2 A2 c2 (ints_of hown HTL.out))
          clear hown hb HTU HS2
          go_wp2_with fail
          refine (HNR.out _).mono ?_
          rintro e w9 ⟨rfl, e9⟩
          obtain rfl := e9.symm
          go_wp2_with fail
          refine (HNA.out _).mono ?_
          rintro e w9 ⟨rfl, e9⟩
          obtain rfl := e9.symm
          go_wp2_with fail
          refine HST2.out.mono ?_
          rintro e w3 ⟨A3, c3, rfl, hown, hb⟩
          have HB3 := Lib.hid (bt HB2.out hb)
          have HO3 := Lib.hid (ints_of hown HST.out)
          have HTU := Lib.hid (turned_any A1 S k c1 w3 (HO2.out.below hb) HSL.out (by omega))
          clear hown hb HST2
          go_wp2_with fail
          refine HTU.out.mono ?_
          rintro e w4 ⟨A4, c4, rfl, hown, hb⟩
          have HB4 := Lib.hid (bt HB3.out hb)
          have HLK := Lib.hid (like_n A4 A3 (S.map turnN) k c4 c3 w4 HST.out (ints_of hown HST.out) (HO3.out.below hb) (by omega))
          clear hown hb HTU
          go_wp2_with fail
          refine HLK.out.mono ?_
          rintro e w5 ⟨rfl, hb⟩
          have HB5 := Lib.hid (bt HB4.out hb)
          clear hb HLK
          have HH5 := Lib.hid (HH.out.below HB5.out)
          go_wp2_with fail
          refine (awake_any w5 HH5.out).mono ?_
          rintro e w99 ⟨rfl, hb⟩
          have HB99 := Lib.hid (bt HB5.out hb)
          clear hb
          go_wp2
          go_ret
          exact ⟨by first | rfl | simp, HB99.out⟩
theorem walk (w : World) (hH : Held w) (A : Option Addr) (T : List Int) (ca : Nat) (hA : IntsAt w A T) (_ : A = none → T = [] ∧ ca = 0) (_ : T.length ≤ 9223372036854775807) (_ : ∀ z ∈ T, -9223372036854775808 ≤ z ∧ z ≤ 9223372036854775807) (o r a : Bool) :
    Calls Tryd.prog 7 #[.slice A T.length ca, .bool o, .bool r, .bool a] w fun e w' => e = .returned (.bool true) ∧ Below w.heap.size w w' :=
  walk_n w hH A T T.length ca hA rfl o r a

set_option maxRecDepth 100000 in
theorem lifted (os : Os) (started : os.Started) (H : Type) (enc : TypeId × Value → H) :
    ReturnsInHanded {} Tryd.checked os 7 .any (fun w args => (Rows.neutralTurnsSpec.pre enc Tryd.prog Tryd.f7 [] false w args ∧ laidMetH Tryd.prog laidL w) ∧ sizedMet enc Tryd.prog Tryd.f7 (OpenSpec.ofChange Rows.neutralTurnsSpec) false w args) (Rows.neutralTurnsSpec.post enc Tryd.prog Tryd.f7 false true false false) := by
  refine returns_laid started (by kernel_rfl) Tryd.func7 #[.slice none 0 0, .bool false, .bool false, .bool false] (by kernel_rfl) (World.shaped_of_ZipB (by kernel_rfl) (by kernel_rfl)) (by rw [MakeChecks.laidMetH_plain _ _ _ (by kernel_rfl)]; exact laidMet_laidAll _ (by kernel_rfl) (by kernel_rfl)) (by kernel_rfl) (by kernel_rfl) rfl rfl (by kernel_rfl) ?_ ?_
  · intro ds hds
    rw [show Tryd.f7.params.toList.length = 4 from by kernel_rfl] at hds
    match ds, hds with
    | [d0, d1, d2, d3], _ => rfl
  intro W base args ds p hval hA hH
  rw [Tryd.params7] at hA hval
  obtain ⟨v0, vs0, d0, ds0, p0, q0, hargs, rfl, rfl, h0, r0⟩ := ChangeShapes.trodAll_cons hA
  obtain ⟨v1, vs1, d1, ds1, p1, q1, rfl, rfl, rfl, h1, r1⟩ := ChangeShapes.trodAll_cons r0
  obtain ⟨v2, vs2, d2, ds2, p2, q2, rfl, rfl, rfl, h2, r2⟩ := ChangeShapes.trodAll_cons r1
  obtain ⟨v3, vs3, d3, ds3, p3, q3, rfl, rfl, rfl, h3, r3⟩ := ChangeShapes.trodAll_cons r2
  obtain ⟨rfl, rfl, rfl⟩ := ChangeShapes.trodAll_nil r3
  obtain rfl : args = #[v0, v1, v2, v3] := by cases args; simp_all
  obtain ⟨A0, zs0, c0, rfl, hr0, hnil0, hl0, hz0⟩ := open_introw (hval 0 22 v0 rfl rfl) h0
  obtain ⟨x1, rfl, rfl, rfl⟩ := open_bool Tryd.underlying4 (hval 1 4 v1 rfl rfl) h1
  obtain ⟨x2, rfl, rfl, rfl⟩ := open_bool Tryd.underlying4 (hval 2 4 v2 rfl rfl) h2
  obtain ⟨x3, rfl, rfl, rfl⟩ := open_bool Tryd.underlying4 (hval 3 4 v3 rfl rfl) h3
  exact walk W hH A0 zs0 c0 hr0 hnil0 hl0 hz0 x1 x2 x3

theorem holds : Rows.NeutralTurnsSaid :=
  OpenClaim.holds_of_wide 7 Tryd.f7 rfl rfl rfl rfl rfl rfl rfl ⟨rfl, rfl, rfl, rfl, rfl⟩ rfl rfl rfl rfl rfl (by kernel_rfl) Tryd.func7 (by kernel_rfl)
    (of_decide_eq_true (by kernel_rfl)) (by unfold Func.isWrapper; first | (rw [if_pos (by decide +kernel)]; kernel_rfl) | (rw [if_neg (by decide +kernel)]; exact ⟨rfl, rfl⟩))
    (fun os started H enc _ => lifted os started H enc)

theorem card : Rows.NeutralTurnsCardSaid :=
  Claim7.holds_tied_plain_at .later [] [.data, .data, .pinned] true (true, "840f1c67af3e153f943a0914da229d03cc3e8ef09a9798dbdb7d3fac22e2053f") false
    holds (fun _ h => by cases h) (by kernel_rfl) (fun _ h => by cases h) neutralTurns_row_tie rfl ⟨rfl, rfl⟩ (by kernel_rfl) rfl
    (fun f fn hf hfn => by
      obtain rfl : f = 7 := Option.some.inj ((show Tryd.prog.funcNamed "parquetry/parquetrylaw15.NeutralTurns" = some 7 by kernel_rfl).symm.trans hf) |>.symm
      obtain rfl : fn = Tryd.f7 := (Option.some.inj (Tryd.func7.symm.trans hfn)).symm
      exact ⟨by kernel_rfl, fun j t ht => by
        rw [Tryd.params7] at ht
        have hm : t ∈ [22, 4] := by simpa using Array.mem_of_getElem? ht
        have hall : ([22, 4].all fun u => !Tryd.prog.wantsStandIn u) = true := by kernel_rfl
        exact (show Tryd.prog.wantsStandIn t = false by simpa using List.all_eq_true.1 hall t hm)⟩)
    (by kernel_rfl)
end Go.Proofs.YtkhhfodbldemeaaDoor.NeutralTurns
