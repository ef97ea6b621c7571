/-
  Proved here: for all three rows of numbers, each level and each number as direction ahead PairsJust returns true (only brackets of pairs, and marks right behind them, become something, and that is L or R, where there are at most 300 of each), and the rows stay. Conditions: the package variables that the row lists hold what the program's text lays (the card ties them).
-/
import Derived.Test.YtapeebnbiappgaaDoorPbLaw
import Derived.Test.YtapeebnbiappgaaDoorPbBehind
import Derived.Test.YtapeebnbiappgaaDoorLawInts
import Derived.Test.YtapeebnbiappgaaDoorClLaid
import Derived.Test.YtapeebnbiappgaaDoorTie
import Derived.Test.YtapeebnbiappgaaDoorCards
set_option linter.unusedVariables false
namespace Go.Proofs.YtapeebnbiappgaaDoor.PairsJust
open Go Go.ChangeShapes Go.WideShapes Go.ChangeAt Go.RowKit Go.Lib Go.Proofs.YtapeebnbiappgaaDoor.Cl Go.Proofs.YtapeebnbiappgaaDoor.Pr Go.Proofs.YtapeebnbiappgaaDoor.Pb

theorem pair_at {w : World} {b off : Nat} {P : List (Nat × Nat)} (h : PaAt w (some ⟨b, off, none⟩) P) {k i j : Nat} (hk : P[k]? = some (i, j)) : w.cell? ⟨b, off + k * 2, none⟩ = some (.int .i64 i) ∧ w.cell? ⟨b, off + k * 2 + 1, none⟩ = some (.int .i64 j) := by
  obtain ⟨b2, o2, e, -, h0, h1⟩ := h.at_ hk
  injection e with e
  injection e with e1 e2
  subst e1 e2
  exact ⟨h0, h1⟩
theorem ints_some {w : World} {A : Option Addr} {zs : List Int} (h : IntsAt w A zs) {k : Nat} {z : Int} (hz : zs[k]? = some z) : ∃ b off, A = some ⟨b, off, none⟩ ∧ w.cell? ⟨b, off + k, none⟩ = some (.int .i64 z) := by
  obtain ⟨hk, rfl⟩ := List.getElem?_eq_some_iff.1 hz
  exact h.at_ hk
/-- May a place become something, by the pairs so far? -/
def mayL (own : List Int) (i : Nat) (ps : List (Nat × Nat)) : Bool := ps.any fun p => mayZ own p i
theorem mayL_step {own : List Int} {i : Nat} {ps : List (Nat × Nat)} {k x y : Nat} (h : ps[k]? = some (x, y)) : mayL own i (ps.take (k + 1)) = (mayL own i (ps.take k) || (decide (i = x) || decide (i = y) || marksZ own x i || marksZ own y i)) := by
  obtain ⟨hk, e⟩ := List.getElem?_eq_some_iff.1 h
  unfold mayL
  rw [any_take hk, e]
  rfl

set_option maxHeartbeats 8000000 in
set_option maxRecDepth 1000000 in
theorem walk_n (w : World) (hH : Held w) (A : Option Addr) (T : List Int) (n ca : Nat) (hA : IntsAt w A T) (hlT : T.length = n) (B : Option Addr) (C : List Int) (m cb : Nat) (hB : IntsAt w B C) (hlC : C.length = m) (D : Option Addr) (O : List Int) (q cd : Nat) (hD : IntsAt w D O) (hlO : O.length = q) (lv s : Int) :
    Calls Tryd.prog 6 #[.slice A n ca, .slice B m cb, .slice D q cd, .int .i64 lv, .int .i64 s] w fun e w' => e = .returned (.bool true) ∧ Below w.heap.size w w' := by
  by_cases h0 : 300 < n
  · have d0 : decide ((300 : Int) < (n : Int)) = true := decide_eq_true (by omega)
    have d1 : decide (300 < n) = true := decide_eq_true h0
    go_enter Tryd.func6, Tryd.ntmps6
    go_wp2_with (go_at_call 8; refine (awake_any _ hH).mono ?_; rintro e w' ⟨rfl, hb⟩)
    go_ret
    exact ⟨rfl, hb⟩
  · have d0 : decide ((300 : Int) < (n : Int)) = false := decide_eq_false (by omega)
    have d1 : decide (300 < n) = false := decide_eq_false h0
    by_cases h1 : m = n
    · subst h1
      by_cases h2 : q = m
      · subst h2
        have HH := Lib.hid hH
        have HA := Lib.hid hA
        have HD := Lib.hid hD
        have HLT := Lib.hid hlT
        have HLC := Lib.hid hlC
        have HLO := Lib.hid hlO
        have hbr := brackets_any A B D T C O _ _ _ ca cb cd lv s w hA hB hD hlT hlC hlO (by omega)
        have hsl : (settleZ T C O lv s).length = q := by rw [settleZ_len lv s (by rw [hlT, hlC]) (by rw [hlO, hlC]), hlT]
        rw [hsl] at hbr
        have HBR := Lib.hid hbr
        have HSL := Lib.hid hsl
        have HF := Lib.hid (fun (V : World) (h : Below w.heap.size w V) => find_any A B T C q q ca cb V (hA.below h) (hB.below h) hlT hlC (by omega))
        have HJ := Lib.hid (fun (i : Nat) (x : Int) (h : T[i]? = some x) => settle_just (T := T) (C := C) (own := O) lv s (by rw [hlT, hlC]) (by rw [hlO, hlC]) i x h)
        have HLT2 := Lib.hid (fun (k : Nat) (p : Nat × Nat) (h : (findP T C)[k]? = some p) => show p.1 < q ∧ p.2 < q from by
          have h2 := find_lt (List.mem_of_getElem? h)
          rw [hlC] at h2
          omega)
        have HPn := Lib.hid (show (findP T C).length ≤ q from by rw [← hlC]; exact find_len)
        clear hH hA hB hD hlT hlC hlO hbr hsl
        generalize settleZ T C O lv s = S at *
        generalize findP T C = ps at *
        obtain ⟨p0, hp0⟩ : ∃ p, ps.length = p := ⟨_, rfl⟩
        have HPL := Lib.hid hp0
        rw [hp0] at HPn HF
        have hpn := HPn.out
        clear hp0
        go_enter Tryd.func6, Tryd.ntmps6
        go_wp2_with fail
        refine HBR.out.mono ?_
        rintro e w1 ⟨A1, c1, rfl, hown, hb⟩
        have HB1 := Lib.hid hb
        have HO1 := Lib.hid (ints_of hown HSL.out)
        clear hown hb HBR
        go_wp2_with fail
        refine (HF.out w1 HB1.out).mono ?_
        rintro e w2 ⟨v, rfl, hown, hb⟩
        obtain ⟨AP, cP, rfl, hpa⟩ := paAt_own hown HPL.out
        have HB2 := Lib.hid (bt HB1.out hb)
        have HO2 := Lib.hid (HO1.out.below hb)
        have HPA := Lib.hid hpa
        clear hown hb hpa HF HO1
        go_wp2_with fail
        go_loopw [14] (fun s14 wx => ∃ i : Nat, i ≤ q ∧ s14 = .int .i64 i ∧ Below w2.heap.size w2 wx) (fun s14 _ => q - (RowKit.intOf s14).toNat)
        case atStart => exact ⟨0, Nat.zero_le _, rfl, Below.refl _ _⟩
        case round =>
          obtain ⟨i, hi, rfl, hbw⟩ := hrel
          have HBW := Lib.hid hbw
          by_cases hlt : i < q
          · have hiT : i < T.length := by rw [HLT.out]; exact hlt
            obtain ⟨t, ht⟩ : ∃ t, T[i]? = some t := ⟨_, List.getElem?_eq_getElem hiT⟩
            obtain ⟨z, hz, hzt⟩ := HJ.out i t ht
            obtain ⟨bT, oT, hAe, hcT⟩ := ints_some ((HA.out.below HB2.out).below hbw) ht
            obtain ⟨bS, oS, hSe, hcS⟩ := ints_some (HO2.out.below hbw) hz
            subst hAe hSe
            have HZT := Lib.hid hzt
            have hi0 : (0 : Int) ≤ (i : Int) := by omega
            have hi1 : (i : Int) < (q : Int) := by omega
            have HPW := Lib.hid (HPA.out.below hbw)
            have HDW := Lib.hid ((HD.out.below HB2.out).below hbw)
            clear hiT ht hz hzt hbw
            go_wp2_with fail
            go_loopw [15, 16] (fun s15 s16 wx => ∃ k : Nat, k ≤ p0 ∧ s16 = .int .i64 k ∧ s15 = .bool (mayL O i (ps.take k)) ∧ wx = wr) (fun _ s16 _ => p0 - (RowKit.intOf s16).toNat)
            case atStart => exact ⟨0, Nat.zero_le _, rfl, rfl, rfl⟩
            case round =>
              obtain ⟨k, hk, rfl, rfl, rfl⟩ := hrel
              by_cases hkp : k < p0
              · have hkl : k < ps.length := by rw [HPL.out]; exact hkp
                obtain ⟨⟨x, y⟩, hp⟩ : ∃ p, ps[k]? = some p := ⟨_, List.getElem?_eq_getElem hkl⟩
                have HMS := Lib.hid (mayL_step (own := O) (i := i) hp)
                obtain ⟨hxq, hyq⟩ := HLT2.out k _ hp
                obtain ⟨bp, op, rfl, -, a0, a1⟩ := HPW.out.at_ hp
                dsimp only at a0 a1 hxq hyq
                have HBX := Lib.hid (behind_any D O q cd x i wr HDW.out HLO.out (by omega) hxq hlt)
                have HBY := Lib.hid (behind_any D O q cd y i wr HDW.out HLO.out (by omega) hyq hlt)
                have hk0 : (0 : Int) ≤ (k : Int) := by omega
                have hk1 : (k : Int) < (p0 : Int) := by omega
                clear hkl hp
                cases hmay : mayL O i (ps.take k) with
                | true =>
                  have HM2 := Lib.hid (show mayL O i (ps.take (k + 1)) = true from by rw [HMS.out]; simp [hmay])
                  clear HMS
                  go_wp2_with fail
                  go_roundw
                  case rel => exact ⟨k + 1, by omega, by go_num, by rw [HM2.out], by first | rfl | trivial⟩
                  case measure => simp [RowKit.intOf]; omega
                | false =>
                  by_cases hxi : x = i
                  · have b1 : ((x : Int) == (i : Int)) = true := beq_iff_eq.2 (by omega)
                    have b1n : (x == i) = true := beq_iff_eq.2 hxi
                    have HM2 := Lib.hid (show mayL O i (ps.take (k + 1)) = true from by rw [HMS.out]; simp [hxi])
                    clear HMS
                    go_wp2_with fail
                    go_roundw
                    case rel => exact ⟨k + 1, by omega, by go_num, by rw [HM2.out], by first | rfl | trivial⟩
                    case measure => simp [RowKit.intOf]; omega
                  · have b1 : ((x : Int) == (i : Int)) = false := beq_eq_false_iff_ne.2 (by omega)
                    have b1n : (x == i) = false := beq_eq_false_iff_ne.2 hxi
                    by_cases hyi : y = i
                    · have b2 : ((y : Int) == (i : Int)) = true := beq_iff_eq.2 (by omega)
                      have b2n : (y == i) = true := beq_iff_eq.2 hyi
                      have HM2 := Lib.hid (show mayL O i (ps.take (k + 1)) = true from by rw [HMS.out]; simp [hyi])
                      clear HMS
                      go_wp2_with fail
                      go_roundw
                      case rel => exact ⟨k + 1, by omega, by go_num, by rw [HM2.out], by first | rfl | trivial⟩
                      case measure => simp [RowKit.intOf]; omega
                    · have b2 : ((y : Int) == (i : Int)) = false := beq_eq_false_iff_ne.2 (by omega)
                      have b2n : (y == i) = false := beq_eq_false_iff_ne.2 hyi
                      cases hmx : marksZ O x i with
                      | true =>
                        rw [hmx] at HBX
                        have HM2 := Lib.hid (show mayL O i (ps.take (k + 1)) = true from by rw [HMS.out]; simp [hmx])
                        clear HMS
                        go_wp2_with fail
                        refine HBX.out.mono ?_
                        rintro e w9 ⟨rfl, rfl⟩
                        go_wp2_with fail
                        go_roundw
                        case rel => exact ⟨k + 1, by omega, by go_num, by rw [HM2.out], by first | rfl | trivial⟩
                        case measure => simp [RowKit.intOf]; omega
                      | false =>
                        rw [hmx] at HBX
                        cases hmy : marksZ O y i with
                        | true =>
                          rw [hmy] at HBY
                          have HM2 := Lib.hid (show mayL O i (ps.take (k + 1)) = true from by rw [HMS.out]; simp [hmy])
                          clear HMS
                          go_wp2_with fail
                          refine HBX.out.mono ?_
                          rintro e w9 ⟨rfl, rfl⟩
                          go_wp2_with fail
                          refine HBY.out.mono ?_
                          rintro e w9 ⟨rfl, rfl⟩
                          go_wp2_with fail
                          go_roundw
                          case rel => exact ⟨k + 1, by omega, by go_num, by rw [HM2.out], by first | rfl | trivial⟩
                          case measure => simp [RowKit.intOf]; omega
                        | false =>
                          rw [hmy] at HBY
                          have HM2 := Lib.hid (show mayL O i (ps.take (k + 1)) = false from by rw [HMS.out]; simp [hmay, Ne.symm hxi, Ne.symm hyi, hmx, hmy])
                          clear HMS
                          go_wp2_with fail
                          refine HBX.out.mono ?_
                          rintro e w9 ⟨rfl, rfl⟩
                          go_wp2_with fail
                          refine HBY.out.mono ?_
                          rintro e w9 ⟨rfl, rfl⟩
                          go_wp2_with fail
                          go_roundw
                          case rel => exact ⟨k + 1, by omega, by go_num, by rw [HM2.out], by first | rfl | trivial⟩
                          case measure => simp [RowKit.intOf]; omega
              · obtain rfl : k = p0 := by omega
                have HMA := Lib.hid (show mayL O i (ps.take k) = mayL O i ps from by rw [List.take_of_length_le (by rw [HPL.out]; exact Nat.le_refl _)])
                clear hkp
                generalize mayL O i (ps.take k) = may at *
                by_cases hzt : z = t
                · have b1 : (z != t) = false := by simp [hzt]
                  clear hzt HMA
                  go_wp2_with fail
                  go_quiet (fail)
                  go_wp2
                  go_roundw
                  case rel => exact ⟨i + 1, by omega, by go_num, below_drewN HBW.out _⟩
                  case measure => simp [RowKit.intOf]; omega
                · have b1 : (z != t) = true := bne_iff_ne.2 hzt
                  have h2 : (z = 0 ∨ z = 1) ∧ may = true := by
                    rcases HZT.out with h | ⟨h, p, hp, hm⟩
                    · exact absurd h hzt
                    · exact ⟨h, by rw [HMA.out]; exact List.any_eq_true.2 ⟨p, hp, hm⟩⟩
                  obtain ⟨h01, rfl⟩ := h2
                  clear hzt HMA HZT
                  rcases h01 with rfl | rfl
                  · go_wp2_with fail
                    go_quiet (fail)
                    go_wp2
                    go_roundw
                    case rel => exact ⟨i + 1, by omega, by go_num, below_drewN HBW.out _⟩
                    case measure => simp [RowKit.intOf]; omega
                  · go_wp2_with fail
                    go_quiet (fail)
                    go_wp2
                    go_roundw
                    case rel => exact ⟨i + 1, by omega, by go_num, below_drewN HBW.out _⟩
                    case measure => simp [RowKit.intOf]; omega
          · obtain rfl : i = q := by omega
            clear hlt hbw
            go_wp2_with fail
            refine (awake_any _ (HH.out.below (bt HB2.out HBW.out))).mono ?_
            rintro e w3 ⟨rfl, hb⟩
            have HB3 := Lib.hid (bt (bt HB2.out HBW.out) hb)
            clear hb
            go_wp2
            go_ret
            exact ⟨rfl, HB3.out⟩
      · have d2 : ((q : Int) != (m : Int)) = true := bne_iff_ne.2 (by omega)
        go_enter Tryd.func6, Tryd.ntmps6
        go_wp2_with (go_at_call 8; refine (awake_any _ hH).mono ?_; rintro e w' ⟨rfl, hb⟩)
        go_ret
        exact ⟨rfl, hb⟩
    · have d2 : ((m : Int) != (n : Int)) = true := bne_iff_ne.2 (by omega)
      go_enter Tryd.func6, Tryd.ntmps6
      go_wp2_with (go_at_call 8; refine (awake_any _ hH).mono ?_; rintro e w' ⟨rfl, hb⟩)
      go_ret
      exact ⟨rfl, hb⟩
theorem walk (w : World) (hH : Held w) (A : Option Addr) (T : List Int) (ca : Nat) (hA : IntsAt w A T) (_ : A = none → T = [] ∧ ca = 0) (_ : T.length ≤ 9223372036854775807) (_ : ∀ z ∈ T, -9223372036854775808 ≤ z ∧ z ≤ 9223372036854775807) (B : Option Addr) (C : List Int) (cb : Nat) (hB : IntsAt w B C) (_ : B = none → C = [] ∧ cb = 0) (_ : C.length ≤ 9223372036854775807) (_ : ∀ z ∈ C, -9223372036854775808 ≤ z ∧ z ≤ 9223372036854775807) (D : Option Addr) (O : List Int) (cd : Nat) (hD : IntsAt w D O) (_ : D = none → O = [] ∧ cd = 0) (_ : O.length ≤ 9223372036854775807) (_ : ∀ z ∈ O, -9223372036854775808 ≤ z ∧ z ≤ 9223372036854775807) (lv s : Int) :
    Calls Tryd.prog 6 #[.slice A T.length ca, .slice B C.length cb, .slice D O.length cd, .int .i64 lv, .int .i64 s] w fun e w' => e = .returned (.bool true) ∧ Below w.heap.size w w' :=
  walk_n w hH A T T.length ca hA rfl B C C.length cb hB rfl D O O.length cd hD rfl lv s

set_option maxRecDepth 100000 in
theorem lifted (os : Os) (started : os.Started) (H : Type) (enc : TypeId × Value → H) :
    ReturnsInHanded {} Tryd.checked os 6 .any (fun w args => (Rows.pairsJustSpec.pre enc Tryd.prog Tryd.f6 [] false w args ∧ laidMetH Tryd.prog laidL w) ∧ sizedMet enc Tryd.prog Tryd.f6 (OpenSpec.ofChange Rows.pairsJustSpec) false w args) (Rows.pairsJustSpec.post enc Tryd.prog Tryd.f6 false true false false) := by
  refine returns_laid started (by kernel_rfl) Tryd.func6 #[.slice none 0 0, .slice none 0 0, .slice none 0 0, .int .i64 0, .int .i64 0] (by kernel_rfl) (World.shaped_of_ZipB (by kernel_rfl) (by kernel_rfl)) (by rw [MakeChecks.laidMetH_plain _ _ _ (by kernel_rfl)]; exact laidMet_laidAll _ (by kernel_rfl) (by kernel_rfl)) (by kernel_rfl) (by kernel_rfl) rfl rfl (by kernel_rfl) ?_ ?_
  · intro ds hds
    rw [show Tryd.f6.params.toList.length = 5 from by kernel_rfl] at hds
    match ds, hds with
    | [d0, d1, d2, d3, d4], _ => rfl
  intro W base args ds p hval hA hH
  rw [Tryd.params6] at hA hval
  obtain ⟨v0, vs0, d0, ds0, p0, q0, hargs, rfl, rfl, h0, r0⟩ := ChangeShapes.trodAll_cons hA
  obtain ⟨v1, vs1, d1, ds1, p1, q1, rfl, rfl, rfl, h1, r1⟩ := ChangeShapes.trodAll_cons r0
  obtain ⟨v2, vs2, d2, ds2, p2, q2, rfl, rfl, rfl, h2, r2⟩ := ChangeShapes.trodAll_cons r1
  obtain ⟨v3, vs3, d3, ds3, p3, q3, rfl, rfl, rfl, h3, r3⟩ := ChangeShapes.trodAll_cons r2
  obtain ⟨v4, vs4, d4, ds4, p4, q4, rfl, rfl, rfl, h4, r4⟩ := ChangeShapes.trodAll_cons r3
  obtain ⟨rfl, rfl, rfl⟩ := ChangeShapes.trodAll_nil r4
  obtain rfl : args = #[v0, v1, v2, v3, v4] := by cases args; simp_all
  obtain ⟨A0, zs0, c0, rfl, hr0, hnil0, hl0, hz0⟩ := open_introw (hval 0 22 v0 rfl rfl) h0
  obtain ⟨A1, zs1, c1, rfl, hr1, hnil1, hl1, hz1⟩ := open_introw (hval 1 22 v1 rfl rfl) h1
  obtain ⟨A2, zs2, c2, rfl, hr2, hnil2, hl2, hz2⟩ := open_introw (hval 2 22 v2 rfl rfl) h2
  obtain ⟨x3, rfl, rfl, rfl, wx3⟩ := open_int Tryd.underlying3 (hval 3 3 v3 rfl rfl) h3
  obtain ⟨x4, rfl, rfl, rfl, wx4⟩ := open_int Tryd.underlying3 (hval 4 3 v4 rfl rfl) h4
  exact walk W hH A0 zs0 c0 hr0 hnil0 hl0 hz0 A1 zs1 c1 hr1 hnil1 hl1 hz1 A2 zs2 c2 hr2 hnil2 hl2 hz2 x3 x4

theorem holds : Rows.PairsJustSaid :=
  OpenClaim.holds_of_wide 6 Tryd.f6 rfl rfl rfl rfl rfl rfl rfl ⟨rfl, rfl, rfl, rfl, rfl⟩ rfl rfl rfl rfl rfl (by kernel_rfl) Tryd.func6 (by kernel_rfl)
    (of_decide_eq_true (by kernel_rfl)) (by unfold Func.isWrapper; first | (rw [if_pos (by decide +kernel)]; kernel_rfl) | (rw [if_neg (by decide +kernel)]; exact ⟨rfl, rfl⟩))
    (fun os started H enc _ => lifted os started H enc)

theorem card : Rows.PairsJustCardSaid :=
  Claim7.holds_tied_plain_at .later [] [.data, .data, .pinned] true (true, "5ab8faf20a61821e78c39df3730befa666d67ea68e19ab1afc714c671500d4f5") false
    holds (fun _ h => by cases h) (by kernel_rfl) (fun _ h => by cases h) pairsJust_row_tie rfl ⟨rfl, rfl⟩ (by kernel_rfl) rfl
    (fun f fn hf hfn => by
      obtain rfl : f = 6 := Option.some.inj ((show Tryd.prog.funcNamed "parquetry/parquetrylaw14.PairsJust" = some 6 by kernel_rfl).symm.trans hf) |>.symm
      obtain rfl : fn = Tryd.f6 := (Option.some.inj (Tryd.func6.symm.trans hfn)).symm
      exact ⟨by kernel_rfl, fun j t ht => by
        rw [Tryd.params6] at ht
        have hm : t ∈ [22, 3] := by simpa using Array.mem_of_getElem? ht
        have hall : ([22, 3].all fun u => !Tryd.prog.wantsStandIn u) = true := by kernel_rfl
        exact (show Tryd.prog.wantsStandIn t = false by simpa using List.all_eq_true.1 hall t hm)⟩)
    (by kernel_rfl)
end Go.Proofs.YtapeebnbiappgaaDoor.PairsJust
