/-
  Proved here: for all two rows of numbers PairsNest returns true (each pair is a bracket that opens, and one that closes behind it, both ON, that meet; pairs stand by what opens, one in another, or apart; no bracket stands in two; where there are at most 300 of both), and the rows stay. Conditions: the package variables that the row lists hold what the program's text lays (the card ties them).
-/
import Derived.Test.YtapeebnbiappgaaDoorPbLaw
import Derived.Test.YtapeebnbiappgaaDoorLawInts
import Derived.Test.YtapeebnbiappgaaDoorClLaid
import Derived.Test.YtapeebnbiappgaaDoorTie
import Derived.Test.YtapeebnbiappgaaDoorCards
import Derived.Deep.RegionHeld3
set_option linter.unusedVariables false
namespace Go.Proofs.YtapeebnbiappgaaDoor.PairsNest
open Go Go.ChangeShapes Go.WideShapes Go.ChangeAt Go.RowKit Go.Lib Go.Proofs.YtapeebnbiappgaaDoor.Cl Go.Proofs.YtapeebnbiappgaaDoor.Pr Go.Proofs.YtapeebnbiappgaaDoor.Pb Go.Proofs.YtapeebnbiappgaaDoor.Mi

theorem below_dr {B : Nat} {a w : World} (h : Below B a w) : Below B a w.drew := h.drew
theorem step_bl {wr V V' : World} (h : Below wr.heap.size wr V) (h' : Below V.heap.size V V') : Below wr.heap.size wr V' := h.trans (h'.mono h.size)
theorem ints_some {w : World} {A : Option Addr} {zs : List Int} (h : IntsAt w A zs) {k : Nat} {z : Int} (hz : zs[k]? = some z) : ∃ b off, A = some ⟨b, off, none⟩ ∧ w.cell? ⟨b, off + k, none⟩ = some (.int .i64 z) := by
  obtain ⟨hk, rfl⟩ := List.getElem?_eq_some_iff.1 hz
  exact h.at_ hk
theorem some_cell {w : World} {b off k : Nat} {z : Int} (h : ∃ b' off', (some ⟨b, off, none⟩ : Option Addr) = some ⟨b', off', none⟩ ∧ w.cell? ⟨b', off' + k, none⟩ = some (.int .i64 z)) : w.cell? ⟨b, off + k, none⟩ = some (.int .i64 z) := by
  obtain ⟨b', off', e, hc⟩ := h
  injection e with e
  injection e with e1 e2
  subst e1 e2
  exact hc
theorem pair_at {w : World} {b off : Nat} {P : List (Nat × Nat)} (h : PaAt w (some ⟨b, off, none⟩) P) {k i j : Nat} (hk : P[k]? = some (i, j)) : w.cell? ⟨b, off + k * 2, none⟩ = some (.int .i64 i) ∧ w.cell? ⟨b, off + k * 2 + 1, none⟩ = some (.int .i64 j) := by
  obtain ⟨b2, o2, e, -, h0, h1⟩ := h.at_ hk
  injection e with e
  injection e with e1 e2
  subst e1 e2
  exact ⟨h0, h1⟩

set_option maxHeartbeats 8000000 in
set_option maxRecDepth 1000000 in
theorem walk_n (w : World) (hH : Held w) (A : Option Addr) (T : List Int) (n ca : Nat) (hA : IntsAt w A T) (hlT : T.length = n) (B : Option Addr) (C : List Int) (m cb : Nat) (hB : IntsAt w B C) (hlC : C.length = m) :
    Calls Tryd.prog 5 #[.slice A n ca, .slice B m cb] w fun e w' => e = .returned (.bool true) ∧ Below w.heap.size w w' := by
  by_cases h1 : 300 < n
  · have d1 : decide ((300 : Int) < (n : Int)) = true := decide_eq_true (by omega)
    have d2 : decide (300 < n) = true := decide_eq_true h1
    go_enter Tryd.func5, Tryd.ntmps5
    go_wp2_with (go_at_call 8; refine (awake_any _ hH).mono ?_; rintro e w' ⟨rfl, hb⟩)
    go_ret
    exact ⟨rfl, hb⟩
  · have d1 : decide ((300 : Int) < (n : Int)) = false := decide_eq_false (by omega)
    have d2 : decide (300 < n) = false := decide_eq_false h1
    by_cases h2 : m = n
    · subst h2
      have HH := Lib.hid hH
      have HA := Lib.hid hA
      have HB := Lib.hid hB
      have HLT := Lib.hid hlT
      have HLC := Lib.hid hlC
      have HF := Lib.hid (find_any A B T C m m ca cb w hA hB hlT hlC (by omega))
      have HPn := Lib.hid (show (findP T C).length ≤ 300 from Nat.le_trans find_len (by rw [hlC]; omega))
      have HIS := Lib.hid (fun (k : Nat) (p : Nat × Nat) (h : (findP T C)[k]? = some p) => find_is (List.mem_of_getElem? h))
      have HAT := Lib.hid (fun (k i : Nat) (p q : Nat × Nat) (hk : (findP T C)[k]? = some q) (hi : (findP T C)[i]? = some p) (h : k < i) => find_at hk hi h)
      clear hH hA hB hlT hlC
      generalize findP T C = ps at *
      obtain ⟨q, hq⟩ : ∃ q, ps.length = q := ⟨_, rfl⟩
      have HQ := Lib.hid hq
      rw [hq] at HPn HF
      clear hq
      have hq300 := HPn.out
      go_enter Tryd.func5, Tryd.ntmps5
      go_wp2_with fail
      refine HF.out.mono ?_
      rintro e w1 ⟨v, rfl, hown, hb⟩
      obtain ⟨AP, cP, rfl, hpa⟩ := paAt_own hown HQ.out
      have HB1 := Lib.hid hb
      have HPA := Lib.hid hpa
      clear hown hb hpa HF
      go_wp2_with fail
      go_loopw [7] (fun s7 wx => ∃ i : Nat, i ≤ q ∧ s7 = .int .i64 i ∧ Below w1.heap.size w1 wx) (fun s7 _ => q - (RowKit.intOf s7).toNat)
      case atStart => exact ⟨0, Nat.zero_le _, rfl, Below.refl _ _⟩
      case round =>
        obtain ⟨i, hi, rfl, hbw⟩ := hrel
        have HBW := Lib.hid hbw
        by_cases hlt : i < q
        · have hip : i < ps.length := by rw [HQ.out]; exact hlt
          obtain ⟨⟨x, y⟩, hp⟩ : ∃ p, ps[i]? = some p := ⟨_, List.getElem?_eq_getElem hip⟩
          have HP := Lib.hid hp
          have hPI := HIS.out i _ hp
          obtain ⟨bp, op, rfl, hbl, p0, p1⟩ := (HPA.out.below hbw).at_ hp
          dsimp only at p0 p1
          have hxy : x < y := hPI.lt
          obtain ⟨a, b, hCa, hCb, hmt⟩ := hPI.meet
          have hTx : T[x]? = some 13 := hPI.t1
          have hTy : T[y]? = some 13 := hPI.t2
          dsimp only at hCa hCb
          have hyn : y < m := by rw [← HLT.out]; exact (List.getElem?_eq_some_iff.1 hTy).1
          have HTX := Lib.hid (fun (V : World) (h : Below w1.heap.size w1 V) => ints_some (HA.out.below (bt HB1.out h)) hTx)
          have HTY := Lib.hid (fun (V : World) (h : Below w1.heap.size w1 V) => ints_some (HA.out.below (bt HB1.out h)) hTy)
          have HCX := Lib.hid (fun (V : World) (h : Below w1.heap.size w1 V) => ints_some (HB.out.below (bt HB1.out h)) hCa)
          have HCY := Lib.hid (fun (V : World) (h : Below w1.heap.size w1 V) => ints_some (HB.out.below (bt HB1.out h)) hCb)
          have hi0 : (0 : Int) ≤ (i : Int) := by omega
          have hi1 : (i : Int) < (q : Int) := by omega
          clear hip hp hPI hTx hTy hCa hCb
          go_wp2_with fail
          have hbA := below_made wr (.cells #[.int .i64 x, .int .i64 y] 31)
          have hxA := heap_alloc_last wr (.cells #[.int .i64 x, .int .i64 y] 31)
          have HBA := Lib.hid (bt HBW.out hbA)
          generalize wr.alloc (.cells #[.int .i64 x, .int .i64 y] 31) = W1 at *
          obtain ⟨bT, oT, hAe, -⟩ := HTX.out W1 HBA.out
          subst hAe
          obtain ⟨bC, oC, hBe, -⟩ := HCX.out W1 HBA.out
          subst hBe
          have HXA := Lib.hid hxA
          have hxlt : wr.heap.size < W1.heap.size := (Array.getElem?_eq_some_iff.1 hxA).1
          have HS := Lib.hid (fun (V : World) (h : Below W1.heap.size W1 V) => show V.cell? ⟨wr.heap.size, 0, none⟩ = some (.int .i64 x) ∧ V.cell? ⟨wr.heap.size, 1, none⟩ = some (.int .i64 y) ∧ V.cell? ⟨bT, oT + x, none⟩ = some (.int .i64 13) ∧ V.cell? ⟨bT, oT + y, none⟩ = some (.int .i64 13) ∧ V.cell? ⟨bC, oC + x, none⟩ = some (.int .i64 a) ∧ V.cell? ⟨bC, oC + y, none⟩ = some (.int .i64 b) ∧ Below W1.heap.size W1 V from
            ⟨cell_of_row V wr.heap.size 0 _ _ _ ((h.block _ hxlt).trans HXA.out), cell_of_row V wr.heap.size 1 _ _ _ ((h.block _ hxlt).trans HXA.out), some_cell (HTX.out V (bt HBA.out h)), some_cell (HTY.out V (bt HBA.out h)), some_cell (HCX.out V (bt HBA.out h)), some_cell (HCY.out V (bt HBA.out h)), h⟩)
          obtain ⟨f1, f2, f3, f4, f5, f6, -⟩ := HS.out W1 (Below.refl _ _)
          have hx0 : (0 : Int) ≤ (x : Int) := by omega
          have hx1 : (x : Int) < (m : Int) := by omega
          have hy0 : (0 : Int) ≤ (y : Int) := by omega
          have hy1 : (y : Int) < (m : Int) := by omega
          have t1 : decide ((x : Int) < 0) = false := decide_eq_false (by omega)
          have t2 : decide ((y : Int) ≤ (x : Int)) = false := decide_eq_false (by omega)
          have t2n : decide (y ≤ x) = false := decide_eq_false (by omega)
          have t3 : decide ((m : Int) ≤ (y : Int)) = false := decide_eq_false (by omega)
          have t3n : decide (m ≤ y) = false := decide_eq_false (by omega)
          have HMT := Lib.hid (fun (V : World) => show Calls Tryd.prog 15 #[.int .i64 a, .int .i64 b] V fun e w' => e = .returned (.bool true) ∧ Below V.heap.size V w' from by rw [← hmt]; exact mMeet_any a b V)
          clear hmt hxA hbA HTX HTY HCX HCY p0 p1 hbl hbw
          go_wp2_with fail
          go_region_held3 (fun V => V.cell? ⟨wr.heap.size, 0, none⟩ = some (.int .i64 x) ∧ V.cell? ⟨wr.heap.size, 1, none⟩ = some (.int .i64 y) ∧ V.cell? ⟨bT, oT + x, none⟩ = some (.int .i64 13) ∧ V.cell? ⟨bT, oT + y, none⟩ = some (.int .i64 13) ∧ V.cell? ⟨bC, oC + x, none⟩ = some (.int .i64 a) ∧ V.cell? ⟨bC, oC + y, none⟩ = some (.int .i64 b) ∧ Below W1.heap.size W1 V) (first | exact HS.out _ (below_dr (Below.refl _ _)) | exact HS.out _ (by assumption) | exact HS.out _ (below_dr (by assumption)))
            (first | (go_at_call 15; ((with_reducible refine (HMT.out _).mono ?_); rintro e w7 ⟨rfl, hb7⟩; have hbx := step_bl (wr := W1) (by first | assumption | exact below_dr (Below.refl _ _) | exact below_dr (by assumption)) hb7; clear hb7)))
          rename_i hh1
          have HV := Lib.hid hh1.2.2.2.2.2.2
          clear hh1 f1 f2 f3 f4 f5 f6 HMT
          have HBV := Lib.hid (bt HBA.out HV.out)
          have HX9 := Lib.hid ((HV.out.block _ hxlt).trans HXA.out)
          have hx9 := (Array.getElem?_eq_some_iff.1 HX9.out).1
          clear t1 t2 t2n t3 t3n HS HXA hxlt
          go_wp2_with fail
          go_loopw [9] (fun s9 wx => ∃ k : Nat, k ≤ i ∧ s9 = .int .i64 k ∧ Below w7.heap.size w7 wx) (fun s9 _ => i - (RowKit.intOf s9).toNat)
          case atStart => exact ⟨0, Nat.zero_le _, rfl, Below.refl _ _⟩
          case round =>
            obtain ⟨k, hk, rfl, hbk⟩ := hrel
            have HBK := Lib.hid hbk
            by_cases hki : k < i
            · have hkp : k < ps.length := by rw [HQ.out]; omega
              obtain ⟨⟨x', y'⟩, hq'⟩ : ∃ p, ps[k]? = some p := ⟨_, List.getElem?_eq_getElem hkp⟩
              obtain ⟨q0, q1⟩ := pair_at (HPA.out.below (bt HBV.out hbk)) hq'
              have hfa := HAT.out k i (x, y) (x', y') hq' HP.out hki
              dsimp only at hfa
              have c0 := cell_of_row _ _ 0 _ _ _ ((hbk.block _ hx9).trans HX9.out)
              have c1 := cell_of_row _ _ 1 _ _ _ ((hbk.block _ hx9).trans HX9.out)
              have hbl0 := World.block_lt_of_cell? _ _ c0
              have hbl1 := World.block_lt_of_cell? _ _ q0
              have hk0 : (0 : Int) ≤ (k : Int) := by omega
              have hk1 : (k : Int) < (q : Int) := by omega
              have u1 : decide ((x : Int) ≤ (x' : Int)) = false := decide_eq_false (by omega)
              have u1n : decide (x ≤ x') = false := decide_eq_false (by omega)
              have u2 : ((y' : Int) == (x : Int)) = false := beq_eq_false_iff_ne.2 (by omega)
              have u2n : (y' == x) = false := beq_eq_false_iff_ne.2 (by omega)
              clear hkp hq' hbk
              by_cases hyx : y' < x
              · have u3 : decide ((x : Int) < (y' : Int)) = false := decide_eq_false (by omega)
                have u3n : decide (x < y') = false := decide_eq_false (by omega)
                clear hfa hyx
                go_wp2_with fail
                go_roundw
                case rel => exact ⟨k + 1, by omega, by go_num, bt HBK.out (below_made _ _)⟩
                case measure => simp [RowKit.intOf]; omega
              · have u3 : decide ((x : Int) < (y' : Int)) = true := decide_eq_true (by omega)
                have u3n : decide (x < y') = true := decide_eq_true (by omega)
                have u4 : decide ((y' : Int) ≤ (y : Int)) = false := decide_eq_false (by omega)
                have u4n : decide (y' ≤ y) = false := decide_eq_false (by omega)
                clear hfa hyx
                go_wp2_with fail
                go_roundw
                case rel => exact ⟨k + 1, by omega, by go_num, bt HBK.out (below_made _ _)⟩
                case measure => simp [RowKit.intOf]; omega
            · obtain rfl : k = i := by omega
              clear hki hbk
              go_wp2_with fail
              go_roundw
              case rel => exact ⟨k + 1, by omega, by go_num, bt HBV.out HBK.out⟩
              case measure => simp [RowKit.intOf]; omega
        · obtain rfl : i = q := by omega
          clear hlt hbw
          go_wp2_with fail
          refine (awake_any _ (HH.out.below (bt HB1.out HBW.out))).mono ?_
          rintro e w2 ⟨rfl, hb⟩
          have HB2 := Lib.hid (bt (bt HB1.out HBW.out) hb)
          clear hb
          go_wp2
          go_ret
          exact ⟨rfl, HB2.out⟩
    · have d3 : ((m : Int) != (n : Int)) = true := bne_iff_ne.2 (by omega)
      go_enter Tryd.func5, Tryd.ntmps5
      go_wp2_with (go_at_call 8; refine (awake_any _ hH).mono ?_; rintro e w' ⟨rfl, hb⟩)
      go_ret
      exact ⟨rfl, hb⟩
theorem walk (w : World) (hH : Held w) (A : Option Addr) (T : List Int) (ca : Nat) (hA : IntsAt w A T) (_ : A = none → T = [] ∧ ca = 0) (_ : T.length ≤ 9223372036854775807) (_ : ∀ z ∈ T, -9223372036854775808 ≤ z ∧ z ≤ 9223372036854775807)
    (B : Option Addr) (C : List Int) (cb : Nat) (hB : IntsAt w B C) (_ : B = none → C = [] ∧ cb = 0) (_ : C.length ≤ 9223372036854775807) (_ : ∀ z ∈ C, -9223372036854775808 ≤ z ∧ z ≤ 9223372036854775807) :
    Calls Tryd.prog 5 #[.slice A T.length ca, .slice B C.length cb] w fun e w' => e = .returned (.bool true) ∧ Below w.heap.size w w' :=
  walk_n w hH A T T.length ca hA rfl B C C.length cb hB rfl

set_option maxRecDepth 100000 in
theorem lifted (os : Os) (started : os.Started) (H : Type) (enc : TypeId × Value → H) :
    ReturnsInHanded {} Tryd.checked os 5 .any (fun w args => (Rows.pairsNestSpec.pre enc Tryd.prog Tryd.f5 [] false w args ∧ laidMetH Tryd.prog laidL w) ∧ sizedMet enc Tryd.prog Tryd.f5 (OpenSpec.ofChange Rows.pairsNestSpec) false w args) (Rows.pairsNestSpec.post enc Tryd.prog Tryd.f5 false true false false) := by
  refine returns_laid started (by kernel_rfl) Tryd.func5 #[.slice none 0 0, .slice none 0 0] (by kernel_rfl) (World.shaped_of_ZipB (by kernel_rfl) (by kernel_rfl)) (by rw [MakeChecks.laidMetH_plain _ _ _ (by kernel_rfl)]; exact laidMet_laidAll _ (by kernel_rfl) (by kernel_rfl)) (by kernel_rfl) (by kernel_rfl) rfl rfl (by kernel_rfl) ?_ ?_
  · intro ds hds
    rw [show Tryd.f5.params.toList.length = 2 from by kernel_rfl] at hds
    match ds, hds with
    | [d0, d1], _ => rfl
  intro W base args ds p hval hA hH
  rw [Tryd.params5] at hA hval
  obtain ⟨v0, vs0, d0, ds0, p0, q0, hargs, rfl, rfl, h0, r0⟩ := ChangeShapes.trodAll_cons hA
  obtain ⟨v1, vs1, d1, ds1, p1, q1, rfl, rfl, rfl, h1, r1⟩ := ChangeShapes.trodAll_cons r0
  obtain ⟨rfl, rfl, rfl⟩ := ChangeShapes.trodAll_nil r1
  obtain rfl : args = #[v0, v1] := by cases args; simp_all
  obtain ⟨A0, zs0, c0, rfl, hr0, hnil0, hl0, hz0⟩ := open_introw (hval 0 22 v0 rfl rfl) h0
  obtain ⟨A1, zs1, c1, rfl, hr1, hnil1, hl1, hz1⟩ := open_introw (hval 1 22 v1 rfl rfl) h1
  exact walk W hH A0 zs0 c0 hr0 hnil0 hl0 hz0 A1 zs1 c1 hr1 hnil1 hl1 hz1

theorem holds : Rows.PairsNestSaid :=
  OpenClaim.holds_of_wide 5 Tryd.f5 rfl rfl rfl rfl rfl rfl rfl ⟨rfl, rfl, rfl, rfl, rfl⟩ rfl rfl rfl rfl rfl (by kernel_rfl) Tryd.func5 (by kernel_rfl)
    (of_decide_eq_true (by kernel_rfl)) (by unfold Func.isWrapper; first | (rw [if_pos (by decide +kernel)]; kernel_rfl) | (rw [if_neg (by decide +kernel)]; exact ⟨rfl, rfl⟩))
    (fun os started H enc _ => lifted os started H enc)

theorem card : Rows.PairsNestCardSaid :=
  Claim7.holds_tied_plain_at .later [] [.data, .data, .pinned] true (true, "5ab8faf20a61821e78c39df3730befa666d67ea68e19ab1afc714c671500d4f5") false
    holds (fun _ h => by cases h) (by kernel_rfl) (fun _ h => by cases h) pairsNest_row_tie rfl ⟨rfl, rfl⟩ (by kernel_rfl) rfl
    (fun f fn hf hfn => by
      obtain rfl : f = 5 := Option.some.inj ((show Tryd.prog.funcNamed "parquetry/parquetrylaw14.PairsNest" = some 5 by kernel_rfl).symm.trans hf) |>.symm
      obtain rfl : fn = Tryd.f5 := (Option.some.inj (Tryd.func5.symm.trans hfn)).symm
      exact ⟨by kernel_rfl, fun j t ht => by
        rw [Tryd.params5] at ht
        have hm : t ∈ [22] := by simpa using Array.mem_of_getElem? ht
        have hall : ([22].all fun u => !Tryd.prog.wantsStandIn u) = true := by kernel_rfl
        exact (show Tryd.prog.wantsStandIn t = false by simpa using List.all_eq_true.1 hall t hm)⟩)
    (by kernel_rfl)
end Go.Proofs.YtapeebnbiappgaaDoor.PairsNest
