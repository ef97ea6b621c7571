/-
  Proved here: for every row of numbers and each direction WeakSettles returns true (what classes become is settled: none of NSM, AL, ES, ET, CS is left; done again nothing changes; L, R, AN and what is no number, sign, mark or letter stay), and the row stays. Conditions: the package variables that the row lists hold what the program's text lays (the card ties them).
-/
import Derived.Test.YtmhnhklkomboaaaDoorWkAwake
import Derived.Test.YtmhnhklkomboaaaDoorWkLike
import Derived.Test.YtmhnhklkomboaaaDoorLawInts
import Derived.Test.YtmhnhklkomboaaaDoorClLaid
import Derived.Test.YtmhnhklkomboaaaDoorTie
import Derived.Test.YtmhnhklkomboaaaDoorCards
set_option linter.unusedVariables false
namespace Go.Proofs.YtmhnhklkomboaaaDoor.WeakSettles
open Go Go.ChangeShapes Go.WideShapes Go.ChangeAt Go.RowKit Go.Lib Go.Proofs.YtmhnhklkomboaaaDoor.Cl Go.Proofs.YtmhnhklkomboaaaDoor.Wk

theorem like_n (A B : Option Addr) (zs : List Int) (n c d : Nat) (w : World) (hl : zs.length = n) (ha : IntsAt w A zs) (hb : IntsAt w B zs) (hn : n ≤ 1099511627776) :
    Calls Tryd.prog 10 #[.slice A n c, .slice B n d] w fun e w' => e = .returned (.bool true) ∧ Below w.heap.size w w' := by
  subst hl
  exact like_ints A B zs c d w ha hb hn
theorem ints_of {w : World} {B n c : Nat} {A : Option Addr} {zs : List Int} (h : w.ownsRow B 3 1 (.slice A n c) n (icl zs)) (hn : zs.length = n) : IntsAt w A zs := by
  obtain ⟨A2, c2, e2, hat⟩ := intsAt_icl h hn
  injection e2 with e3 e4 e5
  subst e3
  exact hat

set_option maxHeartbeats 2000000 in
set_option maxRecDepth 100000 in
theorem walk_s (w : World) (hH : Held w) (A : Option Addr) (zs : List Int) (n c : Nat) (hl : zs.length = n) (hr : IntsAt w A zs) (s : Int) (r : Bool) (hs : (r = false ∧ s = 0) ∨ (r = true ∧ s = 1)) (hbig : n ≤ 1000) :
    Calls Tryd.prog 4 #[.slice A n c, .bool r] w fun e w' => e = .returned (.bool true) ∧ Below w.heap.size w w' := by
  have hs01 : s = 0 ∨ s = 1 := by rcases hs with h | h <;> simp [h.2]
  have HNO := Lib.hid (weak_none hs01 zs)
  have HKP := Lib.hid (weak_kp s zs)
  have HAG := Lib.hid (weak_again hs01 zs)
  have HWL := Lib.hid (show (weak s zs).length = n from by rw [weak_len, hl])
  have HWK := Lib.hid (weak_any A zs n c s w hr hl (by omega))
  have HR := Lib.hid hr
  have HH := Lib.hid hH
  have HL := Lib.hid hl
  clear hH hr hl hs01
  go_enter Tryd.func4, Tryd.ntmps4
  rcases hs with ⟨rfl, rfl⟩ | ⟨rfl, rfl⟩
  · go_wp2_with fail
    refine HWK.out.mono ?_
    rintro e w1 ⟨A', c', rfl, hown, hb⟩
    have HA := Lib.hid (ints_of hown HWL.out)
    have HB := Lib.hid hb
    clear hown hb HWK
    go_wp2_with fail
    go_loopw [7] (fun s7 wx => ∃ k : Nat, k ≤ n ∧ s7 = .int .i64 k ∧ wx = w1) (fun s7 _ => n - (RowKit.intOf s7).toNat)
    case atStart => exact ⟨0, Nat.zero_le _, rfl, rfl⟩
    case round =>
      obtain ⟨k, hk, rfl, rfl⟩ := hrel
      by_cases hlt : k < n
      · have hkw : k < (weak 0 zs).length := by rw [HWL.out]; exact hlt
        have hkz : k < zs.length := by rw [HL.out]; exact hlt
        obtain ⟨b1, o1, rfl, hc1⟩ := HA.out.at_ hkw
        obtain ⟨b2, o2, rfl, hc2⟩ := (HR.out.below HB.out).at_ hkz
        have hno := HNO.out _ (List.getElem_mem hkw)
        have hkp := HKP.out.at_ k hkz hkw
        generalize (weak 0 zs)[k] = y at *
        generalize zs[k] = x at *
        obtain ⟨n8, n2, n4, n5, n7⟩ := hno
        have q8 : (y == 8) = false := by simpa using n8
        have q2 : (y == 2) = false := by simpa using n2
        have q4 : (y == 4) = false := by simpa using n4
        have q5 : (y == 5) = false := by simpa using n5
        have q7 : (y == 7) = false := by simpa using n7
        clear n8 n2 n4 n5 n7 hkw hkz
        by_cases h0 : x = 0
        · obtain rfl : y = x := by omega
          subst h0
          clear hkp q8 q2 q4 q5 q7
          go_wp2
          go_roundw
          case rel => exact ⟨k + 1, by omega, by go_num, by first | rfl | trivial⟩
          case measure => simp [RowKit.intOf]; omega
        by_cases h1 : x = 1
        · obtain rfl : y = x := by omega
          subst h1
          clear hkp q8 q2 q4 q5 q7
          go_wp2
          go_roundw
          case rel => exact ⟨k + 1, by omega, by go_num, by first | rfl | trivial⟩
          case measure => simp [RowKit.intOf]; omega
        by_cases h6 : x = 6
        · obtain rfl : y = x := by omega
          subst h6
          clear hkp q8 q2 q4 q5 q7
          go_wp2
          go_roundw
          case rel => exact ⟨k + 1, by omega, by go_num, by first | rfl | trivial⟩
          case measure => simp [RowKit.intOf]; omega
        have p0 : (x == 0) = false := by simpa using h0
        have p1 : (x == 1) = false := by simpa using h1
        have p6 : (x == 6) = false := by simpa using h6
        by_cases hn0 : x < 0
        · obtain rfl : y = x := by omega
          clear hkp h0 h1 h6
          go_wp2
          go_roundw
          case rel => exact ⟨k + 1, by omega, by go_num, by first | rfl | trivial⟩
          case measure => simp [RowKit.intOf]; omega
        by_cases hn8 : 8 < x
        · obtain rfl : y = x := by omega
          clear hkp h0 h1 h6
          go_wp2
          go_roundw
          case rel => exact ⟨k + 1, by omega, by go_num, by first | rfl | trivial⟩
          case measure => simp [RowKit.intOf]; omega
        clear hkp h0 h1 h6
        go_wp2
        go_roundw
        case rel => exact ⟨k + 1, by omega, by go_num, by first | rfl | trivial⟩
        case measure => simp [RowKit.intOf]; omega
      · obtain rfl : k = n := by omega
        have HW2 := Lib.hid (weak_any A' (weak 0 zs) k c' 0 wr HA.out HWL.out (by omega))
        clear hlt hk
        go_wp2_with fail
        refine HW2.out.mono ?_
        rintro e w2 ⟨A2, c2, rfl, hown, hb⟩
        rw [HAG.out] at hown
        have HLK := Lib.hid (like_n A2 A' (weak 0 zs) k c2 c' w2 HWL.out (ints_of hown HWL.out) (HA.out.below hb) (by omega))
        have HB2 := Lib.hid (HB.out.trans (hb.mono HB.out.size))
        clear hown hb HW2
        go_wp2_with fail
        refine HLK.out.mono ?_
        rintro e w3 ⟨rfl, hb⟩
        have HB3 := Lib.hid (HB2.out.trans (hb.mono HB2.out.size))
        have HH3 := Lib.hid (HH.out.below HB3.out)
        clear hb HLK
        go_wp2_with fail
        refine (awake_any w3 HH3.out).mono ?_
        rintro e w4 ⟨rfl, hb⟩
        have HB4 := Lib.hid (HB3.out.trans (hb.mono HB3.out.size))
        clear hb
        go_wp2
        go_ret
        exact ⟨rfl, HB4.out⟩
  · go_wp2_with fail
    refine HWK.out.mono ?_
    rintro e w1 ⟨A', c', rfl, hown, hb⟩
    have HA := Lib.hid (ints_of hown HWL.out)
    have HB := Lib.hid hb
    clear hown hb HWK
    go_wp2_with fail
    go_loopw [7] (fun s7 wx => ∃ k : Nat, k ≤ n ∧ s7 = .int .i64 k ∧ wx = w1) (fun s7 _ => n - (RowKit.intOf s7).toNat)
    case atStart => exact ⟨0, Nat.zero_le _, rfl, rfl⟩
    case round =>
      obtain ⟨k, hk, rfl, rfl⟩ := hrel
      by_cases hlt : k < n
      · have hkw : k < (weak 1 zs).length := by rw [HWL.out]; exact hlt
        have hkz : k < zs.length := by rw [HL.out]; exact hlt
        obtain ⟨b1, o1, rfl, hc1⟩ := HA.out.at_ hkw
        obtain ⟨b2, o2, rfl, hc2⟩ := (HR.out.below HB.out).at_ hkz
        have hno := HNO.out _ (List.getElem_mem hkw)
        have hkp := HKP.out.at_ k hkz hkw
        generalize (weak 1 zs)[k] = y at *
        generalize zs[k] = x at *
        obtain ⟨n8, n2, n4, n5, n7⟩ := hno
        have q8 : (y == 8) = false := by simpa using n8
        have q2 : (y == 2) = false := by simpa using n2
        have q4 : (y == 4) = false := by simpa using n4
        have q5 : (y == 5) = false := by simpa using n5
        have q7 : (y == 7) = false := by simpa using n7
        clear n8 n2 n4 n5 n7 hkw hkz
        by_cases h0 : x = 0
        · obtain rfl : y = x := by omega
          subst h0
          clear hkp q8 q2 q4 q5 q7
          go_wp2
          go_roundw
          case rel => exact ⟨k + 1, by omega, by go_num, by first | rfl | trivial⟩
          case measure => simp [RowKit.intOf]; omega
        by_cases h1 : x = 1
        · obtain rfl : y = x := by omega
          subst h1
          clear hkp q8 q2 q4 q5 q7
          go_wp2
          go_roundw
          case rel => exact ⟨k + 1, by omega, by go_num, by first | rfl | trivial⟩
          case measure => simp [RowKit.intOf]; omega
        by_cases h6 : x = 6
        · obtain rfl : y = x := by omega
          subst h6
          clear hkp q8 q2 q4 q5 q7
          go_wp2
          go_roundw
          case rel => exact ⟨k + 1, by omega, by go_num, by first | rfl | trivial⟩
          case measure => simp [RowKit.intOf]; omega
        have p0 : (x == 0) = false := by simpa using h0
        have p1 : (x == 1) = false := by simpa using h1
        have p6 : (x == 6) = false := by simpa using h6
        by_cases hn0 : x < 0
        · obtain rfl : y = x := by omega
          clear hkp h0 h1 h6
          go_wp2
          go_roundw
          case rel => exact ⟨k + 1, by omega, by go_num, by first | rfl | trivial⟩
          case measure => simp [RowKit.intOf]; omega
        by_cases hn8 : 8 < x
        · obtain rfl : y = x := by omega
          clear hkp h0 h1 h6
          go_wp2
          go_roundw
          case rel => exact ⟨k + 1, by omega, by go_num, by first | rfl | trivial⟩
          case measure => simp [RowKit.intOf]; omega
        clear hkp h0 h1 h6
        go_wp2
        go_roundw
        case rel => exact ⟨k + 1, by omega, by go_num, by first | rfl | trivial⟩
        case measure => simp [RowKit.intOf]; omega
      · obtain rfl : k = n := by omega
        have HW2 := Lib.hid (weak_any A' (weak 1 zs) k c' 1 wr HA.out HWL.out (by omega))
        clear hlt hk
        go_wp2_with fail
        refine HW2.out.mono ?_
        rintro e w2 ⟨A2, c2, rfl, hown, hb⟩
        rw [HAG.out] at hown
        have HLK := Lib.hid (like_n A2 A' (weak 1 zs) k c2 c' w2 HWL.out (ints_of hown HWL.out) (HA.out.below hb) (by omega))
        have HB2 := Lib.hid (HB.out.trans (hb.mono HB.out.size))
        clear hown hb HW2
        go_wp2_with fail
        refine HLK.out.mono ?_
        rintro e w3 ⟨rfl, hb⟩
        have HB3 := Lib.hid (HB2.out.trans (hb.mono HB2.out.size))
        have HH3 := Lib.hid (HH.out.below HB3.out)
        clear hb HLK
        go_wp2_with fail
        refine (awake_any w3 HH3.out).mono ?_
        rintro e w4 ⟨rfl, hb⟩
        have HB4 := Lib.hid (HB3.out.trans (hb.mono HB3.out.size))
        clear hb
        go_wp2
        go_ret
        exact ⟨rfl, HB4.out⟩

theorem walk (w : World) (hH : Held w) (A : Option Addr) (zs : List Int) (c : Nat) (hr : IntsAt w A zs) (hnil : A = none → zs = [] ∧ c = 0) (hlz : zs.length ≤ 9223372036854775807) (hzz : ∀ z ∈ zs, -9223372036854775808 ≤ z ∧ z ≤ 9223372036854775807) (r : Bool) :
    Calls Tryd.prog 4 #[.slice A zs.length c, .bool r] w fun e w' => e = .returned (.bool true) ∧ Below w.heap.size w w' := by
  by_cases hbig : 1000 < zs.length
  · go_enter Tryd.func4, Tryd.ntmps4
    go_wp2_with (go_at_call 6; refine (awake_any _ hH).mono ?_; rintro e w' ⟨rfl, hb⟩)
    go_ret
    exact ⟨rfl, hb⟩
  · exact walk_s w hH A zs zs.length c rfl hr (if r then 1 else 0) r (by cases r <;> simp) (by omega)

set_option maxRecDepth 100000 in
theorem lifted (os : Os) (started : os.Started) (H : Type) (enc : TypeId × Value → H) :
    ReturnsInHanded {} Tryd.checked os 4 .any (fun w args => (Rows.weakSettlesSpec.pre enc Tryd.prog Tryd.f4 [] false w args ∧ laidMetH Tryd.prog laidL w) ∧ sizedMet enc Tryd.prog Tryd.f4 (OpenSpec.ofChange Rows.weakSettlesSpec) false w args) (Rows.weakSettlesSpec.post enc Tryd.prog Tryd.f4 false true false false) := by
  refine returns_laid started (by kernel_rfl) Tryd.func4 #[.slice none 0 0, .bool false] (by kernel_rfl) (World.shaped_of_ZipB (by kernel_rfl) (by kernel_rfl)) (by rw [MakeChecks.laidMetH_plain _ _ _ (by kernel_rfl)]; exact laidMet_laidAll _ (by kernel_rfl) (by kernel_rfl)) (by kernel_rfl) (by kernel_rfl) rfl rfl (by kernel_rfl) ?_ ?_
  · intro ds hds
    rw [show Tryd.f4.params.toList.length = 2 from by kernel_rfl] at hds
    match ds, hds with
    | [d0, d1], _ => rfl
  intro W base args ds p hval hA hH
  rw [Tryd.params4] at hA hval
  obtain ⟨v0, vs0, d0, ds0, p0, q0, hargs, rfl, rfl, h0, r0⟩ := ChangeShapes.trodAll_cons hA
  obtain ⟨v1, vs1, d1, ds1, p1, q1, rfl, rfl, rfl, h1, r1⟩ := ChangeShapes.trodAll_cons r0
  obtain ⟨rfl, rfl, rfl⟩ := ChangeShapes.trodAll_nil r1
  obtain rfl : args = #[v0, v1] := by cases args; simp_all
  obtain ⟨A0, zs0, c0, rfl, hr0, hnil0, hl0, hz0⟩ := open_introw (hval 0 22 v0 rfl rfl) h0
  obtain ⟨x1, rfl, rfl, rfl⟩ := open_bool Tryd.underlying4 (hval 1 4 v1 rfl rfl) h1
  exact walk W hH A0 zs0 c0 hr0 hnil0 hl0 hz0 x1

theorem holds : Rows.WeakSettlesSaid :=
  OpenClaim.holds_of_wide 4 Tryd.f4 rfl rfl rfl rfl rfl rfl rfl ⟨rfl, rfl, rfl, rfl, rfl⟩ rfl rfl rfl rfl rfl (by kernel_rfl) Tryd.func4 (by kernel_rfl)
    (of_decide_eq_true (by kernel_rfl)) (by unfold Func.isWrapper; first | (rw [if_pos (by decide +kernel)]; kernel_rfl) | (rw [if_neg (by decide +kernel)]; exact ⟨rfl, rfl⟩))
    (fun os started H enc _ => lifted os started H enc)

theorem card : Rows.WeakSettlesCardSaid :=
  Claim7.holds_tied_plain_at .later [] [.data, .data, .pinned] true (true, "14469f2c6873348fd6e08c65ca0a8d63d0a72390e6af6706efc1bcb04c7fa5ff") false
    holds (fun _ h => by cases h) (by kernel_rfl) (fun _ h => by cases h) weakSettles_row_tie rfl ⟨rfl, rfl⟩ (by kernel_rfl) rfl
    (fun f fn hf hfn => by
      obtain rfl : f = 4 := Option.some.inj ((show Tryd.prog.funcNamed "parquetry/parquetrylaw13.WeakSettles" = some 4 by kernel_rfl).symm.trans hf) |>.symm
      obtain rfl : fn = Tryd.f4 := (Option.some.inj (Tryd.func4.symm.trans hfn)).symm
      exact ⟨by kernel_rfl, fun j t ht => by
        rw [Tryd.params4] at ht
        have hm : t ∈ [22, 4] := by simpa using Array.mem_of_getElem? ht
        have hall : ([22, 4].all fun u => !Tryd.prog.wantsStandIn u) = true := by kernel_rfl
        exact (show Tryd.prog.wantsStandIn t = false by simpa using List.all_eq_true.1 hall t hm)⟩)
    (by kernel_rfl)
end Go.Proofs.YtmhnhklkomboaaaDoor.WeakSettles
