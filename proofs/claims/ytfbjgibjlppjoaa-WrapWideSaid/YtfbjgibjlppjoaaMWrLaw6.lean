/-
  Proved here: what parquetrylaw17.WrapWide returns for no clusters, for more than it asks of, and so for every row of clusters and every number: true; for any program of wrapping that keeps to the plain one (BlankOk, ShownOk, LinesOk). It leaves what was in memory.
-/
import Derived.Test.YtfbjgibjlppjoaaMWrLaw5
set_option linter.unusedVariables false
namespace Go.Proofs.Ytfbjgibjlppjoaa.Wr
open Go Go.RowKit Go.Lib Go.Proofs.Ytfbjgibjlppjoaa.Ku Go.Proofs.Ytfbjgibjlppjoaa.Arr

set_option maxHeartbeats 4000000 in
set_option maxRecDepth 100000 in
theorem wide_none (HSH : ShownOk) (HLN : LinesOk) (A : Option Addr) (c : Nat) (s : Int) (w : World) (hnil : A = none → c = 0) (hs : s ≤ 9223372036854775807) (hs1 : 1 ≤ s) :
    Calls Try.prog 7 #[.slice A 0 c, .int .i64 s] w fun e w' => e = .returned (.bool true) ∧ Below w.heap.size w w' := by
  have HA := Lib.hid (fun V => awake_of HLN V)
  have d1 : decide (s < 1) = false := decide_eq_false (by omega)
  have hL1 := HLN A [] 0 c s 1 w (.inl rfl) rfl (by omega) (by omega) hs
  rw [linesP_one (.inr shownN_nil), shownN_nil] at hL1
  have HL1 := Lib.hid hL1
  have hS1 := fun V => HSH A [] 0 c V (.inl rfl) rfl (by omega)
  rw [shownN_nil] at hS1
  have HS1 := Lib.hid hS1
  have HMO := Lib.hid (fun (A' : Option Addr) (cc : Nat) V => (show Calls Try.prog 21 #[.slice A' 0 cc, .int .i64 s] V fun e' w' => e' = .returned (.bool false) ∧ w' = V from by
    have h := rmore_any A' [] 0 cc s V (.inl rfl) rfl (by omega) hs
    rw [moreK_nil] at h
    exact h))
  clear HLN HSH hL1 hS1
  cases A with
  | none =>
    obtain rfl := hnil rfl
    clear hnil
    go_enter Try.func7, Try.ntmps7
    go_wp2_with fail
    refine HL1.out.mono ?_
    rintro e w3 ⟨A3, c3, rfl, ho3, hb3⟩
    have hp3 := li_own (l := [⟨0, 0, 0, 1, 0⟩]) rfl ho3
    have HB3 := Lib.hid hb3
    obtain ⟨gp, op, rfl, hgp, -⟩ := hp3.at_ (k := 0) (by simp)
    have HP3 := Lib.hid hp3
    clear ho3 hb3 HL1 hp3
    go_wp2_with fail
    refine (HS1.out _).mono ?_
    rintro e w4 ⟨rfl, hb4⟩
    have HP4 := Lib.hid (HP3.out.below hb4)
    have HB4 := Lib.hid (HB3.out.trans (hb4.mono HB3.out.size))
    clear hb4 HS1 HP3 HB3
    go_wp2_with fail
    refine (HMO.out _ _ _).mono ?_
    rintro e w5 ⟨rfl, rfl⟩
    go_wp2_with fail
    go_loopw [7] (fun s7 wx => s7 = .int .i64 0 ∧ Below w5.heap.size w5 wx) (fun _ _ => 0)
    case atStart => exact ⟨rfl, Below.refl _ _⟩
    case round =>
      obtain ⟨rfl, hb⟩ := hrel
      obtain ⟨gp', op', e, hgp', q0, q1, q2, q3, q4⟩ := (HP4.out.below hb).at_ (k := 0) (by simp)
      injection e with e
      injection e with e1 e2
      subst e1 e2
      simp only [Nat.zero_mul, Nat.add_zero, List.getElem_cons_zero] at q0 q1 q2 q3 q4
      have HBW := Lib.hid (HB4.out.trans (hb.mono HB4.out.size))
      have HBWV := Lib.hid ((HB4.out.trans (hb.mono HB4.out.size)).alloc (HB4.out.trans (hb.mono HB4.out.size)).size (.cells #[.int .i64 0, .int .i64 0, .int .i64 0, .int .i64 1, .int .i64 0] 36))
      clear hb
      go_wp2_with fail
      refine (HMO.out _ _ _).mono ?_
      rintro e w6 ⟨rfl, rfl⟩
      go_wp2_with fail
      refine (HA.out _).mono ?_
      rintro e w7 ⟨rfl, hb7⟩
      go_wp2_with fail
      go_ret
      exact ⟨rfl, HBWV.out.trans (hb7.mono HBWV.out.size)⟩
  | some ad =>
    clear hnil
    rcases c with _ | c
    · go_enter Try.func7, Try.ntmps7
      go_wp2_with fail
      refine HL1.out.mono ?_
      rintro e w3 ⟨A3, c3, rfl, ho3, hb3⟩
      have hp3 := li_own (l := [⟨0, 0, 0, 1, 0⟩]) rfl ho3
      have HB3 := Lib.hid hb3
      obtain ⟨gp, op, rfl, hgp, -⟩ := hp3.at_ (k := 0) (by simp)
      have HP3 := Lib.hid hp3
      clear ho3 hb3 HL1 hp3
      go_wp2_with fail
      refine (HS1.out _).mono ?_
      rintro e w4 ⟨rfl, hb4⟩
      have HP4 := Lib.hid (HP3.out.below hb4)
      have HB4 := Lib.hid (HB3.out.trans (hb4.mono HB3.out.size))
      clear hb4 HS1 HP3 HB3
      go_wp2_with fail
      refine (HMO.out _ _ _).mono ?_
      rintro e w5 ⟨rfl, rfl⟩
      go_wp2_with fail
      go_loopw [7] (fun s7 wx => s7 = .int .i64 0 ∧ Below w5.heap.size w5 wx) (fun _ _ => 0)
      case atStart => exact ⟨rfl, Below.refl _ _⟩
      case round =>
        obtain ⟨rfl, hb⟩ := hrel
        obtain ⟨gp', op', e, hgp', q0, q1, q2, q3, q4⟩ := (HP4.out.below hb).at_ (k := 0) (by simp)
        injection e with e
        injection e with e1 e2
        subst e1 e2
        simp only [Nat.zero_mul, Nat.add_zero, List.getElem_cons_zero] at q0 q1 q2 q3 q4
        have HBW := Lib.hid (HB4.out.trans (hb.mono HB4.out.size))
        have HBWV := Lib.hid ((HB4.out.trans (hb.mono HB4.out.size)).alloc (HB4.out.trans (hb.mono HB4.out.size)).size (.cells #[.int .i64 0, .int .i64 0, .int .i64 0, .int .i64 1, .int .i64 0] 36))
        clear hb
        go_wp2_with fail
        refine (HMO.out _ _ _).mono ?_
        rintro e w6 ⟨rfl, rfl⟩
        go_wp2_with fail
        refine (HA.out _).mono ?_
        rintro e w7 ⟨rfl, hb7⟩
        go_wp2_with fail
        go_ret
        exact ⟨rfl, HBWV.out.trans (hb7.mono HBWV.out.size)⟩
    · go_enter Try.func7, Try.ntmps7
      go_wp2_with fail
      refine HL1.out.mono ?_
      rintro e w3 ⟨A3, c3, rfl, ho3, hb3⟩
      have hp3 := li_own (l := [⟨0, 0, 0, 1, 0⟩]) rfl ho3
      have HB3 := Lib.hid hb3
      obtain ⟨gp, op, rfl, hgp, -⟩ := hp3.at_ (k := 0) (by simp)
      have HP3 := Lib.hid hp3
      clear ho3 hb3 HL1 hp3
      go_wp2_with fail
      refine (HS1.out _).mono ?_
      rintro e w4 ⟨rfl, hb4⟩
      have HP4 := Lib.hid (HP3.out.below hb4)
      have HB4 := Lib.hid (HB3.out.trans (hb4.mono HB3.out.size))
      clear hb4 HS1 HP3 HB3
      go_wp2_with fail
      refine (HMO.out _ _ _).mono ?_
      rintro e w5 ⟨rfl, rfl⟩
      go_wp2_with fail
      go_loopw [7] (fun s7 wx => s7 = .int .i64 0 ∧ Below w5.heap.size w5 wx) (fun _ _ => 0)
      case atStart => exact ⟨rfl, Below.refl _ _⟩
      case round =>
        obtain ⟨rfl, hb⟩ := hrel
        obtain ⟨gp', op', e, hgp', q0, q1, q2, q3, q4⟩ := (HP4.out.below hb).at_ (k := 0) (by simp)
        injection e with e
        injection e with e1 e2
        subst e1 e2
        simp only [Nat.zero_mul, Nat.add_zero, List.getElem_cons_zero] at q0 q1 q2 q3 q4
        have HBW := Lib.hid (HB4.out.trans (hb.mono HB4.out.size))
        have HBWV := Lib.hid ((HB4.out.trans (hb.mono HB4.out.size)).alloc (HB4.out.trans (hb.mono HB4.out.size)).size (.cells #[.int .i64 0, .int .i64 0, .int .i64 0, .int .i64 1, .int .i64 0] 36))
        clear hb
        go_wp2_with fail
        refine (HMO.out _ _ _).mono ?_
        rintro e w6 ⟨rfl, rfl⟩
        go_wp2_with fail
        refine (HA.out _).mono ?_
        rintro e w7 ⟨rfl, hb7⟩
        go_wp2_with fail
        go_ret
        exact ⟨rfl, HBWV.out.trans (hb7.mono HBWV.out.size)⟩

set_option maxHeartbeats 1000000 in
set_option maxRecDepth 100000 in
theorem wide_over (HLN : LinesOk) (A : Option Addr) (n c : Nat) (s : Int) (w : World) (h : 200 < n ∨ s < 1) :
    Calls Try.prog 7 #[.slice A n c, .int .i64 s] w fun e w' => e = .returned (.bool true) ∧ Below w.heap.size w w' := by
  have HA := Lib.hid (fun V => awake_of HLN V)
  by_cases h1 : 200 < n
  · have d0 : decide ((200 : Int) < (n : Int)) = true := decide_eq_true (by omega)
    have e0 : decide (200 < n) = true := decide_eq_true h1
    clear HLN h
    go_enter Try.func7, Try.ntmps7
    go_wp2_with fail
    refine (HA.out _).mono ?_
    rintro e w1 ⟨rfl, hb1⟩
    go_wp2_with fail
    go_ret
    exact ⟨rfl, hb1⟩
  · have d0 : decide ((200 : Int) < (n : Int)) = false := decide_eq_false (by omega)
    have e0 : decide (200 < n) = false := decide_eq_false h1
    have d1 : decide (s < 1) = true := decide_eq_true (by omega)
    clear HLN h
    go_enter Try.func7, Try.ntmps7
    go_wp2_with fail
    refine (HA.out _).mono ?_
    rintro e w1 ⟨rfl, hb1⟩
    go_wp2_with fail
    go_ret
    exact ⟨rfl, hb1⟩
theorem wide_all (HBL : BlankOk) (HSH : ShownOk) (HLN : LinesOk) (A : Option Addr) (l : List C6) (n c : Nat) (s : Int) (w : World) (hR : CuAt w A l) (hl : l.length = n) (hnil : A = none → l = [] ∧ c = 0) (hc : n ≤ c) (hs : s ≤ 9223372036854775807) :
    Calls Try.prog 7 #[.slice A n c, .int .i64 s] w fun e w' => e = .returned (.bool true) ∧ Below w.heap.size w w' := by
  by_cases h : 200 < n ∨ s < 1
  · exact wide_over HLN A n c s w h
  · rcases Nat.eq_zero_or_pos n with rfl | h0
    · exact wide_none HSH HLN A c s w (fun e => (hnil e).2) hs (by omega)
    · exact wide_law HBL HSH HLN A l n c s w hR hl hc hs h0 (by omega) (by omega)
end Go.Proofs.Ytfbjgibjlppjoaa.Wr
