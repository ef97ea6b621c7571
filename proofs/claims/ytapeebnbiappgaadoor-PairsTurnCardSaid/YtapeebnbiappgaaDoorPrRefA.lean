/-
  Proved here: what parquetryref14's Letter, has, Ahead, becomes, marks return: the plain ones. They leave what was in memory.
-/
import Derived.Test.YtapeebnbiappgaaDoorPbSeq
set_option linter.unusedVariables false
namespace Go.Proofs.YtapeebnbiappgaaDoor.Pb
open Go Go.RowKit Go.Lib Go.Shelf Go.Proofs.YtapeebnbiappgaaDoor.Cl Go.Proofs.YtapeebnbiappgaaDoor.Pr

set_option maxHeartbeats 1000000 in
theorem rletter_any (c : Int) (w : World) : Calls Tryd.prog 72 #[.int .i64 c] w fun e w' => e = .returned (.int .i64 (letZ c)) ∧ w' = w := by
  unfold letZ
  by_cases h0 : c = 0
  · subst h0
    go_enter Tryd.func72, Tryd.ntmps72
    go_wp2
    go_ret
    exact ⟨rfl, rfl⟩
  · rw [if_neg h0]
    have d0 : (c == 0) = false := by simpa using h0
    by_cases h1 : c = 1
    · subst h1
      go_enter Tryd.func72, Tryd.ntmps72
      go_wp2
      go_ret
      exact ⟨rfl, rfl⟩
    · have d1 : (c == 1) = false := by simpa using h1
      by_cases h3 : c = 3
      · subst h3
        go_enter Tryd.func72, Tryd.ntmps72
        go_wp2
        go_ret
        exact ⟨rfl, rfl⟩
      · have d3 : (c == 3) = false := by simpa using h3
        by_cases h6 : c = 6
        · subst h6
          go_enter Tryd.func72, Tryd.ntmps72
          go_wp2
          go_ret
          exact ⟨rfl, rfl⟩
        · have d6 : (c == 6) = false := by simpa using h6
          rw [if_neg (by omega)]
          clear h0 h1 h3 h6
          go_enter Tryd.func72, Tryd.ntmps72
          go_wp2
          go_ret
          exact ⟨rfl, rfl⟩

set_option maxHeartbeats 1000000 in
set_option maxRecDepth 100000 in
theorem rhas_any (A : Option Addr) (zs : List Int) (n c : Nat) (x : Int) (w : World) (hA : IntsAt w A zs) (hl : zs.length = n) (hn : n ≤ 1099511627776) :
    Calls Tryd.prog 50 #[.slice A n c, .int .i64 x] w fun e w' => e = .returned (.bool (hasZ zs x)) ∧ w' = w := by
  have HA := Lib.hid hA
  have HL := Lib.hid hl
  obtain ⟨b, hb⟩ : ∃ b, hasZ zs x = b := ⟨_, rfl⟩
  have HB := Lib.hid hb
  rw [hb]
  clear hA hb hl
  go_enter Tryd.func50, Tryd.ntmps50
  go_wp2_with fail
  go_loopw [5] (fun s5 wx => ∃ k : Nat, k ≤ n ∧ s5 = .int .i64 k ∧ hasZ (zs.take k) x = false ∧ wx = w) (fun s5 _ => n - (RowKit.intOf s5).toNat)
  case atStart => exact ⟨0, Nat.zero_le _, rfl, rfl, rfl⟩
  case round =>
    obtain ⟨k, hk, rfl, hno, rfl⟩ := hrel
    have HNO := Lib.hid hno
    clear hno
    by_cases hlt : k < n
    · have hkz : k < zs.length := by rw [HL.out]; exact hlt
      obtain ⟨g, off, rfl, hc⟩ := HA.out.at_ hkz
      have hs : hasZ (zs.take (k + 1)) x = (hasZ (zs.take k) x || decide (letZ zs[k] = x)) := by rw [List.take_succ_eq_append_getElem hkz, hasZ_snoc]
      have hat := fun h => hasZ_yes (x := x) (List.getElem_mem hkz) h
      obtain ⟨r, hr⟩ : ∃ r, zs[k] = r := ⟨_, rfl⟩
      rw [hr] at hc hs hat
      rw [HNO.out, Bool.false_or] at hs
      have HS := Lib.hid hs
      have HT := Lib.hid hat
      have HLR := Lib.hid (fun (W : World) => rletter_any r W)
      have hk0 : (0 : Int) ≤ (k : Int) := by omega
      have hk1 : (k : Int) < (n : Int) := by omega
      clear hr hs hat hkz
      by_cases hx : letZ r = x
      · have hb2 : b = true := by rw [← HB.out]; exact HT.out hx
        have hbx : (letZ r == x) = true := by simpa using hx
        subst hb2
        clear hx
        generalize letZ r = y at *
        go_wp2_with fail
        refine (HLR.out _).mono ?_
        rintro e w1 ⟨rfl, rfl⟩
        go_wp2
        go_ret
        exact ⟨rfl, rfl⟩
      · have hbx : (letZ r == x) = false := by simpa using hx
        rw [decide_eq_false hx] at HS
        clear hx
        generalize letZ r = y at *
        go_wp2_with fail
        refine (HLR.out _).mono ?_
        rintro e w1 ⟨rfl, rfl⟩
        go_wp2
        go_roundw
        case rel => exact ⟨k + 1, by omega, by go_num, HS.out, by first | rfl | trivial⟩
        case measure => simp [RowKit.intOf]; omega
    · have e : zs.take k = zs := List.take_of_length_le (by rw [HL.out]; omega)
      have hb2 : b = false := by rw [← HB.out, ← e]; exact HNO.out
      have hk1 : (n : Int) ≤ (k : Int) := by omega
      subst hb2
      clear e
      obtain rfl : k = n := by omega
      go_wp2_with fail
      go_ret
      exact ⟨rfl, rfl⟩

set_option maxHeartbeats 1000000 in
set_option maxRecDepth 100000 in
theorem rahead_any (A : Option Addr) (zs : List Int) (n c : Nat) (s : Int) (w : World) (hA : IntsAt w A zs) (hl : zs.length = n) (hn : n ≤ 1099511627776) :
    Calls Tryd.prog 51 #[.slice A n c, .int .i64 s] w fun e w' => e = .returned (.int .i64 (aheadZ zs s)) ∧ w' = w := by
  have HA := Lib.hid hA
  have HL := Lib.hid hl
  obtain ⟨b, hb⟩ : ∃ b, aheadZ zs s = b := ⟨_, rfl⟩
  have HB := Lib.hid hb
  rw [hb]
  clear hA hb hl
  go_enter Tryd.func51, Tryd.ntmps51
  go_wp2_with fail
  go_loopw [5, 6] (fun s5 s6 wx => ∃ k : Nat, k ≤ n ∧ s5 = .int .i64 (aheadZ (zs.take k) s) ∧ s6 = .int .i64 k ∧ wx = w) (fun _ s6 _ => n - (RowKit.intOf s6).toNat)
  case atStart => exact ⟨0, Nat.zero_le _, rfl, rfl, rfl⟩
  case round =>
    obtain ⟨k, hk, rfl, rfl, rfl⟩ := hrel
    by_cases hlt : k < n
    · have hkz : k < zs.length := by rw [HL.out]; exact hlt
      obtain ⟨g, off, rfl, hc⟩ := HA.out.at_ hkz
      have hs : aheadZ (zs.take (k + 1)) s = if 0 ≤ letZ zs[k] then letZ zs[k] else aheadZ (zs.take k) s := by rw [List.take_succ_eq_append_getElem hkz, aheadZ_snoc]
      obtain ⟨r, hr⟩ : ∃ r, zs[k] = r := ⟨_, rfl⟩
      rw [hr] at hc hs
      have HS := Lib.hid hs
      have HLR := Lib.hid (fun (W : World) => rletter_any r W)
      have hk0 : (0 : Int) ≤ (k : Int) := by omega
      have hk1 : (k : Int) < (n : Int) := by omega
      clear hr hs hkz
      generalize aheadZ (zs.take k) s = o at *
      by_cases hx : 0 ≤ letZ r
      · rw [if_pos hx] at HS
        have hbx : decide (0 ≤ letZ r) = true := decide_eq_true hx
        generalize letZ r = y at *
        go_wp2_with fail
        refine (HLR.out _).mono ?_
        rintro e w1 ⟨rfl, rfl⟩
        go_wp2_with fail
        refine (HLR.out _).mono ?_
        rintro e w1 ⟨rfl, rfl⟩
        go_wp2
        go_roundw
        case rel => exact ⟨k + 1, by omega, by rw [HS.out], by go_num, by first | rfl | trivial⟩
        case measure => simp [RowKit.intOf]; omega
      · rw [if_neg hx] at HS
        have hbx : decide (0 ≤ letZ r) = false := decide_eq_false hx
        generalize letZ r = y at *
        go_wp2_with fail
        refine (HLR.out _).mono ?_
        rintro e w1 ⟨rfl, rfl⟩
        go_wp2
        go_roundw
        case rel => exact ⟨k + 1, by omega, by rw [HS.out], by go_num, by first | rfl | trivial⟩
        case measure => simp [RowKit.intOf]; omega
    · obtain rfl : k = n := by omega
      have e : zs.take k = zs := List.take_of_length_le (by rw [HL.out]; omega)
      have HB2 := Lib.hid (show aheadZ (zs.take k) s = b from by rw [e]; exact HB.out)
      clear e
      go_wp2_with fail
      go_ret
      rw [HB2.out]
      exact ⟨rfl, rfl⟩

set_option maxHeartbeats 1000000 in
set_option maxRecDepth 100000 in
theorem rmarks_any (A : Option Addr) (own : List Int) (n c a t : Nat) (w : World) (hA : IntsAt w A own) (hl : own.length = n) (hn : n ≤ 1099511627776) (ha : a < n) (ht : t < n) :
    Calls Tryd.prog 33 #[.slice A n c, .int .i64 a, .int .i64 t] w fun e w' => e = .returned (.bool (marksZ own a t)) ∧ w' = w := by
  have HA := Lib.hid hA
  have HL := Lib.hid hl
  obtain ⟨b, hb⟩ : ∃ b, marksZ own a t = b := ⟨_, rfl⟩
  have HB := Lib.hid hb
  have e1 : IntKind.i64.wrap ((a : Int) + 1) = (a : Int) + 1 := IntWalk.i64_in _ (by omega)
  rw [hb]
  clear hA hb hl
  go_enter Tryd.func33, Tryd.ntmps33
  go_wp2_with fail
  go_loopw [7] (fun s7 wx => ∃ i : Nat, a < i ∧ (i ≤ t + 1 ∨ i = a + 1) ∧ s7 = .int .i64 i ∧ (∀ j, a < j → j < i → own[j]? = some 8) ∧ wx = w) (fun s7 _ => n + 1 - (RowKit.intOf s7).toNat)
  case atStart => exact ⟨a + 1, by omega, .inr rfl, by go_num, fun j h1 h2 => by omega, rfl⟩
  case round =>
    obtain ⟨i, hai, hit, rfl, hall, rfl⟩ := hrel
    have HALL := Lib.hid hall
    clear hall
    have e2 : IntKind.i64.wrap ((i : Int) + 1) = (i : Int) + 1 := IntWalk.i64_in _ (by omega)
    by_cases hlt : i ≤ t
    · have hiz : i < own.length := by rw [HL.out]; omega
      obtain ⟨g, off, rfl, hc⟩ := HA.out.at_ hiz
      have HZ := Lib.hid (List.getElem?_eq_getElem hiz)
      generalize own[i] = z at *
      have hk0 : (0 : Int) ≤ (i : Int) := by omega
      have hk1 : (i : Int) < (n : Int) := by omega
      have hd : decide ((i : Int) ≤ (t : Int)) = true := decide_eq_true (by omega)
      have hdi : decide (i ≤ t) = true := decide_eq_true hlt
      clear hiz
      by_cases hz : z = 8
      · subst hz
        go_wp2
        go_roundw
        case rel => exact ⟨i + 1, by omega, .inl (by omega), by go_num, fun j h1 h2 => by
          by_cases e : j = i
          · rw [e]; exact HZ.out
          · exact HALL.out j h1 (by omega), by first | rfl | trivial⟩
        case measure => simp [RowKit.intOf]; omega
      · have hb8 : (z != 8) = true := bne_iff_ne.2 hz
        have hb2 : b = false := by rw [← HB.out]; exact marksZ_no (by rw [HL.out]; exact ht) hai hlt HZ.out hz
        subst hb2
        clear hz
        go_wp2
        go_ret
        exact ⟨rfl, rfl⟩
    · have hd : decide ((i : Int) ≤ (t : Int)) = false := decide_eq_false (by omega)
      have hdi : decide (i ≤ t) = false := decide_eq_false hlt
      by_cases hat : a < t
      · have hb2 : b = true := by rw [← HB.out]; exact (marksZ_iff (by rw [HL.out]; exact ht)).2 ⟨hat, fun j h1 h2 => HALL.out j h1 (by omega)⟩
        have hdt : decide ((a : Int) < (t : Int)) = true := decide_eq_true (by omega)
        have hdn : decide (a < t) = true := decide_eq_true hat
        have hdp : a < t := hat
        subst hb2
        clear hlt hit
        go_wp2
        go_ret
        exact ⟨rfl, rfl⟩
      · have hb2 : b = false := by rw [← HB.out]; exact marksZ_short (by omega)
        have hdt : decide ((a : Int) < (t : Int)) = false := decide_eq_false (by omega)
        subst hb2
        clear hlt hit
        go_wp2
        go_ret
        exact ⟨rfl, rfl⟩
end Go.Proofs.YtapeebnbiappgaaDoor.Pb
