/-
  Proved here: what the document's letter and number return, for a row of ints: the letter ahead of a place, whether an EN stands next to the run of ET that has a place. They change nothing.
-/
import Derived.Test.YtmhnhklkomboaaaDoorWkRefP
import Derived.Test.YtmhnhklkomboaaaDoorClInts
import Derived.LoopTactic
import Derived.IntWalk
set_option linter.unusedVariables false
namespace Go.Proofs.YtmhnhklkomboaaaDoor.Wk
open Go Go.RowKit Go.Lib Go.Proofs.YtmhnhklkomboaaaDoor.Cl

theorem ints_mid {w : World} {A : Option Addr} {L d r : List Int} {x : Int} {k : Nat} (h : IntsAt w A L) (hL : L = d ++ x :: r) (hk : d.length = k) :
    ∃ b off, A = some ⟨b, off, none⟩ ∧ w.cell? ⟨b, off + k, none⟩ = some (.int .i64 x) := by
  subst hL hk
  obtain ⟨b, off, e, hc⟩ := h.at_ (k := d.length) (by simp)
  exact ⟨b, off, e, by rw [hc]; simp⟩

set_option maxHeartbeats 2000000 in
set_option maxRecDepth 100000 in
theorem letter_any (A : Option Addr) (L pre post : List Int) (n c a : Nat) (s : Int) (w : World) (hR : IntsAt w A L) (hl : L.length = n) (hn : n ≤ 1099511627776) (hL : L = pre ++ post) (ha : pre.length = a) :
    Calls Tryd.prog 23 #[.slice A n c, .int .i64 a, .int .i64 s] w fun e w' => e = .returned (.int .i64 (letA s pre)) ∧ w' = w := by
  have HR := Lib.hid hR
  have HA := Lib.hid ha
  have HL := Lib.hid hL
  have han : a ≤ n := by rw [← ha, ← hl, hL]; simp
  clear hR hl hL ha
  have e0 : IntKind.i64.wrap ((a : Int) - 1) = (a : Int) - 1 := IntWalk.i64_in _ (by omega)
  go_enter Tryd.func23, Tryd.ntmps23
  go_wp2_with fail
  clear e0
  go_loopw [7] (fun s7 wx => ∃ (p q : List Int) (k : Nat), p.length = k ∧ k ≤ a ∧ pre = p ++ q ∧ s7 = .int .i64 ((k : Int) - 1) ∧ wx = w ∧ letA s pre = letA s p) (fun s7 _ => (RowKit.intOf s7 + 1).toNat)
  case atStart => exact ⟨pre, [], a, HA.out, Nat.le_refl _, by simp, rfl, rfl, rfl⟩
  case round =>
    obtain ⟨p, q, k, hk, hka, hpq, rfl, rfl, hle⟩ := hrel
    have HLE := Lib.hid hle
    rcases List.eq_nil_or_concat p with rfl | ⟨p, x, rfl⟩
    · simp only [List.length_nil] at hk
      subst hk
      clear hle hpq
      go_wp2
      go_ret
      exact ⟨by rw [HLE.out]; rfl, rfl⟩
    · rw [List.concat_eq_append] at *
      obtain ⟨j, hj⟩ : ∃ j, p.length = j := ⟨_, rfl⟩
      have HJ := Lib.hid hj
      obtain rfl : k = j + 1 := by simp [hj] at hk; omega
      obtain ⟨b, off, rfl, hc⟩ := ints_mid (d := p) (x := x) (r := q ++ post) (k := j) HR.out (by rw [HL.out, hpq]; simp) hj
      have HPQ := Lib.hid (show pre = p ++ ([x] ++ q) from by rw [hpq]; simp)
      rw [letA_snoc] at hle
      have HL2 := Lib.hid hle
      have hjn : j < n := by omega
      clear hle hk hj hpq HLE
      have e1 : ((j + 1 : Nat) : Int) - 1 = (j : Int) := by omega
      rw [e1]
      clear e1
      have e3 : IntKind.i64.wrap ((j : Int) - 1) = (j : Int) - 1 := IntWalk.i64_in _ (by omega)
      by_cases h0 : x = 0
      · subst h0
        go_wp2
        go_ret
        exact ⟨by rw [HL2.out]; rfl, rfl⟩
      by_cases h1 : x = 1
      · subst h1
        go_wp2
        go_ret
        exact ⟨by rw [HL2.out]; rfl, rfl⟩
      by_cases h2 : x = 2
      · subst h2
        go_wp2
        go_ret
        exact ⟨by rw [HL2.out]; rfl, rfl⟩
      have q0 : (x == 0) = false := by simpa using h0
      have q1 : (x == 1) = false := by simpa using h1
      have q2 : (x == 2) = false := by simpa using h2
      have HL3 := Lib.hid (show letA s pre = letA s p from by rw [HL2.out, if_neg (by simp [let3, h0, h1, h2])])
      clear h0 h1 h2
      go_wp2
      go_roundw
      case rel => exact ⟨p, [x] ++ q, j, HJ.out, by omega, HPQ.out, by go_num, by first | rfl | trivial, HL3.out⟩
      case measure => (simp [RowKit.intOf]; try omega)

set_option maxHeartbeats 4000000 in
set_option maxRecDepth 100000 in
theorem number_any (A : Option Addr) (L pre post : List Int) (x : Int) (n c a : Nat) (w : World) (hR : IntsAt w A L) (hl : L.length = n) (hn : n ≤ 1099511627776) (hL : L = pre ++ x :: post) (ha : pre.length = a) :
    Calls Tryd.prog 24 #[.slice A n c, .int .i64 a] w fun e w' => e = .returned (.bool (backN pre || aheadN post)) ∧ w' = w := by
  have HR := Lib.hid hR
  have HA := Lib.hid ha
  have HL := Lib.hid hL
  have HLL := Lib.hid hl
  have han : a < n := by rw [← ha, ← hl, hL]; simp
  clear hR hl hL ha
  go_enter Tryd.func24, Tryd.ntmps24
  go_wp2_with fail
  go_loopw [5] (fun s5 wx => ∃ (p q : List Int) (k : Nat), p.length = k ∧ k ≤ a ∧ pre = p ++ q ∧ s5 = .int .i64 k ∧ wx = w ∧ backN pre = backN p) (fun s5 _ => (RowKit.intOf s5).toNat)
  case atStart => exact ⟨pre, [], a, HA.out, Nat.le_refl _, by simp, rfl, rfl, rfl⟩
  case round =>
    obtain ⟨p, q, k, hk, hka, hpq, rfl, rfl, hle⟩ := hrel
    have HBK := Lib.hid hle
    clear hle
    rcases List.eq_nil_or_concat p with rfl | ⟨p, y, rfl⟩
    · simp only [List.length_nil] at hk
      subst hk
      clear hpq
      rw [show ((0 : Nat) : Int) = 0 from rfl]
      go_wp2_with fail
      go_loopw [6] (fun s6 wx => ∃ (q1 q2 : List Int) (t : Nat), a + q1.length = t ∧ post = q1 ++ q2 ∧ s6 = .int .i64 t ∧ wx = wr ∧ aheadN post = aheadN q2) (fun s6 _ => n - (RowKit.intOf s6).toNat)
      case atStart => exact ⟨[], post, a, rfl, rfl, rfl, rfl, rfl⟩
      case round =>
        obtain ⟨q1, q2, t, ht, hpost, rfl, rfl, hah⟩ := hrel
        have HT := Lib.hid ht
        have HPO := Lib.hid hpost
        have HAH := Lib.hid hah
        have hnt : t + 1 + q2.length = n := by have := HLL.out; rw [HL.out, hpost] at this; simp [HA.out] at this; omega
        have e5 : IntKind.i64.wrap ((t : Int) + 1) = (t : Int) + 1 := IntWalk.i64_in _ (by omega)
        clear ht hah
        cases q2 with
        | nil =>
          obtain rfl : n = t + 1 := by simp at hnt; omega
          clear hpost hnt
          go_wp2
          go_ret
          exact ⟨by rw [HBK.out, HAH.out, backN_nil, aheadN_nil]; rfl, rfl⟩
        | cons z q2 =>
          obtain ⟨b, off, rfl, hcz⟩ := ints_mid (d := pre ++ [x] ++ q1) (x := z) (r := q2) (k := t + 1) HR.out (by rw [HL.out, hpost]; simp) (by simp [HA.out]; have := HT.out; omega)
          have hlt : t + 1 < n := by simp at hnt; omega
          clear hnt hpost
          by_cases hz : z = 5
          · subst hz
            have HAH2 := Lib.hid (show aheadN post = aheadN q2 from by rw [HAH.out, aheadN_cons, if_pos rfl])
            go_wp2
            go_roundw
            case rel => first | exact ⟨q1 ++ [5], q2, t + 1, by simp; have := HT.out; omega, by rw [HPO.out]; simp, by go_num, by first | rfl | trivial, HAH2.out⟩ | exact ⟨q1 ++ [5], q2, by rw [HPO.out]; simp, by simp; have := HT.out; omega, HAH2.out⟩
            case measure => (simp [RowKit.intOf]; try omega)
          · have qz : (z == 5) = false := by simpa using hz
            have HAH2 := Lib.hid (show aheadN post = decide (z = 3) from by rw [HAH.out, aheadN_cons, if_neg hz])
            clear hz
            by_cases hz3 : z = 3
            · subst hz3
              go_wp2
              go_ret
              exact ⟨by rw [HBK.out, HAH2.out]; simp, rfl⟩
            · have qz3 : (z == 3) = false := by simpa using hz3
              have HZ3 := Lib.hid hz3
              clear hz3
              go_wp2
              go_ret
              exact ⟨by rw [HBK.out, HAH2.out, backN_nil, decide_eq_false HZ3.out]; rfl, rfl⟩
    · rw [List.concat_eq_append] at *
      obtain ⟨j, hj⟩ : ∃ j, p.length = j := ⟨_, rfl⟩
      have HJ := Lib.hid hj
      obtain rfl : k = j + 1 := by simp [hj] at hk; omega
      obtain ⟨b, off, rfl, hcy⟩ := ints_mid (d := p) (x := y) (r := q ++ x :: post) (k := j) HR.out (by rw [HL.out, hpq]; simp) hj
      have HPQ := Lib.hid (show pre = p ++ ([y] ++ q) from by rw [hpq]; simp)
      have e1 : IntKind.i64.wrap (((j + 1 : Nat) : Int) - 1) = (j : Int) := by rw [show ((j + 1 : Nat) : Int) - 1 = (j : Int) from by omega]; exact IntWalk.i64_in _ (by omega)
      have e2 : IntKind.i64.wrap ((j : Int) + 1 - 1) = (j : Int) := by rw [show (j : Int) + 1 - 1 = (j : Int) from by omega]; exact IntWalk.i64_in _ (by omega)
      have hjn : j + 1 < n := by omega
      clear hk hj hpq
      by_cases hy : y = 5
      · subst hy
        have HB2 := Lib.hid (show backN pre = backN p from by rw [HBK.out, backN_snoc, if_pos rfl])
        go_wp2
        go_roundw
        case rel => exact ⟨p, [5] ++ q, j, HJ.out, by omega, HPQ.out, by go_num, by first | rfl | trivial, HB2.out⟩
        case measure => (simp [RowKit.intOf]; try omega)
      · have qy : (y == 5) = false := by simpa using hy
        have HY := Lib.hid hy
        clear hy
        go_wp2_with fail
        go_loopw [6] (fun s6 wx => ∃ (q1 q2 : List Int) (t : Nat), a + q1.length = t ∧ post = q1 ++ q2 ∧ s6 = .int .i64 t ∧ wx = wr ∧ aheadN post = aheadN q2) (fun s6 _ => n - (RowKit.intOf s6).toNat)
        case atStart => exact ⟨[], post, a, rfl, rfl, rfl, rfl, rfl⟩
        case round =>
          obtain ⟨q1, q2, t, ht, hpost, rfl, rfl, hah⟩ := hrel
          have HT := Lib.hid ht
          have HPO := Lib.hid hpost
          have HAH := Lib.hid hah
          have hnt : t + 1 + q2.length = n := by have := HLL.out; rw [HL.out, hpost] at this; simp [HA.out] at this; omega
          have e5 : IntKind.i64.wrap ((t : Int) + 1) = (t : Int) + 1 := IntWalk.i64_in _ (by omega)
          clear ht hah
          cases q2 with
          | nil =>
            obtain rfl : n = t + 1 := by simp at hnt; omega
            clear hpost hnt
            have HBK2 := Lib.hid (show backN pre = decide (y = 3) from by rw [HBK.out, backN_snoc, if_neg HY.out])
            by_cases hy3 : y = 3
            · subst hy3
              go_wp2
              go_ret
              exact ⟨by rw [HBK2.out]; rfl, rfl⟩
            · have qy3 : (y == 3) = false := by simpa using hy3
              have HY3 := Lib.hid hy3
              clear hy3
              go_wp2
              go_ret
              exact ⟨by rw [HBK2.out, HAH.out, aheadN_nil, decide_eq_false HY3.out]; rfl, rfl⟩
          | cons z q2 =>
            obtain ⟨b', off', hbo, hcz⟩ := ints_mid (d := pre ++ [x] ++ q1) (x := z) (r := q2) (k := t + 1) HR.out (by rw [HL.out, hpost]; simp) (by simp [HA.out]; have := HT.out; omega)
            injection hbo with hbo
            injection hbo with hb1 hb2
            subst hb1 hb2
            have hlt : t + 1 < n := by simp at hnt; omega
            clear hnt hpost
            by_cases hz : z = 5
            · subst hz
              have HAH2 := Lib.hid (show aheadN post = aheadN q2 from by rw [HAH.out, aheadN_cons, if_pos rfl])
              go_wp2
              go_roundw
              case rel => first | exact ⟨q1 ++ [5], q2, t + 1, by simp; have := HT.out; omega, by rw [HPO.out]; simp, by go_num, by first | rfl | trivial, HAH2.out⟩ | exact ⟨q1 ++ [5], q2, by rw [HPO.out]; simp, by simp; have := HT.out; omega, HAH2.out⟩
              case measure => (simp [RowKit.intOf]; try omega)
            · have qz : (z == 5) = false := by simpa using hz
              have HAH2 := Lib.hid (show aheadN post = decide (z = 3) from by rw [HAH.out, aheadN_cons, if_neg hz])
              clear hz
              have HBK2 := Lib.hid (show backN pre = decide (y = 3) from by rw [HBK.out, backN_snoc, if_neg HY.out])
              by_cases hy3 : y = 3
              · subst hy3
                go_wp2
                go_ret
                exact ⟨by rw [HBK2.out]; rfl, rfl⟩
              · have qy3 : (y == 3) = false := by simpa using hy3
                have HY3 := Lib.hid hy3
                clear hy3
                by_cases hz3 : z = 3
                · subst hz3
                  go_wp2
                  go_ret
                  exact ⟨by rw [HBK2.out, HAH2.out]; simp, rfl⟩
                · have qz3 : (z == 3) = false := by simpa using hz3
                  have HZ3 := Lib.hid hz3
                  clear hz3
                  go_wp2
                  go_ret
                  exact ⟨by rw [HBK2.out, HAH2.out, decide_eq_false HY3.out, decide_eq_false HZ3.out]; rfl, rfl⟩
end Go.Proofs.YtmhnhklkomboaaaDoor.Wk
