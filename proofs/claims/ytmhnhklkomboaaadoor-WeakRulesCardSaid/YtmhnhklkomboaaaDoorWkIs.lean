/-
  Proved here: what slices.Index, slices.Contains and weak's isOf return, for a row of ints of at most 2^40: whether the number is in it. They change nothing.
-/
import Derived.Test.YtmhnhklkomboaaaDoorClInts
import Derived.LoopTactic
import Derived.IntWalk
set_option linter.unusedVariables false
namespace Go.Proofs.YtmhnhklkomboaaaDoor.Wk
open Go Go.RowKit Go.Lib Go.Proofs.YtmhnhklkomboaaaDoor.Cl

set_option maxHeartbeats 1000000 in
set_option maxRecDepth 100000 in
theorem index_any (A : Option Addr) (zs : List Int) (n c : Nat) (z : Int) (w : World) (hR : IntsAt w A zs) (hl : zs.length = n) (hn : n ≤ 1099511627776) :
    Calls Tryd.prog 42 #[.slice A n c, .int .i64 z] w fun e w' => (∃ i : Int, e = .returned (.int .i64 i) ∧ decide (0 ≤ i) = decide (z ∈ zs)) ∧ w' = w := by
  have HR := Lib.hid hR
  have HL := Lib.hid hl
  clear hR hl
  go_enter Tryd.func42, Tryd.ntmps42
  go_wp2_with fail
  go_loopw [8] (fun s8 wx => ∃ k : Nat, k ≤ n ∧ s8 = .int .i64 k ∧ wx = w ∧ z ∉ zs.take k) (fun s8 _ => n - (RowKit.intOf s8).toNat)
  case atStart => exact ⟨0, Nat.zero_le _, rfl, rfl, by simp⟩
  case round =>
    obtain ⟨k, hk, rfl, rfl, hno⟩ := hrel
    have HNO := Lib.hid hno
    clear hno
    by_cases hlt : k < n
    · have hkz : k < zs.length := by rw [HL.out]; exact hlt
      obtain ⟨b, off, rfl, hc⟩ := HR.out.at_ hkz
      obtain ⟨x, hx⟩ : ∃ x, zs[k] = x := ⟨_, rfl⟩
      have HX := Lib.hid hx
      rw [hx] at hc
      clear hx
      by_cases he : z = x
      · have hb : (z == x) = true := by simpa using he
        have HM := Lib.hid (show z ∈ zs from by rw [he, ← HX.out]; exact List.getElem_mem hkz)
        clear HX he hkz
        go_wp2
        go_ret
        exact ⟨⟨(k : Int), rfl, by rw [decide_eq_true HM.out, decide_eq_true (Int.natCast_nonneg k)]⟩, rfl⟩
      · have hb : (z == x) = false := by simpa using he
        have HM := Lib.hid (show z ∉ zs.take (k + 1) from by
          rw [List.take_succ_eq_append_getElem hkz, HX.out]
          simp only [List.mem_append, List.mem_singleton, not_or]
          exact ⟨HNO.out, he⟩)
        clear HX he hkz
        go_wp2
        go_roundw
        case rel => exact ⟨k + 1, by omega, by go_num, by first | rfl | trivial, HM.out⟩
        case measure => simp [RowKit.intOf]; omega
    · obtain rfl : k = n := by omega
      go_wp2
      go_ret
      refine ⟨⟨-1, rfl, ?_⟩, rfl⟩
      have hz : z ∉ zs := by
        have := HNO.out
        rwa [← HL.out, List.take_length] at this
      rw [decide_eq_false hz]
      rfl

set_option maxHeartbeats 1000000 in
set_option maxRecDepth 100000 in
theorem contains_any (A : Option Addr) (zs : List Int) (n c : Nat) (z : Int) (w : World) (hR : IntsAt w A zs) (hl : zs.length = n) (hn : n ≤ 1099511627776) :
    Calls Tryd.prog 36 #[.slice A n c, .int .i64 z] w fun e w' => e = .returned (.bool (decide (z ∈ zs))) ∧ w' = w := by
  have H := Lib.hid (index_any A zs n c z w hR hl hn)
  clear hR hl
  go_enter Tryd.func36, Tryd.ntmps36
  go_wp2_with fail
  refine H.out.mono ?_
  rintro e w' ⟨⟨i, rfl, hi⟩, rfl⟩
  have HI := Lib.hid hi
  clear hi
  go_wp2
  go_ret
  exact ⟨by first | rfl | (rw [HI.out]; rfl), rfl⟩

set_option maxHeartbeats 1000000 in
set_option maxRecDepth 100000 in
theorem isOf_any (A : Option Addr) (zs : List Int) (n c : Nat) (z : Int) (w : World) (hR : IntsAt w A zs) (hl : zs.length = n) (hn : n ≤ 1099511627776) :
    Calls Tryd.prog 28 #[.int .i64 z, .slice A n c] w fun e w' => e = .returned (.bool (decide (z ∈ zs))) ∧ w' = w := by
  have H := Lib.hid (contains_any A zs n c z w hR hl hn)
  clear hR hl
  go_enter Tryd.func28, Tryd.ntmps28
  go_wp2_with fail
  refine H.out.mono ?_
  rintro e w' ⟨rfl, rfl⟩
  go_wp2
  go_ret
  exact ⟨rfl, rfl⟩
end Go.Proofs.YtmhnhklkomboaaaDoor.Wk
