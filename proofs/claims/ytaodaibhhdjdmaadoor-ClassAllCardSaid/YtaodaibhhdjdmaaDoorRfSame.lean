/-
  Proved here: the reference's Same of two rows that hold the same runes is true; it leaves what was in memory.
-/
import Derived.Test.YtaodaibhhdjdmaaDoorRfSplit
set_option linter.unusedVariables false
namespace Go.Proofs.YtaodaibhhdjdmaaDoor.Rn
open Go.RowKit Go.Lib

set_option maxHeartbeats 1000000 in
set_option maxRecDepth 1000000 in
theorem same_yes (A B : Option Addr) (l : List (Nat × Nat × Nat)) (c d : Nat) (w : World) (ha : RunesAt w A l) (hb : RunesAt w B l) (hn : l.length ≤ 1099511627776) :
    Calls Tryd.prog 16 #[.slice A l.length c, .slice B l.length d] w fun e w' => e = .returned (.bool true) ∧ Below w.heap.size w w' := by
  have HA := Lib.hid ha
  have HB := Lib.hid hb
  clear ha hb
  go_enter Tryd.func16, Tryd.ntmps16
  go_wp2_with fail
  go_loopw [5] (fun s5 wx => ∃ k : Nat, k ≤ l.length ∧ s5 = .int .i64 k ∧ Below w.heap.size w wx) (fun s5 _ => l.length - (RowKit.intOf s5).toNat)
  case atStart => exact ⟨0, Nat.zero_le _, rfl, Below.refl _ _⟩
  case round =>
    obtain ⟨k, hk, rfl, hbw⟩ := hrel
    by_cases hlt : k < l.length
    · obtain ⟨g, rfl, hg, c0, c1, c2⟩ := (HA.out.below hbw) k hlt
      obtain ⟨g', rfl, hg', d0, d1, d2⟩ := (HB.out.below hbw) k hlt
      clear HA HB
      generalize l[k] = r at *
      go_wp2_with fail
      go_quiet (fail)
      go_wp2_with fail
      go_roundw
      case rel => exact ⟨k + 1, by omega, by go_num, hbw.trans ((below_drewN _ _).mono hbw.size)⟩
      case measure => simp [RowKit.intOf]; omega
    · go_wp2
      go_ret
      exact ⟨rfl, hbw⟩
end Go.Proofs.YtaodaibhhdjdmaaDoor.Rn
