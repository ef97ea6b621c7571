/-
  Proved here: parquetryref02.Same of two rows that hold the same numbers is true; it leaves what was in memory.
-/
import Derived.Test.YtehndhkcmccpmaaClInts
import Derived.LoopTactic
import Derived.Deep.QuietTactic
import Derived.BigQuiet
set_option linter.unusedVariables false
namespace Go.Proofs.Ytehndhkcmccpmaa.Rc
open Go.RowKit Go.Lib Go.Proofs.Ytehndhkcmccpmaa.Cl

theorem same_ints_drewN (w : World) : ∀ n, Below w.heap.size w (w.drewN n)
  | 0 => Below.refl _ _
  | n + 1 => (same_ints_drewN w n).drew

set_option maxHeartbeats 1000000 in
set_option maxRecDepth 1000000 in
theorem same_ints (A B : Option Addr) (zs : List Int) (c d : Nat) (w : World) (ha : IntsAt w A zs) (hb : IntsAt w B zs) (hn : zs.length ≤ 1099511627776) :
    Calls Try.prog 19 #[.slice A zs.length c, .slice B zs.length d] w fun e w' => e = .returned (.bool true) ∧ Below w.heap.size w w' := by
  have HA := Lib.hid ha
  have HB := Lib.hid hb
  clear ha hb
  go_enter Try.func19, Try.ntmps19
  go_wp2_with fail
  go_loopw [5] (fun s5 wx => ∃ k : Nat, k ≤ zs.length ∧ s5 = .int .i64 k ∧ Below w.heap.size w wx) (fun s5 _ => zs.length - (RowKit.intOf s5).toNat)
  case atStart => exact ⟨0, Nat.zero_le _, rfl, Below.refl _ _⟩
  case round =>
    obtain ⟨k, hk, rfl, hbw⟩ := hrel
    by_cases hlt : k < zs.length
    · obtain ⟨g, o, rfl, c0⟩ := (HA.out.below hbw).at_ hlt
      obtain ⟨g', o', rfl, d0⟩ := (HB.out.below hbw).at_ hlt
      clear HA HB
      generalize zs[k] = z at *
      go_wp2_with fail
      go_quiet (fail)
      go_wp2_with fail
      go_roundw
      case rel => exact ⟨k + 1, by omega, by go_num, hbw.trans ((same_ints_drewN _ _).mono hbw.size)⟩
      case measure => simp [RowKit.intOf]; omega
    · go_wp2
      go_ret
      exact ⟨rfl, hbw⟩
end Go.Proofs.Ytehndhkcmccpmaa.Rc
