/-
  Proved here: parquetryref01.Same of two rows of the same runes is true; it leaves what was in memory.
-/
import Derived.Test.YtifaimoaaiikpaaRuRows
import Derived.Test.YtifaimoaaiikpaaArrKit
set_option linter.unusedVariables false
namespace Go.Proofs.Ytifaimoaaiikpaa.Ku
open Go.RowKit Go.Lib Go.Proofs.Ytifaimoaaiikpaa.Arr

set_option maxHeartbeats 1000000 in
set_option maxRecDepth 1000000 in
theorem rsame_yes (A B : Option Addr) (l : List R3) (n c d : Nat) (w : World) (hl : l.length = n) (ha : RuAt w A l) (hb : RuAt w B l) (hn : n ≤ 1099511627776) :
    Calls Try.prog 13 #[.slice A n c, .slice B n d] w fun e w' => e = .returned (.bool true) ∧ Below w.heap.size w w' := by
  have HA := Lib.hid ha
  have HB := Lib.hid hb
  have HL := Lib.hid hl
  clear ha hb hl
  go_enter Try.func13, Try.ntmps13
  go_wp2_with fail
  go_loopw [5] (fun s5 wx => ∃ k : Nat, k ≤ n ∧ s5 = .int .i64 k ∧ Below w.heap.size w wx) (fun s5 _ => n - (RowKit.intOf s5).toNat)
  case atStart => exact ⟨0, Nat.zero_le _, rfl, Below.refl _ _⟩
  case round =>
    obtain ⟨k, hk, rfl, hbw⟩ := hrel
    by_cases hlt : k < n
    · have hkl : k < l.length := by rw [HL.out]; exact hlt
      obtain ⟨g, off, rfl, hg, c0, c1, c2⟩ := (HA.out.below hbw).at_ hkl
      obtain ⟨g', off', rfl, hg', d0, d1, d2⟩ := (HB.out.below hbw).at_ hkl
      clear HA HB
      generalize l[k] = r at *
      go_wp2_with fail
      go_quiet (fail)
      go_wp2_with fail
      go_roundw
      case rel => exact ⟨k + 1, by omega, by go_num, hbw.trans ((below_drewN (Below.refl _ _) _).mono hbw.size)⟩
      case measure => simp [RowKit.intOf]; omega
    · go_wp2
      go_ret
      exact ⟨rfl, hbw⟩
end Go.Proofs.Ytifaimoaaiikpaa.Ku
