/-
  Proved here: parquetryref06.Same of two rows of the same clusters is true, parquetryref01.Same of two rows of the same runes; what cluster.Wide returns. They leave what was in memory.
-/
import Derived.Test.YtpfihikldeagnaaDoorKuRows
import Derived.Test.YtpfihikldeagnaaDoorArrKit
set_option linter.unusedVariables false
namespace Go.Proofs.YtpfihikldeagnaaDoor.Ku
open Go.RowKit Go.Lib Go.Proofs.YtpfihikldeagnaaDoor.Arr

set_option maxHeartbeats 1000000 in
set_option maxRecDepth 1000000 in
theorem csame_yes (A B : Option Addr) (l : List C6) (n c d : Nat) (w : World) (hl : l.length = n) (ha : CuAt w A l) (hb : CuAt w B l) (hn : n ≤ 1099511627776) :
    Calls Tryd.prog 10 #[.slice A n c, .slice B n d] w fun e w' => e = .returned (.bool true) ∧ Below w.heap.size w w' := by
  have HA := Lib.hid ha
  have HB := Lib.hid hb
  have HL := Lib.hid hl
  clear ha hb hl
  go_enter Tryd.func10, Tryd.ntmps10
  go_wp2_with fail
  go_loopw [5] (fun s5 wx => ∃ k : Nat, k ≤ n ∧ s5 = .int .i64 k ∧ Below w.heap.size w wx) (fun s5 _ => n - (RowKit.intOf s5).toNat)
  case atStart => exact ⟨0, Nat.zero_le _, rfl, Below.refl _ _⟩
  case round =>
    obtain ⟨k, hk, rfl, hbw⟩ := hrel
    by_cases hlt : k < n
    · have hkl : k < l.length := by rw [HL.out]; exact hlt
      obtain ⟨g, off, rfl, hg, c0, c1, c2, c3, c4, c5⟩ := (HA.out.below hbw).at_ hkl
      obtain ⟨g', off', rfl, hg', d0, d1, d2, d3, d4, d5⟩ := (HB.out.below hbw).at_ hkl
      clear HA HB
      generalize l[k] = r at *
      go_wp2_with fail
      go_quiet (fail)
      go_wp2_with fail
      go_roundw
      case rel => exact ⟨k + 1, by omega, by go_num, hbw.trans ((below_drewN (Below.refl _ _) _).mono hbw.size)⟩
      case measure => simp [RowKit.intOf]; omega
    · go_wp2
      go_ret
      exact ⟨rfl, hbw⟩

set_option maxHeartbeats 1000000 in
set_option maxRecDepth 1000000 in
theorem rsame_yes (A B : Option Addr) (l : List R3) (n c d : Nat) (w : World) (hl : l.length = n) (ha : RuAt w A l) (hb : RuAt w B l) (hn : n ≤ 1099511627776) :
    Calls Tryd.prog 12 #[.slice A n c, .slice B n d] w fun e w' => e = .returned (.bool true) ∧ Below w.heap.size w w' := by
  have HA := Lib.hid ha
  have HB := Lib.hid hb
  have HL := Lib.hid hl
  clear ha hb hl
  go_enter Tryd.func12, Tryd.ntmps12
  go_wp2_with fail
  go_loopw [5] (fun s5 wx => ∃ k : Nat, k ≤ n ∧ s5 = .int .i64 k ∧ Below w.heap.size w wx) (fun s5 _ => n - (RowKit.intOf s5).toNat)
  case atStart => exact ⟨0, Nat.zero_le _, rfl, Below.refl _ _⟩
  case round =>
    obtain ⟨k, hk, rfl, hbw⟩ := hrel
    by_cases hlt : k < n
    · have hkl : k < l.length := by rw [HL.out]; exact hlt
      obtain ⟨g, off, rfl, hg, c0, c1, c2⟩ := (HA.out.below hbw).at_ hkl
      obtain ⟨g', off', rfl, hg', d0, d1, d2⟩ := (HB.out.below hbw).at_ hkl
      clear HA HB
      generalize l[k] = r at *
      go_wp2_with fail
      go_quiet (fail)
      go_wp2_with fail
      go_roundw
      case rel => exact ⟨k + 1, by omega, by go_num, hbw.trans ((below_drewN (Below.refl _ _) _).mono hbw.size)⟩
      case measure => simp [RowKit.intOf]; omega
    · go_wp2
      go_ret
      exact ⟨rfl, hbw⟩

/-- P6.3: how many slots clusters take together. -/
def wideS (l : List C6) : Int := l.foldl (fun n x => IntKind.i64.wrap (n + x.w)) 0
theorem wideS_next (l : List C6) (k : Nat) (hk : k < l.length) : wideS (l.take (k + 1)) = IntKind.i64.wrap (wideS (l.take k) + (l[k]).w) := by
  unfold wideS
  rw [List.take_succ_eq_append_getElem hk, List.foldl_append]
  rfl

set_option maxHeartbeats 1000000 in
set_option maxRecDepth 100000 in
theorem cwide_any (A : Option Addr) (l : List C6) (n c : Nat) (w : World) (hl : l.length = n) (hR : CuAt w A l) (hn : n ≤ 1099511627776) :
    Calls Tryd.prog 13 #[.slice A n c] w fun e w' => e = .returned (.int .i64 (wideS l)) ∧ Below w.heap.size w w' := by
  have HR := Lib.hid hR
  have HL := Lib.hid hl
  obtain ⟨res, hres⟩ : ∃ res, wideS l = res := ⟨_, rfl⟩
  rw [hres]
  have HRes := Lib.hid hres
  clear hR hl hres
  go_enter Tryd.func13, Tryd.ntmps13
  go_wp2_with fail
  go_loopw [3, 8] (fun s3 s8 wx => ∃ (k : Nat) (v : Int), k ≤ n ∧ s8 = .int .i64 k ∧ s3 = .int .i64 v ∧ v = wideS (l.take k) ∧ Below w.heap.size w wx) (fun _ s8 _ => n - (RowKit.intOf s8).toNat)
  case atStart => exact ⟨0, 0, Nat.zero_le _, rfl, rfl, rfl, Below.refl _ _⟩
  case round =>
    obtain ⟨k, v, hk, rfl, rfl, hv, hbw⟩ := hrel
    by_cases hlt : k < n
    · have hkl : k < l.length := by rw [HL.out]; exact hlt
      obtain ⟨g, off, rfl, hg, c0, c1, c2, c3, c4, c5⟩ := (HR.out.below hbw).at_ hkl
      have hnx := wideS_next l k hkl
      rw [← hv] at hnx
      generalize l[k] = r at *
      obtain ⟨V, hV⟩ : ∃ V, IntKind.i64.wrap (v + r.w) = V := ⟨_, rfl⟩
      rw [hV] at hnx
      have HN := Lib.hid hnx
      have HB := Lib.hid hbw
      clear hnx hv hbw
      go_wp2
      go_roundw
      case rel => exact ⟨k + 1, V, by omega, by go_num, by rfl, HN.out.symm, HB.out.alloc HB.out.size _⟩
      case measure => simp [RowKit.intOf]; omega
    · obtain rfl : k = n := by omega
      rw [List.take_of_length_le (by rw [HL.out]; exact Nat.le_refl _)] at hv
      have hv2 : v = res := hv.trans HRes.out
      subst hv2
      clear hv
      go_wp2
      go_ret
      exact ⟨rfl, hbw⟩
end Go.Proofs.YtpfihikldeagnaaDoor.Ku
