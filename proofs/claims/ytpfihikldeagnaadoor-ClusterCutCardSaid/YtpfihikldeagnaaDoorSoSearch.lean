/-
  Proved here: what sort.Search returns, for any closure of two captured variables that answers a test of its number, false ahead of one place and true from there on; it leaves what was in memory. Condition: at most 2^40 numbers.
-/
import Derived.Test.YtpfihikldeagnaaDoorRows
import Derived.Carry
import Derived.ProofKit
import Derived.OpenShut
import Derived.Below
import Derived.Lib.Hide
import Derived.WalkKit
import Derived.Shelf.Abstract
import Derived.IntWalk
import Derived.OwnWalk
set_option linter.unusedVariables false
namespace Go.Proofs.YtpfihikldeagnaaDoor.So
open Go.RowKit Go.Lib

set_option maxHeartbeats 1000000 in
set_option maxRecDepth 100000 in
theorem search_of (f : FuncId) (hf : ∀ args w, (callFunc f args).run Tryd.prog w = .ok (.enter f args) w) (F : Nat → Bool) (n : Nat) (p1 p2 : Value) (P : World → Prop) (hP : ∀ W W', P W → Below W.heap.size W W' → P W') (w : World) (h0 : P w) (hn : n ≤ 1099511627776)
    (a : Nat) (ha : a ≤ n) (hlo : ∀ k, k < a → F k = false) (hhi : ∀ k, a ≤ k → k < n → F k = true)
    (call : ∀ k W, k < n → P W → Calls Tryd.prog f #[.int .i64 k, p1, p2] W fun e W' => e = .returned (.bool (F k)) ∧ Below W.heap.size W W') :
    Calls Tryd.prog 61 #[.int .i64 n, .func (.func f) #[] #[p1, p2]] w fun e w' => e = .returned (.int .i64 a) ∧ Below w.heap.size w w' := by
  have HLO := Lib.hid hlo
  have HHI := Lib.hid hhi
  have HP := Lib.hid hP
  have H0 := Lib.hid h0
  have CL := Lib.hid call
  clear hlo hhi hP h0 call
  go_enter Tryd.func61, Tryd.ntmps61
  go_wp2
  go_loopw [5, 6] (fun s5 s6 wx => ∃ i j : Nat, i ≤ a ∧ a ≤ j ∧ j ≤ n ∧ s5 = .int .i64 i ∧ s6 = .int .i64 j ∧ Below w.heap.size w wx) (fun s5 s6 _ => (RowKit.intOf s6).toNat - (RowKit.intOf s5).toNat)
  case atStart => exact ⟨0, n, Nat.zero_le _, ha, Nat.le_refl _, rfl, rfl, Below.refl _ _⟩
  case round =>
    obtain ⟨i, j, hi, hj, hjn, rfl, rfl, hb⟩ := hrel
    have HB := Lib.hid hb
    clear hb
    by_cases hlt : i < j
    · have hh : (i + j) / 2 < n := by omega
      have CL' := Lib.hid (fun W hW => CL.out ((i + j) / 2) W hh hW)
      by_cases hc : a ≤ (i + j) / 2
      · have hd := HHI.out _ hc hh
        rw [hd] at CL'
        clear hd
        go_wp2_with fail

        refine (CL'.out _ (HP.out _ _ H0.out HB.out)).mono ?_
        rintro e w' ⟨rfl, hb2⟩
        go_wp2
        go_roundw
        case rel => exact ⟨i, (i + j) / 2, hi, hc, by omega, rfl, by go_num, HB.out.trans (hb2.mono HB.out.size)⟩
        case measure => simp [RowKit.intOf]; omega
      · have hd := HLO.out ((i + j) / 2) (by omega)
        rw [hd] at CL'
        clear hd
        go_wp2_with fail

        refine (CL'.out _ (HP.out _ _ H0.out HB.out)).mono ?_
        rintro e w' ⟨rfl, hb2⟩
        go_wp2
        go_roundw
        case rel => exact ⟨(i + j) / 2 + 1, j, by omega, hj, hjn, by go_num, rfl, HB.out.trans (hb2.mono HB.out.size)⟩
        case measure => simp [RowKit.intOf]; omega
    · obtain rfl : i = a := by omega
      obtain rfl : i = j := by omega
      go_wp2
      go_ret
      exact ⟨rfl, HB.out⟩
end Go.Proofs.YtpfihikldeagnaaDoor.So
