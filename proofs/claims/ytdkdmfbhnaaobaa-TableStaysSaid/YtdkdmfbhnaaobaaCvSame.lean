/-
  Proved here: parquetryref07.Same of two slices that read as the same records is true; it leaves what was in memory.
-/
import Derived.Test.YtdkdmfbhnaaobaaCvRows
import Derived.Lib.Hide
import Derived.IntWalk
import Derived.OwnWalk
import Derived.LoopTactic
import Derived.Deep.QuietTactic
import Derived.BigQuiet
set_option linter.unusedVariables false
namespace Go.Proofs.Ytdkdmfbhnaaobaa.Cv
open Go Go.RowKit Go.Lib

theorem drewN_below (w : World) : ∀ n, Below w.heap.size w (w.drewN n)
  | 0 => Below.refl _ _
  | n + 1 => (drewN_below w n).drew

set_option maxHeartbeats 1000000 in
set_option maxRecDepth 1000000 in
theorem same_recs (A B : Option Addr) (R : List (List Bs)) (c d : Nat) (w : World) (ha : RecsAt w A R) (hb : RecsAt w B R) (hn : R.length ≤ 1000000) (hm : ∀ r ∈ R, r.length ≤ 1000000) :
    Calls Try.prog 17 #[.slice A R.length c, .slice B R.length d] w fun e w' => e = .returned (.bool true) ∧ Below w.heap.size w w' := by
  have HA := Lib.hid ha
  have HB := Lib.hid hb
  have HM := Lib.hid hm
  clear ha hb hm
  go_enter Try.func17, Try.ntmps17
  go_wp2_with fail
  go_loopw [5] (fun s5 wx => ∃ k : Nat, k ≤ R.length ∧ s5 = .int .i64 k ∧ Below w.heap.size w wx) (fun s5 _ => R.length - (RowKit.intOf s5).toNat)
  case atStart => exact ⟨0, Nat.zero_le _, rfl, Below.refl _ _⟩
  case round =>
    obtain ⟨k, hk, rfl, hbw⟩ := hrel
    have HBW := Lib.hid hbw
    clear hbw
    by_cases hlt : k < R.length
    · obtain ⟨g, o, A1, c1, rfl, a1, v1⟩ := (HA.out.below HBW.out).at_ hlt
      obtain ⟨g', o', B1, d1, rfl, b1, u1⟩ := (HB.out.below HBW.out).at_ hlt
      have hr := HM.out R[k] (List.getElem_mem hlt)
      generalize R[k] = r at *
      have V1 := Lib.hid v1
      have U1 := Lib.hid u1
      have A1c := Lib.hid a1
      have B1c := Lib.hid b1
      have hgl := Lib.hid (World.block_lt_of_cell? wr _ a1)
      have hgl' := Lib.hid (World.block_lt_of_cell? wr _ b1)
      clear v1 u1
      go_wp2_with fail
      go_quiet (fail)
      go_wp2_with fail
      clear a1 b1
      go_loopw [6] (fun s6 wx => ∃ j : Nat, j ≤ r.length ∧ s6 = .int .i64 j ∧ Below wr.heap.size wr wx) (fun s6 _ => r.length - (RowKit.intOf s6).toNat)
      case atStart => exact ⟨0, Nat.zero_le _, rfl, drewN_below _ _⟩
      case round =>
        obtain ⟨j, hj, rfl, hbi⟩ := hrel
        have a1 := (hbi.cell (p := ⟨g, o + k, none⟩) hgl.out).trans A1c.out
        have b1 := (hbi.cell (p := ⟨g', o' + k, none⟩) hgl'.out).trans B1c.out
        have HBI := Lib.hid hbi
        clear hbi
        by_cases hlj : j < r.length
        · have hlc : j < (rowC r).length := by simpa [rowC] using hlj
          obtain ⟨g2, o2, hA1, c2⟩ := (V1.out.below HBI.out).at_ hlc
          obtain ⟨g3, o3, hB1, c3⟩ := (U1.out.below HBI.out).at_ hlc
          subst hA1
          subst hB1
          have e : (rowC r)[j] = .string ⟨r[j].toArray⟩ := by simp [rowC, bx]
          rw [e] at c2 c3
          clear e hlc
          generalize (⟨r[j].toArray⟩ : ByteArray) = y at *
          go_wp2_with fail
          go_quiet (fail)
          go_wp2_with fail
          go_roundw
          case rel => exact ⟨j + 1, by omega, by go_num, HBI.out.trans ((drewN_below _ _).mono HBI.out.size)⟩
          case measure => simp [RowKit.intOf]; omega
        · go_wp2_with fail
          go_roundw
          case rel => exact ⟨k + 1, by omega, by go_num, HBW.out.trans (HBI.out.mono HBW.out.size)⟩
          case measure => simp [RowKit.intOf]; omega
    · go_wp2
      go_ret
      exact ⟨rfl, HBW.out⟩
end Go.Proofs.Ytdkdmfbhnaaobaa.Cv
