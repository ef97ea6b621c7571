/-
  Proved here: parquetryref12.Same returns true for two rows of sequences that read alike. It leaves what was in memory.
-/
import Derived.Test.YtehndhkcmccpmaaSqRows
import Derived.Test.YtehndhkcmccpmaaArrKit
import Derived.BigQuiet
set_option linter.unusedVariables false
namespace Go.Proofs.Ytehndhkcmccpmaa.Sq
open Go Go.RowKit Go.Lib Go.Proofs.Ytehndhkcmccpmaa.Cl

theorem at_val' {w : World} {A : Option Addr} {zs : List Int} (h : IntsAt w A zs) {k : Nat} {z : Int} (hz : zs[k]? = some z) : ∃ b off, A = some ⟨b, off, none⟩ ∧ w.cell? ⟨b, off + k, none⟩ = some (.int .i64 z) := by
  obtain ⟨hk, rfl⟩ := List.getElem?_eq_some_iff.1 hz
  exact h.at_ hk
set_option maxHeartbeats 4000000 in
set_option maxRecDepth 100000 in
theorem same_seqs (A1 A2 : Option Addr) (R : List S4) (n c1 c2 : Nat) (w : World) (hn : R.length = n) (h1 : SqAt w A1 R) (h2 : SqAt w A2 R) (hl : n ≤ 1000000) (hp : ∀ r ∈ R, r.p.length ≤ 1000000) :
    Calls Try.prog 17 #[.slice A1 n c1, .slice A2 n c2] w fun e w' => e = .returned (.bool true) ∧ Below w.heap.size w w' := by
  have H1 := Lib.hid h1
  have H2 := Lib.hid h2
  have HN := Lib.hid hn
  have HP := Lib.hid hp
  clear h1 h2 hn hp
  go_enter Try.func17, Try.ntmps17
  go_wp2_with fail
  go_loopw [5] (fun s5 wr => ∃ k : Nat, s5 = .int .i64 k ∧ k ≤ n ∧ Below w.heap.size w wr) (fun s5 _ => n - (RowKit.intOf s5).toNat)
  case atStart => exact ⟨0, rfl, Nat.zero_le _, Below.refl _ _⟩
  case round =>
    obtain ⟨k, rfl, hk, hb⟩ := hrel
    have HB := Lib.hid hb
    clear hb
    by_cases hlt : k < n
    · have hkR : k < R.length := by rw [HN.out]; exact hlt
      obtain ⟨b, off, A1', d1, rfl, p0, p1, p2, p3, pi⟩ := (H1.out.below HB.out).at_ hkR
      obtain ⟨b2, off2, A2', d2, rfl, q0, q1, q2, q3, qi⟩ := (H2.out.below HB.out).at_ hkR
      have hpl := HP.out R[k] (List.getElem_mem hkR)
      generalize R[k] = r at *
      obtain ⟨m, hm⟩ : ∃ m, r.p.length = m := ⟨_, rfl⟩
      rw [hm] at p3 q3 hpl
      have HM := Lib.hid hm
      have PI := Lib.hid pi
      have QI := Lib.hid qi
      clear pi qi hm
      have hki : (0 : Int) ≤ (k : Int) := by omega
      have hki2 : (k : Int) < (n : Int) := by omega
      generalize r.a = ra at *
      generalize r.b = rb at *
      generalize r.c = rc at *
      have HC := Lib.hid (And.intro (And.intro p0 (And.intro p1 (And.intro p2 p3))) (And.intro q0 (And.intro q1 (And.intro q2 q3))))
      have hBb := World.block_lt_of_cell? wr _ p3
      have hBb2 := World.block_lt_of_cell? wr _ q3
      have HP3 := Lib.hid (fun V (h : Below wr.heap.size wr V) => (And.intro ((h.cell (p := ⟨b, off + k * 4 + 3, none⟩) hBb).trans p3) ((h.cell (p := ⟨b2, off2 + k * 4 + 3, none⟩) hBb2).trans q3)))
      go_wp2_with fail
      go_quiet (fail)
      have hd1 := Arr.below_drewN (Below.refl wr.heap.size wr) nq
      have HW1 := Lib.hid hd1
      clear HC p0 p1 p2 p3 q0 q1 q2 q3 hd1
      go_wp2_with fail
      go_loopw [6] (fun s6 V => ∃ i : Nat, s6 = .int .i64 i ∧ i ≤ m ∧ Below wr.heap.size wr V) (fun s6 _ => m - (RowKit.intOf s6).toNat)
      case atStart => exact ⟨0, rfl, Nat.zero_le _, HW1.out⟩
      case round =>
        obtain ⟨i, rfl, hi, hb⟩ := hrel
        have HV := Lib.hid hb
        obtain ⟨p3, q3⟩ := HP3.out _ hb
        clear hb
        by_cases hlt2 : i < m
        · have hil : i < r.p.length := by rw [HM.out]; exact hlt2
          obtain ⟨e1, o1, rfl, ec⟩ := at_val' (PI.out.below HV.out) (ns_at hil)
          obtain ⟨e2, o2, rfl, fc⟩ := at_val' (QI.out.below HV.out) (ns_at hil)
          have hii : (0 : Int) ≤ (i : Int) := by omega
          have hii2 : (i : Int) < (m : Int) := by omega
          generalize ((r.p[i] : Nat) : Int) = x at *
          go_wp2_with fail
          go_quiet (fail)
          have hd2 := Arr.below_drewN (HV.out) nq
          have HW2 := Lib.hid hd2
          clear hd2 ec fc p3 q3
          go_wp2_with fail
          go_roundw
          case rel => exact ⟨i + 1, by simp, by omega, HW2.out⟩
          case measure => simp [RowKit.intOf]; omega
        · obtain rfl : i = m := by omega
          have HW3 := Lib.hid (HB.out.trans (HV.out.mono HB.out.size))
          go_wp2_with fail
          go_roundw
          case rel => exact ⟨k + 1, by simp, by omega, HW3.out⟩
          case measure => simp [RowKit.intOf]; omega
    · obtain rfl : k = n := by omega
      go_wp2_with fail
      go_ret
      exact ⟨rfl, HB.out⟩
end Go.Proofs.Ytehndhkcmccpmaa.Sq
