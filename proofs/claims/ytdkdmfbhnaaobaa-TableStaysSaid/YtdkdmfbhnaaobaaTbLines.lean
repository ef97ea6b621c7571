/-
  Proved here: what table's rows and columns answer: how many there are, each one's fields; they leave what was in memory.
-/
import Derived.Test.YtdkdmfbhnaaobaaTbRows
import Derived.Lib.Hide
import Derived.WalkKit
import Derived.IntWalk
import Derived.OwnWalk
import Derived.LoopTactic
import Derived.WalkMore
set_option linter.unusedVariables false
namespace Go.Proofs.Ytdkdmfbhnaaobaa.Tb
open Go Go.RowKit Go.Lib Go.Proofs.Ytdkdmfbhnaaobaa.Cv

theorem ret_int {a b : Int} (h : a = b) : Ending.returned (.int .i64 a) = .returned (.int .i64 b) := by rw [h]

set_option maxHeartbeats 1000000 in
set_option maxRecDepth 100000 in
theorem high_any (A : Option Addr) (n c : Nat) (m : Int) (w : World) (hn : n ≤ 140737488355328) :
    Calls Try.prog 54 #[.agg #[.slice A n c, .int .i64 m]] w fun e w' => e = .returned (.int .i64 ((max 1 n : Nat) : Int)) ∧ Below w.heap.size w w' := by
  go_enter Try.func54, Try.ntmps54
  go_wp2
  all_goals
    go_ret
    exact ⟨ret_int (by omega), (Below.refl _ _).alloc (Nat.le_refl _) _⟩
set_option maxHeartbeats 1000000 in
set_option maxRecDepth 100000 in
theorem wide_any (A : Option Addr) (n c m : Nat) (w : World) (hn : m ≤ 140737488355328) :
    Calls Try.prog 56 #[.agg #[.slice A n c, .int .i64 m]] w fun e w' => e = .returned (.int .i64 ((max 1 m : Nat) : Int)) ∧ Below w.heap.size w w' := by
  go_enter Try.func56, Try.ntmps56
  go_wp2
  all_goals
    go_ret
    exact ⟨ret_int (by omega), (Below.refl _ _).alloc (Nat.le_refl _) _⟩

theorem below_one (w : World) (o : Obj) : Below w.heap.size w (w.alloc o) := (Below.refl _ _).alloc (Nat.le_refl _) _

set_option maxHeartbeats 1000000 in
set_option maxRecDepth 100000 in
theorem field_any (A : Option Addr) (R : Rec) (c : Nat) (m : Int) (i k : Nat) (w : World) (hA : RecsAt w A R) (hl : R.length ≤ 1000000) (hr : ∀ r ∈ R, r.length ≤ 1000000) (hi : i ≤ 1000000) (hk : k ≤ 1000000) :
    Calls Try.prog 58 #[.agg #[.slice A R.length c, .int .i64 m], .int .i64 i, .int .i64 k] w fun e w' => e = .returned (bx (fieldT R i k)) ∧ Below w.heap.size w w' := by
  have HB := Lib.hid (below_one w (.cells #[.slice A R.length c, .int .i64 m] 36))
  by_cases h1 : i < R.length
  · obtain ⟨b, off, A1, c1, rfl, hc, hv⟩ := hA.at_ h1
    have hl1 := hr R[i] (List.getElem_mem h1)
    have hf := field_row h1 k
    have d1 : decide ((i : Int) < (R.length : Int)) = true := decide_eq_true (by omega)
    have hc2 := (World.cell?_of_block (w := w) (Below.heap_alloc w (.cells #[.slice (some ⟨b, off, none⟩) R.length c, .int .i64 m] 36) b (World.block_lt_of_cell? w _ hc))).trans hc
    obtain ⟨r, er⟩ : ∃ r, R[i] = r := ⟨_, rfl⟩
    rw [er] at hc hc2 hv hl1 hf
    rw [hf]
    by_cases h2 : k < r.length
    · have d2 : decide ((k : Int) < (r.length : Int)) = true := decide_eq_true (by omega)
      obtain ⟨b2, off2, rfl, hc3⟩ := hv.at_ (k := k) (by rw [rowC_len]; exact h2)
      have e2 : (rowC r)[k]'(by rw [rowC_len]; exact h2) = bx (r.getD k []) := by rw [getD_in _ h2]; simp [rowC]
      rw [e2] at hc3
      have hc4 := (World.cell?_of_block (w := w) (Below.heap_alloc w (.cells #[.slice (some ⟨b, off, none⟩) R.length c, .int .i64 m] 36) b2 (World.block_lt_of_cell? w _ hc3))).trans hc3
      generalize r.getD k [] = x at *
      obtain ⟨X, eX⟩ : ∃ X, bx x = .string X := ⟨_, rfl⟩
      rw [eX] at hc3 hc4 ⊢
      clear hf er hv eX e2 hA hr
      go_enter Try.func58, Try.ntmps58
      go_wp2
      go_ret
      exact ⟨rfl, HB.out⟩
    · have d2 : decide ((k : Int) < (r.length : Int)) = false := decide_eq_false (by omega)
      have e2 : r.getD k [] = [] := getD_off _ (by omega)
      rw [e2]
      clear hf er hv e2 hA hr
      go_enter Try.func58, Try.ntmps58
      go_wp2
      go_ret
      exact ⟨rfl, HB.out⟩
  · have d1 : decide ((i : Int) < (R.length : Int)) = false := decide_eq_false (by omega)
    rw [field_off (R := R) (by omega) k]
    clear hA hr
    go_enter Try.func58, Try.ntmps58
    go_wp2
    go_ret
    exact ⟨rfl, HB.out⟩
end Go.Proofs.Ytdkdmfbhnaaobaa.Tb
