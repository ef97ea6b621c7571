/-
  Proved here: what the small functions of seqs return: a run's first and last place, the direction of two levels, whether an initiator is open. They leave what was in memory.
-/
import Derived.Test.YtehndhkcmccpmaaSqRows
import Derived.Test.YtehndhkcmccpmaaArrKit
import Derived.IntWalk
import Derived.BigQuiet
set_option linter.unusedVariables false
namespace Go.Proofs.Ytehndhkcmccpmaa.Sq
open Go Go.RowKit Go.Lib Go.Proofs.Ytehndhkcmccpmaa.Cl Go.Proofs.Ytehndhkcmccpmaa.Ba

theorem ns_hd {l : List Nat} (h : l ≠ []) : (ns l)[0]? = some ((hd l : Nat) : Int) := by cases l <;> simp_all [ns, hd]
theorem ns_lst {l : List Nat} (h : l ≠ []) : (ns l)[l.length - 1]? = some ((lst l : Nat) : Int) := by
  have h0 : 0 < l.length := List.length_pos_iff.2 h
  rw [ns_at (by omega)]
  congr 2
  unfold lst
  rw [List.getLastD_eq_getLast?, List.getLast?_eq_getElem?, List.getElem?_eq_getElem (by omega)]
  rfl
theorem at_val {w : World} {A : Option Addr} {zs : List Int} (h : IntsAt w A zs) {k : Nat} {z : Int} (hz : zs[k]? = some z) : ∃ b off, A = some ⟨b, off, none⟩ ∧ w.cell? ⟨b, off + k, none⟩ = some (.int .i64 z) := by
  obtain ⟨hk, rfl⟩ := List.getElem?_eq_some_iff.1 hz
  exact h.at_ hk

set_option maxHeartbeats 1000000 in
set_option maxRecDepth 100000 in
theorem first_any (a b c : Int) (A : Option Addr) (cp n : Nat) (l : List Nat) (w : World) (hl : l.length = n) (hne : l ≠ []) (hR : IntsAt w A (ns l)) (hn : n ≤ 1099511627776) :
    Calls Try.prog 34 #[.agg #[.int .i64 a, .int .i64 b, .int .i64 c, .slice A n cp]] w fun e w' => e = .returned (.int .i64 (hd l)) ∧ Below w.heap.size w w' := by
  have hb := (Below.refl w.heap.size w).alloc (Nat.le_refl _) (.cells #[.int .i64 a, .int .i64 b, .int .i64 c, .slice A n cp] 51)
  obtain ⟨bk, off, rfl, hc⟩ := at_val (hR.below hb) (ns_hd hne)
  have h0 : 0 < n := by rw [← hl]; exact List.length_pos_iff.2 hne
  have h0' : (0 : Int) < (n : Int) := by omega
  rw [Nat.add_zero] at hc
  clear hR hl hne
  generalize hd l = x at *
  go_enter Try.func34, Try.ntmps34
  go_wp2
  go_ret
  exact ⟨rfl, hb⟩

set_option maxHeartbeats 1000000 in
set_option maxRecDepth 100000 in
theorem last_any (a b c : Int) (A : Option Addr) (cp n : Nat) (l : List Nat) (w : World) (hl : l.length = n) (hne : l ≠ []) (hR : IntsAt w A (ns l)) (hn : n ≤ 1099511627776) :
    Calls Try.prog 32 #[.agg #[.int .i64 a, .int .i64 b, .int .i64 c, .slice A n cp]] w fun e w' => e = .returned (.int .i64 (lst l)) ∧ Below w.heap.size w w' := by
  have hb := (Below.refl w.heap.size w).alloc (Nat.le_refl _) (.cells #[.int .i64 a, .int .i64 b, .int .i64 c, .slice A n cp] 51)
  obtain ⟨bk, off, rfl, hc⟩ := at_val (hR.below hb) (ns_lst hne)
  have h0 : 0 < n := by rw [← hl]; exact List.length_pos_iff.2 hne
  obtain ⟨m, rfl⟩ : ∃ m, n = m + 1 := ⟨n - 1, by omega⟩
  rw [hl, Nat.add_sub_cancel] at hc
  have hw : IntKind.i64.wrap (((m + 1 : Nat) : Int) - 1) = (m : Int) := by rw [IntKind.wrap_i64]; omega
  have hw2 : IntKind.i64.wrap ((m : Int) + 1 - 1) = (m : Int) := by rw [IntKind.wrap_i64]; omega
  have hw3 : IntKind.i64.wrap (m : Int) = (m : Int) := by rw [IntKind.wrap_i64]; omega
  have h1 : (0 : Int) ≤ (m : Int) := by omega
  have h2 : (m : Int) < ((m + 1 : Nat) : Int) := by omega
  clear hR hl hne
  generalize lst l = x at *
  go_enter Try.func32, Try.ntmps32
  go_wp2
  go_ret
  exact ⟨rfl, hb⟩

set_option maxHeartbeats 1000000 in
theorem direction_any (x y : Int) (w : World) :
    Calls Try.prog 35 #[.int .i64 x, .int .i64 y] w fun e w' => e = .returned (.int .i64 (way x y)) ∧ w = w' := by
  unfold way
  have hm : (if x < y then y else x) = max x y := by split <;> omega
  cases hb : ((if x < y then y else x).tmod 2 == 0) with
  | true =>
    rw [if_pos (by rw [← hm]; simpa using hb)]
    clear hm
    go_enter Try.func35, Try.ntmps35
    go_wp2
    all_goals go_ret
    all_goals exact ⟨rfl, rfl⟩
  | false =>
    rw [if_neg (by rw [← hm]; simpa using hb)]
    clear hm
    go_enter Try.func35, Try.ntmps35
    go_wp2
    all_goals go_ret
    all_goals exact ⟨rfl, rfl⟩

set_option maxHeartbeats 1000000 in
set_option maxRecDepth 100000 in
theorem open_any (lv m : Int) (V : Value) (A : Option Addr) (cp n k : Nat) (zs : List Int) (w : World) (hl : zs.length = n) (hR : IntsAt w A zs) (hk : zs[k]? = some m) (hn : n ≤ 1099511627776) (hV : ∃ b1 n1 c1, V = .slice b1 n1 c1) :
    Calls Try.prog 53 #[.agg #[.int .i64 lv, V, .slice A n cp], .int .i64 k] w fun e w' => e = .returned (.bool (m == (n : Int))) ∧ Below w.heap.size w w' := by
  obtain ⟨b1, n1, c1, rfl⟩ := hV
  have hb := (Below.refl w.heap.size w).alloc (Nat.le_refl _) (.cells #[.int .i64 lv, .slice b1 n1 c1, .slice A n cp] 48)
  obtain ⟨bk, off, rfl, hc⟩ := at_val (hR.below hb) hk
  have hkn : k < n := by rw [← hl]; exact (List.getElem?_eq_some_iff.1 hk).1
  have h1 : (0 : Int) ≤ (k : Int) := by omega
  have h2 : (k : Int) < (n : Int) := by omega
  clear hR hl hk
  go_enter Try.func53, Try.ntmps53
  go_wp2_with fail
  go_quiet (fail)
  go_wp2
  go_ret
  exact ⟨rfl, Arr.below_drewN hb _⟩
end Go.Proofs.Ytehndhkcmccpmaa.Sq
