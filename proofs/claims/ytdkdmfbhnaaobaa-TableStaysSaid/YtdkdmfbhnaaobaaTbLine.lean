/-
  Proved here: what a row's, a column's line is: its fields, in new memory; how many there are; they leave what was in memory.
-/
import Derived.Test.YtdkdmfbhnaaobaaTbListed
set_option linter.unusedVariables false
namespace Go.Proofs.Ytdkdmfbhnaaobaa.Tb
open Go Go.RowKit Go.Lib Go.Proofs.Ytdkdmfbhnaaobaa.Cv

/-- The cells of a struct that was put into a variable. -/
theorem boxed_cells {w : World} {p : Nat} {u v : Value} {t : TypeId} (h : w.heap[p]? = some (.cells #[u, v] t (0, 0))) : w.cell? ⟨p, 0, none⟩ = some u ∧ w.cell? ⟨p, 1, none⟩ = some v := by
  constructor
  · rw [cell_of_row w p 0 _ t (0, 0) h]; rfl
  · rw [cell_of_row w p 1 _ t (0, 0) h]; rfl
theorem boxed_cell {w : World} {p : Nat} {u : Value} {t : TypeId} (h : w.heap[p]? = some (.cells #[u] t (0, 0))) : w.cell? ⟨p, 0, none⟩ = some u := by
  rw [cell_of_row w p 0 _ t (0, 0) h]; rfl

set_option maxHeartbeats 1000000 in
set_option maxRecDepth 100000 in
theorem rowfn_any (A : Option Addr) (R : Rec) (c m i k p q : Nat) (w : World) (hp : w.heap[p]? = some (.cells #[.slice A R.length c, .int .i64 m] 36 (0, 0))) (hq : w.heap[q]? = some (.cells #[.int .i64 i] 3 (0, 0)))
    (hA : RecsAt w A R) (hl : R.length ≤ 1000000) (hr : ∀ r ∈ R, r.length ≤ 1000000) (hi : i ≤ 1000000) (hk : k ≤ 1000000) :
    Calls Try.prog 57 #[.int .i64 k, .pointer (some ⟨p, 0, none⟩), .pointer (some ⟨q, 0, none⟩)] w fun e w' => e = .returned (bx (fieldT R i k)) ∧ Below w.heap.size w w' := by
  obtain ⟨h1, h2⟩ := boxed_cells hp
  have h3 := boxed_cell hq
  have HF := Lib.hid (field_any A R c m i k w hA hl hr hi hk)
  obtain ⟨X, eX⟩ : ∃ X, bx (fieldT R i k) = .string X := ⟨_, rfl⟩
  rw [eX] at HF ⊢
  clear hA hr hl eX hp hq
  go_enter Try.func57, Try.ntmps57
  go_wp2_with fail
  refine HF.out.mono ?_
  rintro e w' ⟨rfl, hb⟩
  go_wp2
  go_ret
  exact ⟨rfl, hb⟩
set_option maxHeartbeats 1000000 in
set_option maxRecDepth 100000 in
theorem colfn_any (A : Option Addr) (R : Rec) (c m i k p q : Nat) (w : World) (hp : w.heap[p]? = some (.cells #[.slice A R.length c, .int .i64 m] 39 (0, 0))) (hq : w.heap[q]? = some (.cells #[.int .i64 k] 3 (0, 0)))
    (hA : RecsAt w A R) (hl : R.length ≤ 1000000) (hr : ∀ r ∈ R, r.length ≤ 1000000) (hi : i ≤ 1000000) (hk : k ≤ 1000000) :
    Calls Try.prog 61 #[.int .i64 i, .pointer (some ⟨p, 0, none⟩), .pointer (some ⟨q, 0, none⟩)] w fun e w' => e = .returned (bx (fieldT R i k)) ∧ Below w.heap.size w w' := by
  obtain ⟨h1, h2⟩ := boxed_cells hp
  have h3 := boxed_cell hq
  have HF := Lib.hid (field_any A R c m i k w hA hl hr hi hk)
  obtain ⟨X, eX⟩ : ∃ X, bx (fieldT R i k) = .string X := ⟨_, rfl⟩
  rw [eX] at HF ⊢
  clear hA hr hl eX hp hq
  go_enter Try.func61, Try.ntmps61
  go_wp2_with fail
  refine HF.out.mono ?_
  rintro e w' ⟨rfl, hb⟩
  go_wp2
  go_ret
  exact ⟨rfl, hb⟩

def LinePost (r : List Bs) (w : World) (e : Ending) (w' : World) : Prop :=
  ∃ A c, e = .returned (.slice A r.length c) ∧ OwnV w.heap.size w'.heap.size w' (.slice A r.length c) r ∧ Below w.heap.size w w'
theorem LinePost.of {F : Nat → Bs} {n : Nat} {w w1 w' : World} {e : Ending} (h : ListedPost F n w1 e w') (hb : Below w.heap.size w w1) : LinePost ((List.range n).map F) w e w' := by
  obtain ⟨rfl, h2, h3⟩ := h
  have hl : ((List.range n).map F).length = n := by simp
  refine ⟨some ⟨w1.heap.size, 0, none⟩, n, by rw [hl], ?_, hb.trans (h3.mono hb.size)⟩
  rw [hl]
  exact ⟨own_mono h2.1 hb.size, h2.2⟩

set_option maxHeartbeats 1000000 in
set_option maxRecDepth 100000 in
theorem rowline_any (A : Option Addr) (R : Rec) (c m i : Nat) (w : World) (hA : RecsAt w A R) (hl : R.length ≤ 1000000) (hr : ∀ r ∈ R, r.length ≤ 1000000) (hi : i ≤ 1000000) (hm : m ≤ 1000000) :
    Calls Try.prog 53 #[.agg #[.slice A R.length c, .int .i64 m], .int .i64 i] w (LinePost ((List.range (max 1 m)).map fun k => fieldT R i k) w) := by
  obtain ⟨M, hM⟩ : ∃ M, max 1 m = M := ⟨_, rfl⟩
  rw [hM]
  obtain ⟨r0, hr0⟩ : ∃ r0, (List.range M).map (fun k => fieldT R i k) = r0 := ⟨_, rfl⟩
  rw [hr0]
  have HM := Lib.hid hM
  have HR0 := Lib.hid hr0
  clear hM hr0
  have HA := Lib.hid hA
  have HR := Lib.hid hr
  clear hA hr
  have hb0 : Below w.heap.size w ((w.alloc (.cells #[.slice A R.length c, .int .i64 m] 36)).alloc (.cells #[.int .i64 i] 3)) := ((Below.refl _ _).alloc (Nat.le_refl _) _).alloc (by simp) _
  have HB0 := Lib.hid hb0
  clear hb0
  have hen := enters_of (P := Try.prog) Try.func57 (by kernel_rfl) rfl
  go_enter Try.func53, Try.ntmps53
  go_wp2_with fail
  refine (wide_any A R.length c m _ (by omega)).mono ?_
  rintro e w1 ⟨rfl, hb1⟩
  rw [HM.out]
  have hM1 : M ≤ 1000000 := by have := HM.out; omega
  have hB := HB0.out.trans (hb1.mono HB0.out.size)
  have hp : w1.heap[w.heap.size]? = some (.cells #[.slice A R.length c, .int .i64 m] 36 (0, 0)) := (hb1.block _ (by simp; omega)).trans (by rw [Below.heap_alloc _ _ _ (by simp)]; exact heap_alloc_new _ _)
  have hq : w1.heap[w.heap.size + 1]? = some (.cells #[.int .i64 i] 3 (0, 0)) := (hb1.block _ (by simp)).trans (by simpa using heap_alloc_new (w.alloc (.cells #[.slice A R.length c, .int .i64 m] 36)) (.cells #[.int .i64 i] 3))
  have HL := Lib.hid (listed_of 57 hen (fun k => fieldT R i k) M (.pointer (some ⟨w.heap.size, 0, none⟩)) (.pointer (some ⟨w.heap.size + 1, 0, none⟩)) w1 hM1 fun k W hk hW =>
    rowfn_any A R c m i k _ _ W ((hW.block _ (Array.getElem?_eq_some_iff.1 hp).1).trans hp) ((hW.block _ (Array.getElem?_eq_some_iff.1 hq).1).trans hq) ((HA.out.below hB).below hW) hl HR.out hi (by omega))
  have HBB := Lib.hid hB
  clear hb1 hp hq hB HB0 HA HR hen
  go_wp2_with fail
  refine HL.out.mono ?_
  intro e w2 h
  have hp := LinePost.of (F := fun k => fieldT R i k) (n := M) h HBB.out
  rw [HR0.out] at hp
  obtain ⟨A2, c2, rfl, ho, hb2⟩ := hp
  have HO := Lib.hid ho
  clear ho h HL
  go_wp2
  go_ret
  exact ⟨A2, c2, rfl, HO.out, hb2⟩
set_option maxHeartbeats 1000000 in
set_option maxRecDepth 100000 in
theorem colline_any (A : Option Addr) (R : Rec) (c m k : Nat) (w : World) (hA : RecsAt w A R) (hl : R.length ≤ 1000000) (hr : ∀ r ∈ R, r.length ≤ 1000000) (hk : k ≤ 1000000) (hm : m ≤ 1000000) :
    Calls Try.prog 60 #[.agg #[.slice A R.length c, .int .i64 m], .int .i64 k] w (LinePost ((List.range (max 1 R.length)).map fun i => fieldT R i k) w) := by
  obtain ⟨M, hM⟩ : ∃ M, max 1 R.length = M := ⟨_, rfl⟩
  rw [hM]
  obtain ⟨r0, hr0⟩ : ∃ r0, (List.range M).map (fun i => fieldT R i k) = r0 := ⟨_, rfl⟩
  rw [hr0]
  have HM := Lib.hid hM
  have HR0 := Lib.hid hr0
  clear hM hr0
  have HA := Lib.hid hA
  have HR := Lib.hid hr
  clear hA hr
  have hb0 : Below w.heap.size w ((w.alloc (.cells #[.slice A R.length c, .int .i64 m] 39)).alloc (.cells #[.int .i64 k] 3)) := ((Below.refl _ _).alloc (Nat.le_refl _) _).alloc (by simp) _
  have HB0 := Lib.hid hb0
  clear hb0
  have hen := enters_of (P := Try.prog) Try.func61 (by kernel_rfl) rfl
  go_enter Try.func60, Try.ntmps60
  go_wp2_with fail
  refine (high_any A R.length c m _ (by omega)).mono ?_
  rintro e w1 ⟨rfl, hb1⟩
  rw [HM.out]
  have hM1 : M ≤ 1000000 := by have := HM.out; omega
  have hB := HB0.out.trans (hb1.mono HB0.out.size)
  have hp : w1.heap[w.heap.size]? = some (.cells #[.slice A R.length c, .int .i64 m] 39 (0, 0)) := (hb1.block _ (by simp; omega)).trans (by rw [Below.heap_alloc _ _ _ (by simp)]; exact heap_alloc_new _ _)
  have hq : w1.heap[w.heap.size + 1]? = some (.cells #[.int .i64 k] 3 (0, 0)) := (hb1.block _ (by simp)).trans (by simpa using heap_alloc_new (w.alloc (.cells #[.slice A R.length c, .int .i64 m] 39)) (.cells #[.int .i64 k] 3))
  have HL := Lib.hid (listed_of 61 hen (fun i => fieldT R i k) M (.pointer (some ⟨w.heap.size, 0, none⟩)) (.pointer (some ⟨w.heap.size + 1, 0, none⟩)) w1 hM1 fun i W hi hW =>
    colfn_any A R c m i k _ _ W ((hW.block _ (Array.getElem?_eq_some_iff.1 hp).1).trans hp) ((hW.block _ (Array.getElem?_eq_some_iff.1 hq).1).trans hq) ((HA.out.below hB).below hW) hl HR.out (by omega) hk)
  have HBB := Lib.hid hB
  clear hb1 hp hq hB HB0 HA HR hen
  go_wp2_with fail
  refine HL.out.mono ?_
  intro e w2 h
  have hp := LinePost.of (F := fun i => fieldT R i k) (n := M) h HBB.out
  rw [HR0.out] at hp
  obtain ⟨A2, c2, rfl, ho, hb2⟩ := hp
  have HO := Lib.hid ho
  clear ho h HL
  go_wp2
  go_ret
  exact ⟨A2, c2, rfl, HO.out, hb2⟩

set_option maxHeartbeats 1000000 in
set_option maxRecDepth 100000 in
theorem rowcount_any (A : Option Addr) (n c m : Nat) (w : World) (hn : n ≤ 1000000) :
    Calls Try.prog 52 #[.agg #[.slice A n c, .int .i64 m]] w fun e w' => e = .returned (.int .i64 ((max 1 n : Nat) : Int)) ∧ Below w.heap.size w w' := by
  have HB0 := Lib.hid (below_one w (.cells #[.slice A n c, .int .i64 m] 36))
  obtain ⟨M, hM⟩ : ∃ M, max 1 n = M := ⟨_, rfl⟩
  rw [hM]
  have HM := Lib.hid hM
  clear hM
  go_enter Try.func52, Try.ntmps52
  go_wp2_with fail
  refine (high_any A n c m _ (by omega)).mono ?_
  rintro e w1 ⟨rfl, hb1⟩
  rw [HM.out]
  go_wp2
  go_ret
  exact ⟨rfl, HB0.out.trans (hb1.mono HB0.out.size)⟩
set_option maxHeartbeats 1000000 in
set_option maxRecDepth 100000 in
theorem colcount_any (A : Option Addr) (n c m : Nat) (w : World) (hm : m ≤ 1000000) :
    Calls Try.prog 59 #[.agg #[.slice A n c, .int .i64 m]] w fun e w' => e = .returned (.int .i64 ((max 1 m : Nat) : Int)) ∧ Below w.heap.size w w' := by
  have HB0 := Lib.hid (below_one w (.cells #[.slice A n c, .int .i64 m] 39))
  obtain ⟨M, hM⟩ : ∃ M, max 1 m = M := ⟨_, rfl⟩
  rw [hM]
  have HM := Lib.hid hM
  clear hM
  go_enter Try.func59, Try.ntmps59
  go_wp2_with fail
  refine (wide_any A n c m _ (by omega)).mono ?_
  rintro e w1 ⟨rfl, hb1⟩
  rw [HM.out]
  go_wp2
  go_ret
  exact ⟨rfl, HB0.out.trans (hb1.mono HB0.out.size)⟩
end Go.Proofs.Ytdkdmfbhnaaobaa.Tb
