/-
  Several texts in one, each with its own remark: SqGoes, RuPlain, RuRows, BiTold, BcOf, SlotsKit, WordsKit.
-/
import Derived.Laws.Rows
import Derived.Deep.RegionHeld3
import Derived.Carry
import Derived.ProofKit
import Derived.Below
import Derived.Orders
import Derived.Test.YtfclpecbnailgaaGreatM5
import Derived.Test.YtfclpecbnailgaaGreatM1
import Derived.Test.YtfclpecbnailgaaGreatM6
import Derived.Test.YtfclpecbnailgaaGreatRows
import Derived.Test.YtfclpecbnailgaaGreatM4

/-
  Proved here: what seqs' explicit, and the closure that tells where a sequence goes on return. They leave what was in memory.
-/
set_option linter.unusedVariables false
set_option linter.unusedSimpArgs false
namespace Go.Proofs.YtfclpecbnailgaaGreat.Sq
open Go Go.RowKit Go.Lib Go.Proofs.YtfclpecbnailgaaGreat.Cl Go.Proofs.YtfclpecbnailgaaGreat.Ba Go.Proofs.YtfclpecbnailgaaGreat.Lv
theorem threeG {w : World} {g : Nat} {v0 v1 v2 : Value} {t : TypeId} (h : w.heap[g]? = some (.cells #[v0, v1, v2] t (0, 0))) : w.cell? ⟨g, 0, none⟩ = some v0 ∧ w.cell? ⟨g, 1, none⟩ = some v1 ∧ w.cell? ⟨g, 2, none⟩ = some v2 :=
  ⟨cell_of_row w g 0 _ _ _ h, cell_of_row w g 1 _ _ _ h, cell_of_row w g 2 _ _ _ h⟩
theorem ints_set {w : World} {A : Option Addr} {zs : List Int} {g : Nat} (h : IntsAt w A zs) (hA : ∀ b o, A = some ⟨b, o, none⟩ → b ≠ g) (j : Nat) (u : Value) : IntsAt (w.setCell ⟨g, j, none⟩ u) A zs := by
  rcases h with h | ⟨b, off, e, hlt, hc⟩
  · exact .inl h
  · refine .inr ⟨b, off, e, by simpa using hlt, fun k z hz => ?_⟩
    exact (World.cell?_of_block (heap_setCell_other w ⟨g, j, none⟩ b u (hA b off e))).trans (hc k z hz)
theorem below_drew {B : Nat} {a w : World} (h : Below B a w) : Below B a w.drew := h.drew
theorem step_belowB {wr V V' : World} (h : Below wr.heap.size wr V) (h' : Below V.heap.size V V') : Below wr.heap.size wr V' := h.trans (h'.mono h.size)
/-- Where a sequence goes on, by what Match answers. -/
def goesB (t M : Nat) (m : Int) : Bool := decide ((t : Int) < m) && decide (m < (M : Int))
theorem goes_match {c : List Int} {t : Nat} (h : t < c.length) {m : Int} (hm : (matchL c)[t]? = some m) : (goesB t c.length m = true ↔ isI (c.getD t 0) = true ∧ endAt c t < c.length) ∧ (goesB t c.length m = true → m = endAt c t) := by
  have hm' : m = mtK c c.length t := by
    rw [List.getElem?_eq_getElem (by rw [matchL_len]; exact h), matchL_at c t h] at hm
    injection hm with hm
    exact hm.symm
  have hg : c.getD t 0 = c[t] := by simp [List.getD, List.getElem?_eq_getElem h]
  rw [hg]
  unfold goesB
  rw [Bool.and_eq_true_iff, decide_eq_true_eq, decide_eq_true_eq]
  cases hi : isI c[t] with
  | true =>
    rw [hm', mt_I h hi]
    have := endAt_gt c t
    refine ⟨⟨fun h2 => ⟨rfl, by omega⟩, fun h2 => ⟨by omega, by omega⟩⟩, fun _ => rfl⟩
  | false =>
    have hle : m < (t : Int) ∨ m = -1 := by
      rw [hm']
      cases hp : isP c[t] with
      | true =>
        rw [mt_P h hp]
        cases hs : stk c t with
        | nil => exact .inr rfl
        | cons u r =>
          have := (stk_at c t (by omega) 0 u (by rw [hs]; rfl)).1
          left
          show (u : Int) < t
          omega
      | false => exact .inr (mt_N h hp hi)
    refine ⟨⟨fun h2 => by omega, fun h2 => by cases h2.1⟩, fun h2 => by omega⟩
set_option maxHeartbeats 2000000 in
set_option maxRecDepth 100000 in
theorem goes_any (a b c : Int) (A A2 : Option Addr) (cp n M c2 B t : Nat) (l : List Nat) (zs : List Int) (m : Int) (w : World) (hl : l.length = n) (hne : l ≠ []) (hR : IntsAt w A (ns l)) (hn : n ≤ 1099511627776) (hz : zs.length = M) (hM : M ≤ 1099511627776) (hR2 : IntsAt w A2 zs) (hc : w.cell? ⟨B, 2, none⟩ = some (.slice A2 M c2)) (ht : lst l = t) (hm : zs[t]? = some m) :
    Calls Tryz.prog 50 #[.agg #[.int .i64 a, .int .i64 b, .int .i64 c, .slice A n cp], .pointer (some ⟨B, 0, none⟩)] w fun e w' => e = .returned (.tuple #[.int .i64 m, .bool (goesB t M m)]) ∧ Below w.heap.size w w' := by
  have hb := (Below.refl w.heap.size w).alloc (Nat.le_refl _) (.cells #[.int .i64 a, .int .i64 b, .int .i64 c, .slice A n cp] 72)
  obtain ⟨W1, hW1⟩ : ∃ W1, w.alloc (.cells #[.int .i64 a, .int .i64 b, .int .i64 c, .slice A n cp] 72) = W1 := ⟨_, rfl⟩
  rw [hW1] at hb
  have hbox : W1.heap[w.heap.size]? = some (.cells #[.int .i64 a, .int .i64 b, .int .i64 c, .slice A n cp] 72 (0, 0)) := by rw [← hW1]; exact heap_alloc_last _ _
  have hblt : w.heap.size < W1.heap.size := (Array.getElem?_eq_some_iff.1 hbox).1
  have hBlt := World.block_lt_of_cell? w _ hc
  have htM : t < M := by rw [← hz]; exact (List.getElem?_eq_some_iff.1 hm).1
  obtain ⟨b2, o2, rfl, hmc⟩ := at_val hR2 hm
  have hb2 := World.block_lt_of_cell? w _ hmc
  have HLAST := Lib.hid (fun V (h : Below W1.heap.size W1 V) => last_any a b c A cp n l V hl hne (hR.below (hb.trans (h.mono hb.size))) hn)
  rw [ht] at HLAST
  have HS := Lib.hid (fun V (h : Below W1.heap.size W1 V) => (show V.cell? ⟨B, 2, none⟩ = some (.slice (some ⟨b2, o2, none⟩) M c2) ∧ V.cell? ⟨b2, o2 + t, none⟩ = some (.int .i64 m) ∧ V.cell? ⟨w.heap.size, 0, none⟩ = some (.int .i64 a) ∧ V.cell? ⟨w.heap.size, 1, none⟩ = some (.int .i64 b) ∧ V.cell? ⟨w.heap.size, 2, none⟩ = some (.int .i64 c) ∧ V.cell? ⟨w.heap.size, 3, none⟩ = some (.slice A n cp) ∧ Below W1.heap.size W1 V from by
    have hwV := hb.trans (h.mono hb.size)
    obtain ⟨⟨e0, e1, e2, e3⟩, -⟩ := four ((h.block _ hblt).trans hbox)
    exact ⟨(hwV.cell (p := ⟨B, 2, none⟩) hBlt).trans hc, (hwV.cell (p := ⟨b2, o2 + t, none⟩) hb2).trans hmc, e0, e1, e2, e3, h⟩))
  obtain ⟨f1, f2, f3, f4, f5, f6, -⟩ := HS.out W1 (Below.refl _ _)
  have hti : (0 : Int) ≤ (t : Int) := by omega
  have hti2 : (t : Int) < (M : Int) := by omega
  have HB := Lib.hid hb
  unfold goesB
  clear hb hbox hblt hBlt hb2 hmc hc hR hR2 hm hz hl hne
  cases hA : decide ((t : Int) < m) with
  | true =>
    rw [Bool.true_and]
    go_enter Tryz.func50, Tryz.ntmps50
    go_wp2_with fail
    go_region_held3 (fun V => V.cell? ⟨B, 2, none⟩ = some (.slice (some ⟨b2, o2, none⟩) M c2) ∧ V.cell? ⟨b2, o2 + t, none⟩ = some (.int .i64 m) ∧ V.cell? ⟨w.heap.size, 0, none⟩ = some (.int .i64 a) ∧ V.cell? ⟨w.heap.size, 1, none⟩ = some (.int .i64 b) ∧ V.cell? ⟨w.heap.size, 2, none⟩ = some (.int .i64 c) ∧ V.cell? ⟨w.heap.size, 3, none⟩ = some (.slice A n cp) ∧ Below W1.heap.size W1 V) (first | exact HS.out _ (below_drew (Below.refl _ _)) | exact HS.out _ (by assumption) | exact HS.out _ (below_drew (by assumption)))
      (first | (go_at_call 51; ((with_reducible refine (HLAST.out _ (by first | assumption | exact below_drew (Below.refl _ _) | exact below_drew (by assumption))).mono ?_); rintro e w7 ⟨rfl, hb7⟩; have hbx := step_belowB (wr := W1) (by first | assumption | exact below_drew (Below.refl _ _) | exact below_drew (by assumption)) hb7; clear hb7)))
    rename_i hh1
    have HV1 := Lib.hid hh1.2.2.2.2.2.2
    have hv1 := hh1.2.2.2.2.2.2
    obtain ⟨g1, g2, g3, g4, g5, g6, -⟩ := hh1
    go_wp2_with fail
    go_region_held3 (fun V => V.cell? ⟨B, 2, none⟩ = some (.slice (some ⟨b2, o2, none⟩) M c2) ∧ V.cell? ⟨b2, o2 + t, none⟩ = some (.int .i64 m) ∧ V.cell? ⟨w.heap.size, 0, none⟩ = some (.int .i64 a) ∧ V.cell? ⟨w.heap.size, 1, none⟩ = some (.int .i64 b) ∧ V.cell? ⟨w.heap.size, 2, none⟩ = some (.int .i64 c) ∧ V.cell? ⟨w.heap.size, 3, none⟩ = some (.slice A n cp) ∧ Below W1.heap.size W1 V) (first | exact HS.out _ (below_drew (Below.refl _ _)) | exact HS.out _ (by assumption) | exact HS.out _ (below_drew (by assumption)))
      (first | (go_at_call 51; ((with_reducible refine (HLAST.out _ (by first | assumption | exact below_drew (Below.refl _ _) | exact below_drew (by assumption))).mono ?_); rintro e w7 ⟨rfl, hb7⟩; have hbx := step_belowB (wr := W1) (by first | assumption | exact below_drew (Below.refl _ _) | exact below_drew (by assumption)) hb7; clear hb7)))
    rename_i hh2
    have HV2 := Lib.hid hh2.2.2.2.2.2.2
    clear hh2
    go_wp2_with fail
    go_ret2
    exact ⟨rfl, HB.out.trans (HV2.out.mono HB.out.size)⟩
  | false =>
    rw [Bool.false_and]
    go_enter Tryz.func50, Tryz.ntmps50
    go_wp2_with fail
    go_region_held3 (fun V => V.cell? ⟨B, 2, none⟩ = some (.slice (some ⟨b2, o2, none⟩) M c2) ∧ V.cell? ⟨b2, o2 + t, none⟩ = some (.int .i64 m) ∧ V.cell? ⟨w.heap.size, 0, none⟩ = some (.int .i64 a) ∧ V.cell? ⟨w.heap.size, 1, none⟩ = some (.int .i64 b) ∧ V.cell? ⟨w.heap.size, 2, none⟩ = some (.int .i64 c) ∧ V.cell? ⟨w.heap.size, 3, none⟩ = some (.slice A n cp) ∧ Below W1.heap.size W1 V) (first | exact HS.out _ (below_drew (Below.refl _ _)) | exact HS.out _ (by assumption) | exact HS.out _ (below_drew (by assumption)))
      (first | (go_at_call 51; ((with_reducible refine (HLAST.out _ (by first | assumption | exact below_drew (Below.refl _ _) | exact below_drew (by assumption))).mono ?_); rintro e w7 ⟨rfl, hb7⟩; have hbx := step_belowB (wr := W1) (by first | assumption | exact below_drew (Below.refl _ _) | exact below_drew (by assumption)) hb7; clear hb7)))
    rename_i hh1
    have HV1 := Lib.hid hh1.2.2.2.2.2.2
    have hv1 := hh1.2.2.2.2.2.2
    obtain ⟨g1, g2, g3, g4, g5, g6, -⟩ := hh1
    go_wp2_with fail
    refine wp_region_held_drew (S := (fun V => V.cell? ⟨B, 2, none⟩ = some (.slice (some ⟨b2, o2, none⟩) M c2) ∧ V.cell? ⟨b2, o2 + t, none⟩ = some (.int .i64 m) ∧ V.cell? ⟨w.heap.size, 0, none⟩ = some (.int .i64 a) ∧ V.cell? ⟨w.heap.size, 1, none⟩ = some (.int .i64 b) ∧ V.cell? ⟨w.heap.size, 2, none⟩ = some (.int .i64 c) ∧ V.cell? ⟨w.heap.size, 3, none⟩ = some (.slice A n cp) ∧ Below W1.heap.size W1 V)) (by kernel_rfl) (HS.out _ (below_drew hv1)) (fun hHeld => ?_)
    change wpAnyH _ _ _ _ _ 14 #[false, false, false, false, false, false, false, false, false, false, false, false, false, false] _ _
    refine wpAnyH_take (i := 0) (v := ?_) rfl (by kernel_rfl) (by kernel_rfl) (by kernel_rfl) (fun _ _ _ h => h) (Or.inl ⟨by rfl, ?_⟩) (by assumption) ?_
    rotate_left
    · intro w hSw
      try dsimp only at hSw
      first | (go_simp; done) | (go_simp; with_reducible rfl)
    simp only [List.getElem_toArray, List.getElem_cons_zero, List.getElem_cons_succ, Act.put, List.setIfInBounds_toArray, List.set_cons_zero, List.set_cons_succ]
    refine wpAnyH_take (i := 1) (v := ?_) rfl (by kernel_rfl) (by kernel_rfl) (by kernel_rfl) (fun _ _ _ h => h) (Or.inl ⟨by rfl, ?_⟩) (by assumption) ?_
    rotate_left
    · intro w hSw
      try dsimp only at hSw
      first | (go_simp; done) | (go_simp; with_reducible rfl)
    simp only [List.getElem_toArray, List.getElem_cons_zero, List.getElem_cons_succ, Act.put, List.setIfInBounds_toArray, List.set_cons_zero, List.set_cons_succ]
    refine wpAnyH_take (i := 2) (v := ?_) rfl (by kernel_rfl) (by kernel_rfl) (by kernel_rfl) (fun _ _ _ h => h) (Or.inl ⟨by rfl, ?_⟩) (by assumption) ?_
    rotate_left
    · intro w hSw
      try dsimp only at hSw
      first | (go_simp; done) | (go_simp; with_reducible rfl)
    simp only [List.getElem_toArray, List.getElem_cons_zero, List.getElem_cons_succ, Act.put, List.setIfInBounds_toArray, List.set_cons_zero, List.set_cons_succ]
    refine wpAnyH_ready (rs := [3]) (by kernel_rfl) (by simp) ?_
    refine AllReadyH.cons rfl (fun K hK => ?_) AllReadyH.nil
    go_simp
    go_at_call 51
    refine (HLAST.out _ (below_drew hv1)).mono ?_
    rintro e w7 ⟨rfl, hb7⟩
    have hb8 := step_belowB (wr := W1) (below_drew hv1) hb7
    refine hK.out _ _ (HS.out _ hb8) (fun hHeld => ?_)
    simp only [List.getElem_toArray, List.getElem_cons_zero, List.getElem_cons_succ, Act.put, List.setIfInBounds_toArray, List.set_cons_zero, List.set_cons_succ]
    refine wpAnyH_take (i := 4) (v := ?_) rfl (by kernel_rfl) (by kernel_rfl) (by kernel_rfl) (fun _ _ _ h => h) (Or.inl ⟨by rfl, ?_⟩) (by assumption) ?_
    rotate_left
    · intro w hSw
      try dsimp only at hSw
      first | (go_simp; done) | (go_simp; with_reducible rfl)
    simp only [List.getElem_toArray, List.getElem_cons_zero, List.getElem_cons_succ, Act.put, List.setIfInBounds_toArray, List.set_cons_zero, List.set_cons_succ]
    refine wpAnyH_take (i := 5) (v := ?_) rfl (by kernel_rfl) (by kernel_rfl) (by kernel_rfl) (fun _ _ _ h => h) (Or.inl ⟨by rfl, ?_⟩) (by assumption) ?_
    rotate_left
    · intro w hSw
      try dsimp only at hSw
      first | (go_simp; done) | (go_simp; with_reducible rfl)
    simp only [List.getElem_toArray, List.getElem_cons_zero, List.getElem_cons_succ, Act.put, List.setIfInBounds_toArray, List.set_cons_zero, List.set_cons_succ]
    refine wpAnyH_take (i := 6) (v := undef) rfl (by kernel_rfl) (by kernel_rfl) (by kernel_rfl) (fun _ _ _ h => h) (Or.inr ⟨by rfl, rfl⟩) (by assumption) ?_
    simp only [List.getElem_toArray, List.getElem_cons_zero, List.getElem_cons_succ, Act.put, List.setIfInBounds_toArray, List.set_cons_zero, List.set_cons_succ]
    refine wpAnyH_take (i := 7) (v := undef) rfl (by kernel_rfl) (by kernel_rfl) (by kernel_rfl) (fun _ _ _ h => h) (Or.inr ⟨by rfl, rfl⟩) (by assumption) ?_
    simp only [List.getElem_toArray, List.getElem_cons_zero, List.getElem_cons_succ, Act.put, List.setIfInBounds_toArray, List.set_cons_zero, List.set_cons_succ]
    refine wpAnyH_take (i := 8) (v := undef) rfl (by kernel_rfl) (by kernel_rfl) (by kernel_rfl) (fun _ _ _ h => h) (Or.inr ⟨by rfl, rfl⟩) (by assumption) ?_
    simp only [List.getElem_toArray, List.getElem_cons_zero, List.getElem_cons_succ, Act.put, List.setIfInBounds_toArray, List.set_cons_zero, List.set_cons_succ]
    refine wpAnyH_take (i := 9) (v := undef) rfl (by kernel_rfl) (by kernel_rfl) (by kernel_rfl) (fun _ _ _ h => h) (Or.inr ⟨by rfl, rfl⟩) (by assumption) ?_
    simp only [List.getElem_toArray, List.getElem_cons_zero, List.getElem_cons_succ, Act.put, List.setIfInBounds_toArray, List.set_cons_zero, List.set_cons_succ]
    refine wpAnyH_take (i := 10) (v := undef) rfl (by kernel_rfl) (by kernel_rfl) (by kernel_rfl) (fun _ _ _ h => h) (Or.inr ⟨by rfl, rfl⟩) (by assumption) ?_
    simp only [List.getElem_toArray, List.getElem_cons_zero, List.getElem_cons_succ, Act.put, List.setIfInBounds_toArray, List.set_cons_zero, List.set_cons_succ]
    refine wpAnyH_take (i := 11) (v := ?_) rfl (by kernel_rfl) (by kernel_rfl) (by kernel_rfl) (fun _ _ _ h => h) (Or.inl ⟨by rfl, ?_⟩) (by assumption) ?_
    rotate_left
    · intro w hSw
      try dsimp only at hSw
      first | (go_simp; done) | (go_simp; with_reducible rfl)
    simp only [List.getElem_toArray, List.getElem_cons_zero, List.getElem_cons_succ, Act.put, List.setIfInBounds_toArray, List.set_cons_zero, List.set_cons_succ]
    refine wpAnyH_take (i := 12) (v := ?_) rfl (by kernel_rfl) (by kernel_rfl) (by kernel_rfl) (fun _ _ _ h => h) (Or.inl ⟨by rfl, ?_⟩) (by assumption) ?_
    rotate_left
    · intro w hSw
      try dsimp only at hSw
      first | (go_simp; done) | (go_simp; with_reducible rfl)
    simp only [List.getElem_toArray, List.getElem_cons_zero, List.getElem_cons_succ, Act.put, List.setIfInBounds_toArray, List.set_cons_zero, List.set_cons_succ]
    refine wpAnyH_take (i := 13) (v := ?_) rfl (by kernel_rfl) (by kernel_rfl) (by kernel_rfl) (fun _ _ _ h => h) (Or.inl ⟨by rfl, ?_⟩) (by assumption) ?_
    rotate_left
    · intro w hSw
      try dsimp only at hSw
      first | (go_simp; done) | (go_simp; with_reducible rfl)
    simp only [List.getElem_toArray, List.getElem_cons_zero, List.getElem_cons_succ, Act.put, List.setIfInBounds_toArray, List.set_cons_zero, List.set_cons_succ]
    refine wpAnyH_done (by kernel_rfl) ?_ _
    go_wp2_with fail
    go_ret2
    exact ⟨rfl, HB.out.trans (hb8.mono HB.out.size)⟩
/-- The levels of a paragraph; none, if its level is neither 0 nor 1. -/
def zOf (c : List Int) (x : Int) : List Int := if x = 0 then (explL c 0).map (·.1) else if x = 1 then (explL c 1).map (·.1) else []
theorem zOf_le (c : List Int) (x : Int) : (zOf c x).length ≤ c.length := by
  unfold zOf
  split
  · simp [explL_len]
  · split
    · simp [explL_len]
    · simp
theorem explicit_as (A : Option Addr) (c : List Int) (x : Int) (n m : Nat) (w : World) (hl : c.length = n) (hR : IntsAt w A c) (hn : n ≤ 1000000) (hnm : n ≤ m) :
    Calls Tryz.prog 48 #[.slice A n m, .int .i64 x] w fun e w' => ∃ A1 c1 A2 n2 c2, e = .returned (.tuple #[.slice A1 (zOf c x).length c1, .slice A2 n2 c2]) ∧ IntsAt w' A1 (zOf c x) ∧ Below w.heap.size w w' ∧ (∀ b o, A1 = some ⟨b, o, none⟩ → w.heap.size ≤ b) := by
  by_cases h0 : x = 0
  · subst h0
    refine (explicit_reads A c 0 n m w (by omega) hl hR hn hnm).mono ?_
    rintro e w' ⟨g1, g2, rfl, -, hg1, -, -, -, i1, -, hb⟩
    have e1 : (zOf c 0) = (explL c 0).map (·.1) := by unfold zOf; rw [if_pos rfl]
    rw [e1, show ((explL c 0).map (·.1)).length = n from by rw [List.length_map, explL_len, hl]]
    exact ⟨_, _, _, _, _, rfl, i1, hb, fun b o e => by injection e with e; injection e with e; omega⟩
  · by_cases h1 : x = 1
    · subst h1
      refine (explicit_reads A c 1 n m w (by omega) hl hR hn hnm).mono ?_
      rintro e w' ⟨g1, g2, rfl, -, hg1, -, -, -, i1, -, hb⟩
      have e1 : (zOf c 1) = (explL c 1).map (·.1) := by unfold zOf; rw [if_neg (by omega), if_pos rfl]
      rw [e1, show ((explL c 1).map (·.1)).length = n from by rw [List.length_map, explL_len, hl]]
      exact ⟨_, _, _, _, _, rfl, i1, hb, fun b o e => by injection e with e; injection e with e; omega⟩
    · refine (explicit_none A x n m w h0 h1).mono ?_
      rintro e w' ⟨rfl, rfl⟩
      have e1 : zOf c x = [] := by unfold zOf; rw [if_neg h0, if_neg h1]
      rw [e1]
      exact ⟨none, 0, none, 0, 0, rfl, .inl rfl, Below.refl _ _, fun b o e => by cases e⟩
set_option maxHeartbeats 2000000 in
set_option maxRecDepth 100000 in
theorem parag_any (A : Option Addr) (c : List Int) (x : Int) (n m : Nat) (w : World) (hl : c.length = n) (hR : IntsAt w A c) (hn : n ≤ 1000000) (hnm : n ≤ m) :
    Calls Tryz.prog 49 #[.slice A n m, .int .i64 x] w fun e w' => ∃ A1 c1 A2 c2, e = .returned (.agg #[.int .i64 x, .slice A1 (zOf c x).length c1, .slice A2 n c2]) ∧ IntsAt w' A1 (zOf c x) ∧ IntsAt w' A2 (matchL c) ∧ Below w.heap.size w w' := by
  obtain ⟨W1, hW1⟩ : ∃ W1, w.alloc (.cells #[.int .i64 0, .slice none 0 0, .slice none 0 0] 69) = W1 := ⟨_, rfl⟩
  have hb : Below w.heap.size w W1 := by rw [← hW1]; exact (Below.refl _ _).alloc (Nat.le_refl _) _
  have hbox : W1.heap[w.heap.size]? = some (.cells #[.int .i64 0, .slice none 0 0, .slice none 0 0] 69 (0, 0)) := by rw [← hW1]; exact heap_alloc_last _ _
  have hblt : w.heap.size < W1.heap.size := (Array.getElem?_eq_some_iff.1 hbox).1
  have HE := Lib.hid (explicit_as A c x n m W1 hl (hR.below hb) hn hnm)
  have HMT := Lib.hid (fun V (h : Below W1.heap.size W1 V) => match_any A c n m V hl (hR.below (hb.trans (h.mono hb.size))) (by omega))
  have HI := Lib.hid (show (Tryz.prog.info? 69).map (·.size) = some 3 from by kernel_rfl)
  have HB := Lib.hid hb
  have HX := Lib.hid hbox
  have hml : (matchL c).length = n := by rw [matchL_len, hl]
  have HML := Lib.hid hml
  clear hb hbox hR hml
  generalize hz : zOf c x = z at *
  generalize hmm : matchL c = mt at *
  clear hz hmm hl
  go_enter Tryz.func49, Tryz.ntmps49
  go_wp2_with fail
  refine HE.out.mono ?_
  rintro e w2 ⟨A1, c1, A2, n2, c2, rfl, hz, hb2, hA1⟩
  have HB2 := Lib.hid hb2
  have HZ := Lib.hid hz
  clear hb2 hz
  go_wp2_with fail
  refine (HMT.out _ HB2.out).mono ?_
  rintro e w3 ⟨g3, rfl, hown, hb3⟩
  obtain ⟨A3, c3, hv, hm3⟩ := intsAt_icl hown HML.out
  obtain ⟨rfl, rfl⟩ : some ⟨g3, 0, none⟩ = A3 ∧ n = c3 := by injection hv with e1 e2 e3; exact ⟨e1, e3⟩
  have hs2 := HB2.out.size
  have hx3 : w3.heap[w.heap.size]? = some (.cells #[.int .i64 0, .slice none 0 0, .slice none 0 0] 69 (0, 0)) := (hb3.block _ (by omega)).trans ((HB2.out.block _ hblt).trans HX.out)
  obtain ⟨q0, q1, q2⟩ := threeG hx3
  have f0 := frozen_of_row w3 w.heap.size 0 _ _ hx3
  have f1 := frozen_of_row w3 w.heap.size 1 _ _ hx3
  have f2 := frozen_of_row w3 w.heap.size 2 _ _ hx3
  have HX3 := Lib.hid hx3
  have HZ3 := Lib.hid (HZ.out.below hb3)
  have HM3 := Lib.hid hm3
  have HB3 := Lib.hid (HB.out.trans ((HB2.out.trans (hb3.mono hs2)).mono HB.out.size))
  have hgB : w.heap.size < g3 := by have := (hown.lt g3 rfl).1; omega
  have HZb := Lib.hid (show ∀ b2 o2, A1 = some ⟨b2, o2, none⟩ → b2 ≠ w.heap.size from fun b o e => by have := hA1 b o e; omega)
  clear hA1
  clear hx3 hm3 hown hb3 HB HX HE HMT HB2 HZ
  go_wp2_with fail
  refine bodyPost_ret (results_cell_row Tryz.results49 _ _ w.heap.size 69 _ (0, 0) _ rfl (heap_setCell_same _ w.heap.size 2 _ _ _ (heap_setCell_same _ w.heap.size 1 _ _ _ (heap_setCell_same w3 w.heap.size 0 _ _ _ HX3.out))) Tryz.underlying69 rfl HI.out) rfl ?_
  have hn3 : ∀ b2 o2, some (⟨g3, 0, none⟩ : Addr) = some ⟨b2, o2, none⟩ → b2 ≠ w.heap.size := fun b2 o2 e => by injection e with e; injection e with e; omega
  exact ⟨A1, c1, _, n, rfl, ints_set (ints_set (ints_set HZ3.out HZb.out _ _) HZb.out _ _) HZb.out _ _, ints_set (ints_set (ints_set HM3.out hn3 _ _) hn3 _ _) hn3 _ _, ((HB3.out.setCell (p := ⟨w.heap.size, 0, none⟩) (Nat.le_refl _) _).setCell (p := ⟨w.heap.size, 1, none⟩) (Nat.le_refl _) _).setCell (p := ⟨w.heap.size, 2, none⟩) (Nat.le_refl _) _⟩
end Go.Proofs.YtfclpecbnailgaaGreat.Sq

/-
  A rune as three numbers. No program in it.
-/
set_option linter.unusedVariables false
namespace Go.Proofs.YtfclpecbnailgaaGreat.Ku
/-- A rune: where it begins, its size, its number. -/
abbrev R3 := Int × Int × Int
/-- A number that an int holds. -/
def okN (n : Int) : Prop := -9223372036854775808 ≤ n ∧ n ≤ 9223372036854775807
end Go.Proofs.YtfclpecbnailgaaGreat.Ku

/-
  Rows of runes in memory, of the call's own or of what came in: small facts.
-/
set_option linter.unusedVariables false
namespace Go.Proofs.YtfclpecbnailgaaGreat.Ku
open Go.RowKit Go.Lib
def cellsR (l : List R3) : List Value := l.flatMap fun r => [.int .i64 r.1, .int .i64 r.2.1, .int .i64 r.2.2]
theorem cellsR_len (l : List R3) : (cellsR l).length = l.length * 3 := by
  induction l with
  | nil => rfl
  | cons r l ih => simp [cellsR] at ih ⊢; omega
theorem cellsR_at : ∀ (l : List R3) (k : Nat) (hk : k < l.length), (cellsR l)[k * 3]? = some (.int .i64 l[k].1) ∧ (cellsR l)[k * 3 + 1]? = some (.int .i64 l[k].2.1) ∧ (cellsR l)[k * 3 + 2]? = some (.int .i64 l[k].2.2)
  | r :: l, 0, _ => ⟨rfl, rfl, rfl⟩
  | r :: l, k + 1, hk => by
    have := cellsR_at l k (by simpa using hk)
    rw [show (k + 1) * 3 = k * 3 + 3 from by omega]
    exact this
theorem cellsR_one (l : List R3) : ∀ u ∈ cellsR l, u.oneCell' = true := by
  intro u hu
  simp only [cellsR, List.mem_flatMap] at hu
  obtain ⟨x, _, hu⟩ := hu
  simp at hu
  rcases hu with rfl | rfl | rfl <;> rfl
/-- A row of runes: nothing, or cells below the heap's end. -/
def RuAt (w : World) (A : Option Addr) (l : List R3) : Prop :=
  l = [] ∨ ∃ b off, A = some ⟨b, off, none⟩ ∧ b < w.heap.size ∧ ∀ k (hk : k < l.length), w.cell? ⟨b, off + k * 3, none⟩ = some (.int .i64 l[k].1) ∧ w.cell? ⟨b, off + k * 3 + 1, none⟩ = some (.int .i64 l[k].2.1) ∧ w.cell? ⟨b, off + k * 3 + 2, none⟩ = some (.int .i64 l[k].2.2)
theorem RuAt.below {w w' : World} {A : Option Addr} {l : List R3} (h : RuAt w A l) (hb : Below w.heap.size w w') : RuAt w' A l := by
  rcases h with h | ⟨b, off, hA, hlt, hc⟩
  · exact .inl h
  · refine .inr ⟨b, off, hA, Nat.lt_of_lt_of_le hlt hb.size, fun k hk => ?_⟩
    obtain ⟨h0, h1, h2⟩ := hc k hk
    exact ⟨(hb.cell (p := ⟨b, off + k * 3, none⟩) hlt).trans h0, (hb.cell (p := ⟨b, off + k * 3 + 1, none⟩) hlt).trans h1, (hb.cell (p := ⟨b, off + k * 3 + 2, none⟩) hlt).trans h2⟩
theorem RuAt.at_ {w : World} {A : Option Addr} {l : List R3} (h : RuAt w A l) {k : Nat} (hk : k < l.length) : ∃ b off, A = some ⟨b, off, none⟩ ∧ b < w.heap.size ∧ w.cell? ⟨b, off + k * 3, none⟩ = some (.int .i64 l[k].1) ∧ w.cell? ⟨b, off + k * 3 + 1, none⟩ = some (.int .i64 l[k].2.1) ∧ w.cell? ⟨b, off + k * 3 + 2, none⟩ = some (.int .i64 l[k].2.2) := by
  rcases h with rfl | ⟨b, off, hA, hlt, hc⟩
  · simp at hk
  · obtain ⟨h0, h1, h2⟩ := hc k hk
    exact ⟨b, off, hA, hlt, h0, h1, h2⟩
theorem RuAt.heap {w w' : World} {A : Option Addr} {l : List R3} (h : RuAt w A l) (e : w'.heap = w.heap) : RuAt w' A l := by
  unfold RuAt World.cell? at h ⊢
  rw [e]
  exact h
theorem add_off (b off k : Nat) : (⟨b, off, none⟩ : Addr).add k = ⟨b, off + k, none⟩ := by unfold Addr.add; split <;> simp_all
theorem ruAt_own {w : World} {B : Nat} {t : TypeId} {v : Value} {l : List R3} (h : w.ownsRow B t 3 v l.length (cellsR l)) : ∃ A c, v = .slice A l.length c ∧ RuAt w A l := by
  have hc := @World.ownsRow.cells _ _ _ _ _ _ _ h
  rcases h.2 with ⟨rfl, hn⟩ | ⟨g, cap, cur, rfl, _, hg, _⟩
  · exact ⟨none, 0, by rw [hn], .inl (List.eq_nil_of_length_eq_zero hn)⟩
  · refine ⟨_, cap, rfl, .inr ⟨g, 0, rfl, (Array.getElem?_eq_some_iff.1 hg).1, fun k hk => ?_⟩⟩
    obtain ⟨h0, h1, h2⟩ := cellsR_at l k hk
    refine ⟨?_, ?_, ?_⟩
    · have := hc (g := g) rfl _ _ h0; rw [add_off] at this; exact this
    · have := hc (g := g) rfl _ _ h1; rw [add_off] at this; exact this
    · have := hc (g := g) rfl _ _ h2; rw [add_off] at this; exact this
theorem RuAt.news {w : World} {ad : Addr} {l : List R3} (h : RuAt w (some ad) l) : ∀ j u, (cellsR l)[j]? = some u → w.cell? (ad.add j) = some u := by
  intro j u hu
  rcases h with rfl | ⟨b, off, hA, hlt, hc⟩
  · simp [cellsR] at hu
  · injection hA with hA
    subst hA
    have hlen := cellsR_len l
    have hj : j < l.length * 3 := by
      have := (List.getElem?_eq_some_iff.1 hu).1
      omega
    have hk : j / 3 < l.length := by omega
    obtain ⟨h0, h1, h2⟩ := hc (j / 3) hk
    obtain ⟨g0, g1, g2⟩ := cellsR_at l (j / 3) hk
    rw [add_off]
    have : j = j / 3 * 3 ∨ j = j / 3 * 3 + 1 ∨ j = j / 3 * 3 + 2 := by omega
    rcases this with e | e | e
    · rw [e, g0] at hu; rw [e]; rw [← hu]; exact h0
    · rw [e, g1] at hu; rw [e]; rw [← hu]; exact h1
    · rw [e, g2] at hu; rw [e]; rw [← hu]; exact h2
theorem infoR : (Tryz.prog.info? 38).map (fun i => (i.zero, i.size, i.bytes)) = some (some (.agg #[.int .i64 0, .int .i64 0, .int .i64 0]), 3, 24) := by kernel_rfl
end Go.Proofs.YtfclpecbnailgaaGreat.Ku

/-
  What is told of a paragraph, for any number as its level; what a sequence's levels are put into; facts that the code's way and the document's share. No program in it but its types.
-/
set_option linter.unusedVariables false
namespace Go.Proofs.YtfclpecbnailgaaGreat.Bi
open Go Go.RowKit Go.Lib Go.Proofs.YtfclpecbnailgaaGreat.Cl Go.Proofs.YtfclpecbnailgaaGreat.Ba Go.Proofs.YtfclpecbnailgaaGreat.Lv Go.Proofs.YtfclpecbnailgaaGreat.Sq Go.Proofs.YtfclpecbnailgaaGreat.Wk Go.Proofs.YtfclpecbnailgaaGreat.Pr Go.Proofs.YtfclpecbnailgaaGreat.Ne
/-- The classes told, for any number as the paragraph's level. -/
def tOf (c : List Int) (x : Int) : List Int := if x = 0 then toldB c 0 else if x = 1 then toldB c 1 else []
theorem zOf_01 (c : List Int) (x : Int) : (∃ b : Nat, b ≤ 1 ∧ x = (b : Int) ∧ zOf c x = zB c b ∧ tOf c x = toldB c b) ∨ (x ≠ 0 ∧ x ≠ 1 ∧ zOf c x = [] ∧ tOf c x = []) := by
  by_cases h0 : x = 0
  · subst h0; exact .inl ⟨0, by omega, rfl, rfl, rfl⟩
  · by_cases h1 : x = 1
    · subst h1; exact .inl ⟨1, by omega, rfl, rfl, rfl⟩
    · exact .inr ⟨h0, h1, by unfold zOf; rw [if_neg h0, if_neg h1], by unfold tOf; rw [if_neg h0, if_neg h1]⟩
/-- A slice of these numbers. -/
def OkI (zs : List Int) (m : Nat) (v : Value) (w : World) : Prop := ∃ A c, v = .slice A m c ∧ IntsAt w A zs
theorem OkI.later {zs : List Int} {m : Nat} {v : Value} {w w' : World} (h : OkI zs m v w) (hb : Below w.heap.size w w') : OkI zs m v w' := by
  obtain ⟨A, c, e, h1⟩ := h
  exact ⟨A, c, e, h1.below hb⟩
theorem OkI.of {zs : List Int} {m B : Nat} {A : Option Addr} {c : Nat} {w : World} (h : w.ownsRow B 3 1 (.slice A m c) m (icl zs)) (hl : zs.length = m) : OkI zs m (.slice A m c) w := by
  obtain ⟨A', c', e, h1⟩ := intsAt_icl h hl
  injection e with e1 _ _
  subst e1
  exact ⟨_, c, rfl, h1⟩
theorem putR_snoc : ∀ (p : List Nat) (d o : List Int) {k : Nat} (hk : k < p.length) (hd : d.length = p.length), putR o (p.take (k + 1)) (d.take (k + 1)) = (putR o (p.take k) (d.take k)).set p[k] (d[k]'(by omega))
  | [], _, _, _, hk, _ => by simp at hk
  | _ :: _, [], _, _, _, hd => by simp at hd
  | i :: p, x :: d, o, 0, _, _ => by simp [putR]
  | i :: p, x :: d, o, k + 1, hk, hd => by
    have ih := putR_snoc p d (o.set i x) (k := k) (by simpa using hk) (by simpa using hd)
    simpa [putR] using ih
theorem outP_snoc (F : Rule) (told codes own z : List Int) {T : List S4} {i : Nat} (h : i < T.length) : outP F told codes own z (T.take (i + 1)) = putR (outP F told codes own z (T.take i)) T[i].p (rowP F told codes own T[i]) := by
  unfold outP
  rw [List.take_succ_eq_append_getElem h, List.foldl_append]
  rfl
theorem own_int {V : World} {base g n c : Nat} {O : List Int} (h : V.ownsRow base 3 1 (.slice (some ⟨g, 0, none⟩) n c) n (icl O)) {i : Nat} {x : Int} (hx : O[i]? = some x) : V.cell? ⟨g, i, none⟩ = some (.int .i64 x) ∧ V.frozen? ⟨g, i, none⟩ = false := by
  have hi := (List.getElem?_eq_some_iff.1 hx).1
  have hl : (icl O).length = n * 1 := h.1
  rw [icl_len] at hl
  refine ⟨?_, h.frozenAt _⟩
  rw [h.cellAt _ (by omega)]
  simp [icl, hx]
theorem row_set {B g n c : Nat} {w wx : World} {O : List Int} (h : Row B (some ⟨g, 0, none⟩) n c w O wx) (i : Nat) (x : Int) : Row B (some ⟨g, 0, none⟩) n c w (O.set i x) (wx.setCell ⟨g, i, none⟩ (.int .i64 x)) := by
  obtain ⟨h1, h2⟩ := h.own.stored i (.int .i64 x)
  refine ⟨?_, grown_trans h.gr h2⟩
  rw [show (icl O).set i (.int .i64 x) = icl (O.set i x) from by simp [icl]] at h1
  exact h1
theorem own_head {V : World} {B n c : Nat} {A : Option Addr} {xs : List Value} (h : V.ownsRow B 3 1 (.slice A n c) n xs) (hn : 0 < n) : ∃ g, A = some ⟨g, 0, none⟩ := by
  rcases h.2 with ⟨e, h0⟩ | ⟨g, cap, cur, e, _⟩
  · omega
  · injection e with e1 _ _
    exact ⟨g, e1⟩
theorem fill_at (a : Int) : ∀ (l : List Int) {k : Nat} (hk : k < l.length), (fillP a l)[k]? = some (if l[k] < 0 then (if k = 0 then a else (fillP a l).getD (k - 1) 0) else l[k])
  | [], _, hk => by simp at hk
  | x :: r, 0, _ => by simp [fillP]
  | x :: r, k + 1, hk => by
    have hkr : k < r.length := by simpa using hk
    simp only [fillP, List.getElem?_cons_succ, List.getElem_cons_succ]
    rw [fill_at _ r hkr]
    cases k with
    | zero => simp
    | succ k => simp
theorem ints_kept2 {w w' : World} {A : Option Addr} {zs : List Int} {row : Option Nat} (h : IntsAt w A zs) (hg : w.grownBy w' row) (hne : ∀ a, A = some a → some a.block ≠ row) : IntsAt w' A zs := by
  rcases h with rfl | ⟨b, off, e, hb, hz⟩
  · exact .inl rfl
  · exact .inr ⟨b, off, e, Nat.lt_of_lt_of_le hb hg.size, fun j z hj => hg.cell (hz j z hj) (show some b ≠ row from hne ⟨b, off, none⟩ e)⟩
theorem own_cap {V : World} {B n c : Nat} {A : Option Addr} {xs : List Value} (h : V.ownsRow B 3 1 (.slice A n c) n xs) : n ≤ c := by
  rcases h.2 with ⟨e, h0⟩ | ⟨g, cap, cur, e, hB, hg, hle, -⟩
  · omega
  · injection e with _ _ e3
    rw [e3]
    exact hle
theorem up_len : ∀ (l : List Nat) (lo n : Nat), l.Pairwise (· < ·) → (∀ p ∈ l, lo ≤ p ∧ p < n) → lo ≤ n → l.length + lo ≤ n
  | [], lo, n, _, _, h => by simpa using h
  | x :: r, lo, n, hp, h, _ => by
    have hx := h x (by simp)
    have ih := up_len r (x + 1) n (List.pairwise_cons.1 hp).2 (fun p hpm => ⟨(List.pairwise_cons.1 hp).1 p hpm, (h p (by simp [hpm])).2⟩) (by omega)
    simp only [List.length_cons]
    omega
theorem zB_most {c : List Int} {b : Nat} (hb : b ≤ 1) (i : Nat) : L (zB c b) i ≤ 125 := by
  rcases Nat.lt_or_ge i c.length with h | h
  · obtain ⟨P, s', p1, p2, p3⟩ := walk_split b (c.drop i) (c.take i) (startS b) (Ok.start b)
    have hPl : P.length = i := by rw [p1, List.length_take]; omega
    rw [List.take_append_drop] at p2
    have hy : (explL c b)[i]? = some (outS b (closeS c[i] s') c[i]) := by
      unfold explL
      rw [p2, List.getElem?_append_right (by omega), hPl, Nat.sub_self, List.drop_eq_getElem_cons h]
      rfl
    rw [L_zB hy]
    generalize ho : outS b (closeS c[i] s') c[i] = y
    obtain ⟨z1, z2⟩ := y
    show z1 ≤ 125
    rcases deep_cases hb (p3.close c[i]) ho with ⟨_, _, e, _⟩ | ⟨_, _, e, _⟩ | ⟨_, _, _, e, _⟩ | ⟨_, _, _, e, _⟩ <;> omega
  · have : L (zB c b) i = -1 := Classical.byContradiction fun hn => by have := L_lt hn; rw [zB_len] at this; omega
    omega
theorem seq_facts {C : List Int} {x : Int} {T : List S4} (h : SeqsOk C (zOf C x) x T) : ∀ s ∈ T, (∀ p ∈ s.p, p < (zOf C x).length) ∧ (∀ p ∈ s.p, p < C.length) ∧ s.p.length ≤ C.length ∧ 0 ≤ s.a ∧ s.a ≤ 125 := by
  rcases zOf_01 C x with ⟨b, hb, rfl, e1, _⟩ | ⟨_, _, e1, _⟩
  · rw [e1] at h ⊢
    have ha := ok_all (iso_zB C b) h
    intro s hs
    have hp : ∀ p ∈ s.p, p < (zB C b).length := fun p hp => L_lt (ha.lev s hs p hp).1
    have hp2 : ∀ p ∈ s.p, p < C.length := fun p hpm => by have := hp p hpm; rwa [zB_len] at this
    obtain ⟨q, hq⟩ := List.exists_mem_of_ne_nil _ (h.each s hs).ne
    have hq2 := ha.lev s hs q hq
    refine ⟨hp, hp2, up_len s.p 0 C.length (ha.up s hs) (fun p hpm => ⟨Nat.zero_le _, hp2 p hpm⟩) (Nat.zero_le _), ?_, ?_⟩
    · rcases zB_ok C b q with e | e
      · exact absurd e hq2.1
      · rw [hq2.2] at e; exact e
    · rw [← hq2.2]; exact zB_most hb q
  · rw [e1] at h
    have hT : T = [] := by
      have := h.heads
      simpa [headsTo] using this
    subst hT
    intro s hs
    cases hs
theorem res_gen {C K : List Int} {x : Int} {T : List S4} (h : SeqsOk C (zOf C x) x T) : fillP x (outP rule (tOf C x) K C (zOf C x) T) = resZ C K x := by
  rcases zOf_01 C x with ⟨b, hb, rfl, e1, e2⟩ | ⟨h0, h1, e1, e2⟩
  · rw [e1] at h
    rw [e1, e2, resZ_some C K hb, seqsB_eq h]
    rfl
  · rw [e1] at h
    have hT : T = [] := by
      have := h.heads
      simpa [headsTo] using this
    subst hT
    rw [e1, resZ_none C K h0 h1]
    rfl
def codR (l : List Ku.R3) : List Int := l.map fun r => r.2.2
theorem codR_len (l : List Ku.R3) : (codR l).length = l.length := by simp [codR]
theorem codR_take {l : List Ku.R3} {k : Nat} (h : k < l.length) : (codR l).take (k + 1) = (codR l).take k ++ [l[k].2.2] := by
  rw [List.take_succ_eq_append_getElem (by rw [codR_len]; exact h)]
  simp [codR]
end Go.Proofs.YtfclpecbnailgaaGreat.Bi

/-
  Proved here: what (bidi.sequence).of returns: a new row of what of a paragraph's list stands at the sequence's places. It leaves what was in memory.
-/
set_option linter.unusedVariables false
namespace Go.Proofs.YtfclpecbnailgaaGreat.Bi
open Go Go.RowKit Go.Lib Go.Proofs.YtfclpecbnailgaaGreat.Cl
/-- A sequence in its paragraph, as a value's cells. -/
def seqCells (a b c : Int) (At B0 B1 B2 B3 : Option Addr) (m ct n0 k0 n1 k1 n2 k2 n3 k3 : Nat) : Array Value := #[.int .i64 a, .int .i64 b, .int .i64 c, .slice At m ct, .slice B0 n0 k0, .slice B1 n1 k1, .slice B2 n2 k2, .slice B3 n3 k3]
theorem pick_step {l : List Int} {p : List Nat} {k : Nat} (h : k < p.length) : (pick l p).take (k + 1) = (pick l p).take k ++ [l.getD p[k] 0] := by
  rw [List.take_succ_eq_append_getElem (by rw [pick_len]; exact h)]
  simp [pick]
theorem take_set (Z : List Int) (k : Nat) (v : Int) (h : k < Z.length) : (Z.set k v).take (k + 1) = Z.take k ++ [v] := by
  rw [List.take_set, List.take_succ_eq_append_getElem h, List.set_append_right _ _ (by simp; omega)]
  simp [Nat.min_eq_left (Nat.le_of_lt h)]
set_option maxHeartbeats 2000000 in
set_option maxRecDepth 100000 in
theorem seqof_any (a b c : Int) (At B0 B1 B2 B3 A : Option Addr) (m ct n0 k0 n1 k1 n2 k2 n3 k3 n cl : Nat) (l : List Int) (p : List Nat) (w : World) (hI : IntsAt w A l) (hP : IntsAt w At (Sq.ns p)) (hl : l.length = n) (hp : p.length = m) (hm : m ≤ 1099511627776) (hn : n ≤ 1099511627776) (hlt : ∀ i ∈ p, i < l.length) :
    Calls Tryz.prog 56 #[.agg (seqCells a b c At B0 B1 B2 B3 m ct n0 k0 n1 k1 n2 k2 n3 k3), .slice A n cl] w fun e w' => ∃ A' c', e = .returned (.slice A' m c') ∧ w'.ownsRow w.heap.size 3 1 (.slice A' m c') m (icl (pick l p)) ∧ Below w.heap.size w w' := by
  obtain ⟨i0, hi0, hq0, hq1, hq2⟩ := info_parts infoInt
  obtain ⟨W1, hW1⟩ : ∃ W1, w.alloc (.cells #[.int .i64 a, .int .i64 b, .int .i64 c, .slice At m ct, .slice B0 n0 k0, .slice B1 n1 k1, .slice B2 n2 k2, .slice B3 n3 k3] 52) = W1 := ⟨_, rfl⟩
  have hb : Below w.heap.size w W1 := by rw [← hW1]; exact (Below.refl _ _).alloc (Nat.le_refl _) _
  have hbox : W1.heap[w.heap.size]? = some (.cells #[.int .i64 a, .int .i64 b, .int .i64 c, .slice At m ct, .slice B0 n0 k0, .slice B1 n1 k1, .slice B2 n2 k2, .slice B3 n3 k3] 52 (0, 0)) := by rw [← hW1]; exact heap_alloc_last _ _
  have hblt : w.heap.size < W1.heap.size := (Array.getElem?_eq_some_iff.1 hbox).1
  have hc3 : W1.cell? ⟨w.heap.size, 3, none⟩ = some (.slice At m ct) := cell_of_row _ _ 3 _ _ _ hbox
  have HC3 := Lib.hid hc3
  have HI := Lib.hid hi0
  have HQ0 := Lib.hid hq0
  have HQ1 := Lib.hid hq1
  have HQ2 := Lib.hid hq2
  have HA := Lib.hid (hI.below hb)
  have HPA := Lib.hid (hP.below hb)
  have HB0 := Lib.hid hb
  have HL := Lib.hid hl
  have HPL := Lib.hid hp
  have HLT := Lib.hid hlt
  have HBL := Lib.hid hblt
  clear hi0 hq0 hq1 hq2 hI hP hl hp hlt hb hbox hblt
  unfold seqCells
  go_enter Tryz.func56, Tryz.ntmps56
  go_wp2_with (refine wpList_make_full _ rfl _ _ 25 rfl W1.heap.size 3 i0 (.int .i64 0) 1 Tryz.underlying25 HI.out HQ0.out HQ1.out .i64 .i64 _ _ m rfl rfl rfl rfl ?c1 ?c2 ?c3 ?_)
  case c1 => rw [HQ2.out]; omega
  case c2 => unfold maxLen; omega
  case c3 => exact Nat.le_refl _
  intro w1 hown hgr
  have hown1 : w1.ownsRow W1.heap.size 3 1 (.slice (some ⟨W1.heap.size, 0, none⟩) m m) m (icl (List.replicate m 0)) := by
    have h := hown
    rw [toList_madeCells_one] at h
    rw [show icl (List.replicate m 0) = List.replicate m (.int .i64 0) from by simp [icl]]
    exact h
  have hb1 : Below W1.heap.size W1 w1 := (Below.refl _ _).grown hgr (Nat.le_refl _) (fun k h => by cases h)
  have HO := Lib.hid hown1
  have HB1 := Lib.hid hb1
  have hd3 : w1.cell? ⟨w.heap.size, 3, none⟩ = some (.slice At m ct) := (hb1.cell (p := ⟨w.heap.size, 3, none⟩) HBL.out).trans HC3.out
  clear hown hgr hown1 hb1 HI HQ0 HQ1 HQ2 hc3 hW1
  go_wp2_with fail
  go_loopw [17] (fun s17 wx => ∃ (k : Nat) (Z : List Int), k ≤ m ∧ s17 = .int .i64 k ∧ Z.take k = (pick l p).take k ∧ Z.length = m ∧ wx.ownsRow W1.heap.size 3 1 (.slice (some ⟨W1.heap.size, 0, none⟩) m m) m (icl Z) ∧ Below W1.heap.size W1 wx) (fun s17 _ => m - (RowKit.intOf s17).toNat)
  case atStart => exact ⟨0, List.replicate m 0, Nat.zero_le _, rfl, rfl, by simp, HO.out, HB1.out⟩
  case round =>
    obtain ⟨k, Z, hk, rfl, hz, hzl, hown, hb⟩ := hrel
    have HZ := Lib.hid hz
    have HZL := Lib.hid hzl
    have HW := Lib.hid hown
    have HB := Lib.hid hb
    clear hz hown HO HB1 hd3
    by_cases hlt : k < m
    · have hkp : k < p.length := by rw [HPL.out]; exact hlt
      have hkn : k < (Sq.ns p).length := by rw [Sq.ns_len]; exact hkp
      have hkl : k < Z.length := by rw [HZL.out]; exact hlt
      have hpl := HLT.out _ (List.getElem_mem hkp)
      obtain ⟨g2, off2, rfl, hc2⟩ := (HPA.out.below hb).at_ hkn
      obtain ⟨g1, off1, rfl, hc1⟩ := (HA.out.below hb).at_ hpl
      have hns : (Sq.ns p)[k] = ((p[k] : Nat) : Int) := by simp [Sq.ns]
      rw [hns] at hc2
      have hcr : wr.cell? ⟨W1.heap.size, k, none⟩ = some (.int .i64 Z[k]) := by
        rw [HW.out.cellAt _ (by omega)]
        simp [icl, hkl]
      have hfr := HW.out.frozenAt k
      have hgd : l.getD p[k] 0 = l[p[k]] := by simp [List.getD, List.getElem?_eq_getElem hpl]
      have hmt := pick_step (l := l) hkp
      rw [hgd] at hmt
      obtain ⟨h1, h2⟩ := HW.out.stored k (.int .i64 l[p[k]])
      rw [show (icl Z).set k (.int .i64 l[p[k]]) = icl (Z.set k l[p[k]]) from by simp [icl]] at h1
      have HST := Lib.hid (take_set Z k l[p[k]] hkl)
      have HMT := Lib.hid hmt
      have hpn : p[k] < n := by rw [← HL.out]; exact hpl
      generalize l[p[k]] = v at *
      generalize Z[k] = y at *
      generalize p[k] = q at *
      have HOW := Lib.hid h1
      have hk0 : (0 : Int) ≤ (k : Int) := by omega
      have hk1 : (k : Int) < (m : Int) := by omega
      have hq0 : (0 : Int) ≤ (q : Int) := by omega
      have hq1 : (q : Int) < (n : Int) := by omega
      clear h1 h2 hkp hkn hkl hb hzl hmt hgd hns hpl
      go_wp2_with fail
      go_roundw
      case rel => exact ⟨k + 1, Z.set k v, by omega, by go_num, by rw [HST.out, HMT.out, HZ.out], by rw [List.length_set]; exact HZL.out, HOW.out, HB.out.setCell (p := ⟨W1.heap.size, k, none⟩) (Nat.le_refl _) _⟩
      case measure => simp [RowKit.intOf]; omega
    · obtain rfl : k = m := by omega
      have HE := Lib.hid (show Z = pick l p from by
        have h := HZ.out
        rw [List.take_of_length_le (by rw [hzl]; exact Nat.le_refl _), List.take_of_length_le (by rw [pick_len, HPL.out]; exact Nat.le_refl _)] at h
        exact h)
      have hs0 := HB0.out.size
      clear hb hzl
      go_wp2_with fail
      go_ret
      exact ⟨_, _, rfl, by rw [← HE.out]; exact ownsRow_mono HW.out hs0, HB0.out.trans (HB.out.mono hs0)⟩
end Go.Proofs.YtfclpecbnailgaaGreat.Bi

/-
  A region that draws its order, whose operations all yield (no store, no guard) and may make memory: each operation's word on what its slot holds, under what the slots hold that it waits for, is enough, whatever order is drawn: no branching over orders. No program in it.
-/
set_option linter.unusedVariables false
namespace Go.Proofs.YtfclpecbnailgaaGreat.Slots
open Go Go.RowKit
/-- Each operation has a slot of its own, below N, no guard, and waits for earlier ones alone. -/
def okRegion (ops : Array Oper) (N : Nat) : Bool :=
  (List.range ops.size).all fun i => match ops[i]? with
    | none => true
    | some o => o.guard.isNone && o.after.all (fun e => decide (e.on < i)) && match o.dst with
      | none => false
      | some d => decide (d < N) && (List.range i).all fun j => (ops[j]?).bind (·.dst) != some d
theorem okRegion_spec {ops : Array Oper} {N : Nat} (h : okRegion ops N = true) {i : Nat} {o : Oper} (ho : ops[i]? = some o) :
    o.guard = none ∧ (∀ e ∈ o.after, e.on < i) ∧ ∃ d, o.dst = some d ∧ d < N ∧ ∀ j, j < i → ∀ o', ops[j]? = some o' → o'.dst ≠ some d := by
  have hi : i < ops.size := (Array.getElem?_eq_some_iff.1 ho).1
  have h1 := List.all_eq_true.1 h i (List.mem_range.2 hi)
  simp only [ho, Bool.and_eq_true] at h1
  obtain ⟨⟨h2, h3⟩, h4⟩ := h1
  refine ⟨by simpa using h2, fun e he => by simpa using (Array.all_eq_true_iff_forall_mem.1 h3) e he, ?_⟩
  cases hd : o.dst with
  | none => rw [hd] at h4; cases h4
  | some d =>
    rw [hd] at h4
    simp only [Bool.and_eq_true] at h4
    refine ⟨d, rfl, by simpa using h4.1, fun j hj o' ho' e => ?_⟩
    have := List.all_eq_true.1 h4.2 j (List.mem_range.2 hj)
    simp [ho', e] at this
def slotOf (ops : Array Oper) (a : Act) (i : Nat) : Value := match (ops[i]?).bind (·.dst) with
  | some d => a.tmps.getD d undef
  | none => undef
/-- Does an operation wait for that one, or for one that does (within so many steps)? -/
def waitsOn (md : Region.Mode) (ops : Array Oper) : Nat → Nat → Nat → Bool
  | 0, _, _ => false
  | k + 1, j, i => match ops[j]? with
    | none => false
    | some o => o.after.any fun e => Region.binds md e && (e.on == i || waitsOn md ops k e.on i)
theorem waits_listed {md : Region.Mode} {ops : Array Oper} {listed : Array Bool} (hc : ∀ j o, ops[j]? = some o → listed.getD j false = true → ∀ e ∈ o.after, Region.binds md e = true → listed.getD e.on false = true) :
    ∀ (k j i : Nat), waitsOn md ops k j i = true → listed.getD j false = true → listed.getD i false = true
  | 0, _, _, h, _ => by cases h
  | k + 1, j, i, h, hl => by
    unfold waitsOn at h
    cases ho : ops[j]? with
    | none => rw [ho] at h; cases h
    | some o =>
      rw [ho] at h
      simp only [Array.any_eq_true'] at h
      obtain ⟨e, he, h2⟩ := h
      simp only [Bool.and_eq_true, Bool.or_eq_true, beq_iff_eq] at h2
      have h3 := hc j o ho hl e he h2.1
      rcases h2.2 with rfl | h4
      · exact h3
      · exact waits_listed hc k e.on i h4 h3
/-- What the region's slots do not reach is as it was. -/
structure SameBut (ops : Array Oper) (a0 a : Act) : Prop where
  size : a.tmps.size = a0.tmps.size
  defers : a.defers = a0.defers
  slot : ∀ t, (ops.all fun o => o.dst != some t) = true → a.tmps.getD t undef = a0.tmps.getD t undef
theorem SameBut.refl (ops : Array Oper) (a : Act) : SameBut ops a a := ⟨rfl, rfl, fun _ _ => rfl⟩
theorem SameBut.put {ops : Array Oper} {a0 a : Act} (h : SameBut ops a0 a) {i : Nat} {o : Oper} (ho : ops[i]? = some o) (v : Value) : SameBut ops a0 (a.put o.dst v) := by
  cases hd : o.dst with
  | none => exact h
  | some d =>
    refine ⟨by simp [Act.put, h.size], h.defers, fun t ht => ?_⟩
    rw [← h.slot t ht]
    have hne : d ≠ t := by
      intro e
      have h1 := (Array.all_eq_true_iff_forall_mem.1 ht) o (Array.mem_of_getElem? ho)
      simp [hd, e] at h1
    simp only [Act.put]
    simp [Array.getElem?_setIfInBounds_ne hne]
section
variable {P : Program} {ops : Array Oper} {Q : Exit → Act → World → Prop} {md : Region.Mode} {Φ : Nat → Value → World → Prop} {a0 : Act} {w0 : World}
theorem ready_nil {N : Nat} (hok : okRegion ops N = true) {listed : Array Bool} (hs : listed.size = ops.size) (hr : Region.ready md ops listed = []) : ∀ i, i < ops.size → listed.getD i false = true := by
  intro i
  induction i using Nat.strongRecOn with
  | _ i ih =>
    intro hi
    obtain ⟨o, ho⟩ : ∃ o, ops[i]? = some o := ⟨_, Array.getElem?_eq_getElem hi⟩
    obtain ⟨-, hb, -⟩ := okRegion_spec hok ho
    cases hl : listed.getD i false with
    | true => rfl
    | false =>
      have hm : i ∈ Region.ready md ops listed := by
        rw [mem_ready]
        refine ⟨?_, o, ho, fun e he _ => ih e.on (hb e he) (by have := hb e he; omega)⟩
        have h1 : i < listed.size := by omega
        simp [h1] at hl ⊢
        exact hl
      rw [hr] at hm
      cases hm
theorem slots_go {N : Nat} (hok : okRegion ops N = true) (hN : a0.tmps.size = N)
    (stable : ∀ i v w w', Φ i v w → Below w.heap.size w w' → Φ i v w')
    (step : ∀ i o, ops[i]? = some o → ∀ a w, SameBut ops a0 a → Below w0.heap.size w0 w → (∀ e ∈ o.after, Region.binds md e = true → Φ e.on (slotOf ops a e.on) w) →
      (∀ k j d, (ops[j]?).bind (·.dst) = some d → waitsOn md ops k j i = true → a.tmps.getD d undef = a0.tmps.getD d undef) →
      ∀ K : Act → World → Prop, Hid (∀ v w', Φ i v w' → Below w.heap.size w w' → K (a.put o.dst v) w') → o.wp P a w K Q)
    (done : ∀ a w, SameBut ops a0 a → Below w0.heap.size w0 w → (∀ i, i < ops.size → Φ i (slotOf ops a i) w) → Q .normal a w) :
    ∀ (fuel : Nat) (listed : Array Bool) (a : Act) (w : World), SameBut ops a0 a → Below w0.heap.size w0 w → listed.size = ops.size → (∀ i, listed.getD i false = true → Φ i (slotOf ops a i) w) → (∀ j o, ops[j]? = some o → listed.getD j false = true → ∀ e ∈ o.after, Region.binds md e = true → listed.getD e.on false = true) → (∀ j d, (ops[j]?).bind (·.dst) = some d → listed.getD j false = false → a.tmps.getD d undef = a0.tmps.getD d undef) → listed.toList.count false ≤ fuel → wpAny P md ops Q fuel listed a w := by
  intro fuel
  induction fuel with
  | zero =>
    intro listed a w hs hb hsz hf hcl hun hc
    have hno : ∀ j, j < listed.size → listed.getD j false = true := by
      intro j hj
      have h0 : listed.toList.count false = 0 := by omega
      rw [List.count_eq_zero] at h0
      cases hl : listed.getD j false with
      | true => rfl
      | false =>
        exfalso
        simp [hj] at hl
        exact h0 (by rw [← hl]; simp)
    refine ⟨?_, done a w hs hb (fun i hi => hf i (hno i (by omega)))⟩
    cases hr : Region.ready md ops listed with
    | nil => rfl
    | cons j t =>
      have hm : j ∈ Region.ready md ops listed := by rw [hr]; simp
      rw [mem_ready] at hm
      obtain ⟨h0, o, ho, -⟩ := hm
      have hj : j < ops.size := (Array.getElem?_eq_some_iff.1 ho).1
      have h1 := hno j (by omega)
      have h2 : j < listed.size := by omega
      simp [h2] at h0 h1
      rw [h0] at h1
      cases h1
  | succ fuel ih =>
    intro listed a w hs hb hsz hf hcl hun hc
    refine ⟨fun hr => done a w hs hb (fun i hi => hf i (ready_nil hok hsz hr i hi)), fun i hi => ?_⟩
    rw [mem_ready] at hi
    obtain ⟨h0, o, ho, hall⟩ := hi
    obtain ⟨hg, -, d, hd, hdN, hdist⟩ := okRegion_spec hok ho
    have hio : i < ops.size := (Array.getElem?_eq_some_iff.1 ho).1
    have hil : i < listed.size := by omega
    have hw : Region.wanted o (yielded ops a.tmps) = true := by simp [Region.wanted, hg]
    have h1 := step i o ho a w hs hb (fun e he hbd => hf e.on (hall e he hbd)) (fun k j d hj hw2 => hun j d hj (by
      cases hl : listed.getD j false with
      | false => rfl
      | true =>
        have := waits_listed hcl k j i hw2 hl
        simp [hil] at h0 this
        rw [h0] at this
        cases this)) (wpAny P md ops Q fuel (listed.setIfInBounds i true)) (by
      intro v w' hv hbw
      refine ih _ _ _ (hs.put ho v) (hb.trans (hbw.mono hb.size)) (by simpa using hsz) (fun j hj => ?_) (fun j oj hoj hj e he hbd => ?_) (fun j dj hdj hj => ?_) ?_
      · by_cases hji : j = i
        · subst hji
          have : slotOf ops (a.put o.dst v) j = v := by
            unfold slotOf
            simp only [ho, Option.bind_some, hd, Act.put]
            have : d < a.tmps.size := by rw [hs.size, hN]; exact hdN
            simp [this]
          rw [this]
          exact hv
        · rw [getD_set_ne false (Ne.symm hji)] at hj
          have hsl : slotOf ops (a.put o.dst v) j = slotOf ops a j := by
            unfold slotOf
            cases hoj : ops[j]? with
            | none => rfl
            | some oj =>
              obtain ⟨-, -, dj, hdj, -, hdist'⟩ := okRegion_spec hok hoj
              simp only [Option.bind_some, hdj, hd, Act.put]
              have hne : d ≠ dj := by
                intro e
                rcases Nat.lt_or_gt_of_ne hji with h | h
                · exact hdist j h oj hoj (by rw [hdj, e])
                · exact hdist' i h o ho (by rw [hd, e])
              simp [Array.getElem?_setIfInBounds_ne hne]
          rw [hsl]
          exact stable j _ _ _ (hf j hj) hbw
      · by_cases hei : e.on = i
        · rw [hei]
          simp [hil]
        · rw [getD_set_ne false (Ne.symm hei)]
          by_cases hji : j = i
          · subst hji
            rw [ho] at hoj
            obtain rfl := Option.some.inj hoj
            exact hall e he hbd
          · rw [getD_set_ne false (Ne.symm hji)] at hj
            exact hcl j oj hoj hj e he hbd
      · by_cases hji : j = i
        · subst hji
          simp [hil] at hj
        · rw [getD_set_ne false (Ne.symm hji)] at hj
          rw [← hun j dj hdj hj]
          cases hoj : ops[j]? with
          | none => rw [hoj] at hdj; cases hdj
          | some oj =>
            obtain ⟨-, -, dj', hdj', -, hdist'⟩ := okRegion_spec hok hoj
            rw [hoj] at hdj
            simp only [Option.bind_some] at hdj
            have hne : d ≠ dj := by
              intro e
              rcases Nat.lt_or_gt_of_ne hji with h | h
              · exact hdist j h oj hoj (by rw [hdj, e])
              · rw [hdj] at hdj'
                injection hdj' with hdj'
                exact hdist' i h o ho (by rw [hd, e, hdj'])
            simp only [hd, Act.put]
            simp [Array.getElem?_setIfInBounds_ne hne]
      · have hli : listed.toList[i]'(by simpa using hil) = false := by
          simp [hil] at h0
          simpa using h0
        rw [Array.toList_setIfInBounds, List.count_set (by simpa using hil), hli]
        simp
        have hpos : 0 < listed.toList.count false := List.count_pos_iff.2 (by rw [← hli]; exact List.getElem_mem _)
        have : Array.count false listed = listed.toList.count false := (Array.count_toList ..).symm
        omega)
    unfold wpOp
    simp only [ho, hw, if_true]
    exact .inl h1
theorem wp_region_slotsU {id : Nat} {w : World} {N : Nat} (hm : P.follows .mixedOrders = true) (hok : okRegion ops N = true) (hN : a0.tmps.size = N)
    (stable : ∀ i v w w', Φ i v w → Below w.heap.size w w' → Φ i v w')
    (step : ∀ i o, ops[i]? = some o → ∀ a wx, SameBut ops a0 a → Below w.heap.size w wx → (∀ e ∈ o.after, Region.binds .any e = true → Φ e.on (slotOf ops a e.on) wx) →
      (∀ k j d, (ops[j]?).bind (·.dst) = some d → waitsOn .any ops k j i = true → a.tmps.getD d undef = a0.tmps.getD d undef) →
      ∀ K : Act → World → Prop, Hid (∀ v w', Φ i v w' → Below wx.heap.size wx w' → K (a.put o.dst v) w') → o.wp P a wx K Q)
    (done : ∀ a wx, SameBut ops a0 a → Below w.heap.size w wx → (∀ i, i < ops.size → Φ i (slotOf ops a i) wx) → Q .normal a wx) :
    (Code.region id ops true).wp P Q a0 w := by
  refine wp_region_any hm ?_
  have hb0 : Below w.heap.size w ({ w with drawn := w.drawn + 1 } : World) := ⟨rfl, rfl, rfl, Nat.le_refl _, fun _ _ => rfl⟩
  refine slots_go (w0 := w) hok hN stable step done _ _ _ _ (SameBut.refl _ _) hb0 (by simp) (fun i hi => ?_) (fun j o ho hj => ?_) (fun _ _ _ _ => rfl) ?_
  · exfalso
    by_cases h : i < ops.size <;> simp [h] at hi
  · exfalso
    by_cases h : j < ops.size <;> simp [h] at hj
  · refine Nat.le_trans List.count_le_length ?_
    simp
theorem wp_region_slots {id : Nat} {w : World} {N : Nat} (hm : P.follows .mixedOrders = true) (hok : okRegion ops N = true) (hN : a0.tmps.size = N)
    (stable : ∀ i v w w', Φ i v w → Below w.heap.size w w' → Φ i v w')
    (step : ∀ i o, ops[i]? = some o → ∀ a wx, SameBut ops a0 a → Below w.heap.size w wx → (∀ e ∈ o.after, Region.binds .any e = true → Φ e.on (slotOf ops a e.on) wx) →
      ∀ K : Act → World → Prop, Hid (∀ v w', Φ i v w' → Below wx.heap.size wx w' → K (a.put o.dst v) w') → o.wp P a wx K Q)
    (done : ∀ a wx, SameBut ops a0 a → Below w.heap.size w wx → (∀ i, i < ops.size → Φ i (slotOf ops a i) wx) → Q .normal a wx) :
    (Code.region id ops true).wp P Q a0 w :=
  wp_region_slotsU hm hok hN stable (fun i o ho a wx hs hb hd _ => step i o ho a wx hs hb hd) done
end
end Go.Proofs.YtfclpecbnailgaaGreat.Slots

/-
  A region that draws its order, told operation by operation, over frames that are written out: of the frame ahead each operation's slot alone has changed, and holds what its word says. No program in it.
-/
set_option linter.unusedVariables false
namespace Go.Proofs.YtfclpecbnailgaaGreat.Words
open Go Go.RowKit Go.Proofs.YtfclpecbnailgaaGreat.Slots
theorem foldl_set (f : Nat → Value) : ∀ (ds : List Nat) (arr : Array Value) (i : Nat), (ds.foldl (fun t d => t.setIfInBounds d (f d)) arr)[i]? = if i ∈ ds then (if i < arr.size then some (f i) else none) else arr[i]?
  | [], arr, i => by simp
  | d :: ds, arr, i => by
    rw [List.foldl_cons, foldl_set f ds, Array.size_setIfInBounds, Array.getElem?_setIfInBounds]
    by_cases h1 : i ∈ ds
    · rw [if_pos h1, if_pos (List.mem_cons_of_mem _ h1)]
    · rw [if_neg h1]
      by_cases h2 : d = i
      · subst h2
        rw [if_pos rfl, if_pos (List.mem_cons_self ..)]
      · rw [if_neg h2, if_neg (fun h => by rcases List.mem_cons.1 h with e | e; exact h2 e.symm; exact h1 e)]
theorem sameBut_sets {ops : Array Oper} {a0 a : Act} (h : SameBut ops a0 a) (ds : List Nat) (hds : ops.toList.filterMap (·.dst) = ds) :
    a = ⟨ds.foldl (fun t d => t.setIfInBounds d (a.tmps.getD d undef)) a0.tmps, a0.defers⟩ := by
  have hds' : ∀ t, t ∉ ds → (ops.all fun o => o.dst != some t) = true := fun t ht => by
    rw [Array.all_eq_true_iff_forall_mem]
    intro o ho
    simp only [bne_iff_ne, ne_eq]
    intro e
    exact ht (by rw [← hds]; exact List.mem_filterMap.2 ⟨o, by simpa using ho, e⟩)
  obtain ⟨arr, df⟩ := a
  obtain ⟨hs, hd, hsl⟩ := h
  simp only at hs hd hsl ⊢
  subst hd
  congr 1
  apply Array.ext_getElem?
  intro i
  rw [foldl_set (fun d => arr.getD d undef)]
  by_cases hi : i < arr.size
  · by_cases h1 : i ∈ ds
    · rw [if_pos h1, if_pos (by omega), Array.getElem?_eq_getElem hi]
      simp [hi]
    · rw [if_neg h1]
      have := hsl i (hds' i h1)
      rw [Array.getElem?_eq_getElem hi, Array.getElem?_eq_getElem (by omega)]
      simp [hi, show i < a0.tmps.size by omega] at this
      rw [this]
  · rw [Array.getElem?_eq_none (by omega)]
    by_cases h1 : i ∈ ds
    · rw [if_pos h1, if_neg (by omega)]
    · rw [if_neg h1, Array.getElem?_eq_none (by omega)]
/-- The frame, of which these slots hold what f says. -/
def setF (a0 : Act) (ds : List Nat) (f : Nat → Value) : Act := ⟨ds.foldl (fun t d => t.setIfInBounds d (f d)) a0.tmps, a0.defers⟩
/-- The value of an operation's slot. -/
def slotF (ops : Array Oper) (f : Nat → Value) (i : Nat) : Value := match (ops[i]?).bind (·.dst) with
  | some d => f d
  | none => undef
theorem wp_region_wordsU {P : Program} {ops : Array Oper} {Q : Exit → Act → World → Prop} {Φ : Nat → Value → World → Prop} {a0 : Act} {id : Nat} {w : World} {N : Nat} (ds : List Nat) (hm : P.follows .mixedOrders = true) (hok : okRegion ops N = true) (hN : a0.tmps.size = N) (hds : ops.toList.filterMap (·.dst) = ds)
    (stable : ∀ i v w w', Φ i v w → Below w.heap.size w w' → Φ i v w')
    (step : ∀ i o, ops[i]? = some o → ∀ (f : Nat → Value) wx, Below w.heap.size w wx → (∀ e ∈ o.after, Region.binds .any e = true → Φ e.on (slotF ops f e.on) wx) →
      (∀ k j d, (ops[j]?).bind (·.dst) = some d → waitsOn .any ops k j i = true → f d = a0.tmps.getD d undef) →
      ∀ K : Act → World → Prop, Hid (∀ v w', Φ i v w' → Below wx.heap.size wx w' → K ((setF a0 ds f).put o.dst v) w') → o.wp P (setF a0 ds f) wx K Q)
    (done : ∀ (f : Nat → Value) wx, Below w.heap.size w wx → (∀ i, i < ops.size → Φ i (slotF ops f i) wx) → Q .normal (setF a0 ds f) wx) :
    (Code.region id ops true).wp P Q a0 w := by
  refine wp_region_slotsU (Φ := Φ) hm hok hN stable (fun i o ho a wx hs hb hd hw K hK => ?_) (fun a wx hs hb hall => ?_)
  · have e := sameBut_sets hs ds hds
    have hd' : ∀ e ∈ o.after, Region.binds .any e = true → Φ e.on (slotF ops (fun d => a.tmps.getD d undef) e.on) wx := fun e he hbd => hd e he hbd
    have := step i o ho (fun d => a.tmps.getD d undef) wx hb hd' hw K
    unfold setF at this
    rw [← e] at this
    exact this hK
  · have e := sameBut_sets hs ds hds
    have hall' : ∀ i, i < ops.size → Φ i (slotF ops (fun d => a.tmps.getD d undef) i) wx := fun i hi => hall i hi
    have := done (fun d => a.tmps.getD d undef) wx hb hall'
    unfold setF at this
    rw [← e] at this
    exact this
theorem wp_region_words {P : Program} {ops : Array Oper} {Q : Exit → Act → World → Prop} {Φ : Nat → Value → World → Prop} {a0 : Act} {id : Nat} {w : World} {N : Nat} (ds : List Nat) (hm : P.follows .mixedOrders = true) (hok : okRegion ops N = true) (hN : a0.tmps.size = N) (hds : ops.toList.filterMap (·.dst) = ds)
    (stable : ∀ i v w w', Φ i v w → Below w.heap.size w w' → Φ i v w')
    (step : ∀ i o, ops[i]? = some o → ∀ (f : Nat → Value) wx, Below w.heap.size w wx → (∀ e ∈ o.after, Region.binds .any e = true → Φ e.on (slotF ops f e.on) wx) →
      ∀ K : Act → World → Prop, Hid (∀ v w', Φ i v w' → Below wx.heap.size wx w' → K ((setF a0 ds f).put o.dst v) w') → o.wp P (setF a0 ds f) wx K Q)
    (done : ∀ (f : Nat → Value) wx, Below w.heap.size w wx → (∀ i, i < ops.size → Φ i (slotF ops f i) wx) → Q .normal (setF a0 ds f) wx) :
    (Code.region id ops true).wp P Q a0 w :=
  wp_region_wordsU ds hm hok hN hds stable (fun i o ho f wx hb hd _ => step i o ho f wx hb hd) done
end Go.Proofs.YtfclpecbnailgaaGreat.Words
