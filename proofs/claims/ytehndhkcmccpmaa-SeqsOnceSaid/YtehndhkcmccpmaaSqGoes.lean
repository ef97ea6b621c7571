/-
  Proved here: what seqs' explicit, and the closure that tells where a sequence goes on return. They leave what was in memory.
-/
import Derived.Test.YtehndhkcmccpmaaSqSmall
import Derived.Test.YtehndhkcmccpmaaSqFold
import Derived.Test.YtehndhkcmccpmaaLvReads
import Derived.Test.YtehndhkcmccpmaaBaMatch
import Derived.Laws.Rows
import Derived.Deep.RegionHeld3
set_option linter.unusedVariables false
set_option linter.unusedSimpArgs false
namespace Go.Proofs.Ytehndhkcmccpmaa.Sq
open Go Go.RowKit Go.Lib Go.Proofs.Ytehndhkcmccpmaa.Cl Go.Proofs.Ytehndhkcmccpmaa.Ba Go.Proofs.Ytehndhkcmccpmaa.Lv

theorem threeG {w : World} {g : Nat} {v0 v1 v2 : Value} {t : TypeId} (h : w.heap[g]? = some (.cells #[v0, v1, v2] t (0, 0))) : w.cell? ⟨g, 0, none⟩ = some v0 ∧ w.cell? ⟨g, 1, none⟩ = some v1 ∧ w.cell? ⟨g, 2, none⟩ = some v2 :=
  ⟨cell_of_row w g 0 _ _ _ h, cell_of_row w g 1 _ _ _ h, cell_of_row w g 2 _ _ _ h⟩
theorem ints_set {w : World} {A : Option Addr} {zs : List Int} {g : Nat} (h : IntsAt w A zs) (hA : ∀ b o, A = some ⟨b, o, none⟩ → b ≠ g) (j : Nat) (u : Value) : IntsAt (w.setCell ⟨g, j, none⟩ u) A zs := by
  rcases h with h | ⟨b, off, e, hlt, hc⟩
  · exact .inl h
  · refine .inr ⟨b, off, e, by simpa using hlt, fun k z hz => ?_⟩
    exact (World.cell?_of_block (heap_setCell_other w ⟨g, j, none⟩ b u (hA b off e))).trans (hc k z hz)
theorem below_drew {B : Nat} {a w : World} (h : Below B a w) : Below B a w.drew := h.drew
theorem step_belowB {wr V V' : World} (h : Below wr.heap.size wr V) (h' : Below V.heap.size V V') : Below wr.heap.size wr V' := h.trans (h'.mono h.size)
/-- Where a sequence goes on, by what Match answers. -/
def goesB (t M : Nat) (m : Int) : Bool := decide ((t : Int) < m) && decide (m < (M : Int))
theorem goes_match {c : List Int} {t : Nat} (h : t < c.length) {m : Int} (hm : (matchL c)[t]? = some m) : (goesB t c.length m = true ↔ isI (c.getD t 0) = true ∧ endAt c t < c.length) ∧ (goesB t c.length m = true → m = endAt c t) := by
  have hm' : m = mtK c c.length t := by
    rw [List.getElem?_eq_getElem (by rw [matchL_len]; exact h), matchL_at c t h] at hm
    injection hm with hm
    exact hm.symm
  have hg : c.getD t 0 = c[t] := by simp [List.getD, List.getElem?_eq_getElem h]
  rw [hg]
  unfold goesB
  rw [Bool.and_eq_true_iff, decide_eq_true_eq, decide_eq_true_eq]
  cases hi : isI c[t] with
  | true =>
    rw [hm', mt_I h hi]
    have := endAt_gt c t
    refine ⟨⟨fun h2 => ⟨rfl, by omega⟩, fun h2 => ⟨by omega, by omega⟩⟩, fun _ => rfl⟩
  | false =>
    have hle : m < (t : Int) ∨ m = -1 := by
      rw [hm']
      cases hp : isP c[t] with
      | true =>
        rw [mt_P h hp]
        cases hs : stk c t with
        | nil => exact .inr rfl
        | cons u r =>
          have := (stk_at c t (by omega) 0 u (by rw [hs]; rfl)).1
          left
          show (u : Int) < t
          omega
      | false => exact .inr (mt_N h hp hi)
    refine ⟨⟨fun h2 => by omega, fun h2 => by cases h2.1⟩, fun h2 => by omega⟩

set_option maxHeartbeats 2000000 in
set_option maxRecDepth 100000 in
theorem goes_any (a b c : Int) (A A2 : Option Addr) (cp n M c2 B t : Nat) (l : List Nat) (zs : List Int) (m : Int) (w : World) (hl : l.length = n) (hne : l ≠ []) (hR : IntsAt w A (ns l)) (hn : n ≤ 1099511627776) (hz : zs.length = M) (hM : M ≤ 1099511627776) (hR2 : IntsAt w A2 zs) (hc : w.cell? ⟨B, 2, none⟩ = some (.slice A2 M c2)) (ht : lst l = t) (hm : zs[t]? = some m) :
    Calls Try.prog 31 #[.agg #[.int .i64 a, .int .i64 b, .int .i64 c, .slice A n cp], .pointer (some ⟨B, 0, none⟩)] w fun e w' => e = .returned (.tuple #[.int .i64 m, .bool (goesB t M m)]) ∧ Below w.heap.size w w' := by
  have hb := (Below.refl w.heap.size w).alloc (Nat.le_refl _) (.cells #[.int .i64 a, .int .i64 b, .int .i64 c, .slice A n cp] 51)
  obtain ⟨W1, hW1⟩ : ∃ W1, w.alloc (.cells #[.int .i64 a, .int .i64 b, .int .i64 c, .slice A n cp] 51) = W1 := ⟨_, rfl⟩
  rw [hW1] at hb
  have hbox : W1.heap[w.heap.size]? = some (.cells #[.int .i64 a, .int .i64 b, .int .i64 c, .slice A n cp] 51 (0, 0)) := by rw [← hW1]; exact heap_alloc_last _ _
  have hblt : w.heap.size < W1.heap.size := (Array.getElem?_eq_some_iff.1 hbox).1
  have hBlt := World.block_lt_of_cell? w _ hc
  have htM : t < M := by rw [← hz]; exact (List.getElem?_eq_some_iff.1 hm).1
  obtain ⟨b2, o2, rfl, hmc⟩ := at_val hR2 hm
  have hb2 := World.block_lt_of_cell? w _ hmc
  have HLAST := Lib.hid (fun V (h : Below W1.heap.size W1 V) => last_any a b c A cp n l V hl hne (hR.below (hb.trans (h.mono hb.size))) hn)
  rw [ht] at HLAST
  have HS := Lib.hid (fun V (h : Below W1.heap.size W1 V) => (show V.cell? ⟨B, 2, none⟩ = some (.slice (some ⟨b2, o2, none⟩) M c2) ∧ V.cell? ⟨b2, o2 + t, none⟩ = some (.int .i64 m) ∧ V.cell? ⟨w.heap.size, 0, none⟩ = some (.int .i64 a) ∧ V.cell? ⟨w.heap.size, 1, none⟩ = some (.int .i64 b) ∧ V.cell? ⟨w.heap.size, 2, none⟩ = some (.int .i64 c) ∧ V.cell? ⟨w.heap.size, 3, none⟩ = some (.slice A n cp) ∧ Below W1.heap.size W1 V from by
    have hwV := hb.trans (h.mono hb.size)
    obtain ⟨⟨e0, e1, e2, e3⟩, -⟩ := four ((h.block _ hblt).trans hbox)
    exact ⟨(hwV.cell (p := ⟨B, 2, none⟩) hBlt).trans hc, (hwV.cell (p := ⟨b2, o2 + t, none⟩) hb2).trans hmc, e0, e1, e2, e3, h⟩))
  obtain ⟨f1, f2, f3, f4, f5, f6, -⟩ := HS.out W1 (Below.refl _ _)
  have hti : (0 : Int) ≤ (t : Int) := by omega
  have hti2 : (t : Int) < (M : Int) := by omega
  have HB := Lib.hid hb
  unfold goesB
  clear hb hbox hblt hBlt hb2 hmc hc hR hR2 hm hz hl hne
  cases hA : decide ((t : Int) < m) with
  | true =>
    rw [Bool.true_and]
    go_enter Try.func31, Try.ntmps31
    go_wp2_with fail
    go_region_held3 (fun V => V.cell? ⟨B, 2, none⟩ = some (.slice (some ⟨b2, o2, none⟩) M c2) ∧ V.cell? ⟨b2, o2 + t, none⟩ = some (.int .i64 m) ∧ V.cell? ⟨w.heap.size, 0, none⟩ = some (.int .i64 a) ∧ V.cell? ⟨w.heap.size, 1, none⟩ = some (.int .i64 b) ∧ V.cell? ⟨w.heap.size, 2, none⟩ = some (.int .i64 c) ∧ V.cell? ⟨w.heap.size, 3, none⟩ = some (.slice A n cp) ∧ Below W1.heap.size W1 V) (first | exact HS.out _ (below_drew (Below.refl _ _)) | exact HS.out _ (by assumption) | exact HS.out _ (below_drew (by assumption)))
      (first | (go_at_call 32; ((with_reducible refine (HLAST.out _ (by first | assumption | exact below_drew (Below.refl _ _) | exact below_drew (by assumption))).mono ?_); rintro e w7 ⟨rfl, hb7⟩; have hbx := step_belowB (wr := W1) (by first | assumption | exact below_drew (Below.refl _ _) | exact below_drew (by assumption)) hb7; clear hb7)))
    rename_i hh1
    have HV1 := Lib.hid hh1.2.2.2.2.2.2
    have hv1 := hh1.2.2.2.2.2.2
    obtain ⟨g1, g2, g3, g4, g5, g6, -⟩ := hh1
    go_wp2_with fail
    go_region_held3 (fun V => V.cell? ⟨B, 2, none⟩ = some (.slice (some ⟨b2, o2, none⟩) M c2) ∧ V.cell? ⟨b2, o2 + t, none⟩ = some (.int .i64 m) ∧ V.cell? ⟨w.heap.size, 0, none⟩ = some (.int .i64 a) ∧ V.cell? ⟨w.heap.size, 1, none⟩ = some (.int .i64 b) ∧ V.cell? ⟨w.heap.size, 2, none⟩ = some (.int .i64 c) ∧ V.cell? ⟨w.heap.size, 3, none⟩ = some (.slice A n cp) ∧ Below W1.heap.size W1 V) (first | exact HS.out _ (below_drew (Below.refl _ _)) | exact HS.out _ (by assumption) | exact HS.out _ (below_drew (by assumption)))
      (first | (go_at_call 32; ((with_reducible refine (HLAST.out _ (by first | assumption | exact below_drew (Below.refl _ _) | exact below_drew (by assumption))).mono ?_); rintro e w7 ⟨rfl, hb7⟩; have hbx := step_belowB (wr := W1) (by first | assumption | exact below_drew (Below.refl _ _) | exact below_drew (by assumption)) hb7; clear hb7)))
    rename_i hh2
    have HV2 := Lib.hid hh2.2.2.2.2.2.2
    clear hh2
    go_wp2_with fail
    go_ret2
    exact ⟨rfl, HB.out.trans (HV2.out.mono HB.out.size)⟩
  | false =>
    rw [Bool.false_and]
    go_enter Try.func31, Try.ntmps31
    go_wp2_with fail
    go_region_held3 (fun V => V.cell? ⟨B, 2, none⟩ = some (.slice (some ⟨b2, o2, none⟩) M c2) ∧ V.cell? ⟨b2, o2 + t, none⟩ = some (.int .i64 m) ∧ V.cell? ⟨w.heap.size, 0, none⟩ = some (.int .i64 a) ∧ V.cell? ⟨w.heap.size, 1, none⟩ = some (.int .i64 b) ∧ V.cell? ⟨w.heap.size, 2, none⟩ = some (.int .i64 c) ∧ V.cell? ⟨w.heap.size, 3, none⟩ = some (.slice A n cp) ∧ Below W1.heap.size W1 V) (first | exact HS.out _ (below_drew (Below.refl _ _)) | exact HS.out _ (by assumption) | exact HS.out _ (below_drew (by assumption)))
      (first | (go_at_call 32; ((with_reducible refine (HLAST.out _ (by first | assumption | exact below_drew (Below.refl _ _) | exact below_drew (by assumption))).mono ?_); rintro e w7 ⟨rfl, hb7⟩; have hbx := step_belowB (wr := W1) (by first | assumption | exact below_drew (Below.refl _ _) | exact below_drew (by assumption)) hb7; clear hb7)))
    rename_i hh1
    have HV1 := Lib.hid hh1.2.2.2.2.2.2
    have hv1 := hh1.2.2.2.2.2.2
    obtain ⟨g1, g2, g3, g4, g5, g6, -⟩ := hh1
    go_wp2_with fail
    refine wp_region_held_drew (S := (fun V => V.cell? ⟨B, 2, none⟩ = some (.slice (some ⟨b2, o2, none⟩) M c2) ∧ V.cell? ⟨b2, o2 + t, none⟩ = some (.int .i64 m) ∧ V.cell? ⟨w.heap.size, 0, none⟩ = some (.int .i64 a) ∧ V.cell? ⟨w.heap.size, 1, none⟩ = some (.int .i64 b) ∧ V.cell? ⟨w.heap.size, 2, none⟩ = some (.int .i64 c) ∧ V.cell? ⟨w.heap.size, 3, none⟩ = some (.slice A n cp) ∧ Below W1.heap.size W1 V)) (by kernel_rfl) (HS.out _ (below_drew hv1)) (fun hHeld => ?_)
    change wpAnyH _ _ _ _ _ 14 #[false, false, false, false, false, false, false, false, false, false, false, false, false, false] _ _
    refine wpAnyH_take (i := 0) (v := ?_) rfl (by kernel_rfl) (by kernel_rfl) (by kernel_rfl) (fun _ _ _ h => h) (Or.inl ⟨by rfl, ?_⟩) (by assumption) ?_
    rotate_left
    · intro w hSw
      try dsimp only at hSw
      first | (go_simp; done) | (go_simp; with_reducible rfl)
    simp only [List.getElem_toArray, List.getElem_cons_zero, List.getElem_cons_succ, Act.put, List.setIfInBounds_toArray, List.set_cons_zero, List.set_cons_succ]
    refine wpAnyH_take (i := 1) (v := ?_) rfl (by kernel_rfl) (by kernel_rfl) (by kernel_rfl) (fun _ _ _ h => h) (Or.inl ⟨by rfl, ?_⟩) (by assumption) ?_
    rotate_left
    · intro w hSw
      try dsimp only at hSw
      first | (go_simp; done) | (go_simp; with_reducible rfl)
    simp only [List.getElem_toArray, List.getElem_cons_zero, List.getElem_cons_succ, Act.put, List.setIfInBounds_toArray, List.set_cons_zero, List.set_cons_succ]
    refine wpAnyH_take (i := 2) (v := ?_) rfl (by kernel_rfl) (by kernel_rfl) (by kernel_rfl) (fun _ _ _ h => h) (Or.inl ⟨by rfl, ?_⟩) (by assumption) ?_
    rotate_left
    · intro w hSw
      try dsimp only at hSw
      first | (go_simp; done) | (go_simp; with_reducible rfl)
    simp only [List.getElem_toArray, List.getElem_cons_zero, List.getElem_cons_succ, Act.put, List.setIfInBounds_toArray, List.set_cons_zero, List.set_cons_succ]
    refine wpAnyH_ready (rs := [3]) (by kernel_rfl) (by simp) ?_
    refine AllReadyH.cons rfl (fun K hK => ?_) AllReadyH.nil
    go_simp
    go_at_call 32
    refine (HLAST.out _ (below_drew hv1)).mono ?_
    rintro e w7 ⟨rfl, hb7⟩
    have hb8 := step_belowB (wr := W1) (below_drew hv1) hb7
    refine hK.out _ _ (HS.out _ hb8) (fun hHeld => ?_)
    simp only [List.getElem_toArray, List.getElem_cons_zero, List.getElem_cons_succ, Act.put, List.setIfInBounds_toArray, List.set_cons_zero, List.set_cons_succ]
    refine wpAnyH_take (i := 4) (v := ?_) rfl (by kernel_rfl) (by kernel_rfl) (by kernel_rfl) (fun _ _ _ h => h) (Or.inl ⟨by rfl, ?_⟩) (by assumption) ?_
    rotate_left
    · intro w hSw
      try dsimp only at hSw
      first | (go_simp; done) | (go_simp; with_reducible rfl)
    simp only [List.getElem_toArray, List.getElem_cons_zero, List.getElem_cons_succ, Act.put, List.setIfInBounds_toArray, List.set_cons_zero, List.set_cons_succ]
    refine wpAnyH_take (i := 5) (v := ?_) rfl (by kernel_rfl) (by kernel_rfl) (by kernel_rfl) (fun _ _ _ h => h) (Or.inl ⟨by rfl, ?_⟩) (by assumption) ?_
    rotate_left
    · intro w hSw
      try dsimp only at hSw
      first | (go_simp; done) | (go_simp; with_reducible rfl)
    simp only [List.getElem_toArray, List.getElem_cons_zero, List.getElem_cons_succ, Act.put, List.setIfInBounds_toArray, List.set_cons_zero, List.set_cons_succ]
    refine wpAnyH_take (i := 6) (v := undef) rfl (by kernel_rfl) (by kernel_rfl) (by kernel_rfl) (fun _ _ _ h => h) (Or.inr ⟨by rfl, rfl⟩) (by assumption) ?_
    simp only [List.getElem_toArray, List.getElem_cons_zero, List.getElem_cons_succ, Act.put, List.setIfInBounds_toArray, List.set_cons_zero, List.set_cons_succ]
    refine wpAnyH_take (i := 7) (v := undef) rfl (by kernel_rfl) (by kernel_rfl) (by kernel_rfl) (fun _ _ _ h => h) (Or.inr ⟨by rfl, rfl⟩) (by assumption) ?_
    simp only [List.getElem_toArray, List.getElem_cons_zero, List.getElem_cons_succ, Act.put, List.setIfInBounds_toArray, List.set_cons_zero, List.set_cons_succ]
    refine wpAnyH_take (i := 8) (v := undef) rfl (by kernel_rfl) (by kernel_rfl) (by kernel_rfl) (fun _ _ _ h => h) (Or.inr ⟨by rfl, rfl⟩) (by assumption) ?_
    simp only [List.getElem_toArray, List.getElem_cons_zero, List.getElem_cons_succ, Act.put, List.setIfInBounds_toArray, List.set_cons_zero, List.set_cons_succ]
    refine wpAnyH_take (i := 9) (v := undef) rfl (by kernel_rfl) (by kernel_rfl) (by kernel_rfl) (fun _ _ _ h => h) (Or.inr ⟨by rfl, rfl⟩) (by assumption) ?_
    simp only [List.getElem_toArray, List.getElem_cons_zero, List.getElem_cons_succ, Act.put, List.setIfInBounds_toArray, List.set_cons_zero, List.set_cons_succ]
    refine wpAnyH_take (i := 10) (v := undef) rfl (by kernel_rfl) (by kernel_rfl) (by kernel_rfl) (fun _ _ _ h => h) (Or.inr ⟨by rfl, rfl⟩) (by assumption) ?_
    simp only [List.getElem_toArray, List.getElem_cons_zero, List.getElem_cons_succ, Act.put, List.setIfInBounds_toArray, List.set_cons_zero, List.set_cons_succ]
    refine wpAnyH_take (i := 11) (v := ?_) rfl (by kernel_rfl) (by kernel_rfl) (by kernel_rfl) (fun _ _ _ h => h) (Or.inl ⟨by rfl, ?_⟩) (by assumption) ?_
    rotate_left
    · intro w hSw
      try dsimp only at hSw
      first | (go_simp; done) | (go_simp; with_reducible rfl)
    simp only [List.getElem_toArray, List.getElem_cons_zero, List.getElem_cons_succ, Act.put, List.setIfInBounds_toArray, List.set_cons_zero, List.set_cons_succ]
    refine wpAnyH_take (i := 12) (v := ?_) rfl (by kernel_rfl) (by kernel_rfl) (by kernel_rfl) (fun _ _ _ h => h) (Or.inl ⟨by rfl, ?_⟩) (by assumption) ?_
    rotate_left
    · intro w hSw
      try dsimp only at hSw
      first | (go_simp; done) | (go_simp; with_reducible rfl)
    simp only [List.getElem_toArray, List.getElem_cons_zero, List.getElem_cons_succ, Act.put, List.setIfInBounds_toArray, List.set_cons_zero, List.set_cons_succ]
    refine wpAnyH_take (i := 13) (v := ?_) rfl (by kernel_rfl) (by kernel_rfl) (by kernel_rfl) (fun _ _ _ h => h) (Or.inl ⟨by rfl, ?_⟩) (by assumption) ?_
    rotate_left
    · intro w hSw
      try dsimp only at hSw
      first | (go_simp; done) | (go_simp; with_reducible rfl)
    simp only [List.getElem_toArray, List.getElem_cons_zero, List.getElem_cons_succ, Act.put, List.setIfInBounds_toArray, List.set_cons_zero, List.set_cons_succ]
    refine wpAnyH_done (by kernel_rfl) ?_ _
    go_wp2_with fail
    go_ret2
    exact ⟨rfl, HB.out.trans (hb8.mono HB.out.size)⟩

/-- The levels of a paragraph; none, if its level is neither 0 nor 1. -/
def zOf (c : List Int) (x : Int) : List Int := if x = 0 then (explL c 0).map (·.1) else if x = 1 then (explL c 1).map (·.1) else []
theorem zOf_le (c : List Int) (x : Int) : (zOf c x).length ≤ c.length := by
  unfold zOf
  split
  · simp [explL_len]
  · split
    · simp [explL_len]
    · simp
theorem explicit_as (A : Option Addr) (c : List Int) (x : Int) (n m : Nat) (w : World) (hl : c.length = n) (hR : IntsAt w A c) (hn : n ≤ 1000000) (hnm : n ≤ m) :
    Calls Try.prog 11 #[.slice A n m, .int .i64 x] w fun e w' => ∃ A1 c1 A2 n2 c2, e = .returned (.tuple #[.slice A1 (zOf c x).length c1, .slice A2 n2 c2]) ∧ IntsAt w' A1 (zOf c x) ∧ Below w.heap.size w w' ∧ (∀ b o, A1 = some ⟨b, o, none⟩ → w.heap.size ≤ b) := by
  by_cases h0 : x = 0
  · subst h0
    refine (explicit_reads A c 0 n m w (by omega) hl hR hn hnm).mono ?_
    rintro e w' ⟨g1, g2, rfl, -, hg1, -, -, -, i1, -, hb⟩
    have e1 : (zOf c 0) = (explL c 0).map (·.1) := by unfold zOf; rw [if_pos rfl]
    rw [e1, show ((explL c 0).map (·.1)).length = n from by rw [List.length_map, explL_len, hl]]
    exact ⟨_, _, _, _, _, rfl, i1, hb, fun b o e => by injection e with e; injection e with e; omega⟩
  · by_cases h1 : x = 1
    · subst h1
      refine (explicit_reads A c 1 n m w (by omega) hl hR hn hnm).mono ?_
      rintro e w' ⟨g1, g2, rfl, -, hg1, -, -, -, i1, -, hb⟩
      have e1 : (zOf c 1) = (explL c 1).map (·.1) := by unfold zOf; rw [if_neg (by omega), if_pos rfl]
      rw [e1, show ((explL c 1).map (·.1)).length = n from by rw [List.length_map, explL_len, hl]]
      exact ⟨_, _, _, _, _, rfl, i1, hb, fun b o e => by injection e with e; injection e with e; omega⟩
    · refine (explicit_none A x n m w h0 h1).mono ?_
      rintro e w' ⟨rfl, rfl⟩
      have e1 : zOf c x = [] := by unfold zOf; rw [if_neg h0, if_neg h1]
      rw [e1]
      exact ⟨none, 0, none, 0, 0, rfl, .inl rfl, Below.refl _ _, fun b o e => by cases e⟩

set_option maxHeartbeats 2000000 in
set_option maxRecDepth 100000 in
theorem parag_any (A : Option Addr) (c : List Int) (x : Int) (n m : Nat) (w : World) (hl : c.length = n) (hR : IntsAt w A c) (hn : n ≤ 1000000) (hnm : n ≤ m) :
    Calls Try.prog 30 #[.slice A n m, .int .i64 x] w fun e w' => ∃ A1 c1 A2 c2, e = .returned (.agg #[.int .i64 x, .slice A1 (zOf c x).length c1, .slice A2 n c2]) ∧ IntsAt w' A1 (zOf c x) ∧ IntsAt w' A2 (matchL c) ∧ Below w.heap.size w w' := by
  obtain ⟨W1, hW1⟩ : ∃ W1, w.alloc (.cells #[.int .i64 0, .slice none 0 0, .slice none 0 0] 48) = W1 := ⟨_, rfl⟩
  have hb : Below w.heap.size w W1 := by rw [← hW1]; exact (Below.refl _ _).alloc (Nat.le_refl _) _
  have hbox : W1.heap[w.heap.size]? = some (.cells #[.int .i64 0, .slice none 0 0, .slice none 0 0] 48 (0, 0)) := by rw [← hW1]; exact heap_alloc_last _ _
  have hblt : w.heap.size < W1.heap.size := (Array.getElem?_eq_some_iff.1 hbox).1
  have HE := Lib.hid (explicit_as A c x n m W1 hl (hR.below hb) hn hnm)
  have HMT := Lib.hid (fun V (h : Below W1.heap.size W1 V) => match_any A c n m V hl (hR.below (hb.trans (h.mono hb.size))) (by omega))
  have HI := Lib.hid (show (Try.prog.info? 48).map (·.size) = some 3 from by kernel_rfl)
  have HB := Lib.hid hb
  have HX := Lib.hid hbox
  have hml : (matchL c).length = n := by rw [matchL_len, hl]
  have HML := Lib.hid hml
  clear hb hbox hR hml
  generalize hz : zOf c x = z at *
  generalize hmm : matchL c = mt at *
  clear hz hmm hl
  go_enter Try.func30, Try.ntmps30
  go_wp2_with fail
  refine HE.out.mono ?_
  rintro e w2 ⟨A1, c1, A2, n2, c2, rfl, hz, hb2, hA1⟩
  have HB2 := Lib.hid hb2
  have HZ := Lib.hid hz
  clear hb2 hz
  go_wp2_with fail
  refine (HMT.out _ HB2.out).mono ?_
  rintro e w3 ⟨g3, rfl, hown, hb3⟩
  obtain ⟨A3, c3, hv, hm3⟩ := intsAt_icl hown HML.out
  obtain ⟨rfl, rfl⟩ : some ⟨g3, 0, none⟩ = A3 ∧ n = c3 := by injection hv with e1 e2 e3; exact ⟨e1, e3⟩
  have hs2 := HB2.out.size
  have hx3 : w3.heap[w.heap.size]? = some (.cells #[.int .i64 0, .slice none 0 0, .slice none 0 0] 48 (0, 0)) := (hb3.block _ (by omega)).trans ((HB2.out.block _ hblt).trans HX.out)
  obtain ⟨q0, q1, q2⟩ := threeG hx3
  have f0 := frozen_of_row w3 w.heap.size 0 _ _ hx3
  have f1 := frozen_of_row w3 w.heap.size 1 _ _ hx3
  have f2 := frozen_of_row w3 w.heap.size 2 _ _ hx3
  have HX3 := Lib.hid hx3
  have HZ3 := Lib.hid (HZ.out.below hb3)
  have HM3 := Lib.hid hm3
  have HB3 := Lib.hid (HB.out.trans ((HB2.out.trans (hb3.mono hs2)).mono HB.out.size))
  have hgB : w.heap.size < g3 := by have := (hown.lt g3 rfl).1; omega
  have HZb := Lib.hid (show ∀ b2 o2, A1 = some ⟨b2, o2, none⟩ → b2 ≠ w.heap.size from fun b o e => by have := hA1 b o e; omega)
  clear hA1
  clear hx3 hm3 hown hb3 HB HX HE HMT HB2 HZ
  go_wp2_with fail
  refine bodyPost_ret (results_cell_row Try.results30 _ _ w.heap.size 48 _ (0, 0) _ rfl (heap_setCell_same _ w.heap.size 2 _ _ _ (heap_setCell_same _ w.heap.size 1 _ _ _ (heap_setCell_same w3 w.heap.size 0 _ _ _ HX3.out))) Try.underlying48 rfl HI.out) rfl ?_
  have hn3 : ∀ b2 o2, some (⟨g3, 0, none⟩ : Addr) = some ⟨b2, o2, none⟩ → b2 ≠ w.heap.size := fun b2 o2 e => by injection e with e; injection e with e; omega
  exact ⟨A1, c1, _, n, rfl, ints_set (ints_set (ints_set HZ3.out HZb.out _ _) HZb.out _ _) HZb.out _ _, ints_set (ints_set (ints_set HM3.out hn3 _ _) hn3 _ _) hn3 _ _, ((HB3.out.setCell (p := ⟨w.heap.size, 0, none⟩) (Nat.le_refl _) _).setCell (p := ⟨w.heap.size, 1, none⟩) (Nat.le_refl _) _).setCell (p := ⟨w.heap.size, 2, none⟩) (Nat.le_refl _) _⟩
end Go.Proofs.Ytehndhkcmccpmaa.Sq
