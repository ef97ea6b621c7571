/-
  Proved here: what (mirror.row).has, (mirror.row).pair, the closure of pairIn, the search at rows, mirror.pairIn return; they leave what was in memory. Condition: rows as they are here (small numbers, steps from 1 on).
-/
import Derived.Test.YtapeebnbiappgaaDoorMiRows
import Derived.IntWalk
import Derived.OwnWalk
import Derived.Deep.QuietTactic
import Derived.BigQuiet
import Derived.Deep.RegionWith
set_option linter.unusedVariables false
namespace Go.Proofs.YtapeebnbiappgaaDoor.Mi
open Go.RowKit Go.Lib

theorem below_drewN {B : Nat} {a w : World} (h : Below B a w) (n : Nat) : Below B a (w.drewN n) := ⟨h.os, h.tape, h.output, h.size, h.block⟩
theorem below_drew {B : Nat} {a w : World} (h : Below B a w) : Below B a w.drew := ⟨h.os, h.tape, h.output, h.size, h.block⟩
/-- Rows in memory. -/
def RowsAt (w : World) (b : Nat) (l : List MRow) : Prop :=
  b < w.heap.size ∧ ∀ k (hk : k < l.length), w.cell? ⟨b, k * 3, none⟩ = some (.int .i64 l[k].1) ∧ w.cell? ⟨b, k * 3 + 1, none⟩ = some (.int .i64 l[k].2.1) ∧ w.cell? ⟨b, k * 3 + 2, none⟩ = some (.int .i64 l[k].2.2)
theorem RowsAt.below {w w' : World} {b : Nat} {l : List MRow} (h : RowsAt w b l) (hb : Below w.heap.size w w') : RowsAt w' b l :=
  ⟨Nat.lt_of_lt_of_le h.1 hb.size, fun k hk => ⟨(hb.cell (p := ⟨b, k * 3, none⟩) h.1).trans (h.2 k hk).1, (hb.cell (p := ⟨b, k * 3 + 1, none⟩) h.1).trans (h.2 k hk).2.1, (hb.cell (p := ⟨b, k * 3 + 2, none⟩) h.1).trans (h.2 k hk).2.2⟩⟩
theorem rowCells_at : ∀ (l : List MRow) (k : Nat) (hk : k < l.length), (rowCells l)[k * 3]? = some (.int .i64 l[k].1) ∧ (rowCells l)[k * 3 + 1]? = some (.int .i64 l[k].2.1) ∧ (rowCells l)[k * 3 + 2]? = some (.int .i64 l[k].2.2)
  | r :: l, 0, _ => ⟨rfl, rfl, rfl⟩
  | r :: l, k + 1, hk => by
    have := rowCells_at l k (by simpa using hk)
    rw [show (k + 1) * 3 = k * 3 + 3 from by omega]
    exact this
theorem rowsAt_made (l : List MRow) (t : TypeId) (w : World) : RowsAt (w.alloc (.cells (rowCells l).toArray t)) w.heap.size l := by
  refine ⟨by simp, fun k hk => ?_⟩
  obtain ⟨h0, h1, h2⟩ := rowCells_at l k hk
  refine ⟨?_, ?_, ?_⟩
  · simpa using h0
  · simpa using h1
  · simpa using h2

set_option maxHeartbeats 1000000 in
set_option maxRecDepth 100000 in
theorem has_any (a b s c : Int) (w : World) (ho : okR (a, b, s) = true) :
    Calls Tryd.prog 57 #[.agg #[.int .i64 a, .int .i64 b, .int .i64 s], .int .i64 c] w fun e w' => e = .returned (.bool (hasB (a, b, s) c)) ∧ Below w.heap.size w w' := by
  obtain ⟨o1, o2, o3, o4, o5, -⟩ := okR_is ho
  simp only at o1 o2 o3 o4 o5
  clear ho
  by_cases h1 : a ≤ c
  · have d1 : decide (a ≤ c) = true := decide_eq_true h1
    by_cases h2 : c ≤ b
    · have d2 : decide (c ≤ b) = true := decide_eq_true h2
      have e : hasB (a, b, s) c = ((c - a) % s == 0) := by unfold hasB; rw [d1, d2]; rfl
      rw [e]
      clear e
      go_enter Tryd.func57, Tryd.ntmps57
      go_wp2
      go_ret
      exact ⟨rfl, (Below.refl _ _).alloc (Nat.le_refl _) _⟩
    · have d2 : decide (c ≤ b) = false := decide_eq_false h2
      have e : hasB (a, b, s) c = false := by unfold hasB; rw [d1, d2]; rfl
      rw [e]
      clear e
      go_enter Tryd.func57, Tryd.ntmps57
      go_wp2
      go_ret
      exact ⟨rfl, (Below.refl _ _).alloc (Nat.le_refl _) _⟩
  · have d1 : decide (a ≤ c) = false := decide_eq_false h1
    have e : hasB (a, b, s) c = false := by unfold hasB; rw [d1]; rfl
    rw [e]
    clear e
    go_enter Tryd.func57, Tryd.ntmps57
    go_wp2
    go_ret
    exact ⟨rfl, (Below.refl _ _).alloc (Nat.le_refl _) _⟩

set_option maxHeartbeats 1000000 in
set_option maxRecDepth 100000 in
theorem pair_any (a b s c : Int) (w : World) (ho : okR (a, b, s) = true) (h1 : a ≤ c) (h2 : c ≤ b) :
    Calls Tryd.prog 58 #[.agg #[.int .i64 a, .int .i64 b, .int .i64 s], .int .i64 c] w fun e w' => e = .returned (.tuple #[.int .i64 (pairR (a, b, s) c).1, .int .i64 (pairR (a, b, s) c).2]) ∧ Below w.heap.size w w' := by
  obtain ⟨o1, o2, o3, o4, o5, -⟩ := okR_is ho
  simp only at o1 o2 o3 o4 o5
  clear ho
  have q0 : 0 ≤ (c - a) / s := Int.ediv_nonneg (by omega) (by omega)
  have q1 : (c - a) / s ≤ 100000 := Int.le_trans (Int.ediv_le_self _ (by omega)) (by omega)
  by_cases h : (c - a) / s % 2 = 0
  · have e : pairR (a, b, s) c = (1, c + s) := if_pos h
    rw [e]
    clear e
    have hd : ((c - a) / s % 2 == 0) = true := by simpa using h
    clear h
    go_enter Tryd.func58, Tryd.ntmps58
    go_wp2
    go_quiet (fail)
    go_wp2
    go_ret2
    refine ⟨rfl, ?_⟩
    exact below_drewN ((Below.refl _ _).alloc (Nat.le_refl _) _) _
  · have e : pairR (a, b, s) c = (2, c - s) := if_neg h
    rw [e]
    clear e
    have hd : ((c - a) / s % 2 == 0) = false := by simpa using h
    clear h
    go_enter Tryd.func58, Tryd.ntmps58
    go_wp2
    go_quiet (fail)
    go_wp2
    go_ret2
    refine ⟨rfl, ?_⟩
    exact below_drewN ((Below.refl _ _).alloc (Nat.le_refl _) _) _


set_option maxHeartbeats 1000000 in
set_option maxRecDepth 100000 in
theorem closure_any (a b s c : Int) (g : Nat) (w : World) (ho : okR (a, b, s) = true) (hg : g < w.heap.size) (hc : w.cell? ⟨g, 0, none⟩ = some (.int .i64 c)) :
    Calls Tryd.prog 56 #[.agg #[.int .i64 a, .int .i64 b, .int .i64 s], .pointer (some ⟨g, 0, none⟩)] w fun e w' => e = .returned (.bool (hasB (a, b, s) c)) ∧ Below w.heap.size w w' := by
  have HO := Lib.hid ho
  clear ho
  have hb0 : Below w.heap.size w (w.alloc (.cells #[.int .i64 a, .int .i64 b, .int .i64 s] 58)) := (Below.refl _ _).alloc (Nat.le_refl _) _
  go_enter Tryd.func56, Tryd.ntmps56
  go_wp2_with fail
  refine (has_any a b s c _ HO.out).mono ?_
  rintro e w' ⟨rfl, hb⟩
  go_wp2
  go_ret
  exact ⟨rfl, hb0.trans (hb.mono hb0.size)⟩

set_option maxHeartbeats 1000000 in
set_option maxRecDepth 100000 in
theorem index_any (b : Nat) (l : List MRow) (c : Int) (g : Nat) (w : World) (hR : RowsAt w b l) (hl : l.length ≤ 1000) (hok : ∀ r ∈ l, okR r = true) (hg : g < w.heap.size) (hc : w.cell? ⟨g, 0, none⟩ = some (.int .i64 c))
    (i : Nat) (hi : i ≤ l.length) (hlo : ∀ j (hj : j < l.length), j < i → hasB l[j] c = false) (v : Int) (hv : (∃ h : i < l.length, hasB l[i] c = true ∧ v = i) ∨ (i = l.length ∧ v = -1)) :
    Calls Tryd.prog 55 #[.slice (some ⟨b, 0, none⟩) l.length l.length, .func (.func 56) #[] #[.pointer (some ⟨g, 0, none⟩)]] w fun e w' => e = .returned (.int .i64 v) ∧ Below w.heap.size w w' := by
  have HR := Lib.hid hR
  have HOK := Lib.hid hok
  have HLO := Lib.hid hlo
  have HV := Lib.hid hv
  have HC := Lib.hid hc
  clear hR hok hlo hv hc
  go_enter Tryd.func55, Tryd.ntmps55
  go_wp2
  go_loopw [8] (fun s8 wx => ∃ k : Nat, k ≤ i ∧ s8 = .int .i64 k ∧ Below w.heap.size w wx) (fun s8 _ => i - (RowKit.intOf s8).toNat)
  case atStart => exact ⟨0, Nat.zero_le _, rfl, Below.refl _ _⟩
  case round =>
    obtain ⟨k, hk, rfl, hb⟩ := hrel
    have HB := Lib.hid hb
    have hbs := hb.size
    clear hb
    by_cases hlt : k < l.length
    · obtain ⟨c0, c1, c2⟩ := (HR.out.below HB.out).2 _ hlt
      have hcg := (HB.out.cell (p := ⟨g, 0, none⟩) hg).trans HC.out
      have hgx := Nat.lt_of_lt_of_le hg hbs
      have HCG := Lib.hid hcg
      clear hcg
      have ho := HOK.out _ (List.getElem_mem hlt)
      generalize hs : l[k] = s at c0 c1 c2 ho
      obtain ⟨s0, s1, s2⟩ := s
      simp only at c0 c1 c2
      have HS := Lib.hid hs
      have HO := Lib.hid ho
      clear hs ho
      by_cases hki : k < i
      · have hh : hasB (s0, s1, s2) c = false := by rw [← HS.out]; exact HLO.out k hlt hki
        have HH := Lib.hid hh
        clear hh
        go_wp2_with fail
        refine (closure_any s0 s1 s2 c g _ HO.out hgx HCG.out).mono ?_
        rw [HH.out]
        rintro e w' ⟨rfl, hb2⟩
        go_wp2
        go_roundw
        case rel => exact ⟨k + 1, by omega, by go_num, HB.out.trans (hb2.mono HB.out.size)⟩
        case measure => simp [RowKit.intOf]; omega
      · obtain rfl : i = k := by omega
        have hh : hasB (s0, s1, s2) c = true ∧ v = i := by
          rcases HV.out with ⟨h, h1, h2⟩ | ⟨h, _⟩
          · rw [← HS.out]; exact ⟨h1, h2⟩
          · omega
        have HH := Lib.hid hh
        clear hh
        go_wp2_with fail
        refine (closure_any s0 s1 s2 c g _ HO.out hgx HCG.out).mono ?_
        rw [HH.out.1]
        rintro e w' ⟨rfl, hb2⟩
        go_wp2
        go_ret
        exact ⟨by rw [HH.out.2]; rfl, HB.out.trans (hb2.mono HB.out.size)⟩
    · have hv : v = -1 := by
        rcases HV.out with ⟨h, h1, h2⟩ | ⟨_, h⟩
        · omega
        · exact h
      subst hv
      go_wp2
      go_ret
      exact ⟨rfl, HB.out⟩

/-- The first row that has a number, or that none does. -/
theorem first_is : ∀ (l : List MRow) (c : Int), (∃ (i : Nat) (h : i < l.length), (∀ j (hj : j < l.length), j < i → hasB l[j] c = false) ∧ hasB l[i] c = true) ∨ (∀ r ∈ l, hasB r c = false)
  | [], c => .inr (by simp)
  | r :: l, c => by
    cases h : hasB r c with
    | true => exact .inl ⟨0, by simp, fun j _ hj => by omega, h⟩
    | false =>
      rcases first_is l c with ⟨i, hi, h1, h2⟩ | h1
      · refine .inl ⟨i + 1, Nat.succ_lt_succ hi, fun j hj hji => ?_, h2⟩
        cases j with
        | zero => exact h
        | succ j => exact h1 j (by simpa using hj) (by omega)
      · refine .inr fun x hx => ?_
        rcases List.mem_cons.1 hx with rfl | hx
        · exact h
        · exact h1 x hx

set_option maxHeartbeats 1000000 in
set_option maxRecDepth 100000 in
theorem pairIn_any (b : Nat) (l : List MRow) (c : Int) (w : World) (hR : RowsAt w b l) (hl : l.length ≤ 1000) (hok : ∀ r ∈ l, okR r = true) :
    Calls Tryd.prog 38 #[.slice (some ⟨b, 0, none⟩) l.length l.length, .int .i64 c] w fun e w' => e = .returned (.tuple #[.int .i64 (inR l c).1, .int .i64 (inR l c).2]) ∧ Below w.heap.size w w' := by
  have HR := Lib.hid hR
  have HOK := Lib.hid hok
  clear hR hok
  have hb0 : Below w.heap.size w (w.alloc (.cells #[.int .i64 c] 3)) := (Below.refl _ _).alloc (Nat.le_refl _) _
  have HB0 := Lib.hid hb0
  clear hb0
  have hcell : (w.alloc (.cells #[.int .i64 c] 3)).cell? ⟨w.heap.size, 0, none⟩ = some (.int .i64 c) := by simp
  have HCELL := Lib.hid hcell
  clear hcell
  rcases first_is l c with ⟨i, hi, hlo, hh⟩ | hno
  · have HI := Lib.hid (inR_at l c i hi hlo hh)
    have HLO := Lib.hid hlo
    have ho := HOK.out _ (List.getElem_mem hi)
    generalize hs : l[i] = s at ho
    obtain ⟨s0, s1, s2⟩ := s
    have HS := Lib.hid hs
    have HO := Lib.hid ho
    have HH := Lib.hid hh
    clear hs ho hlo hh
    go_enter Tryd.func38, Tryd.ntmps38
    go_wp2_with fail
    refine (index_any b l c w.heap.size _ (HR.out.below HB0.out) hl HOK.out (by simp) HCELL.out i (by omega) HLO.out i (.inl ⟨hi, HH.out, rfl⟩)).mono ?_
    rintro e w1 ⟨rfl, hb1⟩
    have HB1 := Lib.hid (HB0.out.trans (hb1.mono HB0.out.size))
    have c3 : w1.cell? ⟨w.heap.size, 0, none⟩ = some (.int .i64 c) := (hb1.cell (p := ⟨w.heap.size, 0, none⟩) (by simp)).trans HCELL.out
    clear hb1
    obtain ⟨c0, c1, c2⟩ := (HR.out.below HB1.out).2 _ hi
    rw [HS.out] at c0 c1 c2
    simp only at c0 c1 c2
    obtain ⟨b1, b2⟩ : s0 ≤ c ∧ c ≤ s1 := by
      have := HH.out
      rw [HS.out] at this
      simp only [hasB, Bool.and_eq_true, decide_eq_true_eq] at this
      exact ⟨this.1, this.2.1⟩
    have hbw : Below w.heap.size w w1 := HB1.out
    go_wp2
    go_region_with (go_at_call 58; refine (pair_any _ _ _ _ _ HO.out b1 b2).mono ?_; rintro e w2 ⟨rfl, hb2⟩)
    all_goals go_wp2
    all_goals go_ret2
    all_goals (refine ⟨by rw [HI.out, HS.out]; rfl, ?_⟩; first | exact (below_drew hbw).trans (hb2.mono hbw.size) | exact hbw.trans (hb2.mono hbw.size))
  · have HI := Lib.hid (inR_none l c hno)
    rw [HI.out]
    have HNO := Lib.hid hno
    clear hno
    go_enter Tryd.func38, Tryd.ntmps38
    go_wp2_with fail
    refine (index_any b l c w.heap.size _ (HR.out.below HB0.out) hl HOK.out (by simp) HCELL.out l.length (Nat.le_refl _) (fun j hj _ => HNO.out _ (List.getElem_mem hj)) (-1) (.inr ⟨rfl, rfl⟩)).mono ?_
    rintro e w1 ⟨rfl, hb1⟩
    go_wp2
    go_ret2
    exact ⟨rfl, HB0.out.trans (hb1.mono HB0.out.size)⟩
end Go.Proofs.YtapeebnbiappgaaDoor.Mi
