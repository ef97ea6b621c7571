/-
  Proved here: what (class.span).against, the search by halves at spans, class.classIn and class.Of return, for every number; they leave what was in memory. No condition (the search: rising spans).
-/
import Derived.Test.YtifaimoaaiikpaaClSpans
import Derived.Test.YtifaimoaaiikpaaClPlain
import Derived.IntWalk
import Derived.OwnWalk
set_option linter.unusedVariables false
namespace Go.Proofs.Ytifaimoaaiikpaa.Cl
open Go.RowKit Go.Lib

/-- A row of spans in memory. -/
def SpansAt (w : World) (b : Nat) (l : List Span) : Prop :=
  b < w.heap.size ∧ ∀ k (hk : k < l.length), w.cell? ⟨b, k * 3, none⟩ = some (.int .i64 l[k].1) ∧ w.cell? ⟨b, k * 3 + 1, none⟩ = some (.int .i64 l[k].2.1) ∧ w.cell? ⟨b, k * 3 + 2, none⟩ = some (.int .i64 l[k].2.2)
theorem SpansAt.below {w w' : World} {b : Nat} {l : List Span} (h : SpansAt w b l) (hb : Below w.heap.size w w') : SpansAt w' b l :=
  ⟨Nat.lt_of_lt_of_le h.1 hb.size, fun k hk => ⟨(hb.cell (p := ⟨b, k * 3, none⟩) h.1).trans (h.2 k hk).1, (hb.cell (p := ⟨b, k * 3 + 1, none⟩) h.1).trans (h.2 k hk).2.1, (hb.cell (p := ⟨b, k * 3 + 2, none⟩) h.1).trans (h.2 k hk).2.2⟩⟩

/-- Where a span lies, seen from a number. -/
def agst (s : Span) (c : Int) : Int := if s.2.1 < c then -1 else if c < s.1 then 1 else 0

set_option maxHeartbeats 400000 in
theorem against_any (a b d c : Int) (w : World) :
    Calls Try.prog 31 #[.agg #[.int .i64 a, .int .i64 b, .int .i64 d], .int .i64 c] w fun e w' => e = .returned (.int .i64 (agst (a, b, d) c)) ∧ Below w.heap.size w w' := by
  by_cases h1 : b < c
  · have e : agst (a, b, d) c = -1 := if_pos h1
    rw [e]
    clear e
    go_enter Try.func31, Try.ntmps31
    go_wp2
    go_ret
    exact ⟨rfl, (Below.refl _ _).alloc (Nat.le_refl _) _⟩
  · by_cases h2 : c < a
    · have e : agst (a, b, d) c = 1 := by unfold agst; rw [if_neg h1, if_pos h2]
      rw [e]
      clear e
      go_enter Try.func31, Try.ntmps31
      go_wp2
      go_ret
      exact ⟨rfl, (Below.refl _ _).alloc (Nat.le_refl _) _⟩
    · have e : agst (a, b, d) c = 0 := by unfold agst; rw [if_neg h1, if_neg h2]
      rw [e]
      clear e
      go_enter Try.func31, Try.ntmps31
      go_wp2
      go_ret
      exact ⟨rfl, (Below.refl _ _).alloc (Nat.le_refl _) _⟩

theorem agst_lt {s : Span} {c : Int} (h : s.2.1 < c) : decide (agst s c < 0) = true := by unfold agst; rw [if_pos h]; rfl
theorem agst_ge {s : Span} {c : Int} (h : ¬ s.2.1 < c) : decide (agst s c < 0) = false := by
  unfold agst
  rw [if_neg h]
  split <;> rfl
theorem agst_eq {s : Span} {c : Int} (h : ¬ s.2.1 < c) : (agst s c == 0) = decide (s.1 ≤ c) := by
  unfold agst
  rw [if_neg h]
  by_cases h2 : c < s.1
  · rw [if_pos h2, decide_eq_false (by omega)]; rfl
  · rw [if_neg h2, decide_eq_true (by omega)]; rfl

set_option maxHeartbeats 1000000 in
set_option maxRecDepth 100000 in
theorem search_any (b : Nat) (l : List Span) (c : Int) (w : World) (hS : SpansAt w b l) (hl : l.length ≤ 1000) (hr : rises l = true) :
    Calls Try.prog 30 #[.slice (some ⟨b, 0, none⟩) l.length l.length, .int .i64 c, .func (.func 31) #[] #[]] w fun e w' => e = .returned (.tuple #[.int .i64 (cnt l c), .bool (hitB l c)]) ∧ Below w.heap.size w w' := by
  have HR := Lib.hid hr
  clear hr
  go_enter Try.func30, Try.ntmps30
  go_wp2
  go_loopw [9, 10] (fun s9 s10 wx => ∃ i j : Nat, i ≤ j ∧ j ≤ l.length ∧ s9 = .int .i64 i ∧ s10 = .int .i64 j ∧ Below w.heap.size w wx ∧ (∀ k (hk : k < l.length), k < i → l[k].2.1 < c) ∧ (∀ k (hk : k < l.length), j ≤ k → c ≤ l[k].2.1)) (fun s9 s10 _ => (RowKit.intOf s10).toNat - (RowKit.intOf s9).toNat)
  case atStart => exact ⟨0, l.length, Nat.zero_le _, Nat.le_refl _, rfl, rfl, Below.refl _ _, fun k hk h => by omega, fun k hk h => by omega⟩
  case round =>
    obtain ⟨i, j, hij, hj, rfl, rfl, hb, hlo, hhi⟩ := hrel
    have HLO := Lib.hid hlo
    have HHI := Lib.hid hhi
    have HB := Lib.hid hb
    clear hlo hhi hb
    by_cases hlt : i < j
    · have hh : (i + j) / 2 < l.length := by omega
      obtain ⟨c0, c1, c2⟩ := (hS.below HB.out).2 _ hh
      generalize hs : l[(i + j) / 2] = s at c0 c1 c2
      obtain ⟨s0, s1, s2⟩ := s
      simp only at c0 c1 c2
      have hs' := Lib.hid hs
      clear hs
      by_cases hc : s1 < c
      · have hd := agst_lt (s := (s0, s1, s2)) hc
        have hc' := Lib.hid hc
        clear hc
        go_wp2_with fail
        refine (against_any s0 s1 s2 c _).mono ?_
        rintro e w' ⟨rfl, hb2⟩
        generalize agst (s0, s1, s2) c = v at *
        go_wp2
        go_roundw
        case rel =>
          refine ⟨(i + j) / 2 + 1, j, by omega, hj, by go_num, rfl, HB.out.trans (hb2.mono HB.out.size), fun k hk hki => ?_, HHI.out⟩
          exact rises_mono HR.out (j := (i + j) / 2) (by omega) hh (by rw [hs'.out]; exact hc'.out)
        case measure => simp [RowKit.intOf]; omega
      · have hd := agst_ge (s := (s0, s1, s2)) hc
        have hc' := Lib.hid hc
        clear hc
        go_wp2_with fail
        refine (against_any s0 s1 s2 c _).mono ?_
        rintro e w' ⟨rfl, hb2⟩
        generalize agst (s0, s1, s2) c = v at *
        go_wp2
        go_roundw
        case rel =>
          refine ⟨i, (i + j) / 2, by omega, by omega, rfl, by go_num, HB.out.trans (hb2.mono HB.out.size), HLO.out, fun k hk hki => ?_⟩
          have h1 := hc'.out
          have h2 := hs'.out
          rcases Nat.lt_or_eq_of_le hki with h3 | h3
          · have := rises_lt HR.out _ k hh hk h3
            rw [h2] at this
            simp only at this
            omega
          · subst h3
            rw [h2]
            simp only
            omega
        case measure => simp [RowKit.intOf]; omega
    · obtain rfl : i = j := by omega
      have hcnt : i = cnt l c := cnt_is HR.out (by omega) HLO.out (fun k hk h => by have := HHI.out k hk h; omega)
      have HC := Lib.hid hcnt
      clear hcnt
      by_cases hn : i < l.length
      · obtain ⟨c0, c1, c2⟩ := (hS.below HB.out).2 _ hn
        have hge := HHI.out i hn (Nat.le_refl _)
        generalize hs : l[i] = s at c0 c1 c2 hge
        obtain ⟨s0, s1, s2⟩ := s
        simp only at c0 c1 c2 hge
        have hs' := Lib.hid hs
        have he := Lib.hid (agst_eq (s := (s0, s1, s2)) (c := c) (by simp only; omega))
        clear hs
        go_wp2_with fail
        refine (against_any s0 s1 s2 c _).mono ?_
        rintro e w' ⟨rfl, hb2⟩
        go_wp2
        go_ret2
        refine ⟨?_, HB.out.trans (hb2.mono HB.out.size)⟩
        have he2 : (agst (s0, s1, s2) c == 0) = decide (s0 ≤ c) := he.out
        have hk : cnt l c < l.length := HC.out ▸ hn
        have e2 : hitB l c = decide (s0 ≤ c) := by
          rw [hitB_some hk]
          simp only [← HC.out, hs'.out]
        rw [e2, ← HC.out, ← he2]
        rfl
      · go_wp2
        go_ret2
        refine ⟨?_, HB.out⟩
        rw [hitB_none (by rw [← HC.out]; exact hn), ← HC.out]
        rfl

set_option maxHeartbeats 1000000 in
set_option maxRecDepth 100000 in
theorem classIn_any (b : Nat) (l : List Span) (c : Int) (w : World) (hS : SpansAt w b l) (hl : l.length ≤ 1000) (hr : rises l = true) :
    Calls Try.prog 28 #[.slice (some ⟨b, 0, none⟩) l.length l.length, .int .i64 c] w fun e w' => e = .returned (.int .i64 (ofT l c)) ∧ Below w.heap.size w w' := by
  have cS := Lib.hid (search_any b l c w hS hl hr)
  clear hr
  cases hh : hitB l c with
  | true =>
    obtain ⟨hk, ho⟩ := ofT_hit hh
    obtain ⟨v, hv⟩ : ∃ v, l[cnt l c].2.2 = v := ⟨_, rfl⟩
    rw [hh] at cS
    rw [ho, hv]
    have HS := Lib.hid hS
    have HV := Lib.hid hv
    clear ho hh hS hv
    go_enter Try.func28, Try.ntmps28
    go_wp2_with fail
    refine cS.out.mono ?_
    rintro e w' ⟨rfl, hb⟩
    have c2 := ((HS.out.below hb).2 _ hk).2.2
    rw [HV.out] at c2
    clear HV cS
    generalize cnt l c = k at *
    have hk' : (k : Int) < l.length := by omega
    go_wp2
    go_ret
    exact ⟨rfl, hb⟩
  | false =>
    have ho := ofT_miss hh
    rw [hh] at cS
    rw [ho]
    clear ho hh
    go_enter Try.func28, Try.ntmps28
    go_wp2_with fail
    refine cS.out.mono ?_
    rintro e w' ⟨rfl, hb⟩
    go_wp2
    go_ret
    exact ⟨rfl, hb⟩

theorem rises_spans : rises spansL = true := by kernel_rfl
theorem spans_len : spansL.length = 166 := by kernel_rfl
theorem spanCells_at : ∀ (l : List Span) (k : Nat) (hk : k < l.length), (spanCells l)[k * 3]? = some (.int .i64 l[k].1) ∧ (spanCells l)[k * 3 + 1]? = some (.int .i64 l[k].2.1) ∧ (spanCells l)[k * 3 + 2]? = some (.int .i64 l[k].2.2)
  | r :: l, 0, _ => ⟨rfl, rfl, rfl⟩
  | r :: l, k + 1, hk => by
    have := spanCells_at l k (by simpa using hk)
    rw [show (k + 1) * 3 = k * 3 + 3 from by omega]
    exact this
theorem spansAt_made (l : List Span) (t : TypeId) (w : World) : SpansAt (w.alloc (.cells (spanCells l).toArray t)) w.heap.size l := by
  refine ⟨by simp, fun k hk => ?_⟩
  obtain ⟨h0, h1, h2⟩ := spanCells_at l k hk
  refine ⟨?_, ?_, ?_⟩
  · simpa using h0
  · simpa using h1
  · simpa using h2

/-- class.spans, as its callers read it. -/
theorem spans_reads (w : World) :
    Calls Try.prog 27 #[] w fun e w' => e = .returned (.slice (some ⟨w.heap.size, 0, none⟩) spansL.length spansL.length) ∧ SpansAt w' w.heap.size spansL ∧ Below w.heap.size w w' := by
  refine (spans_any w).mono ?_
  rintro e w' ⟨rfl, rfl⟩
  exact ⟨by rw [spans_len], spansAt_made _ _ _, (Below.refl _ _).alloc (Nat.le_refl _) _⟩

/-- The class of a number, as the program tells it. -/
def cls (c : Int) : Int := ofT spansL c

end Go.Proofs.Ytifaimoaaiikpaa.Cl
