/-
  Several texts in one, each with its own remark: ClPlain, ClSearch, RuAll, BcParag, SqKept, SqMid.
-/
import Derived.IntWalk
import Derived.OwnWalk
import Derived.Maps.AppendAt
import Derived.Test.YtfclpecbnailgaaGreatRows
import Derived.Test.YtfclpecbnailgaaGreatRClSpans
import Derived.Test.YtfclpecbnailgaaGreatR5
import Derived.Test.YtfclpecbnailgaaGreatR2
import Derived.Test.YtfclpecbnailgaaGreatR9
import Derived.Test.YtfclpecbnailgaaGreatR3

/-
 Plain facts on rising spans: what a search by halves finds, and that it is the one span that has the number.
-/
set_option linter.unusedVariables false
namespace Go.Proofs.YtfclpecbnailgaaGreat.Cl
abbrev Span := Int × Int × Int
/-- How many spans lie below a number. -/
def cnt (l : List Span) (c : Int) : Nat := (l.takeWhile fun s => decide (s.2.1 < c)).length
/-- Whether the first span that does not lie below has the number. -/
def hitB (l : List Span) (c : Int) : Bool := match l[cnt l c]? with
 | some s => decide (s.1 ≤ c)
 | none => false
/-- The class of a number by a rising list of spans. -/
def ofT (l : List Span) (c : Int) : Int := match l[cnt l c]? with
 | some s => if s.1 ≤ c then s.2.2 else 0
 | none => 0
/-- Spans rise, and are not empty. -/
def rises : List Span → Bool
 | [] => true
 | [s] => decide (s.1 ≤ s.2.1)
 | s :: t :: l => decide (s.1 ≤ s.2.1) && decide (s.2.1 < t.1) && rises (t :: l)
theorem rises_tail {s : Span} {l : List Span} (h : rises (s :: l) = true) : rises l = true := by
 cases l with
 | nil => rfl
 | cons t l => simp [rises] at h; exact h.2
theorem rises_head {s : Span} {l : List Span} (h : rises (s :: l) = true) : s.1 ≤ s.2.1 := by
 cases l with
 | nil => simpa [rises] using h
 | cons t l => simp [rises] at h; exact h.1.1
theorem rises_above {s : Span} : ∀ {l : List Span}, rises (s :: l) = true → ∀ t ∈ l, s.2.1 < t.1 ∧ t.1 ≤ t.2.1
 | [], _, t, ht => by cases ht
 | u :: l, h, t, ht => by
  have hu : s.2.1 < u.1 := by simp [rises] at h; exact h.1.2
  have hr := rises_tail h
  rcases List.mem_cons.1 ht with rfl | ht
  ·exact ⟨hu, rises_head hr⟩
  ·have := rises_above hr t ht
   have := rises_head hr
   omega
theorem rises_lt : ∀ {l : List Span}, rises l = true → ∀ (i j : Nat) (hi : i < l.length) (hj : j < l.length), i < j → l[i].2.1 < l[j].1 ∧ l[j].1 ≤ l[j].2.1
 | s :: l, h, 0, j + 1, hi, hj, _ => by
  simpa using rises_above h _ (List.getElem_mem (by simpa using hj))
 | s :: l, h, i + 1, j + 1, hi, hj, hij => by
  simpa using rises_lt (rises_tail h) i j (by simpa using hi) (by simpa using hj) (by omega)
theorem cnt_le (l : List Span) (c : Int) : cnt l c ≤ l.length := by
 unfold cnt; exact (List.takeWhile_sublist _).length_le
theorem cnt_below : ∀ (l : List Span) (c : Int) (k : Nat) (hk : k < l.length), k < cnt l c → l[k].2.1 < c
 | s :: l, c, k, hk, h => by
  unfold cnt at h
  rw [List.takeWhile_cons] at h
  split at h
  ·rename_i hs
   cases k with
   | zero => simpa using hs
   | succ k => simpa using cnt_below l c k (by simpa using hk) (by simpa [cnt] using h)
  ·simp at h
theorem cnt_at : ∀ (l : List Span) (c : Int) (hk : cnt l c < l.length), ¬ l[cnt l c].2.1 < c
 | s :: l, c, hk => by
  unfold cnt at hk ⊢
  by_cases hs : s.2.1 < c
  ·have e : ((s :: l).takeWhile fun s => decide (s.2.1 < c)).length = cnt l c + 1 := by simp [hs, cnt]
   have := cnt_at l c (by rw [e] at hk; simpa using hk)
   simp only [e]
   simpa using this
  ·have e : ((s :: l).takeWhile fun s => decide (s.2.1 < c)).length = 0 := by simp [hs]
   simp only [e]
   simpa using hs
/-- What a search by halves ends with is that number. -/
theorem cnt_is {l : List Span} (h : rises l = true) {c : Int} {i : Nat} (hi : i ≤ l.length) (hlo : ∀ k (hk : k < l.length), k < i → l[k].2.1 < c) (hhi : ∀ k (hk : k < l.length), i ≤ k → ¬ l[k].2.1 < c) : i = cnt l c := by
 have hc := cnt_le l c
 rcases Nat.lt_trichotomy i (cnt l c) with h1 | h1 | h1
 ·exact absurd (cnt_below l c i (by omega) h1) (hhi i (by omega) (Nat.le_refl _))
 ·exact h1
 ·exact absurd (hlo _ (by omega) h1) (cnt_at l c (by omega))
theorem rises_mono {l : List Span} (h : rises l = true) {c : Int} {i j : Nat} (hij : i ≤ j) (hj : j < l.length) (hlt : l[j].2.1 < c) : l[i].2.1 < c := by
 rcases Nat.lt_or_eq_of_le hij with h1 | rfl
 ·have := rises_lt h i j (by omega) hj h1
  omega
 ·exact hlt
theorem hitB_some {l : List Span} {c : Int} (hk : cnt l c < l.length) : hitB l c = decide (l[cnt l c].1 ≤ c) := by
 unfold hitB
 rw [List.getElem?_eq_getElem hk]
theorem hitB_none {l : List Span} {c : Int} (hk : ¬ cnt l c < l.length) : hitB l c = false := by
 unfold hitB
 rw [List.getElem?_eq_none (by omega)]
theorem ofT_hit {l : List Span} {c : Int} (h : hitB l c = true) : ∃ hk : cnt l c < l.length, ofT l c = l[cnt l c].2.2 := by
 by_cases hk : cnt l c < l.length
 ·refine ⟨hk, ?_⟩
  rw [hitB_some hk] at h
  unfold ofT
  rw [List.getElem?_eq_getElem hk]
  simp only [decide_eq_true_eq] at h
  exact if_pos h
 ·rw [hitB_none hk] at h
  cases h
theorem ofT_miss {l : List Span} {c : Int} (h : hitB l c = false) : ofT l c = 0 := by
 unfold ofT
 by_cases hk : cnt l c < l.length
 ·rw [hitB_some hk] at h
  rw [List.getElem?_eq_getElem hk]
  exact if_neg (by simpa using h)
 ·rw [List.getElem?_eq_none (by omega)]
/-- The span that has a number tells its class. -/
theorem ofT_in {l : List Span} (h : rises l = true) {c : Int} {s : Span} (hs : s ∈ l) (h1 : s.1 ≤ c) (h2 : c ≤ s.2.1) : ofT l c = s.2.2 := by
 obtain ⟨k, hk, rfl⟩ := List.getElem_of_mem hs
 have e : k = cnt l c := cnt_is h (by omega) (fun j hj hjk => by have := rises_lt h j k hj hk hjk; omega) (fun j hj hkj => by
  rcases Nat.lt_or_eq_of_le hkj with h3 | rfl
  ·have := rises_lt h k j hk hj h3
   omega
  ·omega)
 unfold ofT
 rw [← e, List.getElem?_eq_getElem hk]
 exact if_pos h1
theorem ofT_out {l : List Span} {c : Int} (hno : ∀ s ∈ l, ¬ (s.1 ≤ c ∧ c ≤ s.2.1)) : ofT l c = 0 := by
 unfold ofT
 by_cases hk : cnt l c < l.length
 ·rw [List.getElem?_eq_getElem hk]
  have h1 := cnt_at l c hk
  have h2 := hno _ (List.getElem_mem hk)
  exact if_neg (by omega)
 ·rw [List.getElem?_eq_none (by omega)]
end Go.Proofs.YtfclpecbnailgaaGreat.Cl

/-
 Proved here: what (class.span).against, the search by halves at spans, class.classIn and class.Of return, for every number; they leave what was in memory. No condition (the search: rising spans).
-/
set_option linter.unusedVariables false
namespace Go.Proofs.YtfclpecbnailgaaGreat.Cl
open Go.RowKit Go.Lib
/-- A row of spans in memory. -/
def SpansAt (w : World) (b : Nat) (l : List Span) : Prop :=
 b < w.heap.size ∧ ∀ k (hk : k < l.length), w.cell? ⟨b, k * 3, none⟩ = some (.int .i64 l[k].1) ∧ w.cell? ⟨b, k * 3 + 1, none⟩ = some (.int .i64 l[k].2.1) ∧ w.cell? ⟨b, k * 3 + 2, none⟩ = some (.int .i64 l[k].2.2)
theorem SpansAt.below {w w' : World} {b : Nat} {l : List Span} (h : SpansAt w b l) (hb : Below w.heap.size w w') : SpansAt w' b l :=
 ⟨Nat.lt_of_lt_of_le h.1 hb.size, fun k hk => ⟨(hb.cell (p := ⟨b, k * 3, none⟩) h.1).trans (h.2 k hk).1, (hb.cell (p := ⟨b, k * 3 + 1, none⟩) h.1).trans (h.2 k hk).2.1, (hb.cell (p := ⟨b, k * 3 + 2, none⟩) h.1).trans (h.2 k hk).2.2⟩⟩
/-- Where a span lies, seen from a number. -/
def agst (s : Span) (c : Int) : Int := if s.2.1 < c then -1 else if c < s.1 then 1 else 0
set_option maxHeartbeats 400000 in
theorem against_any (a b d c : Int) (w : World) :
  Calls Tryz.prog 89 #[.agg #[.int .i64 a, .int .i64 b, .int .i64 d], .int .i64 c] w fun e w' => e = .returned (.int .i64 (agst (a, b, d) c)) ∧ Below w.heap.size w w' := by
 by_cases h1 : b < c
 ·have e : agst (a, b, d) c = -1 := if_pos h1
  rw [e]
  clear e
  go_enter Tryz.func89, Tryz.ntmps89
  go_wp2
  go_ret
  exact ⟨rfl, (Below.refl _ _).alloc (Nat.le_refl _) _⟩
 ·by_cases h2 : c < a
  ·have e : agst (a, b, d) c = 1 := by unfold agst; rw [if_neg h1, if_pos h2]
   rw [e]
   clear e
   go_enter Tryz.func89, Tryz.ntmps89
   go_wp2
   go_ret
   exact ⟨rfl, (Below.refl _ _).alloc (Nat.le_refl _) _⟩
  ·have e : agst (a, b, d) c = 0 := by unfold agst; rw [if_neg h1, if_neg h2]
   rw [e]
   clear e
   go_enter Tryz.func89, Tryz.ntmps89
   go_wp2
   go_ret
   exact ⟨rfl, (Below.refl _ _).alloc (Nat.le_refl _) _⟩
theorem agst_lt {s : Span} {c : Int} (h : s.2.1 < c) : decide (agst s c < 0) = true := by unfold agst; rw [if_pos h]; rfl
theorem agst_ge {s : Span} {c : Int} (h : ¬ s.2.1 < c) : decide (agst s c < 0) = false := by
 unfold agst
 rw [if_neg h]
 split <;> rfl
theorem agst_eq {s : Span} {c : Int} (h : ¬ s.2.1 < c) : (agst s c == 0) = decide (s.1 ≤ c) := by
 unfold agst
 rw [if_neg h]
 by_cases h2 : c < s.1
 ·rw [if_pos h2, decide_eq_false (by omega)]; rfl
 ·rw [if_neg h2, decide_eq_true (by omega)]; rfl
set_option maxHeartbeats 1000000 in
set_option maxRecDepth 100000 in
theorem search_any (b : Nat) (l : List Span) (c : Int) (w : World) (hS : SpansAt w b l) (hl : l.length ≤ 1000) (hr : rises l = true) :
  Calls Tryz.prog 88 #[.slice (some ⟨b, 0, none⟩) l.length l.length, .int .i64 c, .func (.func 89) #[] #[]] w fun e w' => e = .returned (.tuple #[.int .i64 (cnt l c), .bool (hitB l c)]) ∧ Below w.heap.size w w' := by
 have HR := Lib.hid hr
 clear hr
 go_enter Tryz.func88, Tryz.ntmps88
 go_wp2
 go_loopw [9, 10] (fun s9 s10 wx => ∃ i j : Nat, i ≤ j ∧ j ≤ l.length ∧ s9 = .int .i64 i ∧ s10 = .int .i64 j ∧ Below w.heap.size w wx ∧ (∀ k (hk : k < l.length), k < i → l[k].2.1 < c) ∧ (∀ k (hk : k < l.length), j ≤ k → c ≤ l[k].2.1)) (fun s9 s10 _ => (RowKit.intOf s10).toNat - (RowKit.intOf s9).toNat)
 case atStart => exact ⟨0, l.length, Nat.zero_le _, Nat.le_refl _, rfl, rfl, Below.refl _ _, fun k hk h => by omega, fun k hk h => by omega⟩
 case round =>
  obtain ⟨i, j, hij, hj, rfl, rfl, hb, hlo, hhi⟩ := hrel
  have HLO := Lib.hid hlo
  have HHI := Lib.hid hhi
  have HB := Lib.hid hb
  clear hlo hhi hb
  by_cases hlt : i < j
  ·have hh : (i + j) / 2 < l.length := by omega
   obtain ⟨c0, c1, c2⟩ := (hS.below HB.out).2 _ hh
   generalize hs : l[(i + j) / 2] = s at c0 c1 c2
   obtain ⟨s0, s1, s2⟩ := s
   simp only at c0 c1 c2
   have hs' := Lib.hid hs
   clear hs
   by_cases hc : s1 < c
   ·have hd := agst_lt (s := (s0, s1, s2)) hc
    have hc' := Lib.hid hc
    clear hc
    go_wp2_with fail
    refine (against_any s0 s1 s2 c _).mono ?_
    rintro e w' ⟨rfl, hb2⟩
    generalize agst (s0, s1, s2) c = v at *
    go_wp2
    go_roundw
    case rel =>
     refine ⟨(i + j) / 2 + 1, j, by omega, hj, by go_num, rfl, HB.out.trans (hb2.mono HB.out.size), fun k hk hki => ?_, HHI.out⟩
     exact rises_mono HR.out (j := (i + j) / 2) (by omega) hh (by rw [hs'.out]; exact hc'.out)
    case measure => simp [RowKit.intOf]; omega
   ·have hd := agst_ge (s := (s0, s1, s2)) hc
    have hc' := Lib.hid hc
    clear hc
    go_wp2_with fail
    refine (against_any s0 s1 s2 c _).mono ?_
    rintro e w' ⟨rfl, hb2⟩
    generalize agst (s0, s1, s2) c = v at *
    go_wp2
    go_roundw
    case rel =>
     refine ⟨i, (i + j) / 2, by omega, by omega, rfl, by go_num, HB.out.trans (hb2.mono HB.out.size), HLO.out, fun k hk hki => ?_⟩
     have h1 := hc'.out
     have h2 := hs'.out
     rcases Nat.lt_or_eq_of_le hki with h3 | h3
     ·have := rises_lt HR.out _ k hh hk h3
      rw [h2] at this
      simp only at this
      omega
     ·subst h3
      rw [h2]
      simp only
      omega
    case measure => simp [RowKit.intOf]; omega
  ·obtain rfl : i = j := by omega
   have hcnt : i = cnt l c := cnt_is HR.out (by omega) HLO.out (fun k hk h => by have := HHI.out k hk h; omega)
   have HC := Lib.hid hcnt
   clear hcnt
   by_cases hn : i < l.length
   ·obtain ⟨c0, c1, c2⟩ := (hS.below HB.out).2 _ hn
    have hge := HHI.out i hn (Nat.le_refl _)
    generalize hs : l[i] = s at c0 c1 c2 hge
    obtain ⟨s0, s1, s2⟩ := s
    simp only at c0 c1 c2 hge
    have hs' := Lib.hid hs
    have he := Lib.hid (agst_eq (s := (s0, s1, s2)) (c := c) (by simp only; omega))
    clear hs
    go_wp2_with fail
    refine (against_any s0 s1 s2 c _).mono ?_
    rintro e w' ⟨rfl, hb2⟩
    go_wp2
    go_ret2
    refine ⟨?_, HB.out.trans (hb2.mono HB.out.size)⟩
    have he2 : (agst (s0, s1, s2) c == 0) = decide (s0 ≤ c) := he.out
    have hk : cnt l c < l.length := HC.out ▸ hn
    have e2 : hitB l c = decide (s0 ≤ c) := by
     rw [hitB_some hk]
     simp only [← HC.out, hs'.out]
    rw [e2, ← HC.out, ← he2]
    rfl
   ·go_wp2
    go_ret2
    refine ⟨?_, HB.out⟩
    rw [hitB_none (by rw [← HC.out]; exact hn), ← HC.out]
    rfl
set_option maxHeartbeats 1000000 in
set_option maxRecDepth 100000 in
theorem classIn_any (b : Nat) (l : List Span) (c : Int) (w : World) (hS : SpansAt w b l) (hl : l.length ≤ 1000) (hr : rises l = true) :
  Calls Tryz.prog 46 #[.slice (some ⟨b, 0, none⟩) l.length l.length, .int .i64 c] w fun e w' => e = .returned (.int .i64 (ofT l c)) ∧ Below w.heap.size w w' := by
 have cS := Lib.hid (search_any b l c w hS hl hr)
 clear hr
 cases hh : hitB l c with
 | true =>
  obtain ⟨hk, ho⟩ := ofT_hit hh
  obtain ⟨v, hv⟩ : ∃ v, l[cnt l c].2.2 = v := ⟨_, rfl⟩
  rw [hh] at cS
  rw [ho, hv]
  have HS := Lib.hid hS
  have HV := Lib.hid hv
  clear ho hh hS hv
  go_enter Tryz.func46, Tryz.ntmps46
  go_wp2_with fail
  refine cS.out.mono ?_
  rintro e w' ⟨rfl, hb⟩
  have c2 := ((HS.out.below hb).2 _ hk).2.2
  rw [HV.out] at c2
  clear HV cS
  generalize cnt l c = k at *
  have hk' : (k : Int) < l.length := by omega
  go_wp2
  go_ret
  exact ⟨rfl, hb⟩
 | false =>
  have ho := ofT_miss hh
  rw [hh] at cS
  rw [ho]
  clear ho hh
  go_enter Tryz.func46, Tryz.ntmps46
  go_wp2_with fail
  refine cS.out.mono ?_
  rintro e w' ⟨rfl, hb⟩
  go_wp2
  go_ret
  exact ⟨rfl, hb⟩
theorem rises_spans : rises spansL = true := by kernel_rfl
theorem spans_len : spansL.length = 166 := by kernel_rfl
theorem spanCells_at : ∀ (l : List Span) (k : Nat) (hk : k < l.length), (spanCells l)[k * 3]? = some (.int .i64 l[k].1) ∧ (spanCells l)[k * 3 + 1]? = some (.int .i64 l[k].2.1) ∧ (spanCells l)[k * 3 + 2]? = some (.int .i64 l[k].2.2)
 | r :: l, 0, _ => ⟨rfl, rfl, rfl⟩
 | r :: l, k + 1, hk => by
  have := spanCells_at l k (by simpa using hk)
  rw [show (k + 1) * 3 = k * 3 + 3 from by omega]
  exact this
theorem spansAt_made (l : List Span) (t : TypeId) (w : World) : SpansAt (w.alloc (.cells (spanCells l).toArray t)) w.heap.size l := by
 refine ⟨by simp, fun k hk => ?_⟩
 obtain ⟨h0, h1, h2⟩ := spanCells_at l k hk
 refine ⟨?_, ?_, ?_⟩
 ·simpa using h0
 ·simpa using h1
 ·simpa using h2
/-- class.spans, as its callers read it. -/
theorem spans_reads (w : World) :
  Calls Tryz.prog 47 #[] w fun e w' => e = .returned (.slice (some ⟨w.heap.size, 0, none⟩) spansL.length spansL.length) ∧ SpansAt w' w.heap.size spansL ∧ Below w.heap.size w w' := by
 refine (spans_any w).mono ?_
 rintro e w' ⟨rfl, rfl⟩
 exact ⟨by rw [spans_len], spansAt_made _ _ _, (Below.refl _ _).alloc (Nat.le_refl _) _⟩
/-- The class of a number, as the program tells it. -/
def cls (c : Int) : Int := ofT spansL c
end Go.Proofs.YtfclpecbnailgaaGreat.Cl

/-
 Proved here: what class.All returns, for every row of runes of whatever numbers, of at most 2^40: a new row of their classes, in order; it leaves what was in memory.
-/
set_option linter.unusedVariables false
namespace Go.Proofs.YtfclpecbnailgaaGreat.Cl
open Go.RowKit Go.Lib
/-- The classes of runes. -/
def clsR (l : List Ku.R3) : List Int := l.map fun r => cls r.2.2
theorem clsR_len (l : List Ku.R3) : (clsR l).length = l.length := by simp [clsR]
def iClR (zs : List Int) : List Value := zs.map (Value.int .i64)
theorem clsR_take {l : List Ku.R3} {k : Nat} (hk : k < l.length) : iClR (clsR (l.take (k + 1))) = iClR (clsR (l.take k)) ++ [.int .i64 (cls l[k].2.2)] := by
 unfold iClR clsR
 rw [List.take_succ_eq_append_getElem hk, List.map_append, List.map_append]
 rfl
set_option maxHeartbeats 1000000 in
set_option maxRecDepth 100000 in
theorem allR_any (A : Option Addr) (l : List Ku.R3) (c : Nat) (w : World) (hR : Ku.RuAt w A l) (hn : l.length ≤ 1099511627776) :
  Calls Tryz.prog 38 #[.slice A l.length c] w fun e w' => ∃ v, e = .returned v ∧ w'.ownsRow w.heap.size 3 1 v l.length (iClR (clsR l)) ∧ Below w.heap.size w w' := by
 obtain ⟨i0, hi, hz0, hz1, hz2⟩ := info_parts infoInt
 have hl : spansL.length ≤ 1000 := by rw [spans_len]; decide
 have HRS := Lib.hid rises_spans
 have HR := Lib.hid hR
 clear hR
 go_enter Tryz.func38, Tryz.ntmps38
 go_wp2_with fail
 refine (spans_reads w).mono ?_
 rintro e w1 ⟨rfl, hS, hb1⟩
 have HS := Lib.hid hS
 clear hS
 have hR1 := Lib.hid (HR.out.below hb1)
 have hsz1 := hb1.size
 go_wp2_with fail
 go_loopw [4, 10] (fun s4 s10 wx => ∃ k : Nat, k ≤ l.length ∧ s10 = .int .i64 k ∧ Below w1.heap.size w1 wx ∧ wx.ownsRow w1.heap.size 3 1 s4 k (iClR (clsR (l.take k)))) (fun _ s10 _ => l.length - (RowKit.intOf s10).toNat)
 case atStart => exact ⟨0, Nat.zero_le _, rfl, Below.refl _ _, World.ownsRow_nil _ _ _ _⟩
 case round =>
  obtain ⟨k, hk, rfl, hb, hown⟩ := hrel
  by_cases hlt : k < l.length
  ·obtain ⟨g, off, rfl, hg, c0, c1, c2⟩ := (hR1.out.below hb).at_ hlt
   have HT := Lib.hid (clsR_take hlt)
   have HOWN := Lib.hid hown
   have hbs := hb.size
   clear hown
   generalize l[k] = r at *
   have hbq : Below wr.heap.size wr (wr.alloc (.cells #[.int .i64 r.1, .int .i64 r.2.1, .int .i64 r.2.2] 38)) := (Below.refl _ _).alloc (Nat.le_refl _) _
   go_wp2_with fail
   generalize hw2 : wr.alloc (.cells #[.int .i64 r.1, .int .i64 r.2.1, .int .i64 r.2.2] 38) = w2 at *
   have HS2 := Lib.hid ((HS.out.below hb).below hbq)
   refine (classIn_any _ _ _ _ HS2.out hl HRS.out).mono ?_
   rintro e w3 ⟨rfl, hb3⟩
   have hown3 : w3.ownsRow w1.heap.size 3 1 u4 k (iClR (clsR (l.take k))) := ownsRow_below (ownsRow_below HOWN.out hbq) hb3
   have hb13 : Below w1.heap.size w1 w3 := hb.trans ((hbq.trans (hb3.mono hbq.size)).mono hbs)
   have hs13 := hb13.size
   have hlt2 := hown3.lt
   have e2 : ofT spansL r.2.2 = cls r.2.2 := rfl
   rw [e2]
   clear e2 hw2
   generalize cls r.2.2 = z at *
   clear hbq hb3
   go_wp2_with (at_builtin; refine wpList_append_own _ rfl _ _ 25 rfl w1.heap.size 3 i0 (.int .i64 0) 1 8 Tryz.underlying25 hi hz0 hz1 hz2 rfl (by decide) _ _ _ rfl (hown3.alloc _) ⟨w3.heap.size, 0, none⟩ 1 1 [.int .i64 z] rfl rfl ?c1 ?c2 ?c3 ?c4 ?c5 ?_)
   case c1 => exact cell_one_new _ _ _
   case c2 => intro u hu; simp only [List.mem_singleton] at hu; subst hu; rfl
   case c3 => unfold maxLen; omega
   case c4 => omega
   case c5 => simp; omega
   intro v' w4 hown' hgrow _
   have HG := Lib.hid hgrow
   have HO := Lib.hid hown'
   clear hgrow hown' hown3
   go_wp2
   go_roundw
   case measure => simp [RowKit.intOf]; omega
   case rel =>
    refine ⟨k + 1, by omega, by go_num, ?_, ?_⟩
    ·exact (hb13.alloc hs13 _).grown HG.out (by simp; omega) (fun g hg => (hlt2 g hg).1)
    ·rw [HT.out]; exact HO.out
  ·obtain rfl : k = l.length := by omega
   rw [List.take_length] at hown
   go_wp2
   go_ret
   exact ⟨_, rfl, ownsRow_mono hown hsz1, hb1.trans (hb.mono hsz1)⟩
end Go.Proofs.YtfclpecbnailgaaGreat.Cl

/-
 Proved here: what bidi.paragraphOf returns: what is told of a paragraph, rune by rune, for every row of runes of at most 1000000, and every number as its level. It leaves what was in memory.
-/
set_option linter.unusedVariables false
namespace Go.Proofs.YtfclpecbnailgaaGreat.Bi
open Go Go.RowKit Go.Lib Go.Proofs.YtfclpecbnailgaaGreat.Cl Go.Proofs.YtfclpecbnailgaaGreat.Ba Go.Proofs.YtfclpecbnailgaaGreat.Lv Go.Proofs.YtfclpecbnailgaaGreat.Sq
/-- Explicit, for any number. -/
theorem expl_gen (A : Option Addr) (c : List Int) (x : Int) (n m : Nat) (w : World) (hl : c.length = n) (hR : IntsAt w A c) (hn : n ≤ 1000000) (hnm : n ≤ m) :
  Calls Tryz.prog 48 #[.slice A n m, .int .i64 x] w fun e w' => ∃ A1 c1 A2 c2 N, N = (zOf c x).length ∧ (tOf c x).length = N ∧ e = .returned (.tuple #[.slice A1 N c1, .slice A2 N c2]) ∧ w'.ownsRow w.heap.size 3 1 (.slice A1 N c1) N (icl (zOf c x)) ∧ w'.ownsRow w.heap.size 3 1 (.slice A2 N c2) N (icl (tOf c x)) ∧ Two (.slice A1 N c1) (.slice A2 N c2) ∧ Below w.heap.size w w' := by
 rcases zOf_01 c x with ⟨b, hb, rfl, e1, e2⟩ | ⟨h0, h1, e1, e2⟩
 ·refine (explicit_any A c b n m w hb hl hR hn hnm).mono ?_
  rintro e w' ⟨g1, g2, rfl, hne, o1, o2, hbl⟩
  rw [e1, e2]
  exact ⟨_, _, _, _, n, by rw [zB_len, hl], by rw [told_len, hl], rfl, o1, o2, .inr (fun e => hne (by have e2 : some g1 = some g2 := e; injection e2)), hbl⟩
 ·refine (explicit_none A x n m w h0 h1).mono ?_
  rintro e w' ⟨rfl, rfl⟩
  rw [e1, e2]
  exact ⟨none, 0, none, 0, 0, rfl, rfl, rfl, World.ownsRow_nil _ _ _ _, World.ownsRow_nil _ _ _ _, .inl rfl, Below.refl _ _⟩
theorem six_ints {w : World} {A : Option Addr} {zs : List Int} {p r : Nat} (h : IntsAt w A zs) (h1 : ∀ b o, A = some ⟨b, o, none⟩ → b ≠ p) (h2 : ∀ b o, A = some ⟨b, o, none⟩ → b ≠ r) (x0 x1 x2 x3 x4 x5 : Value) :
  IntsAt ((((((w.setCell ⟨p, 2, none⟩ x0).setCell ⟨p, 3, none⟩ x1).setCell ⟨r, 0, none⟩ x2).setCell ⟨r, 1, none⟩ x3).setCell ⟨r, 2, none⟩ x4).setCell ⟨r, 3, none⟩ x5) A zs :=
 ints_set (ints_set (ints_set (ints_set (ints_set (ints_set h h1 _ _) h1 _ _) h2 _ _) h2 _ _) h2 _ _) h2 _ _
theorem infoPar : (Tryz.prog.info? 45).map (·.size) = some 4 := by kernel_rfl
set_option maxHeartbeats 2000000 in
set_option maxRecDepth 100000 in
theorem parag_of (A : Option Addr) (l : List Ku.R3) (x : Int) (n m0 : Nat) (w : World) (hl : l.length = n) (hR : Ku.RuAt w A l) (hn : n ≤ 1000000) :
  Calls Tryz.prog 26 #[.slice A n m0, .int .i64 x] w fun e w' => ∃ AK cK AC cC AL cL AT cT N g0, N = (zOf (clsR l) x).length ∧ (tOf (clsR l) x).length = N ∧ e = .returned (.agg #[.slice AK n cK, .slice AC n cC, .slice AL N cL, .slice AT N cT]) ∧
   IntsAt w' AK (codR l) ∧ IntsAt w' AC (clsR l) ∧ IntsAt w' AT (tOf (clsR l) x) ∧ w'.ownsRow g0 3 1 (.slice AL N cL) N (icl (zOf (clsR l) x)) ∧ w.heap.size ≤ g0 ∧ (∀ a, AK = some a → a.block < g0) ∧ (∀ a, AC = some a → a.block < g0) ∧ Two (.slice AL N cL) (.slice AT N cT) ∧ n ≤ cC ∧ Below w.heap.size w w' := by
 subst hl
 obtain ⟨W1, hW1⟩ : ∃ W1, w.alloc (.cells #[.slice none 0 0, .slice none 0 0, .slice none 0 0, .slice none 0 0] 45) = W1 := ⟨_, rfl⟩
 have hb : Below w.heap.size w W1 := by rw [← hW1]; exact (Below.refl _ _).alloc (Nat.le_refl _) _
 have hbox : W1.heap[w.heap.size]? = some (.cells #[.slice none 0 0, .slice none 0 0, .slice none 0 0, .slice none 0 0] 45 (0, 0)) := by rw [← hW1]; exact heap_alloc_last _ _
 have hblt : w.heap.size < W1.heap.size := (Array.getElem?_eq_some_iff.1 hbox).1
 have HAL := Lib.hid (allR_any A l m0 W1 (hR.below hb) (by omega))
 obtain ⟨C, hC⟩ : ∃ C, clsR l = C := ⟨_, rfl⟩
 have hCl : C.length = l.length := by rw [← hC]; exact clsR_len l
 rw [hC] at HAL ⊢
 have HCL := Lib.hid hCl
 have HKL0 := Lib.hid (codR_len l)
 obtain ⟨K, hK⟩ : ∃ K, codR l = K := ⟨_, rfl⟩
 have HKT := Lib.hid (fun (k : Nat) (h : k < l.length) => codR_take h)
 rw [hK] at HKT HKL0 ⊢
 have HKL := Lib.hid HKL0.out
 have HR := Lib.hid (hR.below hb)
 have HB := Lib.hid hb
 have HBX := Lib.hid hbox
 have HBL := Lib.hid hblt
 clear hR hC hCl hK HKL0 hb hbox hblt
 go_enter Tryz.func26, Tryz.ntmps26
 go_wp2_with fail
 refine HAL.out.mono ?_
 rintro e w2 ⟨v5, rfl, ho2, hb2⟩
 obtain ⟨AC, cC, rfl, i2⟩ := intsAt_icl (zs := C) ho2 HCL.out
 have HO2 := Lib.hid ho2
 have HB2 := Lib.hid hb2
 have HI2 := Lib.hid i2
 have HNC := Lib.hid (own_cap ho2)
 have HR2 := Lib.hid (HR.out.below hb2)
 clear ho2 hb2 i2 HAL hW1 HR
 go_wp2_with fail
 obtain ⟨W3, hW3⟩ : ∃ W3, w2.alloc (.cells #[.slice none 0 0, .slice AC l.length cC, .slice none 0 0, .slice none 0 0] 45) = W3 := ⟨_, rfl⟩
 have hb3 : Below w2.heap.size w2 W3 := by rw [← hW3]; exact (Below.refl _ _).alloc (Nat.le_refl _) _
 have HX3 := Lib.hid (show W3.heap[w2.heap.size]? = some (.cells #[.slice none 0 0, .slice AC l.length cC, .slice none 0 0, .slice none 0 0] 45 (0, 0)) from by rw [← hW3]; exact heap_alloc_last _ _)
 have HS3 := Lib.hid (show W3.heap.size = w2.heap.size + 1 from by rw [← hW3]; exact World.size_alloc _ _)
 have HB3 := Lib.hid hb3
 rw [hW3]
 clear hb3 hW3
 go_loopw [13] (fun s13 wx => ∃ (k : Nat) (s : Value), k ≤ l.length ∧ s13 = .int .i64 k ∧ wx.heap[w2.heap.size]? = some (.cells #[s, .slice AC l.length cC, .slice none 0 0, .slice none 0 0] 45 (0, 0)) ∧ wx.ownsRow W3.heap.size 3 1 s k (icl (K.take k)) ∧ Below w2.heap.size w2 wx) (fun s13 _ => l.length - (RowKit.intOf s13).toNat)
 case atStart => exact ⟨0, .slice none 0 0, Nat.zero_le _, rfl, HX3.out, World.ownsRow_nil _ _ _ _, HB3.out⟩
 case round =>
  obtain ⟨k, s, hk, rfl, hbx, hown, hb⟩ := hrel
  have HO := Lib.hid hown
  have HBK := Lib.hid hb
  have HBXK := Lib.hid hbx
  clear hown hbx HX3 HB3
  by_cases hlt : k < l.length
  ·obtain ⟨g, off, rfl, hg, c0, c1, c2⟩ := (HR2.out.below hb).at_ hlt
   have HT := Lib.hid (HKT.out k hlt)
   have hs9 := HO.out.1
   generalize l[k] = r at *
   have hk0 : (0 : Int) ≤ (k : Int) := by omega
   have hk1 : (k : Int) < (l.length : Int) := by omega
   have hsw : W3.heap.size ≤ wr.heap.size := by have := hb.size; have := HS3.out; have := (Array.getElem?_eq_some_iff.1 HBXK.out).1; omega
   have hbq := below_made wr (.cells #[.int .i64 r.1, .int .i64 r.2.1, .int .i64 r.2.2] 38)
   have hxq := (hbq.block _ (Array.getElem?_eq_some_iff.1 HBXK.out).1).trans HBXK.out
   have q0 := cell_of_row _ w2.heap.size 0 _ _ _ hxq
   have HXQ := Lib.hid hxq
   have HOQ := Lib.hid (ownsRow_below HO.out hbq)
   have HBQ := Lib.hid (hb.trans (hbq.mono hb.size))
   clear hb hxq hs9
   go_wp2_with (at_builtin; refine wpList_add rfl _ _ rfl W3.heap.size _ k (K.take k) rfl (ownsRow_below HOQ.out (below_made _ _)) (some ⟨wr.heap.size + 1, 0, none⟩) 1 1 [(r.2.2 : Int)] rfl (made_ints' (World.size_alloc _ _) rfl) rfl (by omega) (by simp; omega) ?_)
   intro v' w9 hown2 hb9
   have hkl : (K.take k).length = k := by have := HO.out.1; rw [icl_len] at this; omega
   obtain ⟨A9, c9, rfl, -⟩ := intsAt_icl (zs := K.take k ++ [r.2.2]) hown2 (by rw [List.length_append, hkl]; rfl)
   have hS3 := HS3.out
   have hbl := (Array.getElem?_eq_some_iff.1 HXQ.out).1
   have hx9 := (hb9.block w2.heap.size (by omega)).trans (((below_made _ (.cells #[.int .i64 r.2.2] 3)).block _ hbl).trans HXQ.out)
   have q9 := cell_of_row _ w2.heap.size 0 _ _ _ hx9
   have f9 := frozen_of_row _ w2.heap.size 0 _ _ hx9
   have HX10 := Lib.hid (heap_setCell_same _ w2.heap.size 0 _ _ (.slice A9 (k + 1) c9) hx9)
   have HO10 := Lib.hid (show (w9.setCell ⟨w2.heap.size, 0, none⟩ (.slice A9 (k + 1) c9)).ownsRow W3.heap.size 3 1 (.slice A9 (k + 1) c9) (k + 1) (icl (K.take (k + 1))) from by
    rw [HT.out]
    exact ownsRow_setCell_other hown2 (a := ⟨w2.heap.size, 0, none⟩) (fun e => by have h8 : W3.heap.size ≤ w2.heap.size := (hown2.lt _ e).1; omega) _)
   have HB10 := Lib.hid (show Below w2.heap.size w2 (w9.setCell ⟨w2.heap.size, 0, none⟩ (.slice A9 (k + 1) c9)) from by
    have h1 := HBQ.out.trans ((below_made (wr.alloc (.cells #[.int .i64 r.1, .int .i64 r.2.1, .int .i64 r.2.2] 38)) (.cells #[.int .i64 r.2.2] 3)).mono HBQ.out.size)
    have h2 := h1.trans (hb9.mono (by omega))
    exact h2.setCell (p := ⟨w2.heap.size, 0, none⟩) (Nat.le_refl _) _)
   clear hown2 hb9 hx9 hbl hkl
   go_wp2_with fail
   go_roundw
   case rel => exact ⟨k + 1, .slice A9 (k + 1) c9, by omega, by go_num, HX10.out, HO10.out, HB10.out⟩
   case measure => simp [RowKit.intOf]; omega
  ·obtain rfl : k = l.length := by omega
   rw [List.take_of_length_le (by rw [HKL.out]; exact Nat.le_refl _)] at HO
   obtain ⟨AK, cK, rfl, iK⟩ := intsAt_icl HO.out HKL.out
   have HEX := Lib.hid (expl_gen AC C x l.length cC wr HCL.out (HI2.out.below hb) hn HNC.out)
   have hlC := HO2.out.lt
   have hlK := HO.out.lt
   have HIK := Lib.hid iK
   have HIC := Lib.hid (HI2.out.below hb)
   have HBW := Lib.hid (HB.out.trans (HB2.out.trans (hb.mono HB2.out.size) |>.mono HB.out.size))
   have HFR := Lib.hid ((hb.block w.heap.size (by have := HB2.out.size; have := HBL.out; omega)).trans ((HB2.out.block w.heap.size HBL.out).trans HBX.out))
   have q0 := cell_of_row _ w2.heap.size 1 _ _ _ HBXK.out
   have HSW := Lib.hid hb.size
   have HLK := Lib.hid (fun (a : Addr) (h : AK = some a) => show W3.heap.size ≤ a.block ∧ a.block < wr.heap.size from hlK a.block (by rw [h]; rfl))
   have HLC := Lib.hid (fun (a : Addr) (h : AC = some a) => show W1.heap.size ≤ a.block ∧ a.block < w2.heap.size from hlC a.block (by rw [h]; rfl))
   clear hb iK hlC hlK
   go_wp2_with fail
   refine HEX.out.mono ?_
   rintro e w5 ⟨AL, cL, AT, cT, N, hN, hTL, rfl, oL, oT, two, hb5⟩
   have hbl := (Array.getElem?_eq_some_iff.1 HBXK.out).1
   have hx5 := (hb5.block w2.heap.size hbl).trans HBXK.out
   have hr5 := (hb5.block w.heap.size (by have := HB2.out.size; have := HBL.out; have := HSW.out; omega)).trans HFR.out
   have hne : w.heap.size ≠ w2.heap.size := by have := HB2.out.size; have := HBL.out; omega
   have r0 := cell_of_row _ w2.heap.size 0 _ _ _ hx5
   have r1 := cell_of_row _ w2.heap.size 1 _ _ _ hx5
   have r2 := cell_of_row _ w2.heap.size 2 _ _ _ hx5
   have r3 := cell_of_row _ w2.heap.size 3 _ _ _ hx5
   have f2 := frozen_of_row _ w2.heap.size 2 _ _ hx5
   have f3 := frozen_of_row _ w2.heap.size 3 _ _ hx5
   have t0 := cell_of_row _ w.heap.size 0 _ _ _ hr5
   have t1 := cell_of_row _ w.heap.size 1 _ _ _ hr5
   have t2 := cell_of_row _ w.heap.size 2 _ _ _ hr5
   have t3 := cell_of_row _ w.heap.size 3 _ _ _ hr5
   have u0 := frozen_of_row _ w.heap.size 0 _ _ hr5
   have u1 := frozen_of_row _ w.heap.size 1 _ _ hr5
   have u2 := frozen_of_row _ w.heap.size 2 _ _ hr5
   have u3 := frozen_of_row _ w.heap.size 3 _ _ hr5
   have HR5 := Lib.hid hr5
   have HX5 := Lib.hid hx5
   have HBLL := Lib.hid hbl
   have HOL := Lib.hid oL
   have HOT := Lib.hid oT
   have HTW := Lib.hid two
   have HB5 := Lib.hid hb5
   have HN := Lib.hid hN
   have HTL := Lib.hid hTL
   clear hx5 hr5 oL oT two hb5 hN hTL hbl
   go_wp2_with fail
   have hw1 := HBL.out
   have hw2 := HB2.out.size
   have hw3 := HS3.out
   have hw4 := HSW.out
   have hw5 := HBLL.out
   have hlt := hne
   refine bodyPost_ret (results_cell_row Tryz.results26 _ _ w.heap.size 45 _ (0, 0) _ rfl (heap_setCell_same _ w.heap.size 3 _ _ _ (heap_setCell_same _ w.heap.size 2 _ _ _ (heap_setCell_same _ w.heap.size 1 _ _ _ (heap_setCell_same _ w.heap.size 0 _ _ _
    ((heap_setCell_other _ ⟨w2.heap.size, 3, none⟩ w.heap.size _ hne).trans ((heap_setCell_other _ ⟨w2.heap.size, 2, none⟩ w.heap.size _ hne).trans HR5.out)))))) Tryz.underlying45 rfl infoPar) rfl ?_
   obtain ⟨AT', cT', eT, iT⟩ := intsAt_icl HOT.out HTL.out
   injection eT with eT1 _ eT3
   subst eT1
   have hTl := HOT.out.lt
   have hLl := HOL.out.lt
   have hb5 := HB5.out
   refine ⟨AK, cK, AC, cC, AL, cL, AT, cT, N, wr.heap.size, HN.out, HTL.out, rfl, ?_, ?_, ?_, ?_, by omega, fun a h => (HLK.out a h).2, fun a h => by have := (HLC.out a h).2; omega, HTW.out, HNC.out, ?_⟩
   ·exact six_ints (HIK.out.below hb5) (fun b o e => by have h8 : W3.heap.size ≤ b := (HLK.out _ e).1; omega) (fun b o e => by have h8 : W3.heap.size ≤ b := (HLK.out _ e).1; omega) _ _ _ _ _ _
   ·exact six_ints (HIC.out.below hb5) (fun b o e => by have h8 : b < w2.heap.size := (HLC.out _ e).2; omega) (fun b o e => by have h8 : W1.heap.size ≤ b := (HLC.out _ e).1; omega) _ _ _ _ _ _
   ·exact six_ints iT (fun b o e => by have h8 : wr.heap.size ≤ b := (hTl b (by rw [e]; rfl)).1; omega) (fun b o e => by have h8 : wr.heap.size ≤ b := (hTl b (by rw [e]; rfl)).1; omega) _ _ _ _ _ _
   ·refine ownsRow_setCell_other (ownsRow_setCell_other (ownsRow_setCell_other (ownsRow_setCell_other (ownsRow_setCell_other (ownsRow_setCell_other HOL.out (a := ⟨w2.heap.size, 2, none⟩) ?_ _) (a := ⟨w2.heap.size, 3, none⟩) ?_ _) (a := ⟨w.heap.size, 0, none⟩) ?_ _) (a := ⟨w.heap.size, 1, none⟩) ?_ _) (a := ⟨w.heap.size, 2, none⟩) ?_ _) (a := ⟨w.heap.size, 3, none⟩) ?_ _
    all_goals (intro e; have h8 := (hLl _ e).1; simp at h8; omega)
   ·have h1 := HBW.out.trans (hb5.mono HBW.out.size)
    exact (((((h1.setCell (p := ⟨w2.heap.size, 2, none⟩) (by show w.heap.size ≤ w2.heap.size; omega) _).setCell (p := ⟨w2.heap.size, 3, none⟩) (by show w.heap.size ≤ w2.heap.size; omega) _).setCell (p := ⟨w.heap.size, 0, none⟩) (Nat.le_refl _) _).setCell (p := ⟨w.heap.size, 1, none⟩) (Nat.le_refl _) _).setCell (p := ⟨w.heap.size, 2, none⟩) (Nat.le_refl _) _).setCell (p := ⟨w.heap.size, 3, none⟩) (Nat.le_refl _) _
end Go.Proofs.YtfclpecbnailgaaGreat.Bi

/-
 Proved here: what seqs' kept gives, one place behind the other: the kept places. It leaves what was in memory.
-/
set_option linter.unusedVariables false
namespace Go.Proofs.YtfclpecbnailgaaGreat.Sq
open Go Go.RowKit Go.Lib Go.Proofs.YtfclpecbnailgaaGreat.Cl Go.Shelf
attribute [local go_sem] Oper.semAt_some
theorem kf_prefix (z : List Int) (i : Nat) : ∀ (d : Nat), kf z 0 i <+: kf z 0 (i + d)
 | 0 => List.prefix_rfl
 | d + 1 => by
  refine (kf_prefix z i d).trans ?_
  rw [show i + (d + 1) = (i + d) + 1 from by omega, kf_step (Nat.zero_le _)]
  exact List.prefix_append _ _
set_option maxHeartbeats 2000000 in
set_option maxRecDepth 100000 in
theorem kept_gives (n : Nat) (h1 : 1 ≤ n) (lv : Int) (A : Option Addr) (N cp : Nat) (z : List Int) (b3 : Option Addr) (n3 c3 : Nat) (w0 w : World) (hl : z.length = N) (hR : IntsAt w0 A z) (hN : N ≤ 1099511627776) (hw : Below w0.heap.size w0 w) :
  Gives n Tryz.prog 96 #[.agg #[.int .i64 lv, .slice A N cp, .slice b3 n3 c3]] (fun i : Nat => #[Value.int .i64 i]) w0.heap.size (kept z) w := by
 intro l J W hbW hJ hY h0
 have HY := Lib.hid hY
 have HR := Lib.hid hR
 have HJ := Lib.hid hJ
 have HL := Lib.hid hl
 have HW := Lib.hid (hw.trans (hbW.mono hw.size))
 have H0 := Lib.hid h0
 clear hY hR hJ hl hw hbW h0
 refine callsIn_of_wp Tryz.func96 rfl trivial ?_ rfl
 simp only [Tryz.ntmps96, List.size_toArray, List.length_cons, List.length_nil, Nat.reduceAdd, Nat.reduceSub, Array.replicate_succ, Array.replicate_zero, List.push_toArray, List.append_toArray, List.nil_append, List.cons_append]
 gi_wp2
 gi_loopw [9] (fun i wr => ∃ k : Nat, k ≤ N ∧ i = .int .i64 k ∧ J (kf z 0 k) wr ∧ Below w0.heap.size w0 wr) (fun i _ => N - (RowKit.intOf i).toNat)
 case atStart => exact ⟨0, Nat.zero_le _, rfl, HJ.out _ _ _ H0.out, HW.out.trans (((Below.refl _ _).alloc (Nat.le_refl _) _).mono HW.out.size)⟩
 case round =>
  obtain ⟨k, hk, rfl, hJk, hbk⟩ := hrel
  have HB := Lib.hid hbk
  have HK := Lib.hid hJk
  clear hbk hJk
  by_cases hlt : k < N
  ·have hkz : k < z.length := by rw [HL.out]; exact hlt
   obtain ⟨b, off, rfl, hc⟩ := (HR.out.below HB.out).at_ hkz
   have hx : L z k = z[k] := L_at hkz
   generalize hxe : z[k] = x at *
   by_cases hx1 : x = -1
   ·have kx : (x != -1) = false := by simpa using hx1
    have HS := Lib.hid (show kf z 0 (k + 1) = kf z 0 k from by rw [kf_step (Nat.zero_le _), if_pos (by rw [hx, hx1]), List.append_nil])
    clear hx hxe hx1 hkz
    gi_wp2
    all_goals (try (refine ⟨fun _ h => (by cases h), ?_⟩; gi_wp2))
    go_roundw
    case rel => exact ⟨k + 1, by omega, by simp, by rw [HS.out]; exact HK.out, HB.out⟩
    case measure => simp [RowKit.intOf]; omega
   ·have kx : (x != -1) = true := by simpa using hx1
    have hs : kf z 0 (k + 1) = kf z 0 k ++ [k] := by rw [kf_step (Nat.zero_le _), if_neg (by rw [hx]; exact hx1)]
    have hpre : kf z 0 k ++ [k] <+: kept z := by
     rw [← hs]
     have := kf_prefix z (k + 1) (z.length - (k + 1))
     rw [show k + 1 + (z.length - (k + 1)) = z.length from by omega] at this
     exact this
    obtain ⟨fn, tmps, assign, body, hy, hRn⟩ := HY.out _ k wr HK.out hpre
    have HS := Lib.hid hs
    clear hx hxe hx1 hkz hs hpre
    gi_wp2
    refine hRn.mono ?_
    rintro e W3 ⟨rfl, hJ3, hk3⟩
    have HJ3 := Lib.hid hJ3
    have HK3 := Lib.hid hk3
    clear hJ3 hk3
    gi_wp2
    go_roundw
    case rel => exact ⟨k + 1, by omega, by simp, by rw [HS.out]; exact HJ3.out, HB.out.trans HK3.out⟩
    case measure => simp [RowKit.intOf]; omega
  ·obtain rfl : k = N := by omega
   gi_wp2
   go_end0
   refine ⟨⟨_, rfl⟩, ?_⟩
   have h := HK.out
   rw [← HL.out] at h
   exact h
end Go.Proofs.YtfclpecbnailgaaGreat.Sq

/-
 What lies in memory while seqs' runs goes through its places; each step of it.
-/
set_option linter.unusedVariables false
namespace Go.Proofs.YtfclpecbnailgaaGreat.Sq
open Go Go.RowKit Go.Lib Go.Proofs.YtfclpecbnailgaaGreat.Cl Go.Proofs.YtfclpecbnailgaaGreat.Ba
theorem infoRun : (Tryz.prog.info? 72).map (fun i => (i.zero, i.size, i.bytes)) = some (some (.agg #[.int .i64 0, .int .i64 0, .int .i64 0, .slice none 0 0]), 4, 48) := by kernel_rfl
/-- The append of one number, as a step of a region that draws its order. -/
theorem step_one {ops : Array Oper} {o : Oper} {a : Act} {w : World} {K : Act → World → Prop} {Q : Exit → Act → World → Prop} {E : Prop} (hgd : o.guard = none) (s x : Operand)
  (ho : o.op = .call { callee := .builtin .append, args := #[s, x], argTypes := #[25, 25] })
  (base : Nat) (v : Value) (n : Nat) (zs : List Int) (z : Int) (hs : a.eval s = v) (ad : Addr) (hx : a.eval x = .slice (some ad) 1 1) (hown : w.ownsRow base 3 1 v n (icl zs)) (hz : w.cell? ad = some (.int .i64 z)) (hsp : ad.add 0 = ad) (hn : n ≤ 1099511627776) (hbase : base ≤ w.heap.size)
  (h : ∀ v' w', w'.ownsRow base 3 1 v' (n + 1) (icl (zs ++ [z])) → w.grownBy w' v.ownBlock → (v'.ownBlock = v.ownBlock ∨ ∃ k, v'.ownBlock = some k ∧ w.heap.size ≤ k) → K (a.put o.dst v') w') : if Region.wanted o (yielded ops a.tmps) = true then Oper.wp Tryz.prog o a w K Q else E := by
 have hw : Region.wanted o (yielded ops a.tmps) = true := by simp [Region.wanted, hgd]
 rw [if_pos hw]
 obtain ⟨v', w', hr, h2, h3, h4⟩ := run_one o.type base v n zs z w hown ad hz hsp hn hbase
 unfold Oper.wp execOp
 simp only [ho, resolve, invoke, builtin, Sem.run_bind, Sem.run_pure, Result.andThen_ok, List.map_toArray, List.map_cons, List.map_nil, hs, hx, hr]
 exact h v' w' h2 h3 h4
/-- It ends as it should, and so. -/
def OnlyN (K1 : Act → World → Prop) : Exit → Act → World → Prop
 | .normal, a, w => K1 a w
 | _, _, _ => False
theorem OnlyN.mk {K1 : Act → World → Prop} {a : Act} {w : World} (h : K1 a w) : OnlyN K1 .normal a w := h
theorem normal_mono_fr {F : Fence} {n : Nat} {P : Program} {x : Code} {Q : Exit → Act → World → Prop} {fr : Nat → Nat → Act} {R : Nat → Nat → World → Prop} {a : Act} {w : World} (h : x.wpIn F n P (OnlyN (fun a' w' => ∃ g c, a' = fr g c ∧ R g c w')) a w) (h2 : ∀ g c w', R g c w' → Q .normal (fr g c) w') : x.wpIn F n P Q a w :=
 wpIn_mono h fun e a w => by
  cases e
  case normal =>
   rintro ⟨g, c, rfl, hR⟩
   exact h2 g c w hR
  all_goals exact fun h => h.elim
theorem three' {w : World} {g : Nat} {v0 v1 v2 : Value} {t : TypeId} (h : w.heap[g]? = some (.cells #[v0, v1, v2] t (0, 0))) : w.cell? ⟨g, 0, none⟩ = some v0 ∧ w.cell? ⟨g, 1, none⟩ = some v1 ∧ w.cell? ⟨g, 2, none⟩ = some v2 :=
 ⟨cell_of_row w g 0 _ _ _ h, cell_of_row w g 1 _ _ _ h, cell_of_row w g 2 _ _ _ h⟩
/-- Whether an initiator is open, by what Match answers. -/
theorem opn_match {c : List Int} {t : Nat} (h : t < c.length) (m : Int) (hm : (matchL c)[t]? = some m) : opn c t = (m == (c.length : Int)) := by
 have hm' : m = mtK c c.length t := by
  rw [List.getElem?_eq_getElem (by rw [matchL_len]; exact h), matchL_at c t h] at hm
  injection hm with hm
  exact hm.symm
 have hg : c.getD t 0 = c[t] := by simp [List.getD, List.getElem?_eq_getElem h]
 unfold opn
 rw [hg]
 cases hi : isI c[t] with
 | true =>
  rw [hm', mt_I h hi]
  by_cases he : endAt c t = c.length
  ·rw [he]; simp
  ·have h1 : decide (true = true ∧ endAt c t = c.length) = false := by simp [he]
   rw [h1]
   symm
   simp
   omega
 | false =>
  have h1 : decide (false = true ∧ endAt c t = c.length) = false := by simp
  rw [h1, hm']
  symm
  cases hp : isP c[t] with
  | true =>
   rw [mt_P h hp]
   cases hs : stk c t with
   | nil => (simp; try omega)
   | cons u r =>
    have := (stk_at c t (by omega) 0 u (by rw [hs]; rfl)).1
    simp
    omega
  | false =>
   rw [mt_N h hp hi]
   (simp; try omega)
structure Mid (lv : Int) (s1 s2 : Value) (w W V : World) (v : Value) (R : List S4) (X : List Value) : Prop where
 hv : Boxed V (w.heap.size + 1) 76 v
 hp : V.heap[w.heap.size]? = some (.cells #[.int .i64 lv, s1, s2] 69 (0, 0))
 hs : SqI 72 (w.heap.size + 2) V v R X
 hb : Below w.heap.size w V
 kf : KeepsFrom (w.heap.size + 2) W V
 bw : Below w.heap.size W V
variable {lv : Int} {s1 s2 : Value} {w W V : World} {v : Value} {R : List S4} {X : List Value}
theorem Mid.size (h : Mid lv s1 s2 w W V v R X) : w.heap.size + 2 ≤ V.heap.size := by
 have := h.hv.lt
 omega
/-- Whatever is there stays. -/
theorem Mid.below (h : Mid lv s1 s2 w W V v R X) {V' : World} (hb : Below V.heap.size V V') : Mid lv s1 s2 w W V' v R X := by
 have hs := h.size
 refine ⟨(hb.block _ h.hv.lt).trans h.hv, (hb.block _ (by omega)).trans h.hp, h.hs.below hb, h.hb.trans (hb.mono (by omega)), h.kf.trans ⟨hb.size, fun k o _ hk _ => (hb.block k (Array.getElem?_eq_some_iff.1 hk).1).trans hk⟩, h.bw.trans (hb.mono (by omega))⟩
theorem Mid.drew (h : Mid lv s1 s2 w W V v R X) : Mid lv s1 s2 w W V.drew v R X := h.below (Below.refl _ _).drew
theorem Mid.alloc (h : Mid lv s1 s2 w W V v R X) (o : Obj) : Mid lv s1 s2 w W (V.alloc o) v R X := h.below ((Below.refl _ _).alloc (Nat.le_refl _) _)
/-- A block of cells of its own changes, from the third on. -/
theorem Mid.grown (h : Mid lv s1 s2 w W V v R X) {V' : World} {row : Option Nat} (hg : V.grownBy V' row) (hrow : ∀ k, row = some k → w.heap.size + 2 ≤ k ∧ ∃ b t f, V.heap[k]? = some (.cells b t f)) :
  Boxed V' (w.heap.size + 1) 76 v ∧ V'.heap[w.heap.size]? = some (.cells #[.int .i64 lv, s1, s2] 69 (0, 0)) ∧ Below w.heap.size w V' ∧ KeepsFrom (w.heap.size + 2) W V' ∧ Below w.heap.size W V' := by
 have hs := h.size
 have hg2 : Below w.heap.size V V' := (Below.refl _ _).grown hg (by omega) (fun k hk => by have := (hrow k hk).1; omega)
 refine ⟨h.hv.kept hg (fun e => by have := (hrow _ e.symm).1; omega), (hg.block _ (by omega) (fun e => by have := (hrow _ e.symm).1; omega)).trans h.hp, h.hb.trans hg2, h.kf.trans ⟨hg.size, fun k o _ hk ho => (hg.block k (Array.getElem?_eq_some_iff.1 hk).1 (fun e => ?_)).trans hk⟩, h.bw.trans hg2⟩
 obtain ⟨-, b, t, f, hc⟩ := hrow k e.symm
 rw [hk] at hc
 cases hc
 cases ho
theorem row_cells {B : Nat} {t : TypeId} {sz n : Nat} {u : Value} {xs : List Value} (h : V.ownsRow B t sz u n xs) : ∀ k, u.ownBlock = some k → B ≤ k ∧ ∃ b t f, V.heap[k]? = some (.cells b t f) := by
 intro k hk
 refine ⟨(h.lt k hk).1, ?_⟩
 rcases h.2 with ⟨rfl, _⟩ | ⟨g, cap, cur, rfl, _, hgb, _⟩
 ·cases hk
 ·simp only [Value.ownBlock, Option.some.injEq] at hk
  subst hk
  exact ⟨_, _, _, hgb⟩
theorem Mid.set (h : Mid lv s1 s2 w W V v R X) {g j : Nat} {u : Value} (hg : w.heap.size + 2 ≤ g) (hc : ∃ b t f, V.heap[g]? = some (.cells b t f)) :
  Boxed (V.setCell ⟨g, j, none⟩ u) (w.heap.size + 1) 76 v ∧ (V.setCell ⟨g, j, none⟩ u).heap[w.heap.size]? = some (.cells #[.int .i64 lv, s1, s2] 69 (0, 0)) ∧ Below w.heap.size w (V.setCell ⟨g, j, none⟩ u) ∧ KeepsFrom (w.heap.size + 2) W (V.setCell ⟨g, j, none⟩ u) ∧ Below w.heap.size W (V.setCell ⟨g, j, none⟩ u) :=
 h.grown (row := some g) ⟨rfl, rfl, rfl, (KeepsOthers.setCell V ⟨g, j, none⟩ u).size, fun k _ hk => heap_setCell_other V ⟨g, j, none⟩ k u (fun e => hk (by simp [e]))⟩ (fun k hk => by cases hk; exact ⟨hg, hc⟩)
/-- A run more. -/
theorem Mid.pushed (h : Mid lv s1 s2 w W V v R X) {w1 : World} {v' : Value} (r : S4) (hr : r.p = []) (ho : w1.ownsRow (w.heap.size + 2) 72 4 v' (R.length + 1) (cellsS R X ++ c4 r (.slice none 0 0))) (hg : V.grownBy w1 v.ownBlock) :
  Boxed w1 (w.heap.size + 1) 76 v ∧ w1.heap[w.heap.size]? = some (.cells #[.int .i64 lv, s1, s2] 69 (0, 0)) ∧ Mid lv s1 s2 w W (w1.setCell ⟨w.heap.size + 1, 0, none⟩ v') v' (R ++ [r]) (X ++ [.slice none 0 0]) := by
 obtain ⟨a1, a2, a3, a4, a5⟩ := h.grown hg (row_cells h.hs.row)
 have hpush := h.hs.push r (.slice none 0 0) ho hg (by rw [hr]; exact World.ownsRow_nil _ _ _ _) (fun y _ => (Two.nil _).swap)
 have hg2 := grownBy_setCell' w1 (w.heap.size + 1) v'
 refine ⟨a1, a2, a1.set v', (hg2.block _ (by have := a1.lt; omega) (by simp)).trans a2, ?_, a3.setCell (p := ⟨w.heap.size + 1, 0, none⟩) (by simp) _, a4.trans ((KeepsOthers.setCell _ _ _).from _), a5.setCell (p := ⟨w.heap.size + 1, 0, none⟩) (by simp) _⟩
 exact hpush.kept hg2 (fun k e => by cases e; omega)
theorem Mid.setc {g cap m : Nat} {D : List S4} {r : S4} (h : Mid lv s1 s2 w W V (.slice (some ⟨g, 0, none⟩) (m + 1) cap) (D ++ [r]) X) (hm : D.length = m) (y : Int) :
  Mid lv s1 s2 w W (V.setCell ⟨g, m * 4 + 2, none⟩ (.int .i64 y)) (.slice (some ⟨g, 0, none⟩) (m + 1) cap) (D ++ [⟨r.a, r.b, y, r.p⟩]) X := by
 have hl : (D ++ [r]).length = m + 1 := by simp [hm]
 have hlt : m < (D ++ [r]).length := by omega
 have hrow := row_cells h.hs.row g rfl
 obtain ⟨a1, a2, a3, a4, a5⟩ := h.set (j := m * 4 + 2) (u := .int .i64 y) hrow.1 hrow.2
 have hs := h.hs
 rw [← hl] at hs
 have hset := hs.setc hlt y
 have e : (D ++ [r]).set m ⟨(D ++ [r])[m].a, (D ++ [r])[m].b, y, (D ++ [r])[m].p⟩ = D ++ [⟨r.a, r.b, y, r.p⟩] := by
  subst hm
  simp
 rw [e, hl] at hset
 exact ⟨a1, a2, hset, a3, a4, a5⟩
/-- What the last run is, as it lies. -/
theorem Mid.last {m : Nat} {D : List S4} {r : S4} (h : Mid lv s1 s2 w W V v (D ++ [r]) X) (hm : D.length = m) : ∃ g cap x0 A0 k0, v = .slice (some ⟨g, 0, none⟩) (m + 1) cap ∧ w.heap.size + 2 ≤ g ∧ X[m]? = some x0 ∧ x0 = .slice A0 r.p.length k0 ∧ IntsAt V A0 (ns r.p) ∧
  V.cell? ⟨g, m * 4, none⟩ = some (.int .i64 r.a) ∧ V.cell? ⟨g, m * 4 + 1, none⟩ = some (.int .i64 r.b) ∧ V.cell? ⟨g, m * 4 + 2, none⟩ = some (.int .i64 r.c) ∧ V.cell? ⟨g, m * 4 + 3, none⟩ = some x0 ∧ (∀ j, V.frozen? ⟨g, j, none⟩ = false) ∧ V.ownsRow (w.heap.size + 2) 3 1 x0 r.p.length (icl (ns r.p)) := by
 have hl : (D ++ [r]).length = m + 1 := by simp [hm]
 have hlt : m < (D ++ [r]).length := by omega
 obtain ⟨g, cap, x0, A0, k0, e1, e2, e3, e4, e5, e6, e7, e8, e9, e10, e11⟩ := h.hs.get hlt
 have ho := h.hs.own m hlt x0 e4
 have er : (D ++ [r])[m] = r := by subst hm; simp
 rw [er] at e5 e6 e7 e8 e9 ho
 rw [hl] at e1
 exact ⟨g, cap, x0, A0, k0, e1, e2, e4, e5, e6, e7, e8, e9, e10, e11, ho⟩
theorem Mid.rowOf {m : Nat} {D : List S4} {r : S4} (h : Mid lv s1 s2 w W V v (D ++ [r]) X) (hm : D.length = m) {x0 : Value} (hx : X[m]? = some x0) : V.ownsRow (w.heap.size + 2) 3 1 x0 r.p.length (icl (ns r.p)) := by
 obtain ⟨g, cap, y, A0, k0, e1, e2, e3, e4, e5, e6, e7, e8, e9, e10, e11⟩ := h.last hm
 rw [e3] at hx
 injection hx with hx
 subst hx
 exact e11
theorem cell_new1 (V : World) (u : Value) (t : TypeId) : (V.alloc (.cells #[u] t)).cell? ⟨V.heap.size, 0, none⟩ = some u := cell_of_row _ _ 0 _ _ _ (heap_alloc_last _ _)
/-- A place more, in the last run. -/
theorem Mid.placed {g cap m : Nat} {D : List S4} {r : S4} (h : Mid lv s1 s2 w W V (.slice (some ⟨g, 0, none⟩) (m + 1) cap) (D ++ [r]) X) (hm : D.length = m) {x0 v' : Value} (hx : X[m]? = some x0) {w1 : World} (x : Nat)
  (ho : w1.ownsRow (w.heap.size + 2) 3 1 v' (r.p.length + 1) (icl (ns r.p ++ [(x : Int)]))) (hg : V.grownBy w1 x0.ownBlock) (hw : v'.ownBlock = x0.ownBlock ∨ ∃ k, v'.ownBlock = some k ∧ V.heap.size ≤ k) :
  w1.cell? ⟨g, m * 4 + 3, none⟩ = some x0 ∧ w1.frozen? ⟨g, m * 4 + 3, none⟩ = false ∧ w1.cell? ⟨w.heap.size + 1, 0, none⟩ = some (.slice (some ⟨g, 0, none⟩) (m + 1) cap) ∧
  Mid lv s1 s2 w W (w1.setCell ⟨g, m * 4 + 3, none⟩ v') (.slice (some ⟨g, 0, none⟩) (m + 1) cap) (D ++ [⟨r.a, r.b, r.c, r.p ++ [x]⟩]) (X.set m v') := by
 have hl : (D ++ [r]).length = m + 1 := by simp [hm]
 have hlt : m < (D ++ [r]).length := by omega
 have er : (D ++ [r])[m] = r := by subst hm; simp
 have hxo := h.hs.own m hlt x0 hx
 obtain ⟨a1, a2, a3, a4, a5⟩ := h.grown hg (row_cells hxo)
 have hrow := row_cells h.hs.row g rfl
 have hs := h.hs
 rw [← hl] at hs
 have ho' : w1.ownsRow (w.heap.size + 2) 3 1 v' ((D ++ [r])[m].p ++ [x]).length (icl (ns ((D ++ [r])[m].p ++ [x]))) := by
  rw [er, List.length_append, ns_append]
  exact ho
 obtain ⟨b1, b2, b3⟩ := hs.setp hlt hx [x] ho' hg hw
 have e : (D ++ [r]).set m ⟨(D ++ [r])[m].a, (D ++ [r])[m].b, (D ++ [r])[m].c, (D ++ [r])[m].p ++ [x]⟩ = D ++ [⟨r.a, r.b, r.c, r.p ++ [x]⟩] := by
  subst hm
  simp
 rw [e, hl] at b1
 have hgs : w1.grownBy (w1.setCell ⟨g, m * 4 + 3, none⟩ v') (some g) := ⟨rfl, rfl, rfl, (KeepsOthers.setCell w1 ⟨g, m * 4 + 3, none⟩ v').size, fun k _ hk => heap_setCell_other w1 ⟨g, m * 4 + 3, none⟩ k v' (fun e => hk (by simp [e]))⟩
 have hgB : w.heap.size + 2 ≤ g := hrow.1
 refine ⟨b2, b3, a1.cell, ⟨a1.kept hgs (fun e => by injection e with e; omega), (hgs.block _ (by have := a1.lt; omega) (fun e => by injection e with e; omega)).trans a2, b1, a3.setCell (p := ⟨g, m * 4 + 3, none⟩) (by simp; omega) _, a4.trans ((KeepsOthers.setCell _ _ _).from _), a5.setCell (p := ⟨g, m * 4 + 3, none⟩) (by simp; omega) _⟩⟩
/-- How long runs are. -/
def Short (k : Nat) (P : Nat → Prop) (R : List S4) : Prop := R.length ≤ k ∧ ∀ r ∈ R, r.p.length ≤ k ∧ r.p ≠ [] ∧ ∀ q ∈ r.p, P q
theorem runsTo_snoc (c z : List Int) (lv : Int) (l : List Nat) (x : Nat) : runsTo c z lv (l ++ [x]) = stepR c z lv (runsTo c z lv l) x := by
 unfold runsTo
 rw [List.foldl_append]
 rfl
theorem Short.step {k : Nat} {P : Nat → Prop} {R : List S4} (h : Short k P R) (c z : List Int) (lv : Int) {x : Nat} (hx : P x) : Short (k + 1) P (stepR c z lv R x) := by
 obtain ⟨h1, h2⟩ := h
 rcases List.eq_nil_or_concat R with rfl | ⟨D, r, rfl⟩
 ·refine ⟨by simp [stepR, room, putIn], fun r hr => ?_⟩
  simp [stepR, room, putIn] at hr
  subst hr
  exact ⟨by simp, by simp, by simpa using hx⟩
 ·rw [List.concat_eq_append] at h1 h2 ⊢
  unfold stepR
  rw [room_snoc]
  have hD : ∀ r' ∈ D, r'.p.length ≤ k + 1 ∧ r'.p ≠ [] ∧ ∀ q ∈ r'.p, P q := fun r' hr' => by
   obtain ⟨a, b, c⟩ := h2 r' (List.mem_append_left _ hr')
   exact ⟨by omega, b, c⟩
  obtain ⟨a, b, e⟩ := h2 r (by simp)
  have h1 : D.length + 1 ≤ k := by simpa using h1
  split
  ·rw [putIn_snoc]
   refine ⟨by simp only [List.length_append, List.length_cons, List.length_nil]; omega, fun r' hr' => ?_⟩
   rcases List.mem_append.1 hr' with hr' | hr'
   ·exact hD r' hr'
   ·simp at hr'
    subst hr'
    refine ⟨by simp; omega, by simp, fun q hq => ?_⟩
    simp at hq
    rcases hq with hq | rfl
    ·exact e q hq
    ·exact hx
  ·rw [putIn_snoc]
   refine ⟨by simp only [List.length_append, List.length_cons, List.length_nil]; omega, fun r' hr' => ?_⟩
   rcases List.mem_append.1 hr' with hr' | hr'
   ·rcases List.mem_append.1 hr' with hr' | hr'
    ·exact hD r' hr'
    ·simp at hr'
     subst hr'
     exact ⟨Nat.le_succ_of_le a, b, e⟩
   ·simp at hr'
    subst hr'
    exact ⟨by simp, by simp, by simpa using hx⟩
theorem runsTo_short (c z : List Int) (lv : Int) {P : Nat → Prop} : ∀ (n : Nat) (l : List Nat), l.length = n → (∀ x ∈ l, P x) → Short n P (runsTo c z lv l)
 | 0, l, hl, _ => by
  have : l = [] := List.eq_nil_of_length_eq_zero hl
  subst this
  exact ⟨by simp [runsTo], fun r hr => by simp [runsTo] at hr⟩
 | n + 1, l, hl, h => by
  rcases List.eq_nil_or_concat l with rfl | ⟨l', x, rfl⟩
  ·simp at hl
  ·rw [List.concat_eq_append] at hl h ⊢
   rw [runsTo_snoc]
   exact (runsTo_short c z lv n l' (by simpa using hl) (fun y hy => h y (List.mem_append_left _ hy))).step c z lv (h x (by simp))
end Go.Proofs.YtfclpecbnailgaaGreat.Sq
