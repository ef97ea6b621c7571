/-
  Several texts in one, each with its own remark: ClPlain, ClSearch, WrMem, WrLines, WrShow, WrAwake, RcTable.
-/
import Derived.IntWalk
import Derived.OwnWalk
import Derived.BigQuiet
import Derived.Deep.QuietTactic
import Derived.Carry
import Derived.ProofKit
import Derived.OpenShut
import Derived.Below
import Derived.Lib.Hide
import Derived.Great.BuildSlice
import Derived.WalkKit
import Derived.Test.YtfbjgibjlppjoaaRows
import Derived.Test.YtfbjgibjlppjoaaMClSpans
import Derived.Test.YtfbjgibjlppjoaaM10
import Derived.Test.YtfbjgibjlppjoaaM0

/-
  Plain facts on rising spans: what a search by halves finds, and that it is the one span that has the number.
-/
set_option linter.unusedVariables false
namespace Go.Proofs.Ytfbjgibjlppjoaa.Cl

abbrev Span := Int × Int × Int
/-- How many spans lie below a number. -/
def cnt (l : List Span) (c : Int) : Nat := (l.takeWhile fun s => decide (s.2.1 < c)).length
/-- Whether the first span that does not lie below has the number. -/
def hitB (l : List Span) (c : Int) : Bool := match l[cnt l c]? with
  | some s => decide (s.1 ≤ c)
  | none => false
/-- The class of a number by a rising list of spans. -/
def ofT (l : List Span) (c : Int) : Int := match l[cnt l c]? with
  | some s => if s.1 ≤ c then s.2.2 else 0
  | none => 0
/-- Spans rise, and are not empty. -/
def rises : List Span → Bool
  | [] => true
  | [s] => decide (s.1 ≤ s.2.1)
  | s :: t :: l => decide (s.1 ≤ s.2.1) && decide (s.2.1 < t.1) && rises (t :: l)

theorem rises_tail {s : Span} {l : List Span} (h : rises (s :: l) = true) : rises l = true := by
  cases l with
  | nil => rfl
  | cons t l => simp [rises] at h; exact h.2
theorem rises_head {s : Span} {l : List Span} (h : rises (s :: l) = true) : s.1 ≤ s.2.1 := by
  cases l with
  | nil => simpa [rises] using h
  | cons t l => simp [rises] at h; exact h.1.1
theorem rises_above {s : Span} : ∀ {l : List Span}, rises (s :: l) = true → ∀ t ∈ l, s.2.1 < t.1 ∧ t.1 ≤ t.2.1
  | [], _, t, ht => by cases ht
  | u :: l, h, t, ht => by
    have hu : s.2.1 < u.1 := by simp [rises] at h; exact h.1.2
    have hr := rises_tail h
    rcases List.mem_cons.1 ht with rfl | ht
    · exact ⟨hu, rises_head hr⟩
    · have := rises_above hr t ht
      have := rises_head hr
      omega
theorem rises_lt : ∀ {l : List Span}, rises l = true → ∀ (i j : Nat) (hi : i < l.length) (hj : j < l.length), i < j → l[i].2.1 < l[j].1 ∧ l[j].1 ≤ l[j].2.1
  | s :: l, h, 0, j + 1, hi, hj, _ => by
    simpa using rises_above h _ (List.getElem_mem (by simpa using hj))
  | s :: l, h, i + 1, j + 1, hi, hj, hij => by
    simpa using rises_lt (rises_tail h) i j (by simpa using hi) (by simpa using hj) (by omega)
theorem rises_at {l : List Span} (h : rises l = true) (i : Nat) (hi : i < l.length) : l[i].1 ≤ l[i].2.1 := by
  induction l generalizing i with
  | nil => simp at hi
  | cons s l ih =>
    cases i with
    | zero => exact rises_head h
    | succ i => simpa using ih (rises_tail h) i (by simpa using hi)

theorem cnt_le (l : List Span) (c : Int) : cnt l c ≤ l.length := by
  unfold cnt; exact (List.takeWhile_sublist _).length_le
theorem cnt_below : ∀ (l : List Span) (c : Int) (k : Nat) (hk : k < l.length), k < cnt l c → l[k].2.1 < c
  | s :: l, c, k, hk, h => by
    unfold cnt at h
    rw [List.takeWhile_cons] at h
    split at h
    · rename_i hs
      cases k with
      | zero => simpa using hs
      | succ k => simpa using cnt_below l c k (by simpa using hk) (by simpa [cnt] using h)
    · simp at h
theorem cnt_at : ∀ (l : List Span) (c : Int) (hk : cnt l c < l.length), ¬ l[cnt l c].2.1 < c
  | s :: l, c, hk => by
    unfold cnt at hk ⊢
    by_cases hs : s.2.1 < c
    · have e : ((s :: l).takeWhile fun s => decide (s.2.1 < c)).length = cnt l c + 1 := by simp [hs, cnt]
      have := cnt_at l c (by rw [e] at hk; simpa using hk)
      simp only [e]
      simpa using this
    · have e : ((s :: l).takeWhile fun s => decide (s.2.1 < c)).length = 0 := by simp [hs]
      simp only [e]
      simpa using hs
/-- What a search by halves ends with is that number. -/
theorem cnt_is {l : List Span} (h : rises l = true) {c : Int} {i : Nat} (hi : i ≤ l.length) (hlo : ∀ k (hk : k < l.length), k < i → l[k].2.1 < c) (hhi : ∀ k (hk : k < l.length), i ≤ k → ¬ l[k].2.1 < c) : i = cnt l c := by
  have hc := cnt_le l c
  rcases Nat.lt_trichotomy i (cnt l c) with h1 | h1 | h1
  · exact absurd (cnt_below l c i (by omega) h1) (hhi i (by omega) (Nat.le_refl _))
  · exact h1
  · exact absurd (hlo _ (by omega) h1) (cnt_at l c (by omega))
theorem rises_mono {l : List Span} (h : rises l = true) {c : Int} {i j : Nat} (hij : i ≤ j) (hj : j < l.length) (hlt : l[j].2.1 < c) : l[i].2.1 < c := by
  rcases Nat.lt_or_eq_of_le hij with h1 | rfl
  · have := rises_lt h i j (by omega) hj h1
    omega
  · exact hlt
theorem hitB_some {l : List Span} {c : Int} (hk : cnt l c < l.length) : hitB l c = decide (l[cnt l c].1 ≤ c) := by
  unfold hitB
  rw [List.getElem?_eq_getElem hk]
theorem hitB_none {l : List Span} {c : Int} (hk : ¬ cnt l c < l.length) : hitB l c = false := by
  unfold hitB
  rw [List.getElem?_eq_none (by omega)]
theorem ofT_hit {l : List Span} {c : Int} (h : hitB l c = true) : ∃ hk : cnt l c < l.length, ofT l c = l[cnt l c].2.2 := by
  by_cases hk : cnt l c < l.length
  · refine ⟨hk, ?_⟩
    rw [hitB_some hk] at h
    unfold ofT
    rw [List.getElem?_eq_getElem hk]
    simp only [decide_eq_true_eq] at h
    exact if_pos h
  · rw [hitB_none hk] at h
    cases h
theorem ofT_miss {l : List Span} {c : Int} (h : hitB l c = false) : ofT l c = 0 := by
  unfold ofT
  by_cases hk : cnt l c < l.length
  · rw [hitB_some hk] at h
    rw [List.getElem?_eq_getElem hk]
    exact if_neg (by simpa using h)
  · rw [List.getElem?_eq_none (by omega)]
/-- The span that has a number tells its class. -/
theorem ofT_in {l : List Span} (h : rises l = true) {c : Int} {s : Span} (hs : s ∈ l) (h1 : s.1 ≤ c) (h2 : c ≤ s.2.1) : ofT l c = s.2.2 := by
  obtain ⟨k, hk, rfl⟩ := List.getElem_of_mem hs
  have e : k = cnt l c := cnt_is h (by omega) (fun j hj hjk => by have := rises_lt h j k hj hk hjk; omega) (fun j hj hkj => by
    rcases Nat.lt_or_eq_of_le hkj with h3 | rfl
    · have := rises_lt h k j hk hj h3
      omega
    · omega)
  unfold ofT
  rw [← e, List.getElem?_eq_getElem hk]
  exact if_pos h1
theorem ofT_out {l : List Span} {c : Int} (hno : ∀ s ∈ l, ¬ (s.1 ≤ c ∧ c ≤ s.2.1)) : ofT l c = 0 := by
  unfold ofT
  by_cases hk : cnt l c < l.length
  · rw [List.getElem?_eq_getElem hk]
    have h1 := cnt_at l c hk
    have h2 := hno _ (List.getElem_mem hk)
    exact if_neg (by omega)
  · rw [List.getElem?_eq_none (by omega)]
theorem ofT_range {l : List Span} (h : ∀ s ∈ l, 0 ≤ s.2.2 ∧ s.2.2 ≤ 22) (c : Int) : 0 ≤ ofT l c ∧ ofT l c ≤ 22 := by
  unfold ofT
  by_cases hk : cnt l c < l.length
  · rw [List.getElem?_eq_getElem hk]
    have := h _ (List.getElem_mem hk)
    simp only
    split <;> omega
  · rw [List.getElem?_eq_none (by omega)]
    simp
end Go.Proofs.Ytfbjgibjlppjoaa.Cl

/-
  Proved here: what (class.span).against, the search by halves at spans, class.classIn and class.Of return, for every number; they leave what was in memory. No condition (the search: rising spans).
-/
set_option linter.unusedVariables false
namespace Go.Proofs.Ytfbjgibjlppjoaa.Cl
open Go.RowKit Go.Lib

/-- A row of spans in memory. -/
def SpansAt (w : World) (b : Nat) (l : List Span) : Prop :=
  b < w.heap.size ∧ ∀ k (hk : k < l.length), w.cell? ⟨b, k * 3, none⟩ = some (.int .i64 l[k].1) ∧ w.cell? ⟨b, k * 3 + 1, none⟩ = some (.int .i64 l[k].2.1) ∧ w.cell? ⟨b, k * 3 + 2, none⟩ = some (.int .i64 l[k].2.2)
theorem SpansAt.below {w w' : World} {b : Nat} {l : List Span} (h : SpansAt w b l) (hb : Below w.heap.size w w') : SpansAt w' b l :=
  ⟨Nat.lt_of_lt_of_le h.1 hb.size, fun k hk => ⟨(hb.cell (p := ⟨b, k * 3, none⟩) h.1).trans (h.2 k hk).1, (hb.cell (p := ⟨b, k * 3 + 1, none⟩) h.1).trans (h.2 k hk).2.1, (hb.cell (p := ⟨b, k * 3 + 2, none⟩) h.1).trans (h.2 k hk).2.2⟩⟩

/-- Where a span lies, seen from a number. -/
def agst (s : Span) (c : Int) : Int := if s.2.1 < c then -1 else if c < s.1 then 1 else 0

set_option maxHeartbeats 400000 in
theorem against_any (a b d c : Int) (w : World) :
    Calls Try.prog 38 #[.agg #[.int .i64 a, .int .i64 b, .int .i64 d], .int .i64 c] w fun e w' => e = .returned (.int .i64 (agst (a, b, d) c)) ∧ Below w.heap.size w w' := by
  by_cases h1 : b < c
  · have e : agst (a, b, d) c = -1 := if_pos h1
    rw [e]
    clear e
    go_enter Try.func38, Try.ntmps38
    go_wp2
    go_ret
    exact ⟨rfl, (Below.refl _ _).alloc (Nat.le_refl _) _⟩
  · by_cases h2 : c < a
    · have e : agst (a, b, d) c = 1 := by unfold agst; rw [if_neg h1, if_pos h2]
      rw [e]
      clear e
      go_enter Try.func38, Try.ntmps38
      go_wp2
      go_ret
      exact ⟨rfl, (Below.refl _ _).alloc (Nat.le_refl _) _⟩
    · have e : agst (a, b, d) c = 0 := by unfold agst; rw [if_neg h1, if_neg h2]
      rw [e]
      clear e
      go_enter Try.func38, Try.ntmps38
      go_wp2
      go_ret
      exact ⟨rfl, (Below.refl _ _).alloc (Nat.le_refl _) _⟩

theorem agst_lt {s : Span} {c : Int} (h : s.2.1 < c) : decide (agst s c < 0) = true := by unfold agst; rw [if_pos h]; rfl
theorem agst_ge {s : Span} {c : Int} (h : ¬ s.2.1 < c) : decide (agst s c < 0) = false := by
  unfold agst
  rw [if_neg h]
  split <;> rfl
theorem agst_eq {s : Span} {c : Int} (h : ¬ s.2.1 < c) : (agst s c == 0) = decide (s.1 ≤ c) := by
  unfold agst
  rw [if_neg h]
  by_cases h2 : c < s.1
  · rw [if_pos h2, decide_eq_false (by omega)]; rfl
  · rw [if_neg h2, decide_eq_true (by omega)]; rfl

set_option maxHeartbeats 1000000 in
set_option maxRecDepth 100000 in
theorem search_any (b : Nat) (l : List Span) (c : Int) (w : World) (hS : SpansAt w b l) (hl : l.length ≤ 1000) (hr : rises l = true) :
    Calls Try.prog 37 #[.slice (some ⟨b, 0, none⟩) l.length l.length, .int .i64 c, .func (.func 38) #[] #[]] w fun e w' => e = .returned (.tuple #[.int .i64 (cnt l c), .bool (hitB l c)]) ∧ Below w.heap.size w w' := by
  have HR := Lib.hid hr
  clear hr
  go_enter Try.func37, Try.ntmps37
  go_wp2
  go_loopw [9, 10] (fun s9 s10 wx => ∃ i j : Nat, i ≤ j ∧ j ≤ l.length ∧ s9 = .int .i64 i ∧ s10 = .int .i64 j ∧ Below w.heap.size w wx ∧ (∀ k (hk : k < l.length), k < i → l[k].2.1 < c) ∧ (∀ k (hk : k < l.length), j ≤ k → c ≤ l[k].2.1)) (fun s9 s10 _ => (RowKit.intOf s10).toNat - (RowKit.intOf s9).toNat)
  case atStart => exact ⟨0, l.length, Nat.zero_le _, Nat.le_refl _, rfl, rfl, Below.refl _ _, fun k hk h => by omega, fun k hk h => by omega⟩
  case round =>
    obtain ⟨i, j, hij, hj, rfl, rfl, hb, hlo, hhi⟩ := hrel
    have HLO := Lib.hid hlo
    have HHI := Lib.hid hhi
    have HB := Lib.hid hb
    clear hlo hhi hb
    by_cases hlt : i < j
    · have hh : (i + j) / 2 < l.length := by omega
      obtain ⟨c0, c1, c2⟩ := (hS.below HB.out).2 _ hh
      generalize hs : l[(i + j) / 2] = s at c0 c1 c2
      obtain ⟨s0, s1, s2⟩ := s
      simp only at c0 c1 c2
      have hs' := Lib.hid hs
      clear hs
      by_cases hc : s1 < c
      · have hd := agst_lt (s := (s0, s1, s2)) hc
        have hc' := Lib.hid hc
        clear hc
        go_wp2_with fail
        refine (against_any s0 s1 s2 c _).mono ?_
        rintro e w' ⟨rfl, hb2⟩
        generalize agst (s0, s1, s2) c = v at *
        go_wp2
        go_roundw
        case rel =>
          refine ⟨(i + j) / 2 + 1, j, by omega, hj, by go_num, rfl, HB.out.trans (hb2.mono HB.out.size), fun k hk hki => ?_, HHI.out⟩
          exact rises_mono HR.out (j := (i + j) / 2) (by omega) hh (by rw [hs'.out]; exact hc'.out)
        case measure => simp [RowKit.intOf]; omega
      · have hd := agst_ge (s := (s0, s1, s2)) hc
        have hc' := Lib.hid hc
        clear hc
        go_wp2_with fail
        refine (against_any s0 s1 s2 c _).mono ?_
        rintro e w' ⟨rfl, hb2⟩
        generalize agst (s0, s1, s2) c = v at *
        go_wp2
        go_roundw
        case rel =>
          refine ⟨i, (i + j) / 2, by omega, by omega, rfl, by go_num, HB.out.trans (hb2.mono HB.out.size), HLO.out, fun k hk hki => ?_⟩
          have h1 := hc'.out
          have h2 := hs'.out
          rcases Nat.lt_or_eq_of_le hki with h3 | h3
          · have := rises_lt HR.out _ k hh hk h3
            rw [h2] at this
            simp only at this
            omega
          · subst h3
            rw [h2]
            simp only
            omega
        case measure => simp [RowKit.intOf]; omega
    · obtain rfl : i = j := by omega
      have hcnt : i = cnt l c := cnt_is HR.out (by omega) HLO.out (fun k hk h => by have := HHI.out k hk h; omega)
      have HC := Lib.hid hcnt
      clear hcnt
      by_cases hn : i < l.length
      · obtain ⟨c0, c1, c2⟩ := (hS.below HB.out).2 _ hn
        have hge := HHI.out i hn (Nat.le_refl _)
        generalize hs : l[i] = s at c0 c1 c2 hge
        obtain ⟨s0, s1, s2⟩ := s
        simp only at c0 c1 c2 hge
        have hs' := Lib.hid hs
        have he := Lib.hid (agst_eq (s := (s0, s1, s2)) (c := c) (by simp only; omega))
        clear hs
        go_wp2_with fail
        refine (against_any s0 s1 s2 c _).mono ?_
        rintro e w' ⟨rfl, hb2⟩
        go_wp2
        go_ret2
        refine ⟨?_, HB.out.trans (hb2.mono HB.out.size)⟩
        have he2 : (agst (s0, s1, s2) c == 0) = decide (s0 ≤ c) := he.out
        have hk : cnt l c < l.length := HC.out ▸ hn
        have e2 : hitB l c = decide (s0 ≤ c) := by
          rw [hitB_some hk]
          simp only [← HC.out, hs'.out]
        rw [e2, ← HC.out, ← he2]
        rfl
      · go_wp2
        go_ret2
        refine ⟨?_, HB.out⟩
        rw [hitB_none (by rw [← HC.out]; exact hn), ← HC.out]
        rfl

set_option maxHeartbeats 1000000 in
set_option maxRecDepth 100000 in
theorem classIn_any (b : Nat) (l : List Span) (c : Int) (w : World) (hS : SpansAt w b l) (hl : l.length ≤ 1000) (hr : rises l = true) :
    Calls Try.prog 29 #[.slice (some ⟨b, 0, none⟩) l.length l.length, .int .i64 c] w fun e w' => e = .returned (.int .i64 (ofT l c)) ∧ Below w.heap.size w w' := by
  have cS := Lib.hid (search_any b l c w hS hl hr)
  clear hr
  cases hh : hitB l c with
  | true =>
    obtain ⟨hk, ho⟩ := ofT_hit hh
    obtain ⟨v, hv⟩ : ∃ v, l[cnt l c].2.2 = v := ⟨_, rfl⟩
    rw [hh] at cS
    rw [ho, hv]
    have HS := Lib.hid hS
    have HV := Lib.hid hv
    clear ho hh hS hv
    go_enter Try.func29, Try.ntmps29
    go_wp2_with fail
    refine cS.out.mono ?_
    rintro e w' ⟨rfl, hb⟩
    have c2 := ((HS.out.below hb).2 _ hk).2.2
    rw [HV.out] at c2
    clear HV cS
    generalize cnt l c = k at *
    have hk' : (k : Int) < l.length := by omega
    go_wp2
    go_ret
    exact ⟨rfl, hb⟩
  | false =>
    have ho := ofT_miss hh
    rw [hh] at cS
    rw [ho]
    clear ho hh
    go_enter Try.func29, Try.ntmps29
    go_wp2_with fail
    refine cS.out.mono ?_
    rintro e w' ⟨rfl, hb⟩
    go_wp2
    go_ret
    exact ⟨rfl, hb⟩

theorem rises_spans : rises spansL = true := by kernel_rfl
theorem spans_len : spansL.length = 166 := by kernel_rfl
theorem spanCells_at : ∀ (l : List Span) (k : Nat) (hk : k < l.length), (spanCells l)[k * 3]? = some (.int .i64 l[k].1) ∧ (spanCells l)[k * 3 + 1]? = some (.int .i64 l[k].2.1) ∧ (spanCells l)[k * 3 + 2]? = some (.int .i64 l[k].2.2)
  | r :: l, 0, _ => ⟨rfl, rfl, rfl⟩
  | r :: l, k + 1, hk => by
    have := spanCells_at l k (by simpa using hk)
    rw [show (k + 1) * 3 = k * 3 + 3 from by omega]
    exact this
theorem spansAt_made (l : List Span) (t : TypeId) (w : World) : SpansAt (w.alloc (.cells (spanCells l).toArray t)) w.heap.size l := by
  refine ⟨by simp, fun k hk => ?_⟩
  obtain ⟨h0, h1, h2⟩ := spanCells_at l k hk
  refine ⟨?_, ?_, ?_⟩
  · simpa using h0
  · simpa using h1
  · simpa using h2

/-- class.spans, as its callers read it. -/
theorem spans_reads (w : World) :
    Calls Try.prog 30 #[] w fun e w' => e = .returned (.slice (some ⟨w.heap.size, 0, none⟩) spansL.length spansL.length) ∧ SpansAt w' w.heap.size spansL ∧ Below w.heap.size w w' := by
  refine (spans_any w).mono ?_
  rintro e w' ⟨rfl, rfl⟩
  exact ⟨by rw [spans_len], spansAt_made _ _ _, (Below.refl _ _).alloc (Nat.le_refl _) _⟩

/-- The class of a number, as the program tells it. -/
def cls (c : Int) : Int := ofT spansL c

end Go.Proofs.Ytfbjgibjlppjoaa.Cl

/-
  Clusters by what wrap asks of them, plainly: how wide, whether blank, what is to be shown; a part of a row of clusters in memory. No program in it.
-/
set_option linter.unusedVariables false
namespace Go.Proofs.Ytfbjgibjlppjoaa.Wr
open Go Go.RowKit Go.Lib Go.Proofs.Ytfbjgibjlppjoaa.Ku

def d6 : C6 := ⟨0, 0, 0, 0, 0, 0⟩
/-- How many slots the cluster at a place takes. -/
def Wd (l : List C6) (i : Nat) : Int := max (l.getD i d6).w 0
/-- Is the cluster at a place blank? -/
def Bl (l : List C6) (i : Nat) : Bool := (l.getD i d6).c == 32
def brk (x : C6) : Bool := Cl.cls x.c == 10
/-- The end of what is to be shown. -/
def shownN (l : List C6) : Nat := if brk (l.getD (l.length - 1) d6) = true then l.length - 1 else l.length
theorem shownN_le (l : List C6) : shownN l ≤ l.length := by
  unfold shownN
  split <;> omega
theorem shownN_nil : shownN [] = 0 := by
  unfold shownN
  split <;> rfl
theorem getD_at {l : List C6} {i : Nat} (h : i < l.length) : l.getD i d6 = l[i] := by simp [List.getD, List.getElem?_eq_getElem h]
theorem Wd_at {l : List C6} {i : Nat} (h : i < l.length) : Wd l i = max l[i].w 0 := by unfold Wd; rw [getD_at h]
theorem Bl_at {l : List C6} {i : Nat} (h : i < l.length) : Bl l i = (l[i].c == 32) := by unfold Bl; rw [getD_at h]
theorem Wd_pos (l : List C6) (i : Nat) : 0 ≤ Wd l i := by unfold Wd; omega
theorem fitK_shift (W : Nat → Int) (f : Nat) : ∀ (k j : Nat) (w : Int), fitK (fun i => W (f + i)) k j w = fitK W k (f + j) w
  | 0, _, _ => rfl
  | k + 1, j, w => by
    unfold fitK
    rw [fitK_shift W f k (j + 1), Nat.add_assoc]
theorem part_at {l : List C6} {f k i : Nat} (h : i < k) : ((l.drop f).take k).getD i d6 = l.getD (f + i) d6 := by
  simp only [List.getD_eq_getElem?_getD]
  rw [List.getElem?_take, if_pos h, List.getElem?_drop]
theorem part_len {l : List C6} {f k : Nat} (h : f + k ≤ l.length) : ((l.drop f).take k).length = k := by
  rw [List.length_take, List.length_drop]
  omega
/-- How much a part takes. -/
theorem more_part {l : List C6} {f k : Nat} (w : Int) : moreK (Wd ((l.drop f).take k)) k 0 w = moreK (Wd l) k f w := by
  unfold moreK
  have h := fitK_alike (W := Wd ((l.drop f).take k)) (V := fun i => Wd l (f + i)) k 0 w (fun i h1 h2 => by
    unfold Wd
    rw [part_at (by omega)])
  rw [h, fitK_shift]
  rfl
theorem cu_part {w : World} {l : List C6} {b off : Nat} (h : CuAt w (some ⟨b, off, none⟩) l) (f k : Nat) (hk : f + k ≤ l.length) : CuAt w (some ⟨b, off + f * 6, none⟩) ((l.drop f).take k) := by
  rcases h with rfl | ⟨b', off', e, hlt, hc⟩
  · exact .inl (by simp)
  · injection e with e
    injection e with e1 e2
    subst e1 e2
    refine .inr ⟨b, off + f * 6, rfl, hlt, fun i hi => ?_⟩
    have hik : i < k := by
      rw [part_len hk] at hi
      exact hi
    have hl : f + i < l.length := by omega
    have e : ((l.drop f).take k)[i] = l[f + i] := by
      rw [List.getElem_take, List.getElem_drop]
    rw [e]
    have := hc (f + i) hl
    rw [show off + (f + i) * 6 = off + f * 6 + i * 6 from by omega] at this
    exact this
end Go.Proofs.Ytfbjgibjlppjoaa.Wr

/-
  Rows of lines in memory: their cells, as they are read; the lines of clusters, plainly. No program in it but its types.
-/
set_option linter.unusedVariables false
namespace Go.Proofs.Ytfbjgibjlppjoaa.Wr
open Go Go.RowKit Go.Lib Go.Proofs.Ytfbjgibjlppjoaa.Ku

/-- A line: from, to, show, hard, dots. -/
structure L5 where
  f : Int
  t : Int
  s : Int
  h : Int
  d : Int
deriving DecidableEq
def cellsL (l : List L5) : List Value := l.flatMap fun x => [.int .i64 x.f, .int .i64 x.t, .int .i64 x.s, .int .i64 x.h, .int .i64 x.d]
theorem cellsL_len (l : List L5) : (cellsL l).length = l.length * 5 := by
  induction l with
  | nil => rfl
  | cons r l ih => simp [cellsL] at ih ⊢; omega
theorem cellsL_snoc (l : List L5) (x : L5) : cellsL (l ++ [x]) = cellsL l ++ [.int .i64 x.f, .int .i64 x.t, .int .i64 x.s, .int .i64 x.h, .int .i64 x.d] := by simp [cellsL]
theorem cellsL_at : ∀ (l : List L5) (k : Nat) (hk : k < l.length), (cellsL l)[k * 5]? = some (.int .i64 l[k].f) ∧ (cellsL l)[k * 5 + 1]? = some (.int .i64 l[k].t) ∧ (cellsL l)[k * 5 + 2]? = some (.int .i64 l[k].s) ∧ (cellsL l)[k * 5 + 3]? = some (.int .i64 l[k].h) ∧ (cellsL l)[k * 5 + 4]? = some (.int .i64 l[k].d)
  | r :: l, 0, _ => ⟨rfl, rfl, rfl, rfl, rfl⟩
  | r :: l, k + 1, hk => by
    have := cellsL_at l k (by simpa using hk)
    rw [show (k + 1) * 5 = k * 5 + 5 from by omega]
    exact this
/-- A row of lines. -/
def LiAt (w : World) (A : Option Addr) (l : List L5) : Prop :=
  l = [] ∨ ∃ b off, A = some ⟨b, off, none⟩ ∧ b < w.heap.size ∧ ∀ k (hk : k < l.length), w.cell? ⟨b, off + k * 5, none⟩ = some (.int .i64 l[k].f) ∧ w.cell? ⟨b, off + k * 5 + 1, none⟩ = some (.int .i64 l[k].t) ∧ w.cell? ⟨b, off + k * 5 + 2, none⟩ = some (.int .i64 l[k].s) ∧ w.cell? ⟨b, off + k * 5 + 3, none⟩ = some (.int .i64 l[k].h) ∧ w.cell? ⟨b, off + k * 5 + 4, none⟩ = some (.int .i64 l[k].d)
theorem LiAt.below {w w' : World} {A : Option Addr} {l : List L5} (h : LiAt w A l) (hb : Below w.heap.size w w') : LiAt w' A l := by
  rcases h with h | ⟨b, off, hA, hlt, hc⟩
  · exact .inl h
  · refine .inr ⟨b, off, hA, Nat.lt_of_lt_of_le hlt hb.size, fun k hk => ?_⟩
    obtain ⟨h0, h1, h2, h3, h4⟩ := hc k hk
    exact ⟨(hb.cell (p := ⟨b, off + k * 5, none⟩) hlt).trans h0, (hb.cell (p := ⟨b, off + k * 5 + 1, none⟩) hlt).trans h1, (hb.cell (p := ⟨b, off + k * 5 + 2, none⟩) hlt).trans h2, (hb.cell (p := ⟨b, off + k * 5 + 3, none⟩) hlt).trans h3, (hb.cell (p := ⟨b, off + k * 5 + 4, none⟩) hlt).trans h4⟩
theorem LiAt.at_ {w : World} {A : Option Addr} {l : List L5} (h : LiAt w A l) {k : Nat} (hk : k < l.length) : ∃ b off, A = some ⟨b, off, none⟩ ∧ b < w.heap.size ∧ w.cell? ⟨b, off + k * 5, none⟩ = some (.int .i64 l[k].f) ∧ w.cell? ⟨b, off + k * 5 + 1, none⟩ = some (.int .i64 l[k].t) ∧ w.cell? ⟨b, off + k * 5 + 2, none⟩ = some (.int .i64 l[k].s) ∧ w.cell? ⟨b, off + k * 5 + 3, none⟩ = some (.int .i64 l[k].h) ∧ w.cell? ⟨b, off + k * 5 + 4, none⟩ = some (.int .i64 l[k].d) := by
  rcases h with rfl | ⟨b, off, hA, hlt, hc⟩
  · simp at hk
  · obtain ⟨h0, h1, h2, h3, h4⟩ := hc k hk
    exact ⟨b, off, hA, hlt, h0, h1, h2, h3, h4⟩
theorem liAt_own {w : World} {B : Nat} {t : TypeId} {v : Value} {l : List L5} (h : w.ownsRow B t 5 v l.length (cellsL l)) : ∃ A c, v = .slice A l.length c ∧ LiAt w A l := by
  have hc := @World.ownsRow.cells _ _ _ _ _ _ _ h
  rcases h.2 with ⟨rfl, hn⟩ | ⟨g, cap, cur, rfl, _, hg, _⟩
  · exact ⟨none, 0, by rw [hn], .inl (List.eq_nil_of_length_eq_zero hn)⟩
  · refine ⟨_, cap, rfl, .inr ⟨g, 0, rfl, (Array.getElem?_eq_some_iff.1 hg).1, fun k hk => ?_⟩⟩
    obtain ⟨h0, h1, h2, h3, h4⟩ := cellsL_at l k hk
    refine ⟨?_, ?_, ?_, ?_, ?_⟩
    · have := hc (g := g) rfl _ _ h0; rw [add_off] at this; exact this
    · have := hc (g := g) rfl _ _ h1; rw [add_off] at this; exact this
    · have := hc (g := g) rfl _ _ h2; rw [add_off] at this; exact this
    · have := hc (g := g) rfl _ _ h3; rw [add_off] at this; exact this
    · have := hc (g := g) rfl _ _ h4; rw [add_off] at this; exact this
theorem infoL : (Try.prog.info? 36).map (fun i => (i.zero, i.size, i.bytes)) = some (some (.agg #[.int .i64 0, .int .i64 0, .int .i64 0, .int .i64 0, .int .i64 0]), 5, 40) := by kernel_rfl

/-- A line as it is answered. -/
def lineOf (len n : Nat) (x : Nat × Nat × Nat) : L5 := if x.2.1 = n then ⟨x.1, len, x.2.2, 1, 0⟩ else ⟨x.1, x.2.1, x.2.2, 0, 0⟩
/-- The lines of clusters. -/
def linesP (l : List C6) (w how : Int) : List L5 :=
  if how = 0 ∨ shownN l = 0 then [⟨0, l.length, shownN l, 1, 0⟩] else (linesF (Wd (l.take (shownN l))) (Bl (l.take (shownN l))) (shownN l) (max w 1) (shownN l) 0).map (lineOf l.length (shownN l))
theorem linesP_one {l : List C6} {w how : Int} (h : how = 0 ∨ shownN l = 0) : linesP l w how = [⟨0, l.length, shownN l, 1, 0⟩] := if_pos h
theorem linesP_of {l : List C6} {w how : Int} (h : ¬ (how = 0 ∨ shownN l = 0)) {R : List (Nat × Nat × Nat)} (hR : Lns (Wd (l.take (shownN l))) (Bl (l.take (shownN l))) (shownN l) (max w 1) 0 R) : linesP l w how = R.map (lineOf l.length (shownN l)) := by
  unfold linesP
  rw [if_neg h, (linesF_is _ _ _ _ (shownN l) 0 (by omega) (by omega)).unique hR]
theorem linesP_lns {l : List C6} {w how : Int} (h : ¬ (how = 0 ∨ shownN l = 0)) : ∃ R, Lns (Wd (l.take (shownN l))) (Bl (l.take (shownN l))) (shownN l) (max w 1) 0 R ∧ linesP l w how = R.map (lineOf l.length (shownN l)) :=
  ⟨_, linesF_is _ _ _ _ (shownN l) 0 (by omega) (by omega), if_neg h⟩
/-- Each line has at least one cluster: there are no more lines than clusters. -/
theorem Lns.len {W : Nat → Int} {B : Nat → Bool} {n : Nat} {w : Int} {f : Nat} {L : List (Nat × Nat × Nat)} (h : Lns W B n w f L) : f < n → L.length + f ≤ n := by
  induction h with
  | last f s h1 => intro hf; simp; omega
  | more f t s r h1 h2 h3 ih =>
    intro hf
    have := h1.goes hf
    have := ih h2
    simp
    omega
end Go.Proofs.Ytfbjgibjlppjoaa.Wr

/-
  Proved here: what parquetrylaw17.shows returns for a text whose lines are shown as is asked: true; for any program of lines that keeps to the plain ones. It leaves what was in memory.
-/
set_option linter.unusedVariables false
namespace Go.Proofs.Ytfbjgibjlppjoaa.Wr
open Go Go.RowKit Go.Lib Go.Proofs.Ytfbjgibjlppjoaa.Ku Go.Proofs.Ytfbjgibjlppjoaa.Arr

/-- A cluster's part of a text. -/
def cutS (s : ByteArray) (x : C6) : ByteArray := s.extract x.a.toNat (x.a + x.z).toNat
/-- The text of k clusters from f on. -/
def textS (s : ByteArray) (C : List C6) (f : Nat) : Nat → ByteArray
  | 0 => ⟨#[]⟩
  | k + 1 => textS s C f k ++ cutS s (C.getD (f + k) d6)
def cutsB (s : ByteArray) (C : List C6) : Bool := C.all fun x => decide (0 ≤ x.a) && (decide (0 ≤ x.z) && decide (x.a + x.z ≤ s.size))
def lineB (s : ByteArray) (C : List C6) (n i : Nat) (x : L5) (u : ByteArray) : Bool := decide (0 ≤ x.f) && (decide (x.f ≤ x.s) && (decide (x.s ≤ C.length) && ((textS s C x.f.toNat (x.s - x.f).toNat).data.toList == u.data.toList && ((x.h == 1) == (i + 1 == n) && x.d == 0))))
def showB (s : ByteArray) (C : List C6) (P : List L5) (U : List ByteArray) : Bool := P.length == U.length && (List.range P.length).all fun i => lineB s C P.length i (P.getD i ⟨0, 0, 0, 0, 0⟩) (U.getD i ⟨#[]⟩)
/-- A row of texts. -/
def TxAt (w : World) (A : Option Addr) (l : List ByteArray) : Prop :=
  l = [] ∨ ∃ b off, A = some ⟨b, off, none⟩ ∧ b < w.heap.size ∧ ∀ k (hk : k < l.length), w.cell? ⟨b, off + k, none⟩ = some (.string l[k])
theorem TxAt.below {w w' : World} {A : Option Addr} {l : List ByteArray} (h : TxAt w A l) (hb : Below w.heap.size w w') : TxAt w' A l := by
  rcases h with h | ⟨b, off, hA, hlt, hc⟩
  · exact .inl h
  · exact .inr ⟨b, off, hA, Nat.lt_of_lt_of_le hlt hb.size, fun k hk => (hb.cell (p := ⟨b, off + k, none⟩) hlt).trans (hc k hk)⟩
theorem TxAt.at_ {w : World} {A : Option Addr} {l : List ByteArray} (h : TxAt w A l) {k : Nat} (hk : k < l.length) : ∃ b off, A = some ⟨b, off, none⟩ ∧ b < w.heap.size ∧ w.cell? ⟨b, off + k, none⟩ = some (.string l[k]) := by
  rcases h with rfl | ⟨b, off, hA, hlt, hc⟩
  · simp at hk
  · exact ⟨b, off, hA, hlt, hc k hk⟩
theorem cutS_le (s : ByteArray) (x : C6) : (cutS s x).size ≤ s.size := by
  unfold cutS
  rw [ByteArray.size_extract]
  omega
theorem textS_le (s : ByteArray) (C : List C6) (f : Nat) : ∀ k, (textS s C f k).size ≤ k * s.size
  | 0 => Nat.le_of_eq (by rw [Nat.zero_mul]; rfl)
  | k + 1 => by
    have h1 := textS_le s C f k
    have h2 := cutS_le s (C.getD (f + k) d6)
    unfold textS
    rw [ByteArray.size_append, Nat.succ_mul]
    omega
theorem own_room {w : World} {B n c sz : Nat} {e : TypeId} {A : Option Addr} {xs : List Value} (h : w.ownsRow B e sz (.slice A n c) n xs) : n ≤ c := by
  rcases h.2 with ⟨e1, h0⟩ | ⟨g, cap, cur, e1, _, _, hle, _⟩
  · injection e1 with _ _ e2; omega
  · injection e1 with _ _ e2; omega
/-- What wrap.Lines answers. -/
def LinesOk : Prop := ∀ (A : Option Addr) (l : List C6) (m c : Nat) (s how : Int) (w : World), CuAt w A l → l.length = m → m ≤ 1099511627776 → m ≤ c → s ≤ 9223372036854775807 →
  Calls Try.prog 17 #[.slice A m c, .int .i64 s, .int .i64 how] w fun e w' => ∃ A' c', e = .returned (.slice A' (linesP l s how).length c') ∧ w'.ownsRow w.heap.size 36 5 (.slice A' (linesP l s how).length c') (linesP l s how).length (cellsL (linesP l s how)) ∧ Below w.heap.size w w'

set_option maxHeartbeats 4000000 in
set_option maxRecDepth 100000 in
theorem shows_of (HLN : LinesOk) (s : ByteArray) (A : Option Addr) (U : List ByteArray) (nu cu : Nat) (w : World) (hs : s.size ≤ 1000) (hU : TxAt w A U) (hul : U.length = nu) (hcut : cutsB s (ofS s) = true) (hok : showB s (ofS s) (linesP (ofS s) 5 1) U = true) (hcl : (ofS s).length ≤ 1000) (hnu : nu ≤ 1000) :
    Calls Try.prog 22 #[.string s, .slice A nu cu] w fun e w' => e = .returned (.bool true) ∧ Below w.heap.size w w' := by
  have HSP := Lib.hid (rsplit_any s w (by omega))
  have HU := Lib.hid hU
  have HUL := Lib.hid hul
  unfold showB at hok
  rw [Bool.and_eq_true_iff] at hok
  obtain ⟨hlen, hall⟩ := hok
  have hpl : (linesP (ofS s) 5 1).length = nu := by rw [← hul]; simpa using hlen
  have HALL := Lib.hid (fun (i : Nat) (h : i < (linesP (ofS s) 5 1).length) => List.all_eq_true.1 hall i (List.mem_range.2 h))
  have HCUT := Lib.hid (fun x hx => List.all_eq_true.1 hcut x hx)
  have HLI := Lib.hid (fun (A' : Option Addr) (c' : Nat) (V : World) h1 h2 => HLN A' (ofS s) (ofS s).length c' 5 1 V h1 rfl (by omega) h2 (by omega))
  have HTL := Lib.hid (fun f k => textS_le s (ofS s) f k)
  clear hU hul hcut hall hlen HLN
  generalize linesP (ofS s) 5 1 = P at *
  generalize ofS s = C at *
  have HPL := Lib.hid hpl
  obtain ⟨n, hn⟩ : ∃ n, C.length = n := ⟨_, rfl⟩
  have HCN := Lib.hid hn
  rw [hn] at HSP HLI hcl
  rw [hpl] at HLI HALL
  clear hn hpl
  go_enter Try.func22, Try.ntmps22
  go_wp2_with fail
  refine HSP.out.mono ?_
  rintro e w1 ⟨v1, rfl, ho1, hb1⟩
  obtain ⟨A1, c1, rfl, hc1⟩ := cuAt_own (l := C) (by rw [HCN.out]; exact ho1)
  rw [HCN.out] at ho1 ⊢
  have HLC := Lib.hid (HLI.out A1 c1 w1 hc1 (own_room ho1))
  have HC1 := Lib.hid hc1
  have HB1 := Lib.hid hb1
  clear ho1 hc1 hb1 HSP HLI
  go_wp2_with fail
  refine HLC.out.mono ?_
  rintro e w2 ⟨A2, c2, rfl, ho2, hb2⟩
  obtain ⟨A2', c2', e2, hp2⟩ := liAt_own (l := P) (by rw [HPL.out]; exact ho2)
  rw [HPL.out] at e2
  injection e2 with e21 _ e23
  subst e21
  subst e23
  have HP2 := Lib.hid hp2
  have HC2 := Lib.hid (HC1.out.below hb2)
  have HB2 := Lib.hid (HB1.out.trans (hb2.mono HB1.out.size))
  have HU2 := Lib.hid (HU.out.below HB2.out)
  clear ho2 hp2 hb2 HLC HC1 HB1 HU
  have k0 : ((nu : Int) != (nu : Int)) = false := by simp
  go_wp2_with fail
  go_loopw [7] (fun s7 wx => ∃ i : Nat, i ≤ nu ∧ s7 = .int .i64 i ∧ Below w2.heap.size w2 wx) (fun s7 _ => nu - (RowKit.intOf s7).toNat)
  case atStart => exact ⟨0, Nat.zero_le _, rfl, Below.refl _ _⟩
  case round =>
    obtain ⟨i, hi, rfl, hb⟩ := hrel
    have HB := Lib.hid hb
    by_cases hlt : i < nu
    · have hil : i < P.length := by rw [HPL.out]; exact hlt
      have hiu : i < U.length := by rw [HUL.out]; exact hlt
      have hln := HALL.out i hlt
      rw [show P.getD i ⟨0, 0, 0, 0, 0⟩ = P[i] from by simp [List.getD, List.getElem?_eq_getElem hil], show U.getD i ⟨#[]⟩ = U[i] from by simp [List.getD, List.getElem?_eq_getElem hiu]] at hln
      obtain ⟨gp, op, rfl, hgp, p0, p1, p2, p3, p4⟩ := HP2.out.at_ hil
      obtain ⟨gu, ou, rfl, hgu, u0⟩ := HU2.out.at_ hiu
      have HPK := Lib.hid (fun (V : World) (h : Below w2.heap.size w2 V) => And.intro ((h.cell (p := ⟨gp, op + i * 5, none⟩) hgp).trans p0) (And.intro ((h.cell (p := ⟨gp, op + i * 5 + 2, none⟩) hgp).trans p2) (And.intro ((h.cell (p := ⟨gp, op + i * 5 + 3, none⟩) hgp).trans p3) (And.intro ((h.cell (p := ⟨gp, op + i * 5 + 4, none⟩) hgp).trans p4) ((h.cell (p := ⟨gu, ou + i, none⟩) hgu).trans u0)))))
      clear p0 p1 p2 p3 p4 u0 hgp hgu
      obtain ⟨p0, p2, p3, p4, u0⟩ := HPK.out _ hb
      generalize P[i] = x at *
      generalize U[i] = uu at *
      obtain ⟨xf, xt, xs, xh, xd⟩ := x
      simp only at p0 p2 p3 p4
      unfold lineB at hln
      simp only [Bool.and_eq_true, decide_eq_true_eq] at hln
      obtain ⟨l0, l1, l2, l3, l4, l5⟩ := hln
      obtain ⟨a, rfl⟩ : ∃ a : Nat, xf = a := ⟨xf.toNat, by omega⟩
      obtain ⟨b, rfl⟩ : ∃ b : Nat, xs = b := ⟨xs.toNat, by omega⟩
      have hab : a ≤ b := by omega
      have hbn : b ≤ n := by have := HCN.out; omega
      have k1 : decide ((a : Int) < 0) = false := decide_eq_false (by omega)
      have k2 : decide ((b : Int) < (a : Int)) = false := decide_eq_false (by omega)
      have k3 : decide ((n : Int) < (b : Int)) = false := decide_eq_false (by omega)
      have k4 : decide (b < a) = false := decide_eq_false (by omega)
      have k5 : decide (n < b) = false := decide_eq_false (by omega)
      have ji0 : (0 : Int) ≤ (i : Int) := by omega
      have ji1 : (i : Int) < (nu : Int) := by omega
      have HL3 := Lib.hid l3
      have HL4 := Lib.hid l4
      have HL5 := Lib.hid l5
      clear l0 l1 l2 l3 l4 l5 hil hiu hb
      go_wp2_with fail
      go_quiet (fail)
      go_wp2_with fail
      go_loopw [8, 9] (fun s8 s9 wy => ∃ k : Nat, a ≤ k ∧ k ≤ b ∧ s9 = .int .i64 k ∧ s8 = .string (textS s C a (k - a)) ∧ Below w2.heap.size w2 wy) (fun _ s9 _ => b - (RowKit.intOf s9).toNat)
      case atStart => exact ⟨a, Nat.le_refl _, hab, rfl, by rw [Nat.sub_self]; rfl, below_drewN HB.out _⟩
      case round =>
        obtain ⟨k, hak, hkb, rfl, rfl, hy⟩ := hrel
        have HY := Lib.hid hy
        clear p0 p2 p3 p4 u0
        obtain ⟨p0, p2, p3, p4, u0⟩ := HPK.out _ hy
        by_cases hlj : k < b
        · have hjc : k < C.length := by rw [HCN.out]; omega
          obtain ⟨g, o, rfl, hg, q0, q1, _⟩ := (HC2.out.below hy).at_ hjc
          have hcu := HCUT.out C[k] (List.getElem_mem hjc)
          have HT := Lib.hid (show textS s C a (k + 1 - a) = textS s C a (k - a) ++ cutS s C[k] by
            rw [show k + 1 - a = (k - a) + 1 from by omega]
            show _ ++ cutS s (C.getD (a + (k - a)) d6) = _
            rw [show a + (k - a) = k from by omega, getD_at hjc])
          have h1s := HTL.out a (k - a)
          generalize C[k] = y at *
          simp only [Bool.and_eq_true, decide_eq_true_eq] at hcu
          obtain ⟨u0, u1, u2⟩ := hcu
          have hw : IntKind.i64.wrap (y.a + y.z) = y.a + y.z := IntWalk.i64_in _ (by omega)
          have hsl : ∀ W, (Instr.slice 9 (.string s) (some (.int .i64 y.a)) (some (.int .i64 (y.a + y.z))) none).run Try.prog W = .ok (.string (cutS s y)) W := fun W => by
            rw [run_slice_string (P := Try.prog) W 9 s .i64 .i64 y.a (y.a + y.z) Try.underlying9 (by omega) (by omega) (by omega)]
            rfl
          have h2s := cutS_le s y
          generalize cutS s y = Y at *
          generalize textS s C a (k - a) = T at *
          have h3s : T.size ≤ 1000000 := by have := Nat.mul_le_mul (show k - a ≤ 1000 by omega) hs; omega
          have h4s : Y.size ≤ 1000 := by omega
          have jj0 : (0 : Int) ≤ (k : Int) := by omega
          have jj1 : (k : Int) < (n : Int) := by omega
          have jj2 : (k : Int) < (b : Int) := by omega
          clear hy h1s h2s
          go_wp2_with fail
          go_quiet (fail)
          go_wp2_with fail
          go_roundw
          case measure => simp [RowKit.intOf]; omega
          refine ⟨k + 1, by omega, by omega, by go_num, by rw [HT.out], below_drewN HY.out _⟩
        · obtain rfl : k = b := by omega
          have jj2 : decide ((k : Int) < (k : Int)) = false := decide_eq_false (by omega)
          have HTX : textS s C a (k - a) = uu := by
            have h := eq_of_beq HL3.out
            rw [show ((a : Int)).toNat = a from rfl, show ((k : Int) - (a : Int)).toNat = k - a from by omega] at h
            exact ByteArray.ext (Array.ext' h)
          have hd := HL5.out
          simp only [beq_iff_eq] at hd
          subst hd
          have hh : (xh == 1) = (i + 1 == nu) := eq_of_beq HL4.out
          have hj : ((i : Int) + 1 == (nu : Int)) = (i + 1 == nu) := by
            by_cases h : i + 1 = nu
            · rw [beq_iff_eq.2 h]; exact beq_iff_eq.2 (by omega)
            · rw [beq_eq_false_iff_ne.2 h]; exact beq_eq_false_iff_ne.2 (by omega)
          rw [HTX]
          clear HTX hy HL4
          cases hq : (i + 1 == nu) <;> rw [hq] at hh hj <;> clear hq
          all_goals
            go_wp2_with fail
            exact ⟨⟨i + 1, by omega, by go_num, HY.out⟩, by simp [RowKit.intOf]; omega⟩
    · obtain rfl : i = nu := by omega
      have j1 : decide ((i : Int) < (i : Int)) = false := decide_eq_false (by omega)
      go_wp2_with fail
      go_ret
      exact ⟨rfl, HB2.out.trans (HB.out.mono HB2.out.size)⟩
end Go.Proofs.Ytfbjgibjlppjoaa.Wr

/-
  Proved here: that parquetrylaw17.awake (the chapter's examples) returns true, for any program of lines that keeps to the plain ones; it leaves what was in memory. No other condition.
-/
set_option linter.unusedVariables false
namespace Go.Proofs.Ytfbjgibjlppjoaa.Wr
open Go Go.RowKit Go.Lib Go.Proofs.Ytfbjgibjlppjoaa.Ku Go.Proofs.Ytfbjgibjlppjoaa.Arr

def okB (s : ByteArray) (U : List ByteArray) : Bool := cutsB s (ofS s) && (showB s (ofS s) (linesP (ofS s) 5 1) U && decide ((ofS s).length ≤ 1000))
theorem ok1 : okB (⟨#[97, 98, 32, 99, 100]⟩ : ByteArray) [(⟨#[97, 98, 32, 99, 100]⟩ : ByteArray)] = true := by decide +kernel
theorem ok2 : okB (⟨#[97, 98, 32, 99, 100, 101, 32, 102]⟩ : ByteArray) [(⟨#[97, 98]⟩ : ByteArray), (⟨#[99, 100, 101, 32, 102]⟩ : ByteArray)] = true := by decide +kernel
theorem ok3 : okB (⟨#[97, 98, 99, 100, 101, 102, 103, 32, 104]⟩ : ByteArray) [(⟨#[97, 98, 99, 100, 101]⟩ : ByteArray), (⟨#[102, 103, 32, 104]⟩ : ByteArray)] = true := by decide +kernel
theorem ok4 : okB (⟨#[97, 98, 99, 100, 101, 32, 32, 32, 102]⟩ : ByteArray) [(⟨#[97, 98, 99, 100, 101]⟩ : ByteArray), (⟨#[102]⟩ : ByteArray)] = true := by decide +kernel
theorem ok5 : okB (⟨#[97, 98, 99, 100, 101, 32, 32, 32]⟩ : ByteArray) [(⟨#[97, 98, 99, 100, 101]⟩ : ByteArray)] = true := by decide +kernel
theorem ok6 : okB (⟨#[32, 32, 97, 98, 99, 100]⟩ : ByteArray) [(⟨#[32, 32, 97, 98, 99]⟩ : ByteArray), (⟨#[100]⟩ : ByteArray)] = true := by decide +kernel
theorem ok7 : okB (⟨#[]⟩ : ByteArray) [(⟨#[]⟩ : ByteArray)] = true := by decide +kernel
theorem ok8 : okB (⟨#[10]⟩ : ByteArray) [(⟨#[]⟩ : ByteArray)] = true := by decide +kernel
theorem made_texts (us : List ByteArray) (cs : Array Value) (e : TypeId) (w : World) (h : cs = (us.map Value.string).toArray) : TxAt (w.alloc (.cells cs e)) (some ⟨w.heap.size, 0, none⟩) us := by
  subst h
  refine .inr ⟨w.heap.size, 0, rfl, by simp, fun j hj => ?_⟩
  simp [hj]
theorem shows_ok (HLN : LinesOk) (s : ByteArray) (U : List ByteArray) (nu : Nat) (hs : s.size ≤ 1000) (hul : U.length = nu) (hnu : nu ≤ 1000) (hok : okB s U = true) (cs : Array Value) (e : TypeId) (hcs : cs = (U.map Value.string).toArray) (B cu : Nat) (w0 w : World) (hw : Below B w0 w) (hB : B ≤ w.heap.size) :
    Calls Try.prog 22 #[.string s, .slice (some ⟨w.heap.size, 0, none⟩) nu cu] (w.alloc (.cells cs e)) fun e w' => e = .returned (.bool true) ∧ (Below B w0 w' ∧ B ≤ w'.heap.size) := by
  unfold okB at hok
  simp only [Bool.and_eq_true, decide_eq_true_eq] at hok
  have hal := hw.alloc hB (.cells cs e)
  have hsz : B ≤ (w.alloc (.cells cs e)).heap.size := by rw [World.size_alloc]; omega
  refine (shows_of HLN s _ U nu cu (w.alloc (.cells cs e)) hs (made_texts U cs e w hcs) hul hok.1 hok.2.1 hok.2.2 hnu).mono ?_
  rintro e w' ⟨rfl, hb⟩
  exact ⟨rfl, hal.trans (hb.mono hsz), Nat.le_trans hsz hb.size⟩

set_option maxHeartbeats 4000000 in
set_option maxRecDepth 100000 in
theorem awake_of (HLN : LinesOk) (w : World) : Calls Try.prog 8 #[] w fun e w' => e = .returned (.bool true) ∧ Below w.heap.size w w' := by
  have H1 := Lib.hid (fun cs e hcs cu V (h : Below w.heap.size w V ∧ w.heap.size ≤ V.heap.size) => shows_ok HLN (⟨#[97, 98, 32, 99, 100]⟩ : ByteArray) [(⟨#[97, 98, 32, 99, 100]⟩ : ByteArray)] 1 (by decide) rfl (by decide) ok1 cs e hcs w.heap.size cu w V h.1 h.2)
  have H2 := Lib.hid (fun cs e hcs cu V (h : Below w.heap.size w V ∧ w.heap.size ≤ V.heap.size) => shows_ok HLN (⟨#[97, 98, 32, 99, 100, 101, 32, 102]⟩ : ByteArray) [(⟨#[97, 98]⟩ : ByteArray), (⟨#[99, 100, 101, 32, 102]⟩ : ByteArray)] 2 (by decide) rfl (by decide) ok2 cs e hcs w.heap.size cu w V h.1 h.2)
  have H3 := Lib.hid (fun cs e hcs cu V (h : Below w.heap.size w V ∧ w.heap.size ≤ V.heap.size) => shows_ok HLN (⟨#[97, 98, 99, 100, 101, 102, 103, 32, 104]⟩ : ByteArray) [(⟨#[97, 98, 99, 100, 101]⟩ : ByteArray), (⟨#[102, 103, 32, 104]⟩ : ByteArray)] 2 (by decide) rfl (by decide) ok3 cs e hcs w.heap.size cu w V h.1 h.2)
  have H4 := Lib.hid (fun cs e hcs cu V (h : Below w.heap.size w V ∧ w.heap.size ≤ V.heap.size) => shows_ok HLN (⟨#[97, 98, 99, 100, 101, 32, 32, 32, 102]⟩ : ByteArray) [(⟨#[97, 98, 99, 100, 101]⟩ : ByteArray), (⟨#[102]⟩ : ByteArray)] 2 (by decide) rfl (by decide) ok4 cs e hcs w.heap.size cu w V h.1 h.2)
  have H5 := Lib.hid (fun cs e hcs cu V (h : Below w.heap.size w V ∧ w.heap.size ≤ V.heap.size) => shows_ok HLN (⟨#[97, 98, 99, 100, 101, 32, 32, 32]⟩ : ByteArray) [(⟨#[97, 98, 99, 100, 101]⟩ : ByteArray)] 1 (by decide) rfl (by decide) ok5 cs e hcs w.heap.size cu w V h.1 h.2)
  have H6 := Lib.hid (fun cs e hcs cu V (h : Below w.heap.size w V ∧ w.heap.size ≤ V.heap.size) => shows_ok HLN (⟨#[32, 32, 97, 98, 99, 100]⟩ : ByteArray) [(⟨#[32, 32, 97, 98, 99]⟩ : ByteArray), (⟨#[100]⟩ : ByteArray)] 2 (by decide) rfl (by decide) ok6 cs e hcs w.heap.size cu w V h.1 h.2)
  have H7 := Lib.hid (fun cs e hcs cu V (h : Below w.heap.size w V ∧ w.heap.size ≤ V.heap.size) => shows_ok HLN (⟨#[]⟩ : ByteArray) [(⟨#[]⟩ : ByteArray)] 1 (by decide) rfl (by decide) ok7 cs e hcs w.heap.size cu w V h.1 h.2)
  have H8 := Lib.hid (fun cs e hcs cu V (h : Below w.heap.size w V ∧ w.heap.size ≤ V.heap.size) => shows_ok HLN (⟨#[10]⟩ : ByteArray) [(⟨#[]⟩ : ByteArray)] 1 (by decide) rfl (by decide) ok8 cs e hcs w.heap.size cu w V h.1 h.2)
  clear HLN
  have HB0 : Hid _ := Lib.hid (And.intro (Below.refl w.heap.size w) (Nat.le_refl w.heap.size))
  go_enter Try.func8, Try.ntmps8
  go_wp2_with fail
  refine (H1.out _ _ rfl _ _ HB0.out).mono ?_
  rintro e w1 ⟨rfl, hb1⟩
  have HB1 := Lib.hid hb1
  clear hb1 HB0 H1
  go_wp2_with fail
  refine (H2.out _ _ rfl _ _ HB1.out).mono ?_
  rintro e w2 ⟨rfl, hb2⟩
  have HB2 := Lib.hid hb2
  clear hb2 HB1 H2
  go_wp2_with fail
  refine (H3.out _ _ rfl _ _ HB2.out).mono ?_
  rintro e w3 ⟨rfl, hb3⟩
  have HB3 := Lib.hid hb3
  clear hb3 HB2 H3
  go_wp2_with fail
  refine (H4.out _ _ rfl _ _ HB3.out).mono ?_
  rintro e w4 ⟨rfl, hb4⟩
  have HB4 := Lib.hid hb4
  clear hb4 HB3 H4
  go_wp2_with fail
  refine (H5.out _ _ rfl _ _ HB4.out).mono ?_
  rintro e w5 ⟨rfl, hb5⟩
  have HB5 := Lib.hid hb5
  clear hb5 HB4 H5
  go_wp2_with fail
  refine (H6.out _ _ rfl _ _ HB5.out).mono ?_
  rintro e w6 ⟨rfl, hb6⟩
  have HB6 := Lib.hid hb6
  clear hb6 HB5 H6
  go_wp2_with fail
  refine (H7.out _ _ rfl _ _ HB6.out).mono ?_
  rintro e w7 ⟨rfl, hb7⟩
  have HB7 := Lib.hid hb7
  clear hb7 HB6 H7
  go_wp2_with fail
  refine (H8.out _ _ rfl _ _ HB7.out).mono ?_
  rintro e w8 ⟨rfl, hb8⟩
  have HB8 := Lib.hid hb8
  clear hb8 HB7 H8
  go_wp2_with fail
  go_ret
  exact ⟨rfl, HB8.out.1⟩
end Go.Proofs.Ytfbjgibjlppjoaa.Wr

/-
  Proved here: what parquetryref02.Table returns: a new row of the document's 22 rows of spans; it leaves what was in memory. No condition.
-/
set_option linter.unusedVariables false
namespace Go.Proofs.Ytfbjgibjlppjoaa.Rc
open Go.RowKit Go.Lib

abbrev TRow := Int × List Int
/-- The document's table: a class, and its spans: from, to, from, to, .. -/
def tableL : List TRow := [(1, [1424, 1424, 1470, 1470, 1472, 1472, 1475, 1475, 1478, 1478, 1480, 1535, 8207, 8207, 64285, 64285, 64287, 64296, 64298, 64335]),
  (2, [1544, 1544, 1547, 1547, 1549, 1549, 1563, 1610, 1645, 1647, 1649, 1749, 1765, 1766, 1774, 1775, 1786, 1791, 1872, 1919, 65136, 65278]),
  (3, [48, 57, 178, 179, 185, 185, 1776, 1785, 8304, 8304, 8308, 8313, 8320, 8329, 9352, 9371, 65296, 65305]),
  (4, [43, 43, 45, 45, 8314, 8315, 8330, 8331, 8722, 8722, 64297, 64297, 65122, 65123, 65291, 65291, 65293, 65293]),
  (5, [35, 37, 162, 165, 176, 177, 1423, 1423, 1545, 1546, 1642, 1642, 8240, 8244, 8352, 8399, 8723, 8723, 65119, 65119, 65129, 65130, 65283, 65285, 65504, 65505, 65509, 65510]),
  (6, [1536, 1541, 1632, 1641, 1643, 1644, 1757, 1757, 2274, 2274]),
  (7, [44, 44, 46, 47, 58, 58, 160, 160, 1548, 1548, 8239, 8239, 8260, 8260, 65104, 65104, 65106, 65106, 65109, 65109, 65292, 65292, 65294, 65295, 65306, 65306]),
  (8, [768, 879, 1155, 1161, 1425, 1469, 1471, 1471, 1473, 1474, 1476, 1477, 1479, 1479, 1552, 1562, 1611, 1631, 1648, 1648, 1750, 1756, 1759, 1764, 1767, 1768, 1770, 1773, 2364, 2364, 2369, 2376, 2381, 2381, 8400, 8432, 12330, 12333, 12441, 12442, 64286, 64286, 65024, 65039, 65056, 65071, 917760, 917999]),
  (9, [0, 8, 14, 27, 127, 132, 134, 159, 173, 173, 8203, 8205, 8288, 8293, 8298, 8303, 65279, 65279]),
  (10, [10, 10, 13, 13, 28, 30, 133, 133, 8233, 8233]),
  (11, [9, 9, 11, 11, 31, 31]),
  (12, [12, 12, 32, 32, 5760, 5760, 8192, 8202, 8232, 8232, 8287, 8287, 12288, 12288]),
  (13, [33, 34, 38, 42, 59, 64, 91, 96, 123, 126, 161, 161, 166, 169, 171, 172, 174, 175, 180, 180, 182, 184, 187, 191, 215, 215, 247, 247, 1542, 1543, 1550, 1551, 1758, 1758, 1769, 1769, 8208, 8231, 8245, 8259, 8261, 8286, 8316, 8318, 8332, 8334, 8592, 8721, 8724, 9013, 9472, 9899, 9901, 10239, 11904, 11929, 12289, 12292, 12296, 12320, 12336, 12336, 65281, 65282, 65286, 65290, 65307, 65312, 65339, 65344, 65371, 65381, 65529, 65533, 127744, 128591]),
  (14, [8234, 8234]),
  (16, [8235, 8235]),
  (18, [8236, 8236]),
  (15, [8237, 8237]),
  (17, [8238, 8238]),
  (19, [8294, 8294]),
  (20, [8295, 8295]),
  (21, [8296, 8296]),
  (22, [8297, 8297])]

/-- The operations that build such rows, one behind the other: dst, operation, guard. -/
def litParts (l : List Int) : Array (Nat × Operand) := ((l.zipIdx 0).map fun x => (x.2, Operand.const (Value.int .i64 x.1))).toArray
def rowOps (tS tR : TypeId) : Nat → List TRow → List (Option Tmp × Op × Option (Nat × Bool))
  | _, [] => []
  | i, r :: rs => (some i, .buildSlice tS r.2.length (litParts r.2), none) :: (some (i + 1), .build tR #[(0, .const (.int .i64 r.1)), (1, .tmp i)], none) :: rowOps tS tR (i + 2) rs
def rowV (B : Nat) (r : TRow) : Value := .agg #[.int .i64 r.1, .slice (some ⟨B, 0, none⟩) r.2.length r.2.length]
def rowWorld (e : TypeId) : List TRow → World → World
  | [], w => w
  | r :: rs, w => rowWorld e rs (w.alloc (.cells (r.2.map (Value.int .i64)).toArray e))
def rowAct : Nat → Nat → List TRow → Act → Act
  | _, _, [], a => a
  | i, B, r :: rs, a => rowAct (i + 2) (B + 1) rs ((a.put (some i) (.slice (some ⟨B, 0, none⟩) r.2.length r.2.length)).put (some (i + 1)) (rowV B r))

theorem eval_put {a : Act} {i : Nat} {v : Value} (h : i < a.tmps.size) : (a.put (some i) v).eval (.tmp i) = v := by
  simp [Act.put, Act.eval, h]

theorem wpList_rows {P : Program} {ops : Array Oper} {Q : Exit → Act → World → Prop} {rest : List Oper} (tS tR e : TypeId) (hu : P.underlying tS = some (.slice e)) (hsz : (P.info? e).map (·.size) = some 1) (hz : ((P.info? e).bind (·.zero)).isSome = true)
    (hb : ∀ c A n m, P.built tR [(0, .int .i64 c), (1, .slice A n m)] = some #[.int .i64 c, .slice A n m]) :
    ∀ (rows : List TRow) (l : List Oper) (i B : Nat) (a : Act) (w : World), w.heap.size = B → l.map (fun o => (o.dst, o.op, o.guard)) = rowOps tS tR i rows → (∀ r ∈ rows, 0 < r.2.length ∧ r.2.length ≤ 1000) → i + 2 * rows.length ≤ a.tmps.size →
      wpList P ops Q rest (rowAct i B rows a) (rowWorld e rows w) → wpList P ops Q (l ++ rest) a w
  | [], l, i, B, a, w, hB, hl, _, _, h => by
    rw [rowOps, List.map_eq_nil_iff] at hl
    subst hl
    exact h
  | r :: rs, l, i, B, a, w, hB, hl, hr, hs, h => by
    obtain _ | ⟨o1, _ | ⟨o2, l⟩⟩ := l
    · simp [rowOps] at hl
    · simp [rowOps] at hl
    simp only [List.map_cons, rowOps, List.cons.injEq, Prod.mk.injEq] at hl
    obtain ⟨⟨e1, e2, e3⟩, ⟨e4, e5, e6⟩, hl⟩ := hl
    obtain ⟨hp, hq⟩ := hr r (by simp)
    simp only [List.length_cons] at hs
    refine wpList_buildFlatAt e3 tS e r.2.length (litParts r.2) e2 .i64 r.2 B hB (some i) e1 hu hsz hz rfl hp (by omega) rfl ?_
    refine wpList_buildTo e6 tR _ e5 (some (i + 1)) e4 #[.int .i64 r.1, .slice (some ⟨B, 0, none⟩) r.2.length r.2.length] ?_ ?_
    · rw [← hb r.1 (some ⟨B, 0, none⟩) r.2.length r.2.length]
      congr 1
      rw [Array.toList_map]
      simp only [List.map_cons, List.map_nil]
      rw [eval_put (by omega)]
      rfl
    · exact wpList_rows tS tR e hu hsz hz hb rs l (i + 2) (B + 1) _ _ (by simp [hB]) hl (fun r hr' => hr r (by simp [hr'])) (by simp [Act.put]; omega) h

theorem rowWorld_size (e : TypeId) : ∀ (rows : List TRow) (w : World), (rowWorld e rows w).heap.size = w.heap.size + rows.length
  | [], w => rfl
  | r :: rs, w => by rw [rowWorld, rowWorld_size e rs]; simp; omega
theorem rowWorld_below (e : TypeId) : ∀ (rows : List TRow) (w : World), Below w.heap.size w (rowWorld e rows w)
  | [], w => Below.refl _ _
  | r :: rs, w => by
    have h1 : Below w.heap.size w (w.alloc (.cells (r.2.map (Value.int .i64)).toArray e)) := (Below.refl _ _).alloc (Nat.le_refl _) _
    exact h1.trans ((rowWorld_below e rs _).mono h1.size)
theorem rowWorld_cell (e : TypeId) : ∀ (rows : List TRow) (w : World) (i : Nat) (hi : i < rows.length) (j : Nat) (hj : j < rows[i].2.length), (rowWorld e rows w).cell? ⟨w.heap.size + i, j, none⟩ = some (.int .i64 rows[i].2[j])
  | r :: rs, w, 0, _, j, hj => by
    have h2 := rowWorld_below e rs (w.alloc (.cells (r.2.map (Value.int .i64)).toArray e))
    rw [rowWorld]
    refine (h2.cell (p := ⟨w.heap.size + 0, j, none⟩) (by simp)).trans ?_
    simp at hj ⊢
    try simp [hj]
  | r :: rs, w, i + 1, hi, j, hj => by
    have := rowWorld_cell e rs (w.alloc (.cells (r.2.map (Value.int .i64)).toArray e)) i (by simpa using hi) j (by simpa using hj)
    rw [rowWorld]
    rw [show (w.alloc (.cells (r.2.map (Value.int .i64)).toArray e)).heap.size + i = w.heap.size + (i + 1) from by simp; omega] at this
    simpa using this

/-- A table of rows in memory. -/
def TabAt (w : World) (b : Nat) (rows : List TRow) : Prop :=
  b < w.heap.size ∧ ∀ i (hi : i < rows.length), w.cell? ⟨b, i * 2, none⟩ = some (.int .i64 rows[i].1) ∧ ∃ g, g < w.heap.size ∧ w.cell? ⟨b, i * 2 + 1, none⟩ = some (.slice (some ⟨g, 0, none⟩) rows[i].2.length rows[i].2.length) ∧ ∀ j (hj : j < rows[i].2.length), w.cell? ⟨g, j, none⟩ = some (.int .i64 rows[i].2[j])
theorem TabAt.below {w w' : World} {b : Nat} {rows : List TRow} (h : TabAt w b rows) (hb : Below w.heap.size w w') : TabAt w' b rows := by
  refine ⟨Nat.lt_of_lt_of_le h.1 hb.size, fun i hi => ?_⟩
  obtain ⟨h1, g, h2, h3, h4⟩ := h.2 i hi
  exact ⟨(hb.cell (p := ⟨b, i * 2, none⟩) h.1).trans h1, g, Nat.lt_of_lt_of_le h2 hb.size, (hb.cell (p := ⟨b, i * 2 + 1, none⟩) h.1).trans h3, fun j hj => (hb.cell (p := ⟨g, j, none⟩) h2).trans (h4 j hj)⟩

def rowVs (B : Nat) (rows : List TRow) : List Value := (rows.zipIdx B).map fun x => rowV x.2 x.1
theorem rowVs_cells (B : Nat) (rows : List TRow) : ∀ v ∈ rowVs B rows, v.cells.size = 2 := by
  intro v hv
  obtain ⟨x, _, rfl⟩ := List.mem_map.1 hv
  rfl
theorem rowVs_at (B : Nat) (rows : List TRow) (i : Nat) (hi : i < rows.length) : (rowVs B rows)[i]? = some (rowV (B + i) rows[i]) := by
  unfold rowVs
  rw [List.getElem?_map, List.getElem?_zipIdx, List.getElem?_eq_getElem hi]
  rfl

theorem tab_made (e t : TypeId) (rows : List TRow) (w : World) : TabAt ((rowWorld e rows w).alloc (.cells ((rowVs w.heap.size rows).flatMap fun v => v.cells.toList).toArray t)) (w.heap.size + rows.length) rows := by
  have hs := rowWorld_size e rows w
  have hc := rowWorld_cell e rows w
  generalize rowWorld e rows w = w1 at *
  have hb : Below w1.heap.size w1 (w1.alloc (.cells ((rowVs w.heap.size rows).flatMap fun v => v.cells.toList).toArray t)) := (Below.refl _ _).alloc (Nat.le_refl _) _
  have hcell : ∀ k, (w1.alloc (.cells ((rowVs w.heap.size rows).flatMap fun v => v.cells.toList).toArray t)).cell? ⟨w1.heap.size, k, none⟩ = ((rowVs w.heap.size rows).flatMap fun v => v.cells.toList)[k]? := by
    intro k
    simp
  have hflat := Great.flat_get (s := 2) (by decide) (rowVs w.heap.size rows) (rowVs_cells _ _)
  rw [← hs]
  refine ⟨by simp, fun i hi => ?_⟩
  have hv := rowVs_at w.heap.size rows i hi
  refine ⟨?_, w.heap.size + i, ?_, ?_, fun j hj => ?_⟩
  · rw [hcell, hflat, show i * 2 / 2 = i from by omega, show i * 2 % 2 = 0 from by omega, hv]; rfl
  · have := hb.size; omega
  · rw [hcell, hflat, show (i * 2 + 1) / 2 = i from by omega, show (i * 2 + 1) % 2 = 1 from by omega, hv]; rfl
  · exact (hb.cell (p := ⟨w.heap.size + i, j, none⟩) (by simp only; omega)).trans (hc i hi j hj)

theorem wpList_assignTo {P : Program} {ops : Array Oper} {Q : Exit → Act → World → Prop} {rest : List Oper} {o : Oper} {a : Act} {w : World} (hg : o.guard = none) (x : Operand) (ho : o.op = .assign x)
    (h : wpList P ops Q rest (a.put o.dst (a.eval x)) w) : wpList P ops Q (o :: rest) a w :=
  wpList_plain hg fun K hK => by
    unfold Oper.wp execOp
    simp only [ho]
    exact hK _ _ h

def tabFrame (B : Nat) : Act := ⟨((.slice none 0 0 :: ((tableL.zipIdx B).flatMap fun x => [.slice (some ⟨x.2, 0, none⟩) x.1.2.length x.1.2.length, rowV x.2 x.1])) ++ [undef]).toArray, []⟩
def tab0 : Act := ⟨(.slice none 0 0 :: List.replicate 45 undef).toArray, []⟩
theorem tab_act (B : Nat) : rowAct 1 B tableL tab0 = tabFrame B := by kernel_rfl
theorem infoRow : (Try.prog.info? 57).map (fun i => (i.zero, i.size)) = some (some (.agg #[.int .i64 0, .slice none 0 0]), 2) := by kernel_rfl
theorem infoI1 : (Try.prog.info? 3).map (·.size) = some 1 := by kernel_rfl
theorem infoI2 : ((Try.prog.info? 3).bind (·.zero)).isSome = true := by kernel_rfl
theorem row_built (c : Int) (A : Option Addr) (n m : Nat) : Try.prog.built 57 [(0, .int .i64 c), (1, .slice A n m)] = some #[.int .i64 c, .slice A n m] := by kernel_rfl
def tabParts : Array (Nat × Operand) := ((List.range 22).map fun i => (i, Operand.tmp (2 * i + 2))).toArray
theorem tab_parts (B : Nat) : (tabParts.map fun (i, x) => (i, (tabFrame B).eval x)).toList = ((rowVs B tableL).zipIdx 0).map fun x => (x.2, x.1) := by kernel_rfl
theorem table_rows : ∀ r ∈ tableL, 0 < r.2.length ∧ r.2.length ≤ 1000 := by decide +kernel
theorem table_len : tableL.length = 22 := by kernel_rfl
theorem tab0_size : tab0.tmps.size = 46 := by kernel_rfl

theorem tabFrame_size (B : Nat) : (tabFrame B).tmps.size = 46 := by kernel_rfl
/-- A region that builds the rows, the slice of them, and hands it on. -/
theorem wp_tab {P : Program} {id : Nat} {l : List Oper} {Q : Exit → Act → World → Prop} {w : World} (tS tR e t : TypeId) (hu : P.underlying tS = some (.slice e)) (hsz : (P.info? e).map (·.size) = some 1) (hz : ((P.info? e).bind (·.zero)).isSome = true)
    (hb : ∀ c A n m, P.built tR [(0, .int .i64 c), (1, .slice A n m)] = some #[.int .i64 c, .slice A n m])
    (hu2 : P.underlying t = some (.slice tR)) (ie : TypeInfo) (z : Value) (hie : P.info? tR = some ie) (hzz : ie.zero = some z) (hs2 : ie.size = 2)
    (h1 : (l.take 44).map (fun o => (o.dst, o.op, o.guard)) = rowOps tS tR 1 tableL)
    (h2 : (l.drop 44).map (fun o => (o.dst, o.op, o.guard)) = [(some 45, .buildSlice t 22 tabParts, none), (some 0, .assign (.tmp 45), none)])
    (h : Q .normal (((tabFrame w.heap.size).put (some 45) (.slice (some ⟨w.heap.size + 22, 0, none⟩) 22 22)).put (some 0) (.slice (some ⟨w.heap.size + 22, 0, none⟩) 22 22)) ((rowWorld e tableL w).alloc (.cells ((rowVs w.heap.size tableL).flatMap fun v => v.cells.toList).toArray tR))) :
    (Code.region id l.toArray false).wp P Q tab0 w := by
  refine wp_region_lit ?_
  have hw : wpList P l.toArray Q (l.take 44 ++ l.drop 44) tab0 w := by
    refine wpList_rows tS tR e hu hsz hz hb tableL (l.take 44) 1 w.heap.size tab0 w rfl h1 table_rows (by rw [table_len, tab0_size]; decide) ?_
    rw [tab_act]
    generalize l.drop 44 = m at h2 ⊢
    obtain _ | ⟨o1, _ | ⟨o2, _ | ⟨o3, m⟩⟩⟩ := m
    · cases h2
    · simp at h2
    · simp only [List.map_cons, List.map_nil, List.cons.injEq, Prod.mk.injEq, and_true] at h2
      obtain ⟨⟨e1, e2, e3⟩, e4, e5, e6⟩ := h2
      have hsize : (rowWorld e tableL w).heap.size = w.heap.size + 22 := by rw [rowWorld_size, table_len]
      refine wpList_buildSlice e3 t tR 22 tabParts e2 _ ie z hu2 hie hzz (by rw [hs2]; decide) (by rw [hs2]; decide) (by
        rw [tab_parts, hs2]
        exact Great.fill_whole (s := 2) (by decide) (rowVs w.heap.size tableL) _ (rowVs_cells _ _) (by simp [rowVs, table_len])) ?_
      rw [hsize, e1]
      refine wpList_assignTo e6 (.tmp 45) e5 ?_
      rw [e4, eval_put (by rw [tabFrame_size]; decide)]
      exact h
    · simp at h2
  rwa [List.take_append_drop] at hw

set_option maxHeartbeats 4000000 in
set_option maxRecDepth 1000000 in
theorem table_any (w : World) :
    Calls Try.prog 31 #[] w fun e w' => e = .returned (.slice (some ⟨w.heap.size + 22, 0, none⟩) tableL.length tableL.length) ∧ TabAt w' (w.heap.size + 22) tableL ∧ Below w.heap.size w w' := by
  obtain ⟨i0, hi, hz0, hz1⟩ : ∃ i, Try.prog.info? 57 = some i ∧ i.zero = some (.agg #[.int .i64 0, .slice none 0 0]) ∧ i.size = 2 := by
    have := infoRow
    cases h : Try.prog.info? 57 with
    | none => rw [h] at this; cases this
    | some i => rw [h] at this; simp only [Option.map_some, Option.some.injEq, Prod.mk.injEq] at this; exact ⟨i, rfl, this.1, this.2⟩
  have hmade := tab_made 3 57 tableL w
  have hbelow : Below w.heap.size w ((rowWorld 3 tableL w).alloc (.cells ((rowVs w.heap.size tableL).flatMap fun v => v.cells.toList).toArray 57)) := (rowWorld_below _ _ _).alloc (by rw [rowWorld_size]; omega) _
  rw [table_len] at hmade ⊢
  generalize hW : ((rowWorld 3 tableL w).alloc (.cells ((rowVs w.heap.size tableL).flatMap fun v => v.cells.toList).toArray 57)) = W at hmade hbelow
  go_enter Try.func31, Try.ntmps31
  refine wp_seq (wp_region_lit (l := [_]) (wpList_assignTo rfl _ rfl ?_))
  show Exit.then _ _ _ _ _
  refine wp_seq ?_
  refine wp_tab 55 57 3 53 Try.underlying55 infoI1 infoI2 row_built Try.underlying53 i0 _ hi hz0 hz1 (by kernel_rfl) (by kernel_rfl) ?_
  rw [hW]
  refine wp_ret ?_
  go_ret
  exact ⟨by kernel_rfl, hmade, hbelow⟩
end Go.Proofs.Ytfbjgibjlppjoaa.Rc
