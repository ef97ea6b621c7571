/-
  Several texts in one, each with its own remark: ClSearch, RuAll, WkRow, BiOwn, LvOne, SqRows, BcLine, SlotsKit, WordsKit, SlotsR.
-/
import Derived.IntWalk
import Derived.OwnWalk
import Derived.Carry
import Derived.ProofKit
import Derived.Below
import Derived.Orders
import Derived.Test.YtlocnjenkanmpaaDoorMClSpans
import Derived.Test.YtlocnjenkanmpaaDoorM2
import Derived.Test.YtlocnjenkanmpaaDoorM1
import Derived.Test.YtlocnjenkanmpaaDoorM5
import Derived.Test.YtlocnjenkanmpaaDoorM20
import Derived.Test.YtlocnjenkanmpaaDoorRows

/-
  Proved here: what (class.span).against, the search by halves at spans, class.classIn and class.Of return, for every number; they leave what was in memory. No condition (the search: rising spans).
-/
set_option linter.unusedVariables false
namespace Go.Proofs.YtlocnjenkanmpaaDoor.Cl
open Go.RowKit Go.Lib
/-- A row of spans in memory. -/
def SpansAt (w : World) (b : Nat) (l : List Span) : Prop :=
  b < w.heap.size ∧ ∀ k (hk : k < l.length), w.cell? ⟨b, k * 3, none⟩ = some (.int .i64 l[k].1) ∧ w.cell? ⟨b, k * 3 + 1, none⟩ = some (.int .i64 l[k].2.1) ∧ w.cell? ⟨b, k * 3 + 2, none⟩ = some (.int .i64 l[k].2.2)
theorem SpansAt.below {w w' : World} {b : Nat} {l : List Span} (h : SpansAt w b l) (hb : Below w.heap.size w w') : SpansAt w' b l :=
  ⟨Nat.lt_of_lt_of_le h.1 hb.size, fun k hk => ⟨(hb.cell (p := ⟨b, k * 3, none⟩) h.1).trans (h.2 k hk).1, (hb.cell (p := ⟨b, k * 3 + 1, none⟩) h.1).trans (h.2 k hk).2.1, (hb.cell (p := ⟨b, k * 3 + 2, none⟩) h.1).trans (h.2 k hk).2.2⟩⟩
/-- Where a span lies, seen from a number. -/
def agst (s : Span) (c : Int) : Int := if s.2.1 < c then -1 else if c < s.1 then 1 else 0
set_option maxHeartbeats 400000 in
theorem against_any (a b d c : Int) (w : World) :
    Calls Tryd.prog 99 #[.agg #[.int .i64 a, .int .i64 b, .int .i64 d], .int .i64 c] w fun e w' => e = .returned (.int .i64 (agst (a, b, d) c)) ∧ Below w.heap.size w w' := by
  by_cases h1 : b < c
  · have e : agst (a, b, d) c = -1 := if_pos h1
    rw [e]
    clear e
    go_enter Tryd.func99, Tryd.ntmps99
    go_wp2
    go_ret
    exact ⟨rfl, (Below.refl _ _).alloc (Nat.le_refl _) _⟩
  · by_cases h2 : c < a
    · have e : agst (a, b, d) c = 1 := by unfold agst; rw [if_neg h1, if_pos h2]
      rw [e]
      clear e
      go_enter Tryd.func99, Tryd.ntmps99
      go_wp2
      go_ret
      exact ⟨rfl, (Below.refl _ _).alloc (Nat.le_refl _) _⟩
    · have e : agst (a, b, d) c = 0 := by unfold agst; rw [if_neg h1, if_neg h2]
      rw [e]
      clear e
      go_enter Tryd.func99, Tryd.ntmps99
      go_wp2
      go_ret
      exact ⟨rfl, (Below.refl _ _).alloc (Nat.le_refl _) _⟩
theorem agst_lt {s : Span} {c : Int} (h : s.2.1 < c) : decide (agst s c < 0) = true := by unfold agst; rw [if_pos h]; rfl
theorem agst_ge {s : Span} {c : Int} (h : ¬ s.2.1 < c) : decide (agst s c < 0) = false := by
  unfold agst
  rw [if_neg h]
  split <;> rfl
theorem agst_eq {s : Span} {c : Int} (h : ¬ s.2.1 < c) : (agst s c == 0) = decide (s.1 ≤ c) := by
  unfold agst
  rw [if_neg h]
  by_cases h2 : c < s.1
  · rw [if_pos h2, decide_eq_false (by omega)]; rfl
  · rw [if_neg h2, decide_eq_true (by omega)]; rfl
set_option maxHeartbeats 1000000 in
set_option maxRecDepth 100000 in
theorem search_any (b : Nat) (l : List Span) (c : Int) (w : World) (hS : SpansAt w b l) (hl : l.length ≤ 1000) (hr : rises l = true) :
    Calls Tryd.prog 98 #[.slice (some ⟨b, 0, none⟩) l.length l.length, .int .i64 c, .func (.func 99) #[] #[]] w fun e w' => e = .returned (.tuple #[.int .i64 (cnt l c), .bool (hitB l c)]) ∧ Below w.heap.size w w' := by
  have HR := Lib.hid hr
  clear hr
  go_enter Tryd.func98, Tryd.ntmps98
  go_wp2
  go_loopw [9, 10] (fun s9 s10 wx => ∃ i j : Nat, i ≤ j ∧ j ≤ l.length ∧ s9 = .int .i64 i ∧ s10 = .int .i64 j ∧ Below w.heap.size w wx ∧ (∀ k (hk : k < l.length), k < i → l[k].2.1 < c) ∧ (∀ k (hk : k < l.length), j ≤ k → c ≤ l[k].2.1)) (fun s9 s10 _ => (RowKit.intOf s10).toNat - (RowKit.intOf s9).toNat)
  case atStart => exact ⟨0, l.length, Nat.zero_le _, Nat.le_refl _, rfl, rfl, Below.refl _ _, fun k hk h => by omega, fun k hk h => by omega⟩
  case round =>
    obtain ⟨i, j, hij, hj, rfl, rfl, hb, hlo, hhi⟩ := hrel
    have HLO := Lib.hid hlo
    have HHI := Lib.hid hhi
    have HB := Lib.hid hb
    clear hlo hhi hb
    by_cases hlt : i < j
    · have hh : (i + j) / 2 < l.length := by omega
      obtain ⟨c0, c1, c2⟩ := (hS.below HB.out).2 _ hh
      generalize hs : l[(i + j) / 2] = s at c0 c1 c2
      obtain ⟨s0, s1, s2⟩ := s
      simp only at c0 c1 c2
      have hs' := Lib.hid hs
      clear hs
      by_cases hc : s1 < c
      · have hd := agst_lt (s := (s0, s1, s2)) hc
        have hc' := Lib.hid hc
        clear hc
        go_wp2_with fail
        refine (against_any s0 s1 s2 c _).mono ?_
        rintro e w' ⟨rfl, hb2⟩
        generalize agst (s0, s1, s2) c = v at *
        go_wp2
        go_roundw
        case rel =>
          refine ⟨(i + j) / 2 + 1, j, by omega, hj, by go_num, rfl, HB.out.trans (hb2.mono HB.out.size), fun k hk hki => ?_, HHI.out⟩
          exact rises_mono HR.out (j := (i + j) / 2) (by omega) hh (by rw [hs'.out]; exact hc'.out)
        case measure => simp [RowKit.intOf]; omega
      · have hd := agst_ge (s := (s0, s1, s2)) hc
        have hc' := Lib.hid hc
        clear hc
        go_wp2_with fail
        refine (against_any s0 s1 s2 c _).mono ?_
        rintro e w' ⟨rfl, hb2⟩
        generalize agst (s0, s1, s2) c = v at *
        go_wp2
        go_roundw
        case rel =>
          refine ⟨i, (i + j) / 2, by omega, by omega, rfl, by go_num, HB.out.trans (hb2.mono HB.out.size), HLO.out, fun k hk hki => ?_⟩
          have h1 := hc'.out
          have h2 := hs'.out
          rcases Nat.lt_or_eq_of_le hki with h3 | h3
          · have := rises_lt HR.out _ k hh hk h3
            rw [h2] at this
            simp only at this
            omega
          · subst h3
            rw [h2]
            simp only
            omega
        case measure => simp [RowKit.intOf]; omega
    · obtain rfl : i = j := by omega
      have hcnt : i = cnt l c := cnt_is HR.out (by omega) HLO.out (fun k hk h => by have := HHI.out k hk h; omega)
      have HC := Lib.hid hcnt
      clear hcnt
      by_cases hn : i < l.length
      · obtain ⟨c0, c1, c2⟩ := (hS.below HB.out).2 _ hn
        have hge := HHI.out i hn (Nat.le_refl _)
        generalize hs : l[i] = s at c0 c1 c2 hge
        obtain ⟨s0, s1, s2⟩ := s
        simp only at c0 c1 c2 hge
        have hs' := Lib.hid hs
        have he := Lib.hid (agst_eq (s := (s0, s1, s2)) (c := c) (by simp only; omega))
        clear hs
        go_wp2_with fail
        refine (against_any s0 s1 s2 c _).mono ?_
        rintro e w' ⟨rfl, hb2⟩
        go_wp2
        go_ret2
        refine ⟨?_, HB.out.trans (hb2.mono HB.out.size)⟩
        have he2 : (agst (s0, s1, s2) c == 0) = decide (s0 ≤ c) := he.out
        have hk : cnt l c < l.length := HC.out ▸ hn
        have e2 : hitB l c = decide (s0 ≤ c) := by
          rw [hitB_some hk]
          simp only [← HC.out, hs'.out]
        rw [e2, ← HC.out, ← he2]
        rfl
      · go_wp2
        go_ret2
        refine ⟨?_, HB.out⟩
        rw [hitB_none (by rw [← HC.out]; exact hn), ← HC.out]
        rfl
set_option maxHeartbeats 1000000 in
set_option maxRecDepth 100000 in
theorem classIn_any (b : Nat) (l : List Span) (c : Int) (w : World) (hS : SpansAt w b l) (hl : l.length ≤ 1000) (hr : rises l = true) :
    Calls Tryd.prog 89 #[.slice (some ⟨b, 0, none⟩) l.length l.length, .int .i64 c] w fun e w' => e = .returned (.int .i64 (ofT l c)) ∧ Below w.heap.size w w' := by
  have cS := Lib.hid (search_any b l c w hS hl hr)
  clear hr
  cases hh : hitB l c with
  | true =>
    obtain ⟨hk, ho⟩ := ofT_hit hh
    obtain ⟨v, hv⟩ : ∃ v, l[cnt l c].2.2 = v := ⟨_, rfl⟩
    rw [hh] at cS
    rw [ho, hv]
    have HS := Lib.hid hS
    have HV := Lib.hid hv
    clear ho hh hS hv
    go_enter Tryd.func89, Tryd.ntmps89
    go_wp2_with fail
    refine cS.out.mono ?_
    rintro e w' ⟨rfl, hb⟩
    have c2 := ((HS.out.below hb).2 _ hk).2.2
    rw [HV.out] at c2
    clear HV cS
    generalize cnt l c = k at *
    have hk' : (k : Int) < l.length := by omega
    go_wp2
    go_ret
    exact ⟨rfl, hb⟩
  | false =>
    have ho := ofT_miss hh
    rw [hh] at cS
    rw [ho]
    clear ho hh
    go_enter Tryd.func89, Tryd.ntmps89
    go_wp2_with fail
    refine cS.out.mono ?_
    rintro e w' ⟨rfl, hb⟩
    go_wp2
    go_ret
    exact ⟨rfl, hb⟩
theorem spanCells_at : ∀ (l : List Span) (k : Nat) (hk : k < l.length), (spanCells l)[k * 3]? = some (.int .i64 l[k].1) ∧ (spanCells l)[k * 3 + 1]? = some (.int .i64 l[k].2.1) ∧ (spanCells l)[k * 3 + 2]? = some (.int .i64 l[k].2.2)
  | r :: l, 0, _ => ⟨rfl, rfl, rfl⟩
  | r :: l, k + 1, hk => by
    have := spanCells_at l k (by simpa using hk)
    rw [show (k + 1) * 3 = k * 3 + 3 from by omega]
    exact this
theorem spansAt_made (l : List Span) (t : TypeId) (w : World) : SpansAt (w.alloc (.cells (spanCells l).toArray t)) w.heap.size l := by
  refine ⟨by simp, fun k hk => ?_⟩
  obtain ⟨h0, h1, h2⟩ := spanCells_at l k hk
  refine ⟨?_, ?_, ?_⟩
  · simpa using h0
  · simpa using h1
  · simpa using h2
/-- class.spans, as its callers read it. -/
theorem spans_reads (w : World) :
    Calls Tryd.prog 88 #[] w fun e w' => e = .returned (.slice (some ⟨w.heap.size, 0, none⟩) spansL.length spansL.length) ∧ SpansAt w' w.heap.size spansL ∧ Below w.heap.size w w' := by
  refine (spans_any w).mono ?_
  rintro e w' ⟨rfl, rfl⟩
  exact ⟨by rw [spans_len], spansAt_made _ _ _, (Below.refl _ _).alloc (Nat.le_refl _) _⟩
end Go.Proofs.YtlocnjenkanmpaaDoor.Cl

/-
  Proved here: what class.All returns, for every row of runes of whatever numbers, of at most 2^40: a new row of their classes, in order; it leaves what was in memory.
-/
set_option linter.unusedVariables false
namespace Go.Proofs.YtlocnjenkanmpaaDoor.Cl
open Go.RowKit Go.Lib
set_option maxHeartbeats 1000000 in
set_option maxRecDepth 100000 in
theorem allR_any (A : Option Addr) (l : List Ku.R3) (c : Nat) (w : World) (hR : Ku.RuAt w A l) (hn : l.length ≤ 1099511627776) :
    Calls Tryd.prog 67 #[.slice A l.length c] w fun e w' => ∃ v, e = .returned v ∧ w'.ownsRow w.heap.size 3 1 v l.length (iClR (clsR l)) ∧ Below w.heap.size w w' := by
  obtain ⟨i0, hi, hz0, hz1, hz2⟩ := info_parts infoInt
  have hl : spansL.length ≤ 1000 := by rw [spans_len]; decide
  have HRS := Lib.hid rises_spans
  have HR := Lib.hid hR
  clear hR
  go_enter Tryd.func67, Tryd.ntmps67
  go_wp2_with fail
  refine (spans_reads w).mono ?_
  rintro e w1 ⟨rfl, hS, hb1⟩
  have HS := Lib.hid hS
  clear hS
  have hR1 := Lib.hid (HR.out.below hb1)
  have hsz1 := hb1.size
  go_wp2_with fail
  go_loopw [4, 10] (fun s4 s10 wx => ∃ k : Nat, k ≤ l.length ∧ s10 = .int .i64 k ∧ Below w1.heap.size w1 wx ∧ wx.ownsRow w1.heap.size 3 1 s4 k (iClR (clsR (l.take k)))) (fun _ s10 _ => l.length - (RowKit.intOf s10).toNat)
  case atStart => exact ⟨0, Nat.zero_le _, rfl, Below.refl _ _, World.ownsRow_nil _ _ _ _⟩
  case round =>
    obtain ⟨k, hk, rfl, hb, hown⟩ := hrel
    by_cases hlt : k < l.length
    · obtain ⟨g, off, rfl, hg, c0, c1, c2⟩ := (hR1.out.below hb).at_ hlt
      have HT := Lib.hid (clsR_take hlt)
      have HOWN := Lib.hid hown
      have hbs := hb.size
      clear hown
      generalize l[k] = r at *
      have hbq : Below wr.heap.size wr (wr.alloc (.cells #[.int .i64 r.1, .int .i64 r.2.1, .int .i64 r.2.2] 36)) := (Below.refl _ _).alloc (Nat.le_refl _) _
      go_wp2_with fail
      generalize hw2 : wr.alloc (.cells #[.int .i64 r.1, .int .i64 r.2.1, .int .i64 r.2.2] 36) = w2 at *
      have HS2 := Lib.hid ((HS.out.below hb).below hbq)
      refine (classIn_any _ _ _ _ HS2.out hl HRS.out).mono ?_
      rintro e w3 ⟨rfl, hb3⟩
      have hown3 : w3.ownsRow w1.heap.size 3 1 u4 k (iClR (clsR (l.take k))) := ownsRow_below (ownsRow_below HOWN.out hbq) hb3
      have hb13 : Below w1.heap.size w1 w3 := hb.trans ((hbq.trans (hb3.mono hbq.size)).mono hbs)
      have hs13 := hb13.size
      have hlt2 := hown3.lt
      have e2 : ofT spansL r.2.2 = cls r.2.2 := rfl
      rw [e2]
      clear e2 hw2
      generalize cls r.2.2 = z at *
      clear hbq hb3
      go_wp2_with (at_builtin; refine wpList_append_own _ rfl _ _ 23 rfl w1.heap.size 3 i0 (.int .i64 0) 1 8 Tryd.underlying23 hi hz0 hz1 hz2 rfl (by decide) _ _ _ rfl (hown3.alloc _) ⟨w3.heap.size, 0, none⟩ 1 1 [.int .i64 z] rfl rfl ?c1 ?c2 ?c3 ?c4 ?c5 ?_)
      case c1 => exact cell_one_new _ _ _
      case c2 => intro u hu; simp only [List.mem_singleton] at hu; subst hu; rfl
      case c3 => unfold maxLen; omega
      case c4 => omega
      case c5 => simp; omega
      intro v' w4 hown' hgrow _
      have HG := Lib.hid hgrow
      have HO := Lib.hid hown'
      clear hgrow hown' hown3
      go_wp2
      go_roundw
      case measure => simp [RowKit.intOf]; omega
      case rel =>
        refine ⟨k + 1, by omega, by go_num, ?_, ?_⟩
        · exact (hb13.alloc hs13 _).grown HG.out (by simp; omega) (fun g hg => (hlt2 g hg).1)
        · rw [HT.out]; exact HO.out
    · obtain rfl : k = l.length := by omega
      rw [List.take_length] at hown
      go_wp2
      go_ret
      exact ⟨_, rfl, ownsRow_mono hown hsz1, hb1.trans (hb.mono hsz1)⟩
end Go.Proofs.YtlocnjenkanmpaaDoor.Cl

/-
  A row of classes of the call's own while rules write it: nothing else of memory changes; and what a rule is: a function value that, called, makes of what the row holds what it says. No program in it but its types.
-/
set_option linter.unusedVariables false
namespace Go.Proofs.YtlocnjenkanmpaaDoor.Wk
open Go Go.RowKit Go.Lib Go.Proofs.YtlocnjenkanmpaaDoor.Cl
theorem grown_refl (w : World) (r : Option Nat) : w.grownBy w r := ⟨rfl, rfl, rfl, Nat.le_refl _, fun _ _ _ => rfl⟩
theorem grown_trans {a b c : World} {r : Option Nat} (h : a.grownBy b r) (k : b.grownBy c r) : a.grownBy c r :=
  ⟨k.os.trans h.os, k.tape.trans h.tape, k.output.trans h.output, Nat.le_trans h.size k.size, fun i hi hne => (k.block i (Nat.lt_of_lt_of_le hi h.size) hne).trans (h.block i hi hne)⟩
theorem grown_below {w w' : World} (r : Option Nat) (h : Below w.heap.size w w') : w.grownBy w' r :=
  ⟨h.os, h.tape, h.output, h.size, fun i hi _ => h.block i hi⟩
/-- In the world wx the row (which lies from block base on) holds L; of w nothing else has changed. -/
structure Row (base : Nat) (A : Option Addr) (n c : Nat) (w : World) (L : List Int) (wx : World) : Prop where
  own : wx.ownsRow base 3 1 (.slice A n c) n (icl L)
  gr : w.grownBy wx (Value.slice A n c).ownBlock
section
variable {bs : Nat} {A : Option Addr} {n c : Nat} {w wx wy : World} {L : List Int}
theorem Row.len (h : Row bs A n c w L wx) : L.length = n := by
  have := h.own.1
  rw [icl_len] at this
  omega
theorem Row.below (h : Row bs A n c w L wx) (hb : Below wx.heap.size wx wy) : Row bs A n c w L wy :=
  ⟨ownsRow_below h.own hb, grown_trans h.gr (grown_below _ hb)⟩
theorem Row.alloc (h : Row bs A n c w L wx) (o : Obj) : Row bs A n c w L (wx.alloc o) := h.below (below_made wx o)
theorem Row.drew (h : Row bs A n c w L wx) : Row bs A n c w L wx.drew := h.below (Below.refl _ _).drew
theorem Row.base (h : Row bs A n c w L wx) : ∀ k, (Value.slice A n c).ownBlock = some k → bs ≤ k ∧ k < wx.heap.size := h.own.lt
/-- A block that is not the row's. -/
theorem Row.cell (h : Row bs A n c w L wx) {p : Addr} {v : Value} (hp : w.cell? p = some v) (hne : some p.block ≠ (Value.slice A n c).ownBlock) : wx.cell? p = some v := h.gr.cell hp hne
theorem Row.at_ (h : Row bs A n c w L wx) {d r : List Int} {x : Int} {k : Nat} (hL : L = d ++ x :: r) (hk : d.length = k) :
    ∃ g, A = some ⟨g, 0, none⟩ ∧ wx.cell? ⟨g, k, none⟩ = some (.int .i64 x) ∧ wx.frozen? ⟨g, k, none⟩ = false ∧ k < n ∧ n ≤ c ∧ ∀ z : Int, Row bs A n c w (d ++ z :: r) (wx.setCell ⟨g, k, none⟩ (.int .i64 z)) := by
  subst hk
  have hlen := h.len
  subst hL
  rw [List.length_append, List.length_cons] at hlen
  rcases h.own.2 with ⟨e, hn⟩ | ⟨g, cap, cur, e, hB, hg, hle, -⟩
  · omega
  · injection e with e1 e2 e3
    subst e1 e3
    refine ⟨g, rfl, ?_, h.own.frozenAt _, by omega, hle, fun z => ?_⟩
    · rw [h.own.cellAt _ (by omega)]
      simp [icl]
    · obtain ⟨h1, h2⟩ := h.own.stored d.length (.int .i64 z)
      refine ⟨?_, grown_trans h.gr h2⟩
      rw [show (icl (d ++ x :: r)).set d.length (.int .i64 z) = icl (d ++ z :: r) from by simp [icl]] at h1
      exact h1
end
/-- The function value fv, called in w or later, makes R of what the row holds. -/
def RuleOk (base : Nat) (A : Option Addr) (n c : Nat) (fv : Value) (R : List Int → List Int) (w : World) : Prop :=
  ∃ k mid caps, fv = .func (.func k) mid caps ∧ (∀ args W, (callFunc k args).run Tryd.prog W = .ok (.enter k args) W) ∧
    ∀ W L, w.grownBy W (Value.slice A n c).ownBlock → W.ownsRow base 3 1 (.slice A n c) n (icl L) →
      Calls Tryd.prog k (mid ++ caps) W fun e W' => e = .returned (.tuple #[]) ∧ Row base A n c W (R L) W'
theorem RuleOk.later {base : Nat} {A : Option Addr} {n c : Nat} {fv : Value} {R : List Int → List Int} {w w' : World} (h : RuleOk base A n c fv R w) (hg : w.grownBy w' (Value.slice A n c).ownBlock) : RuleOk base A n c fv R w' := by
  obtain ⟨k, mid, caps, e, h1, h2⟩ := h
  exact ⟨k, mid, caps, e, h1, fun W L hW hL => h2 W L (grown_trans hg hW) hL⟩
end Go.Proofs.YtlocnjenkanmpaaDoor.Wk

/-
  An own row of ints: its cells, its head, one of it stored. No program in it but its types.
-/
set_option linter.unusedVariables false
namespace Go.Proofs.YtlocnjenkanmpaaDoor.Bi
open Go Go.RowKit Go.Lib Go.Proofs.YtlocnjenkanmpaaDoor.Cl Go.Proofs.YtlocnjenkanmpaaDoor.Wk
theorem own_int {V : World} {base g n c : Nat} {O : List Int} (h : V.ownsRow base 3 1 (.slice (some ⟨g, 0, none⟩) n c) n (icl O)) {i : Nat} {x : Int} (hx : O[i]? = some x) : V.cell? ⟨g, i, none⟩ = some (.int .i64 x) ∧ V.frozen? ⟨g, i, none⟩ = false := by
  have hi := (List.getElem?_eq_some_iff.1 hx).1
  have hl : (icl O).length = n * 1 := h.1
  rw [icl_len] at hl
  refine ⟨?_, h.frozenAt _⟩
  rw [h.cellAt _ (by omega)]
  simp [icl, hx]
theorem own_head {V : World} {B n c : Nat} {A : Option Addr} {xs : List Value} (h : V.ownsRow B 3 1 (.slice A n c) n xs) (hn : 0 < n) : ∃ g, A = some ⟨g, 0, none⟩ := by
  rcases h.2 with ⟨e, h0⟩ | ⟨g, cap, cur, e, _⟩
  · omega
  · injection e with e1 _ _
    exact ⟨g, e1⟩
end Go.Proofs.YtlocnjenkanmpaaDoor.Bi

/-
  The built-in append of one number onto a row of numbers of the call's own: where the row lies then: where it lay, or in a block that is new. Two rows that grow side by side. No program in it.
-/
set_option linter.unusedVariables false
set_option maxRecDepth 100000
namespace Go.Proofs.YtlocnjenkanmpaaDoor.Cl
open Go Go.RowKit Go.Lib
/-- Two rows lie apart. -/
def Two (u v : Value) : Prop := u.ownBlock = none ∨ u.ownBlock ≠ v.ownBlock
theorem Two.nil (v : Value) : Two (.slice none 0 0) v := .inl rfl
theorem Two.swap {u v : Value} (h : Two u v) : Two v u := by
  rcases h with h | h
  · cases hv : v.ownBlock with
    | none => exact .inl hv
    | some k => exact .inr (by rw [h, hv]; exact fun e => by cases e)
  · exact .inr (fun e => h e.symm)
theorem Two.kept {w w' : World} {u v : Value} {base n : Nat} {xs : List Value} (h : Two u v) (ho : w.ownsRow base 3 1 v n xs) (hg : w.grownBy w' u.ownBlock) : w'.ownsRow base 3 1 v n xs := by
  refine ho.kept hg ?_
  rcases h.swap with h | h
  · exact .inl h
  · exact .inr h
end Go.Proofs.YtlocnjenkanmpaaDoor.Cl

/-
  Runs and sequences in memory: rows of structs of three ints and a row of ints, each row of its own; as they are read.
-/
set_option linter.unusedVariables false
namespace Go.Proofs.YtlocnjenkanmpaaDoor.Sq
open Go Go.RowKit Go.Lib Go.Proofs.YtlocnjenkanmpaaDoor.Cl
theorem own_ne {w : World} {B B' : Nat} {t t' : TypeId} {sz sz' : Nat} {v v' : Value} {n n' : Nat} {xs xs' : List Value} (h : w.ownsRow B t sz v n xs) (h' : w.ownsRow B' t' sz' v' n' xs') (ht : t ≠ t') : v.ownBlock = none ∨ v.ownBlock ≠ v'.ownBlock := by
  rcases h.2 with ⟨rfl, _⟩ | ⟨g, cap, cur, rfl, _, hg, _⟩
  · exact .inl rfl
  · rcases h'.2 with ⟨rfl, _⟩ | ⟨g', cap', cur', rfl, _, hg', _⟩
    · exact .inr (by simp [Value.ownBlock])
    · right
      intro e
      simp [Value.ownBlock] at e
      subst e
      rw [hg] at hg'
      injection hg' with hg'
      injection hg' with _ h2 _
      exact ht h2
theorem own_heap {w w' : World} {B : Nat} {t : TypeId} {sz : Nat} {v : Value} {n : Nat} {xs : List Value} (h : w.ownsRow B t sz v n xs) (e : w'.heap = w.heap) : w'.ownsRow B t sz v n xs := by
  unfold World.ownsRow at h ⊢
  rw [e]
  exact h
/-- Places as numbers. -/
def c4 (r : S4) (x : Value) : List Value := [.int .i64 r.a, .int .i64 r.b, .int .i64 r.c, x]
def cellsS : List S4 → List Value → List Value
  | r :: R, x :: X => c4 r x ++ cellsS R X
  | _, _ => []
theorem cellsS_snoc : ∀ {R : List S4} {X : List Value} (r : S4) (x : Value), X.length = R.length → cellsS (R ++ [r]) (X ++ [x]) = cellsS R X ++ c4 r x
  | [], [], r, x, _ => by simp [cellsS]
  | r0 :: R, x0 :: X, r, x, h => by
    have := cellsS_snoc (R := R) (X := X) r x (by simpa using h)
    simp only [List.cons_append, cellsS]
    rw [this, List.append_assoc]
/-- Such a row of the call's own, of a struct's type, with the values of its rows. -/
structure SqI (T : TypeId) (B : Nat) (w : World) (v : Value) (R : List S4) (X : List Value) : Prop where
  ty : T ≠ 3
  len : X.length = R.length
  row : w.ownsRow B T 4 v R.length (cellsS R X)
  own : ∀ i (h : i < R.length) x, X[i]? = some x → w.ownsRow B 3 1 x R[i].p.length (icl (ns R[i].p))
  two : ∀ (i j : Nat) (x y : Value), i ≠ j → X[i]? = some x → X[j]? = some y → Two x y
theorem SqI.nil {T : TypeId} (B : Nat) (w : World) (hT : T ≠ 3) : SqI T B w (.slice none 0 0) [] [] :=
  ⟨hT, rfl, World.ownsRow_nil _ _ _ _, fun i h => by simp at h, fun i j x y _ h => by simp at h⟩
theorem SqI.below {T : TypeId} {B : Nat} {w w' : World} {v : Value} {R : List S4} {X : List Value} (h : SqI T B w v R X) (hb : Below w.heap.size w w') : SqI T B w' v R X :=
  ⟨h.ty, h.len, ownsRow_below h.row hb, fun i hi x hx => ownsRow_below (h.own i hi x hx) hb, h.two⟩
theorem SqI.heap {T : TypeId} {B : Nat} {w w' : World} {v : Value} {R : List S4} {X : List Value} (h : SqI T B w v R X) (e : w'.heap = w.heap) : SqI T B w' v R X :=
  ⟨h.ty, h.len, own_heap h.row e, fun i hi x hx => own_heap (h.own i hi x hx) e, h.two⟩
theorem SqI.mono {T : TypeId} {B C : Nat} {w : World} {v : Value} {R : List S4} {X : List Value} (h : SqI T B w v R X) (hC : C ≤ B) : SqI T C w v R X :=
  ⟨h.ty, h.len, ownsRow_mono h.row hC, fun i hi x hx => ownsRow_mono (h.own i hi x hx) hC, h.two⟩
theorem SqI.val {T : TypeId} {B : Nat} {w : World} {v : Value} {R : List S4} {X : List Value} (h : SqI T B w v R X) {i : Nat} (hi : i < R.length) : ∃ x, X[i]? = some x := ⟨_, List.getElem?_eq_getElem (by rw [h.len]; exact hi)⟩
theorem SqI.lt {T : TypeId} {B : Nat} {w : World} {v : Value} {R : List S4} {X : List Value} (h : SqI T B w v R X) {i : Nat} {x : Value} (hx : X[i]? = some x) {k : Nat} (hk : x.ownBlock = some k) : B ≤ k ∧ k < w.heap.size := by
  have hi : i < R.length := by rw [← h.len]; exact (List.getElem?_eq_some_iff.1 hx).1
  exact (h.own i hi x hx).lt k hk
/-- Anything changes but blocks that are none of its own. -/
theorem SqI.kept {T : TypeId} {B : Nat} {w w' : World} {v : Value} {R : List S4} {X : List Value} (h : SqI T B w v R X) {row : Option Nat} (hg : w.grownBy w' row) (hr : ∀ k, row = some k → k < B) : SqI T B w' v R X := by
  have hn : ∀ (u : Value), (∀ k, u.ownBlock = some k → B ≤ k ∧ k < w.heap.size) → u.ownBlock = none ∨ u.ownBlock ≠ row := fun u hu => by
    cases hb : u.ownBlock with
    | none => exact .inl rfl
    | some k =>
      right
      intro e
      have := (hu k hb).1
      have := hr k e.symm
      omega
  exact ⟨h.ty, h.len, h.row.kept hg (hn v h.row.lt), fun i hi x hx => (h.own i hi x hx).kept hg (hn x (h.own i hi x hx).lt), h.two⟩
/-- Anything changes but cells. -/
theorem own_other {w w' : World} {B : Nat} {t : TypeId} {sz : Nat} {v : Value} {n : Nat} {xs : List Value} (h : w.ownsRow B t sz v n xs) {row : Option Nat} (hg : w.grownBy w' row) (hr : ∀ r, row = some r → ∀ b t' f, w.heap[r]? ≠ some (.cells b t' f)) : w'.ownsRow B t sz v n xs := by
  refine h.kept hg ?_
  rcases h.2 with ⟨rfl, _⟩ | ⟨g, cap, cur, rfl, _, hgb, _⟩
  · exact .inl rfl
  · refine .inr fun e' => ?_
    have ho := hr g (by simpa [Value.ownBlock] using e'.symm)
    exact ho _ _ _ hgb
/-- One more. -/
theorem SqI.push {T : TypeId} {B : Nat} {w w' : World} {v v' : Value} {R : List S4} {X : List Value} (h : SqI T B w v R X) (r : S4) (x : Value) (hrow : w'.ownsRow B T 4 v' (R.length + 1) (cellsS R X ++ c4 r x)) (hg : w.grownBy w' v.ownBlock)
    (hx : w.ownsRow B 3 1 x r.p.length (icl (ns r.p))) (h2 : ∀ y ∈ X, Two y x) : SqI T B w' v' (R ++ [r]) (X ++ [x]) := by
  have hl := h.len
  refine ⟨h.ty, by simp [hl], ?_, fun i hi y hy => ?_, fun i j y z hij hy hz => ?_⟩
  · rw [cellsS_snoc r x hl, List.length_append]
    exact hrow
  · by_cases hlt : i < R.length
    · have e : (R ++ [r])[i] = R[i] := List.getElem_append_left hlt
      rw [e]
      rw [List.getElem?_append_left (by omega)] at hy
      exact (h.own i hlt y hy).kept hg (own_ne (h.own i hlt y hy) h.row (fun e => h.ty e.symm))
    · have hi' : i = R.length := by simp at hi; omega
      subst hi'
      rw [List.getElem?_append_right (by omega), hl, Nat.sub_self] at hy
      simp at hy
      subst hy
      simp only [List.getElem_concat_length]
      exact hx.kept hg (own_ne hx h.row (fun e => h.ty e.symm))
  · have hcase : ∀ (i : Nat) (y : Value), (X ++ [x])[i]? = some y → (i < X.length ∧ X[i]? = some y) ∨ (i = X.length ∧ y = x) := fun i y hy => by
      by_cases hi : i < X.length
      · rw [List.getElem?_append_left hi] at hy
        exact .inl ⟨hi, hy⟩
      · rw [List.getElem?_append_right (by omega)] at hy
        have : i - X.length = 0 := by
          have := (List.getElem?_eq_some_iff.1 hy).1
          simp at this
          omega
        rw [this] at hy
        simp at hy
        exact .inr ⟨by omega, hy.symm⟩
    rcases hcase i y hy with ⟨h3, h4⟩ | ⟨h3, h4⟩
    · rcases hcase j z hz with ⟨h5, h6⟩ | ⟨h5, h6⟩
      · exact h.two i j y z hij h4 h6
      · subst h6
        exact h2 y (List.mem_of_getElem? h4)
    · rcases hcase j z hz with ⟨h5, h6⟩ | ⟨h5, h6⟩
      · subst h4
        exact (h2 z (List.mem_of_getElem? h6)).swap
      · omega
/-- Such a row as it is read. -/
def SqAt (w : World) (A : Option Addr) (R : List S4) : Prop :=
  R = [] ∨ ∃ b off, A = some ⟨b, off, none⟩ ∧ b < w.heap.size ∧ ∀ k (hk : k < R.length), ∃ A' c, w.cell? ⟨b, off + k * 4, none⟩ = some (.int .i64 R[k].a) ∧ w.cell? ⟨b, off + k * 4 + 1, none⟩ = some (.int .i64 R[k].b) ∧ w.cell? ⟨b, off + k * 4 + 2, none⟩ = some (.int .i64 R[k].c) ∧ w.cell? ⟨b, off + k * 4 + 3, none⟩ = some (.slice A' R[k].p.length c) ∧ IntsAt w A' (ns R[k].p)
theorem SqAt.below {w w' : World} {A : Option Addr} {R : List S4} (h : SqAt w A R) (hb : Below w.heap.size w w') : SqAt w' A R := by
  rcases h with h | ⟨b, off, hA, hlt, hc⟩
  · exact .inl h
  · refine .inr ⟨b, off, hA, Nat.lt_of_lt_of_le hlt hb.size, fun k hk => ?_⟩
    obtain ⟨A', c, h0, h1, h2, h3, h4⟩ := hc k hk
    exact ⟨A', c, (hb.cell (p := ⟨b, off + k * 4, none⟩) hlt).trans h0, (hb.cell (p := ⟨b, off + k * 4 + 1, none⟩) hlt).trans h1, (hb.cell (p := ⟨b, off + k * 4 + 2, none⟩) hlt).trans h2, (hb.cell (p := ⟨b, off + k * 4 + 3, none⟩) hlt).trans h3, h4.below hb⟩
theorem SqAt.at_ {w : World} {A : Option Addr} {R : List S4} (h : SqAt w A R) {k : Nat} (hk : k < R.length) : ∃ b off A' c, A = some ⟨b, off, none⟩ ∧ w.cell? ⟨b, off + k * 4, none⟩ = some (.int .i64 R[k].a) ∧ w.cell? ⟨b, off + k * 4 + 1, none⟩ = some (.int .i64 R[k].b) ∧ w.cell? ⟨b, off + k * 4 + 2, none⟩ = some (.int .i64 R[k].c) ∧ w.cell? ⟨b, off + k * 4 + 3, none⟩ = some (.slice A' R[k].p.length c) ∧ IntsAt w A' (ns R[k].p) := by
  rcases h with rfl | ⟨b, off, hA, hlt, hc⟩
  · simp at hk
  · obtain ⟨A', c, h0, h1, h2, h3, h4⟩ := hc k hk
    exact ⟨b, off, A', c, hA, h0, h1, h2, h3, h4⟩
theorem SqAt.nil_len {w : World} {A : Option Addr} {R : List S4} (h : SqAt w A R) : A = none → R.length = 0 := by
  rintro rfl
  rcases h with rfl | ⟨b, off, hA, _⟩
  · rfl
  · cases hA
end Go.Proofs.YtlocnjenkanmpaaDoor.Sq

/-
  Proved here: what bidi.Line returns, for every row of runes and of levels of at most 2^40, and every number as the paragraph's level: the plain levels of a line. It leaves what was in memory.
-/
set_option linter.unusedVariables false
namespace Go.Proofs.YtlocnjenkanmpaaDoor.Bi
open Go Go.RowKit Go.Lib Go.Proofs.YtlocnjenkanmpaaDoor.Cl Go.Shelf
attribute [local go_sem] Oper.semAt_some
theorem line_cells {W W' : World} {row : Option Nat} (hg : W.grownBy W' row) (hr : ∀ r, row = some r → ∃ o : Obj, W.heap[r]? = some o ∧ o.isCells = false) {k : Nat} {b : Array Value} {t : TypeId} {f : Nat × Nat} (h : W.heap[k]? = some (.cells b t f)) : W'.heap[k]? = some (.cells b t f) :=
  (grownBy_keeps_cells hg hr h rfl).trans h
theorem line_no {W : World} {row : Option Nat} (hr : ∀ r, row = some r → ∃ o : Obj, W.heap[r]? = some o ∧ o.isCells = false) : ∀ r, row = some r → ∀ b t' f, W.heap[r]? ≠ some (.cells b t' f) := by
  intro r e b t f h
  obtain ⟨o, ho, hc⟩ := hr r e
  rw [h] at ho
  cases ho
  cases hc
/-- What lies in memory behind each place. -/
structure LineAt (p : Int) (A B : Option Addr) (n c d b5 b7 : Nat) (lv C : List Int) (w : World) (pre : List Nat) (W : World) : Prop where
  h5 : W.heap[b5]? = some (.cells #[.int .i64 p] 3 (0, 0))
  h7 : W.heap[b7]? = some (.cells #[.slice A n c] 23 (0, 0))
  own : W.ownsRow (w.heap.size + 1) 3 1 (.slice A n c) n (icl (putP p lv pre))
  cls : W.ownsRow (b7 + 1) 3 1 (.slice B n d) n (icl C)
  below : Below w.heap.size w W
theorem LineAt.keeps {p : Int} {A B : Option Addr} {n c d b5 b7 : Nat} {lv C : List Int} {w : World} (k : Nat) (hk : w.heap.size ≤ k) : OwnFrom k (LineAt p A B n c d b5 b7 lv C w) := by
  rintro pre W W' row ⟨h1, h2, h3, h4, h5⟩ hg hr
  have hr' : ∀ r, row = some r → ∃ o : Obj, W.heap[r]? = some o ∧ o.isCells = false := fun r e => (hr r e).2
  exact ⟨line_cells hg hr' h1, line_cells hg hr' h2, Sq.own_other h3 hg (line_no hr'), Sq.own_other h4 hg (line_no hr'), h5.grown hg h5.size (fun k e => by have := (hr k e).1; omega)⟩
theorem LineAt.put {p : Int} {B : Option Addr} {n c d b5 b7 g : Nat} {lv C : List Int} {w W : World} {pre : List Nat} (h : LineAt p (some ⟨g, 0, none⟩) B n c d b5 b7 lv C w pre W) (h5 : b5 = w.heap.size) (hg : g < b7) (x : Nat) : LineAt p (some ⟨g, 0, none⟩) B n c d b5 b7 lv C w (pre ++ [x]) (W.setCell ⟨g, x, none⟩ (.int .i64 p)) := by
  have hlt := h.own.lt g rfl
  refine ⟨(heap_setCell_other W ⟨g, x, none⟩ b5 _ (by show b5 ≠ g; omega)).trans h.h5, (heap_setCell_other W ⟨g, x, none⟩ b7 _ (by show b7 ≠ g; omega)).trans h.h7, ?_, ?_, h.below.setCell (p := ⟨g, x, none⟩) (by show w.heap.size ≤ g; omega) _⟩
  · have := (h.own.stored x (.int .i64 p)).1
    rw [show (icl (putP p lv pre)).set x (.int .i64 p) = icl (putP p lv (pre ++ [x])) from by rw [putP_snoc]; simp [icl]] at this
    exact this
  · refine ownsRow_setCell_other h.cls (a := ⟨g, x, none⟩) (fun e => ?_) _
    have := (h.cls.lt g e).1
    omega
set_option maxHeartbeats 4000000 in
set_option maxRecDepth 100000 in
theorem line_any (A1 A2 : Option Addr) (l : List Ku.R3) (lv : List Int) (n m c1 c2 : Nat) (p : Int) (w : World) (hR : Ku.RuAt w A1 l) (hI : IntsAt w A2 lv) (hl : l.length = n) (hm : lv.length = m) (hn : n ≤ 1099511627776) :
    Calls Tryd.prog 47 #[.slice A1 n c1, .slice A2 m c2, .int .i64 p] w fun e w' => ∃ A c, e = .returned (.slice A (lineZ (clsR l) lv p).length c) ∧ w'.ownsRow w.heap.size 3 1 (.slice A (lineZ (clsR l) lv p).length c) (lineZ (clsR l) lv p).length (icl (lineZ (clsR l) lv p)) ∧ Below w.heap.size w w' := by
  by_cases hnm : n = m
  · have hlen : (lineZ (clsR l) lv p).length = n := by
      unfold lineZ
      rw [if_pos (by rw [clsR_len, hl, hm, hnm]), line_len p _ _ (by rw [clsR_len, hl, hm, hnm]), hm, hnm]
    rw [hlen]
    have e0 : lineZ (clsR l) lv p = putP p lv (backS (fun i => endB ((clsR l).drop i)) n n) := by
      unfold lineZ
      rw [if_pos (by rw [clsR_len, hl, hm, hnm]), ← put_line p (clsR l) lv (by rw [clsR_len, hl, hm, hnm]), clsR_len, hl]
    rw [e0]
    subst hnm
    subst hl
    have hb0 : Below w.heap.size w (w.alloc (.cells #[.int .i64 p] 3)) := (Below.refl _ _).alloc (Nat.le_refl _) _
    have hx0 : (w.alloc (.cells #[.int .i64 p] 3)).heap[w.heap.size]? = some (.cells #[.int .i64 p] 3 (0, 0)) := heap_alloc_last _ _
    have hs0 : (w.alloc (.cells #[.int .i64 p] 3)).heap.size = w.heap.size + 1 := World.size_alloc _ _
    have HCLN := Lib.hid (fun W (h : Below w.heap.size w W) => Wk.clone_any A2 lv l.length c2 W (hI.below h) hm hn)
    have HALL := Lib.hid (fun W (h : Below w.heap.size w W) => allR_any A1 l c1 W (hR.below h) hn)
    obtain ⟨C, hC⟩ : ∃ C, clsR l = C := ⟨_, rfl⟩
    have HCL := Lib.hid (show C.length = l.length from by rw [← hC]; exact clsR_len l)
    rw [hC] at HALL ⊢
    have HM := Lib.hid hm
    clear hR hI hm hC e0 hlen
    generalize l.length = n at *
    have HX0 := Lib.hid hx0
    have HS0 := Lib.hid hs0
    have HB0 := Lib.hid hb0
    clear hx0 hs0 hb0
    refine (callsIn_wide (n := 6)).1 ?_
    refine callsIn_of_wp_marks Tryd.func47 rfl trivial (wpIn_wide.2 ?_) rfl
    simp only [Tryd.ntmps47, List.size_toArray, List.length_cons, List.length_nil, Nat.reduceAdd, Nat.reduceSub, Array.replicate_succ, Array.replicate_zero, List.push_toArray, List.append_toArray, List.nil_append, List.cons_append]
    go_wp2_with fail
    generalize w.alloc (.cells #[.int .i64 p] 3) = w1 at *
    refine (HCLN.out _ HB0.out).mono ?_
    rintro e w2 ⟨A, c, rfl, ho2, hb2⟩
    have HO2 := Lib.hid ho2
    have HB2 := Lib.hid (HB0.out.trans (hb2.mono HB0.out.size))
    have HX2 := Lib.hid ((hb2.block w.heap.size (by rw [HS0.out]; omega)).trans HX0.out)
    have HS2 := Lib.hid hb2.size
    rw [HS0.out] at HO2 HS2
    clear ho2 hb2 HCLN HB0 HX0
    have hb3 : Below w2.heap.size w2 (w2.alloc (.cells #[.slice A n c] 23)) := (Below.refl _ _).alloc (Nat.le_refl _) _
    have HX3 := Lib.hid (show (w2.alloc (.cells #[.slice A n c] 23)).heap[w2.heap.size]? = some (.cells #[.slice A n c] 23 (0, 0)) from heap_alloc_last _ _)
    have HS3 := Lib.hid (show (w2.alloc (.cells #[.slice A n c] 23)).heap.size = w2.heap.size + 1 from World.size_alloc _ _)
    have HB3 := Lib.hid (HB2.out.trans (hb3.mono HB2.out.size))
    have HO3 := Lib.hid (ownsRow_below HO2.out hb3)
    have HX23 := Lib.hid ((hb3.block w.heap.size (by have := HS2.out; omega)).trans HX2.out)
    have HLT := Lib.hid (fun g h => (HO2.out.lt g h).2)
    clear hb3 HO2 HB2 HX2
    go_wp2_with fail
    generalize w2.alloc (.cells #[.slice A n c] 23) = w3 at *
    refine (HALL.out _ HB3.out).mono ?_
    rintro e w4 ⟨v, rfl, ho4, hb4⟩
    obtain ⟨B, d, rfl, i4⟩ := intsAt_icl (zs := C) ho4 HCL.out
    have hsz3 := HS3.out
    have HLA := Lib.hid (show LineAt p A B n c d w.heap.size w2.heap.size lv C w [] w4 from ⟨(hb4.block w.heap.size (by have := HS2.out; omega)).trans HX23.out, (hb4.block w2.heap.size (by omega)).trans HX3.out, ownsRow_below HO3.out hb4, ownsRow_mono ho4 (by omega), HB3.out.trans (hb4.mono HB3.out.size)⟩)
    have hs4 := HLA.out.below.size
    clear ho4 i4 hb4 HALL HB3 HO3 HX3 HX23
    go_wp2_with fail
    refine wpIn_wide.1 (wp_rangeOwn (n := 6) (by omega) (gf := 68) (la := #[.slice B n d]) rfl (enters_of Tryd.func68 (by kernel_rfl) rfl) (reset_gives _ (by omega) B n d C HCL.out hn) (fun _ => rfl)
      (LineAt p A B n c d w.heap.size w2.heap.size lv C w) (LineAt.keeps _ hs4) (fun s V h => by
        obtain ⟨B', d', e, hi⟩ := intsAt_icl h.cls HCL.out
        injection e with e1 e2 e3
        subst e1
        exact hi) HLA.out
      (fun x : Nat => { tmps := #[.slice A1 n c1, .slice A2 n c2, .int .i64 p, undef, undef, .pointer (some ⟨w.heap.size, 0, none⟩), .slice none 0 0, .pointer (some ⟨w2.heap.size, 0, none⟩), .int .i64 x, .slice A1 n c1, .int .i64 n, .slice A2 n c2, .int .i64 n, .bool false, .slice A2 n c2, .slice A n c, .slice A1 n c1, .slice B n d, .func (.func 68) #[.slice B n d] #[], .int .i64 x, undef, undef, undef, undef, undef], defers := [] }) ?assign ?body ?done)
    case assign =>
      intro l0 x V K hK
      gi_wp2_with fail
      exact hK
    case done =>
      rintro D V hD h hK
      have hc := cell_of_row V w2.heap.size 0 _ _ _ h.h7
      go_wp2_with fail
      refine ⟨by simp, .inl ⟨_, _, rfl, run_takeDeferred hK, ?_⟩⟩
      exact ⟨_, results_tmp rfl _ _ _, A, c, rfl, (Sq.own_other h.own (grownBy_putObj' V D _) (fun r e => by cases e; exact fun b t f h => by rw [hK] at h; cases h)).mono (by omega), h.below.trans (belowK_b (w := w) (Nat.le_refl _) V D _ _ (by omega) hK rfl rfl)⟩
    case body =>
      rintro l0 pre x V h hpre
      have hx : x < n := ((backS_mem _ _ _ (Nat.le_refl _) x).1 (hpre.subset (by simp))).2.1
      obtain ⟨g, rfl⟩ := own_head h.own (by omega)
      have hc5 := cell_of_row V w.heap.size 0 _ _ _ h.h5
      have hc7 := cell_of_row V w2.heap.size 0 _ _ _ h.h7
      have hxl : x < (putP p lv pre).length := by rw [putP_len, HM.out]; exact hx
      obtain ⟨p1, q1⟩ := own_int h.own (List.getElem?_eq_getElem hxl)
      have HPUT := Lib.hid (h.put rfl (HLT.out g rfl) x)
      have hk0 : (0 : Int) ≤ (x : Int) := by omega
      have hk1 : (x : Int) < (n : Int) := by omega
      generalize (putP p lv pre)[x] = y at *
      clear h hpre
      gi_wp2_with fail
      exact ⟨(KeepsOthers.setCell V ⟨g, x, none⟩ _).from _, HPUT.out⟩
  · have e0 : lineZ (clsR l) lv p = [] := by unfold lineZ; rw [if_neg (by rw [clsR_len, hl, hm]; exact hnm)]
    rw [e0]
    have hne : ((n : Int) != (m : Int)) = true := bne_iff_ne.2 (by omega)
    have hne2 : (n != m) = true := bne_iff_ne.2 hnm
    clear hR hI hl hm e0
    go_enter Tryd.func47, Tryd.ntmps47
    go_wp2
    go_ret
    exact ⟨none, 0, rfl, World.ownsRow_nil _ _ _ _, (Below.refl _ _).alloc (Nat.le_refl _) _⟩
end Go.Proofs.YtlocnjenkanmpaaDoor.Bi

/-
  A region that draws its order, whose operations all yield (no store, no guard) and may make memory: each operation's word on what its slot holds, under what the slots hold that it waits for, is enough, whatever order is drawn: no branching over orders. No program in it.
-/
set_option linter.unusedVariables false
namespace Go.Proofs.YtlocnjenkanmpaaDoor.Slots
open Go Go.RowKit
/-- Each operation has a slot of its own, below N, no guard, and waits for earlier ones alone. -/
def okRegion (ops : Array Oper) (N : Nat) : Bool :=
  (List.range ops.size).all fun i => match ops[i]? with
    | none => true
    | some o => o.guard.isNone && o.after.all (fun e => decide (e.on < i)) && match o.dst with
      | none => false
      | some d => decide (d < N) && (List.range i).all fun j => (ops[j]?).bind (·.dst) != some d
theorem okRegion_spec {ops : Array Oper} {N : Nat} (h : okRegion ops N = true) {i : Nat} {o : Oper} (ho : ops[i]? = some o) :
    o.guard = none ∧ (∀ e ∈ o.after, e.on < i) ∧ ∃ d, o.dst = some d ∧ d < N ∧ ∀ j, j < i → ∀ o', ops[j]? = some o' → o'.dst ≠ some d := by
  have hi : i < ops.size := (Array.getElem?_eq_some_iff.1 ho).1
  have h1 := List.all_eq_true.1 h i (List.mem_range.2 hi)
  simp only [ho, Bool.and_eq_true] at h1
  obtain ⟨⟨h2, h3⟩, h4⟩ := h1
  refine ⟨by simpa using h2, fun e he => by simpa using (Array.all_eq_true_iff_forall_mem.1 h3) e he, ?_⟩
  cases hd : o.dst with
  | none => rw [hd] at h4; cases h4
  | some d =>
    rw [hd] at h4
    simp only [Bool.and_eq_true] at h4
    refine ⟨d, rfl, by simpa using h4.1, fun j hj o' ho' e => ?_⟩
    have := List.all_eq_true.1 h4.2 j (List.mem_range.2 hj)
    simp [ho', e] at this
def slotOf (ops : Array Oper) (a : Act) (i : Nat) : Value := match (ops[i]?).bind (·.dst) with
  | some d => a.tmps.getD d undef
  | none => undef
/-- Does an operation wait for that one, or for one that does (within so many steps)? -/
def waitsOn (md : Region.Mode) (ops : Array Oper) : Nat → Nat → Nat → Bool
  | 0, _, _ => false
  | k + 1, j, i => match ops[j]? with
    | none => false
    | some o => o.after.any fun e => Region.binds md e && (e.on == i || waitsOn md ops k e.on i)
theorem waits_listed {md : Region.Mode} {ops : Array Oper} {listed : Array Bool} (hc : ∀ j o, ops[j]? = some o → listed.getD j false = true → ∀ e ∈ o.after, Region.binds md e = true → listed.getD e.on false = true) :
    ∀ (k j i : Nat), waitsOn md ops k j i = true → listed.getD j false = true → listed.getD i false = true
  | 0, _, _, h, _ => by cases h
  | k + 1, j, i, h, hl => by
    unfold waitsOn at h
    cases ho : ops[j]? with
    | none => rw [ho] at h; cases h
    | some o =>
      rw [ho] at h
      simp only [Array.any_eq_true'] at h
      obtain ⟨e, he, h2⟩ := h
      simp only [Bool.and_eq_true, Bool.or_eq_true, beq_iff_eq] at h2
      have h3 := hc j o ho hl e he h2.1
      rcases h2.2 with rfl | h4
      · exact h3
      · exact waits_listed hc k e.on i h4 h3
/-- What the region's slots do not reach is as it was. -/
structure SameBut (ops : Array Oper) (a0 a : Act) : Prop where
  size : a.tmps.size = a0.tmps.size
  defers : a.defers = a0.defers
  slot : ∀ t, (ops.all fun o => o.dst != some t) = true → a.tmps.getD t undef = a0.tmps.getD t undef
theorem SameBut.refl (ops : Array Oper) (a : Act) : SameBut ops a a := ⟨rfl, rfl, fun _ _ => rfl⟩
theorem SameBut.put {ops : Array Oper} {a0 a : Act} (h : SameBut ops a0 a) {i : Nat} {o : Oper} (ho : ops[i]? = some o) (v : Value) : SameBut ops a0 (a.put o.dst v) := by
  cases hd : o.dst with
  | none => exact h
  | some d =>
    refine ⟨by simp [Act.put, h.size], h.defers, fun t ht => ?_⟩
    rw [← h.slot t ht]
    have hne : d ≠ t := by
      intro e
      have h1 := (Array.all_eq_true_iff_forall_mem.1 ht) o (Array.mem_of_getElem? ho)
      simp [hd, e] at h1
    simp only [Act.put]
    simp [Array.getElem?_setIfInBounds_ne hne]
section
variable {P : Program} {ops : Array Oper} {Q : Exit → Act → World → Prop} {md : Region.Mode} {Φ : Nat → Value → World → Prop} {a0 : Act} {w0 : World}
theorem ready_nil {N : Nat} (hok : okRegion ops N = true) {listed : Array Bool} (hs : listed.size = ops.size) (hr : Region.ready md ops listed = []) : ∀ i, i < ops.size → listed.getD i false = true := by
  intro i
  induction i using Nat.strongRecOn with
  | _ i ih =>
    intro hi
    obtain ⟨o, ho⟩ : ∃ o, ops[i]? = some o := ⟨_, Array.getElem?_eq_getElem hi⟩
    obtain ⟨-, hb, -⟩ := okRegion_spec hok ho
    cases hl : listed.getD i false with
    | true => rfl
    | false =>
      have hm : i ∈ Region.ready md ops listed := by
        rw [mem_ready]
        refine ⟨?_, o, ho, fun e he _ => ih e.on (hb e he) (by have := hb e he; omega)⟩
        have h1 : i < listed.size := by omega
        simp [h1] at hl ⊢
        exact hl
      rw [hr] at hm
      cases hm
end
end Go.Proofs.YtlocnjenkanmpaaDoor.Slots

/-
  A region that draws its order, told operation by operation, over frames that are written out: of the frame ahead each operation's slot alone has changed, and holds what its word says. No program in it.
-/
set_option linter.unusedVariables false
namespace Go.Proofs.YtlocnjenkanmpaaDoor.Words
open Go Go.RowKit Go.Proofs.YtlocnjenkanmpaaDoor.Slots
theorem foldl_set (f : Nat → Value) : ∀ (ds : List Nat) (arr : Array Value) (i : Nat), (ds.foldl (fun t d => t.setIfInBounds d (f d)) arr)[i]? = if i ∈ ds then (if i < arr.size then some (f i) else none) else arr[i]?
  | [], arr, i => by simp
  | d :: ds, arr, i => by
    rw [List.foldl_cons, foldl_set f ds, Array.size_setIfInBounds, Array.getElem?_setIfInBounds]
    by_cases h1 : i ∈ ds
    · rw [if_pos h1, if_pos (List.mem_cons_of_mem _ h1)]
    · rw [if_neg h1]
      by_cases h2 : d = i
      · subst h2
        rw [if_pos rfl, if_pos (List.mem_cons_self ..)]
      · rw [if_neg h2, if_neg (fun h => by rcases List.mem_cons.1 h with e | e; exact h2 e.symm; exact h1 e)]
theorem sameBut_sets {ops : Array Oper} {a0 a : Act} (h : SameBut ops a0 a) (ds : List Nat) (hds : ops.toList.filterMap (·.dst) = ds) :
    a = ⟨ds.foldl (fun t d => t.setIfInBounds d (a.tmps.getD d undef)) a0.tmps, a0.defers⟩ := by
  have hds' : ∀ t, t ∉ ds → (ops.all fun o => o.dst != some t) = true := fun t ht => by
    rw [Array.all_eq_true_iff_forall_mem]
    intro o ho
    simp only [bne_iff_ne, ne_eq]
    intro e
    exact ht (by rw [← hds]; exact List.mem_filterMap.2 ⟨o, by simpa using ho, e⟩)
  obtain ⟨arr, df⟩ := a
  obtain ⟨hs, hd, hsl⟩ := h
  simp only at hs hd hsl ⊢
  subst hd
  congr 1
  apply Array.ext_getElem?
  intro i
  rw [foldl_set (fun d => arr.getD d undef)]
  by_cases hi : i < arr.size
  · by_cases h1 : i ∈ ds
    · rw [if_pos h1, if_pos (by omega), Array.getElem?_eq_getElem hi]
      simp [hi]
    · rw [if_neg h1]
      have := hsl i (hds' i h1)
      rw [Array.getElem?_eq_getElem hi, Array.getElem?_eq_getElem (by omega)]
      simp [hi, show i < a0.tmps.size by omega] at this
      rw [this]
  · rw [Array.getElem?_eq_none (by omega)]
    by_cases h1 : i ∈ ds
    · rw [if_pos h1, if_neg (by omega)]
    · rw [if_neg h1, Array.getElem?_eq_none (by omega)]
/-- The frame, of which these slots hold what f says. -/
def setF (a0 : Act) (ds : List Nat) (f : Nat → Value) : Act := ⟨ds.foldl (fun t d => t.setIfInBounds d (f d)) a0.tmps, a0.defers⟩
/-- The value of an operation's slot. -/
def slotF (ops : Array Oper) (f : Nat → Value) (i : Nat) : Value := match (ops[i]?).bind (·.dst) with
  | some d => f d
  | none => undef
end Go.Proofs.YtlocnjenkanmpaaDoor.Words

/-
  A region that draws its order, whose operations all yield and may make memory or write rows of the call's own: each operation's word on what its slot holds, under what it asks of memory (which no other one takes away) and what the slots hold that it waits for, is enough, whatever order is drawn. No program in it.
-/
set_option linter.unusedVariables false
namespace Go.Proofs.YtlocnjenkanmpaaDoor.Words
open Go Go.RowKit Go.Proofs.YtlocnjenkanmpaaDoor.Slots
section
variable {P : Program} {ops : Array Oper} {Q : Exit → Act → World → Prop} {md : Region.Mode} {Φ : Nat → Value → World → Prop} {Ψ : Nat → World → Prop} {I : World → Prop} {R : Nat → World → World → Prop} {a0 : Act}
theorem slots_goR {N : Nat} (hok : okRegion ops N = true) (hN : a0.tmps.size = N)
    (keepF : ∀ i j v w w', i ≠ j → (∀ k, waitsOn md ops k i j = false) → I w → Φ i v w → R j w w' → Φ i v w') (keepP : ∀ i j w w', i ≠ j → I w → Ψ i w → R j w w' → Ψ i w') (keepI : ∀ j w w', I w → R j w w' → I w')
    (step : ∀ i o, ops[i]? = some o → ∀ a w, SameBut ops a0 a → I w → Ψ i w → (∀ e ∈ o.after, Region.binds md e = true → Φ e.on (slotOf ops a e.on) w) →
      (∀ k j d, (ops[j]?).bind (·.dst) = some d → waitsOn md ops k j i = true → a.tmps.getD d undef = a0.tmps.getD d undef) →
      ∀ K : Act → World → Prop, Hid (∀ v w', Φ i v w' → R i w w' → K (a.put o.dst v) w') → o.wp P a w K Q)
    (done : ∀ a w, SameBut ops a0 a → I w → (∀ i, i < ops.size → Φ i (slotOf ops a i) w) → Q .normal a w) :
    ∀ (fuel : Nat) (listed : Array Bool) (a : Act) (w : World), SameBut ops a0 a → I w → listed.size = ops.size → (∀ i, listed.getD i false = true → Φ i (slotOf ops a i) w) → (∀ i, i < ops.size → listed.getD i false = false → Ψ i w) → (∀ j o, ops[j]? = some o → listed.getD j false = true → ∀ e ∈ o.after, Region.binds md e = true → listed.getD e.on false = true) → (∀ j d, (ops[j]?).bind (·.dst) = some d → listed.getD j false = false → a.tmps.getD d undef = a0.tmps.getD d undef) → listed.toList.count false ≤ fuel → wpAny P md ops Q fuel listed a w := by
  intro fuel
  induction fuel with
  | zero =>
    intro listed a w hs hb hsz hf hp hcl hun hc
    have hno : ∀ j, j < listed.size → listed.getD j false = true := by
      intro j hj
      have h0 : listed.toList.count false = 0 := by omega
      rw [List.count_eq_zero] at h0
      cases hl : listed.getD j false with
      | true => rfl
      | false =>
        exfalso
        simp [hj] at hl
        exact h0 (by rw [← hl]; simp)
    refine ⟨?_, done a w hs hb (fun i hi => hf i (hno i (by omega)))⟩
    cases hr : Region.ready md ops listed with
    | nil => rfl
    | cons j t =>
      have hm : j ∈ Region.ready md ops listed := by rw [hr]; simp
      rw [mem_ready] at hm
      obtain ⟨h0, o, ho, -⟩ := hm
      have hj : j < ops.size := (Array.getElem?_eq_some_iff.1 ho).1
      have h1 := hno j (by omega)
      have h2 : j < listed.size := by omega
      simp [h2] at h0 h1
      rw [h0] at h1
      cases h1
  | succ fuel ih =>
    intro listed a w hs hb hsz hf hp hcl hun hc
    refine ⟨fun hr => done a w hs hb (fun i hi => hf i (ready_nil hok hsz hr i hi)), fun i hi => ?_⟩
    rw [mem_ready] at hi
    obtain ⟨h0, o, ho, hall⟩ := hi
    obtain ⟨hg, -, d, hd, hdN, hdist⟩ := okRegion_spec hok ho
    have hio : i < ops.size := (Array.getElem?_eq_some_iff.1 ho).1
    have hil : i < listed.size := by omega
    have hw : Region.wanted o (yielded ops a.tmps) = true := by simp [Region.wanted, hg]
    have h1 := step i o ho a w hs hb (hp i hio (by simpa [hil] using h0)) (fun e he hbd => hf e.on (hall e he hbd)) (fun k j d hj hw2 => hun j d hj (by
      cases hl : listed.getD j false with
      | false => rfl
      | true =>
        have := waits_listed hcl k j i hw2 hl
        simp [hil] at h0 this
        rw [h0] at this
        cases this)) (wpAny P md ops Q fuel (listed.setIfInBounds i true)) (by
      intro v w' hv hbw
      refine ih _ _ _ (hs.put ho v) (keepI i _ _ hb hbw) (by simpa using hsz) (fun j hj => ?_) (fun j hjs hj => ?_) (fun j oj hoj hj e he hbd => ?_) (fun j dj hdj hj => ?_) ?_
      · by_cases hji : j = i
        · subst hji
          have : slotOf ops (a.put o.dst v) j = v := by
            unfold slotOf
            simp only [ho, Option.bind_some, hd, Act.put]
            have : d < a.tmps.size := by rw [hs.size, hN]; exact hdN
            simp [this]
          rw [this]
          exact hv
        · rw [getD_set_ne false (Ne.symm hji)] at hj
          have hsl : slotOf ops (a.put o.dst v) j = slotOf ops a j := by
            unfold slotOf
            cases hoj : ops[j]? with
            | none => rfl
            | some oj =>
              obtain ⟨-, -, dj, hdj, -, hdist'⟩ := okRegion_spec hok hoj
              simp only [Option.bind_some, hdj, hd, Act.put]
              have hne : d ≠ dj := by
                intro e
                rcases Nat.lt_or_gt_of_ne hji with h | h
                · exact hdist j h oj hoj (by rw [hdj, e])
                · exact hdist' i h o ho (by rw [hd, e])
              simp [Array.getElem?_setIfInBounds_ne hne]
          rw [hsl]
          refine keepF j i _ _ _ hji (fun k => ?_) hb (hf j hj) hbw
          cases hw2 : waitsOn md ops k j i with
          | false => rfl
          | true =>
            have := waits_listed hcl k j i hw2 hj
            simp [hil] at h0 this
            rw [h0] at this
            cases this
      · by_cases hji : j = i
        · subst hji
          simp [hil] at hj
        · rw [getD_set_ne false (Ne.symm hji)] at hj
          exact keepP j i _ _ hji hb (hp j hjs hj) hbw
      · by_cases hei : e.on = i
        · rw [hei]
          simp [hil]
        · rw [getD_set_ne false (Ne.symm hei)]
          by_cases hji : j = i
          · subst hji
            rw [ho] at hoj
            obtain rfl := Option.some.inj hoj
            exact hall e he hbd
          · rw [getD_set_ne false (Ne.symm hji)] at hj
            exact hcl j oj hoj hj e he hbd
      · by_cases hji : j = i
        · subst hji
          simp [hil] at hj
        · rw [getD_set_ne false (Ne.symm hji)] at hj
          rw [← hun j dj hdj hj]
          cases hoj : ops[j]? with
          | none => rw [hoj] at hdj; cases hdj
          | some oj =>
            obtain ⟨-, -, dj', hdj', -, hdist'⟩ := okRegion_spec hok hoj
            rw [hoj] at hdj
            simp only [Option.bind_some] at hdj
            have hne : d ≠ dj := by
              intro e
              rcases Nat.lt_or_gt_of_ne hji with h | h
              · exact hdist j h oj hoj (by rw [hdj, e])
              · rw [hdj] at hdj'
                injection hdj' with hdj'
                exact hdist' i h o ho (by rw [hd, e, hdj'])
            simp only [hd, Act.put]
            simp [Array.getElem?_setIfInBounds_ne hne]
      · have hli : listed.toList[i]'(by simpa using hil) = false := by
          simp [hil] at h0
          simpa using h0
        rw [Array.toList_setIfInBounds, List.count_set (by simpa using hil), hli]
        simp
        have hpos : 0 < listed.toList.count false := List.count_pos_iff.2 (by rw [← hli]; exact List.getElem_mem _)
        have : Array.count false listed = listed.toList.count false := (Array.count_toList ..).symm
        omega)
    unfold wpOp
    simp only [ho, hw, if_true]
    exact .inl h1
theorem wp_region_wordsR {id : Nat} {w : World} {N : Nat} (ds : List Nat) (hm : P.follows .mixedOrders = true) (hok : okRegion ops N = true) (hN : a0.tmps.size = N) (hds : ops.toList.filterMap (·.dst) = ds)
    (startI : I { w with drawn := w.drawn + 1 }) (startP : ∀ i, i < ops.size → Ψ i { w with drawn := w.drawn + 1 })
    (keepF : ∀ i j v w w', i ≠ j → (∀ k, waitsOn .any ops k i j = false) → I w → Φ i v w → R j w w' → Φ i v w') (keepP : ∀ i j w w', i ≠ j → I w → Ψ i w → R j w w' → Ψ i w') (keepI : ∀ j w w', I w → R j w w' → I w')
    (step : ∀ i o, ops[i]? = some o → ∀ (f : Nat → Value) wx, I wx → Ψ i wx → (∀ e ∈ o.after, Region.binds .any e = true → Φ e.on (slotF ops f e.on) wx) →
      (∀ k j d, (ops[j]?).bind (·.dst) = some d → waitsOn .any ops k j i = true → f d = a0.tmps.getD d undef) →
      ∀ K : Act → World → Prop, Hid (∀ v w', Φ i v w' → R i wx w' → K ((setF a0 ds f).put o.dst v) w') → o.wp P (setF a0 ds f) wx K Q)
    (done : ∀ (f : Nat → Value) wx, I wx → (∀ i, i < ops.size → Φ i (slotF ops f i) wx) → Q .normal (setF a0 ds f) wx) :
    (Code.region id ops true).wp P Q a0 w := by
  refine wp_region_any hm ?_
  refine slots_goR (Φ := Φ) (Ψ := Ψ) (I := I) (R := R) hok hN keepF keepP keepI (fun i o ho a wx hs hb hp hd hw K hK => ?_) (fun a wx hs hb hall => ?_) _ _ _ _ (SameBut.refl _ _) startI (by simp) (fun i hi => ?_) (fun i hi _ => startP i hi) (fun j o ho hj => ?_) (fun _ _ _ _ => rfl) ?_
  · have e := sameBut_sets hs ds hds
    have hd' : ∀ e ∈ o.after, Region.binds .any e = true → Φ e.on (slotF ops (fun d => a.tmps.getD d undef) e.on) wx := fun e he hbd => hd e he hbd
    have := step i o ho (fun d => a.tmps.getD d undef) wx hb hp hd' hw K
    unfold setF at this
    rw [← e] at this
    exact this hK
  · have e := sameBut_sets hs ds hds
    have hall' : ∀ i, i < ops.size → Φ i (slotF ops (fun d => a.tmps.getD d undef) i) wx := fun i hi => hall i hi
    have := done (fun d => a.tmps.getD d undef) wx hb hall'
    unfold setF at this
    rw [← e] at this
    exact this
  · exfalso
    by_cases h : i < ops.size <;> simp [h] at hi
  · exfalso
    by_cases h : j < ops.size <;> simp [h] at hj
  · refine Nat.le_trans List.count_le_length ?_
    simp
end
end Go.Proofs.YtlocnjenkanmpaaDoor.Words
