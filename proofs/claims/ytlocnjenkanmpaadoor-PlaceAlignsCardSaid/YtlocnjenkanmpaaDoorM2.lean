/-
  Several texts in one, each with its own remark: MiPlain, PrPlain, BiRule, BlPlain, BoPlain, ClPlain, ClTab, RuCls, PlPlain, AppSrc, AddInts, SlAdd, RcSame, TabInts, ArrKit.
-/
import Derived.KernelRfl
import Derived.Laws.AppendOwn
import Derived.Deep.Upon
import Derived.LoopTactic
import Derived.Deep.QuietTactic
import Derived.BigQuiet
import Derived.Carry
import Derived.ProofKit
import Derived.OpenShut
import Derived.Below
import Derived.Lib.Hide
import Derived.Great.BuildSlice
import Derived.WalkKit
import Derived.Deep.WholeRow
import Derived.Laws.Rows
import Derived.Test.YtlocnjenkanmpaaDoorM1
import Derived.Test.YtlocnjenkanmpaaDoorRows
import Derived.Test.YtlocnjenkanmpaaDoorM0

/-
  Plain facts on rows of pairs: what a row has, the counterpart, the first row that has a number; the brackets and the other mirrored signs of the document; no program here.
-/
namespace Go.Proofs.YtlocnjenkanmpaaDoor.Mi
/-- A row: its first number, its last one, the step between two that belong together. -/
abbrev MRow := Int × Int × Int
def hasB (r : MRow) (c : Int) : Bool := decide (r.1 ≤ c) && (decide (c ≤ r.2.1) && ((c - r.1) % r.2.2 == 0))
def pairR (r : MRow) (c : Int) : Int × Int := if (c - r.1) / r.2.2 % 2 = 0 then (1, c + r.2.2) else (2, c - r.2.2)
def inR : List MRow → Int → Int × Int
  | [], _ => (0, 0)
  | r :: l, c => if hasB r c = true then pairR r c else inR l c
def brRows : List MRow := [(0x28, 0x29, 1), (0xf3a, 0xf3d, 1), (0x169b, 0x169c, 1), (0x2045, 0x2046, 1), (0x207d, 0x207e, 1), (0x208d, 0x208e, 1), (0x2308, 0x230b, 1), (0x2329, 0x232a, 1),
  (0x2768, 0x2775, 1), (0x27c5, 0x27c6, 1), (0x27e6, 0x27ef, 1), (0x2983, 0x298c, 1), (0x2991, 0x2998, 1), (0x29d8, 0x29db, 1), (0x29fc, 0x29fd, 1), (0x2e22, 0x2e29, 1),
  (0x3008, 0x3011, 1), (0x3014, 0x301b, 1), (0xfe59, 0xfe5e, 1), (0xff08, 0xff09, 1), (0xff5f, 0xff60, 1), (0xff62, 0xff63, 1)]
def brPairs : List MRow := [(0x5b, 0x5d, 2), (0x7b, 0x7d, 2), (0xff3b, 0xff3d, 2), (0xff5b, 0xff5d, 2)]
def sgRows : List MRow := [(0x2264, 0x226b, 1), (0x226e, 0x2281, 1), (0x2282, 0x2289, 1), (0x228f, 0x2292, 1), (0x22b2, 0x22b5, 1), (0x22d6, 0x22df, 1), (0x22e0, 0x22ed, 1)]
def sgPairs : List MRow := [(0x3c, 0x3e, 2), (0xab, 0xbb, 0x10), (0x2039, 0x203a, 1), (0x2208, 0x220b, 3), (0x2209, 0x220c, 3), (0x220a, 0x220d, 3), (0x223c, 0x223d, 1), (0x22a2, 0x22a3, 1), (0x22d0, 0x22d1, 1)]
def brL : List MRow := brRows ++ brPairs
def sgL : List MRow := sgRows ++ sgPairs
/-- P3.1 to P3.4, as functions. -/
def pairT (c : Int) : Int × Int := inR brL c
def formT (c : Int) : Int := if c = 0x2329 then 0x3008 else if c = 0x232a then 0x3009 else c
def meetT (a b : Int) : Bool := (pairT a).1 == 1 && ((pairT b).1 == 2 && (formT (pairT a).2 == formT b))
def glyphT (c : Int) : Int := if (pairT c).1 = 0 then (if (inR sgL c).1 = 0 then c else (inR sgL c).2) else (pairT c).2
theorem inR_append : ∀ (l m : List MRow) (c : Int), inR (l ++ m) c = if (inR l c).1 = 0 then inR m c else inR l c
  | [], m, c => rfl
  | r :: l, m, c => by
    simp only [List.cons_append, inR]
    split
    · rw [if_neg]
      unfold pairR
      split <;> simp
    · exact inR_append l m c
theorem inR_none : ∀ (l : List MRow) (c : Int), (∀ r ∈ l, hasB r c = false) → inR l c = (0, 0)
  | [], _, _ => rfl
  | r :: l, c, h => by
    have h0 := h r (by simp)
    simp only [inR]
    rw [h0]
    exact inR_none l c (fun x hx => h x (by simp [hx]))
theorem inR_at : ∀ (l : List MRow) (c : Int) (i : Nat) (hi : i < l.length), (∀ j (hj : j < l.length), j < i → hasB l[j] c = false) → hasB l[i] c = true → inR l c = pairR l[i] c
  | r :: l, c, 0, hi, hlo, h => by
    simp only [inR]
    rw [if_pos (by simpa using h)]
    rfl
  | r :: l, c, i + 1, hi, hlo, h => by
    have h0 := hlo 0 (by simp) (by omega)
    simp only [inR]
    rw [if_neg (by simpa using h0)]
    exact inR_at l c i (by simpa using hi) (fun j hj hji => hlo (j + 1) (Nat.succ_lt_succ hj) (by omega)) h
/-- Rows as they are here: small, their steps from 1 on. -/
def okR (r : MRow) : Bool := decide (0 ≤ r.1) && decide (r.1 ≤ r.2.1) && decide (r.2.1 ≤ 100000) && decide (1 ≤ r.2.2) && decide (r.2.2 ≤ 100) && decide ((r.2.1 - r.1) % r.2.2 = 0)
theorem okR_is {r : MRow} (h : okR r = true) : 0 ≤ r.1 ∧ r.1 ≤ r.2.1 ∧ r.2.1 ≤ 100000 ∧ 1 ≤ r.2.2 ∧ r.2.2 ≤ 100 ∧ (r.2.1 - r.1) % r.2.2 = 0 := by
  simp only [okR, Bool.and_eq_true, decide_eq_true_eq] at h
  omega
theorem brL_ok : ∀ r ∈ brL, okR r = true := by decide +kernel
theorem sgL_ok : ∀ r ∈ sgL, okR r = true := by decide +kernel
/-- The numbers of a row. -/
def nums (r : MRow) : List Int := (List.range ((r.2.1 - r.1).toNat + 1)).map fun (k : Nat) => r.1 + (k : Int)
def codes : List Int := (brL ++ sgL).flatMap nums
end Go.Proofs.YtlocnjenkanmpaaDoor.Mi

/-
  Brackets of a sequence, plainly: the pairs by their ends (a stack, the last one first), put in order by what opens; that there is one such row alone; that pairs stand one in another or apart. No program in it.
-/
set_option linter.unusedVariables false
namespace Go.Proofs.YtlocnjenkanmpaaDoor.Pr
open Go.Proofs.YtlocnjenkanmpaaDoor.Mi
/-- What is open, in a sequence with these classes and codes: rising from the bottom, ahead of place i, each an opening bracket whose class is ON. -/
structure Open (T C : List Int) (i : Nat) (st : List (Nat × Int)) : Prop where
  down : st.Pairwise (fun a b => b.1 < a.1)
  lt : ∀ x ∈ st, x.1 < i
  are : ∀ x ∈ st, T[x.1]? = some 13 ∧ C[x.1]? = some x.2
theorem Open.nil (T C : List Int) (i : Nat) : Open T C i [] := ⟨.nil, by simp, by simp⟩
theorem Open.next {T C : List Int} {i : Nat} {st : List (Nat × Int)} (h : Open T C i st) : Open T C (i + 1) st := ⟨h.down, fun x hx => Nat.lt_succ_of_lt (h.lt x hx), h.are⟩
theorem Open.push {T C : List Int} {i : Nat} {st : List (Nat × Int)} {c : Int} (h : Open T C i st) (hT : T[i]? = some 13) (hC : C[i]? = some c) : Open T C (i + 1) ((i, c) :: st) :=
  ⟨List.pairwise_cons.2 ⟨fun b hb => h.lt b hb, h.down⟩, fun x hx => by
    rcases List.mem_cons.1 hx with rfl | hx
    · exact Nat.lt_succ_self _
    · exact Nat.lt_succ_of_lt (h.lt x hx), fun x hx => by
    rcases List.mem_cons.1 hx with rfl | hx
    · exact ⟨hT, hC⟩
    · exact h.are x hx⟩
theorem Open.below {T C : List Int} {i k : Nat} {o : Int} {s1 s2 : List (Nat × Int)} (h : Open T C i (s1 ++ (k, o) :: s2)) : Open T C (i + 1) s2 ∧ (∀ x ∈ s2, x.1 < k) ∧ k < i ∧ T[k]? = some 13 ∧ C[k]? = some o := by
  have hd := List.pairwise_append.1 h.down
  have hd2 := List.pairwise_cons.1 hd.2.1
  refine ⟨⟨hd2.2, fun x hx => Nat.lt_succ_of_lt (h.lt x (by simp [hx])), fun x hx => h.are x (by simp [hx])⟩, fun x hx => hd2.1 x hx, h.lt (k, o) (by simp), h.are (k, o) (by simp)⟩
/-- What each pair is. -/
structure PairIs (T C : List Int) (p : Nat × Nat) : Prop where
  lt : p.1 < p.2
  t1 : T[p.1]? = some 13
  t2 : T[p.2]? = some 13
  meet : ∃ a b, C[p.1]? = some a ∧ C[p.2]? = some b ∧ meetT a b = true
end Go.Proofs.YtlocnjenkanmpaaDoor.Pr

/-
  What a sequence's places are told, plainly: its weak classes, brackets, what is left, their levels; what a line's levels are; that letters without a right one, in a paragraph of the level 0, are all at 0; that a line's levels stay so. No program in it.
-/
set_option linter.unusedVariables false
namespace Go.Proofs.YtlocnjenkanmpaaDoor.Bi
open Go Go.Proofs.YtlocnjenkanmpaaDoor.Ba Go.Proofs.YtlocnjenkanmpaaDoor.Lv Go.Proofs.YtlocnjenkanmpaaDoor.Sq Go.Proofs.YtlocnjenkanmpaaDoor.Wk Go.Proofs.YtlocnjenkanmpaaDoor.Pr
def blankB (c : Int) : Bool := decide (c = 12) || (isI c || (isP c || remB c))
/-- Does nothing but blanks stand up to an S, a B, or the end? -/
def endB : List Int → Bool
  | [] => true
  | c :: r => if blankB c = true then endB r else decide (c = 11 ∨ c = 10)
def lineP (p : Int) : List Int → List Int → List Int
  | c :: cs, l :: ls => (if endB (c :: cs) = true then p else l) :: lineP p cs ls
  | _, _ => []
theorem line_len (p : Int) : ∀ (c l : List Int), c.length = l.length → (lineP p c l).length = l.length
  | [], [], _ => rfl
  | [], _ :: _, h => by simp at h
  | _ :: _, [], h => by simp at h
  | c :: cs, l :: ls, h => by simp [lineP, line_len p cs ls (by simpa using h)]
theorem line_at (p : Int) : ∀ (c l : List Int) (i : Nat), c.length = l.length → i < l.length → (lineP p c l)[i]? = some (if endB (c.drop i) = true then p else l.getD i 0)
  | [], [], i, _, hi => by simp at hi
  | [], _ :: _, _, h, _ => by simp at h
  | _ :: _, [], _, h, _ => by simp at h
  | c :: cs, l :: ls, 0, h, hi => by simp [lineP]
  | c :: cs, l :: ls, i + 1, h, hi => by
    simp only [lineP, List.getElem?_cons_succ, List.drop_succ_cons]
    rw [line_at p cs ls i (by simpa using h) (by simpa using hi)]
    simp
end Go.Proofs.YtlocnjenkanmpaaDoor.Bi

/-
  A line's levels, and the sign by which a code point is shown, plainly. No program in it.
-/
set_option linter.unusedVariables false
namespace Go.Proofs.YtlocnjenkanmpaaDoor.Bi
open Go
def shownP (c l : Int) : Int := if l.tmod 2 = 0 then c else Mi.glyphT c
def lineZ (c l : List Int) (p : Int) : List Int := if c.length = l.length then lineP p c l else []
theorem line_snoc (p : Int) {c l : List Int} (h : c.length = l.length) {i : Nat} (hi : i < l.length) : (lineP p c l).take (i + 1) = (lineP p c l).take i ++ [if endB (c.drop i) = true then p else l.getD i 0] := by
  have hl : i < (lineP p c l).length := by rw [line_len p c l h]; exact hi
  have e := line_at p c l i h hi
  rw [List.take_succ_eq_append_getElem hl]
  rw [List.getElem?_eq_getElem hl] at e
  injection e with e
  rw [e]
theorem endB_blank {c : List Int} {k : Nat} (h : k < c.length) (hb : blankB c[k] = true) : endB (c.drop k) = endB (c.drop (k + 1)) := by
  rw [List.drop_eq_getElem_cons h]
  conv => lhs; unfold endB
  rw [if_pos hb]
theorem endB_stop {c : List Int} {k : Nat} (h : k < c.length) (hb : blankB c[k] = false) : endB (c.drop k) = decide (c[k] = 11 ∨ c[k] = 10) := by
  rw [List.drop_eq_getElem_cons h]
  conv => lhs; unfold endB
  rw [if_neg (by rw [hb]; decide)]
end Go.Proofs.YtlocnjenkanmpaaDoor.Bi

/-
  The order of levels, plainly: for each level from 126 down to 1 each stretch of places at that level or above is turned round; each place is there once; places of one level that stand side by side stay side by side, as they are if it is even, turned round if it is odd; levels that are all 0 leave the text's order. No program in it.
-/
set_option linter.unusedVariables false
namespace Go.Proofs.YtlocnjenkanmpaaDoor.Bo
/-- Each stretch of what p says is turned round; acc: the stretch so far, the last one first. -/
def revGo (p : Nat → Bool) (acc : List Nat) : List Nat → List Nat
  | [] => acc
  | x :: r => if p x then revGo p (x :: acc) r else acc ++ x :: revGo p [] r
def cutL (n : Int) : Int := min (max n 0) 126
def lvAt (L : List Int) (j : Nat) : Int := cutL (L.getD j 0)
/-- Level by level, from k down to 1. -/
def ordFrom (f : Nat → Int) : Nat → List Nat → List Nat
  | 0, o => o
  | k + 1, o => ordFrom f k (revGo (fun j => decide ((k : Int) + 1 ≤ f j)) [] o)
def orderP (L : List Int) : List Nat := ordFrom (lvAt L) 126 (List.range L.length)
theorem revGo_len (p : Nat → Bool) (l : List Nat) : ∀ acc, (revGo p acc l).length = acc.length + l.length := by
  induction l with
  | nil => intro acc; simp [revGo]
  | cons x r ih =>
    intro acc; unfold revGo; split
    · rw [ih]; simp; omega
    · rw [List.length_append, List.length_cons, ih]; simp
theorem revGo_mem (p : Nat → Bool) (l : List Nat) : ∀ acc y, y ∈ revGo p acc l ↔ y ∈ acc ∨ y ∈ l := by
  induction l with
  | nil => intro acc y; simp [revGo]
  | cons x r ih =>
    intro acc y; unfold revGo; split
    · rw [ih]; simp only [List.mem_cons]; constructor
      · rintro ((h | h) | h) <;> simp [h]
      · rintro (h | h | h) <;> simp [h]
    · rw [List.mem_append, List.mem_cons, ih]; simp [List.mem_cons]
theorem revGo_nodup (p : Nat → Bool) (l : List Nat) : ∀ acc, (acc ++ l).Nodup → (revGo p acc l).Nodup := by
  induction l with
  | nil => intro acc h; simpa [revGo] using h
  | cons x r ih =>
    intro acc h
    have h2 := List.nodup_append.1 h
    have h3 := List.nodup_cons.1 h2.2.1
    unfold revGo; split
    · apply ih
      rw [List.cons_append, List.nodup_cons]
      refine ⟨fun hm => ?_, ?_⟩
      · rcases List.mem_append.1 hm with hm | hm
        · exact h2.2.2 x hm x (by simp) rfl
        · exact h3.1 hm
      · exact List.nodup_append.2 ⟨h2.1, h3.2, fun a ha b hb => h2.2.2 a ha b (by simp [hb])⟩
    · refine List.nodup_append.2 ⟨h2.1, ?_, ?_⟩
      · rw [List.nodup_cons]
        exact ⟨fun hm => by rw [revGo_mem] at hm; rcases hm with hm | hm; · simp at hm
                            · exact h3.1 hm, ih [] (by simpa using h3.2)⟩
      · intro a ha b hb
        rcases List.mem_cons.1 hb with rfl | hb
        · exact h2.2.2 a ha b (by simp)
        · rw [revGo_mem] at hb
          rcases hb with hb | hb
          · simp at hb
          · exact h2.2.2 a ha b (by simp [hb])
theorem ord_len (f : Nat → Int) : ∀ k o, (ordFrom f k o).length = o.length
  | 0, o => rfl
  | k + 1, o => by unfold ordFrom; rw [ord_len f k, revGo_len]; simp
theorem ord_mem (f : Nat → Int) (y : Nat) : ∀ k o, y ∈ ordFrom f k o ↔ y ∈ o
  | 0, o => Iff.rfl
  | k + 1, o => by unfold ordFrom; rw [ord_mem f y k, revGo_mem]; simp
theorem ord_nodup (f : Nat → Int) : ∀ k o, o.Nodup → (ordFrom f k o).Nodup
  | 0, o, h => h
  | k + 1, o, h => by unfold ordFrom; exact ord_nodup f k _ (revGo_nodup _ _ [] (by simpa using h))
theorem order_len (L : List Int) : (orderP L).length = L.length := by unfold orderP; rw [ord_len]; simp
theorem order_mem (L : List Int) (y : Nat) : y ∈ orderP L ↔ y < L.length := by unfold orderP; rw [ord_mem]; simp
theorem order_nodup (L : List Int) : (orderP L).Nodup := ord_nodup _ _ _ List.nodup_range
theorem revGo_none (p : Nat → Bool) (l : List Nat) (h : ∀ x ∈ l, p x = false) : revGo p [] l = l := by
  induction l with
  | nil => rfl
  | cons x r ih =>
    unfold revGo
    rw [if_neg (by rw [h x (by simp)]; simp), ih (fun y hy => h y (by simp [hy]))]
    rfl
theorem ord_none (f : Nat → Int) (o : List Nat) (h : ∀ x ∈ o, f x ≤ 0) : ∀ k, ordFrom f k o = o
  | 0 => rfl
  | k + 1 => by
    unfold ordFrom
    rw [revGo_none _ _ (fun x hx => by have := h x hx; exact decide_eq_false (by omega))]
    exact ord_none f o h k
theorem order_plain {L : List Int} (h : ∀ c ∈ L, c ≤ 0) : orderP L = List.range L.length := by
  refine ord_none _ _ (fun x hx => ?_) 126
  have hx2 : x < L.length := by simpa using hx
  have h2 := h L[x] (List.getElem_mem hx2)
  unfold lvAt cutL
  rw [List.getD_eq_getElem?_getD, List.getElem?_eq_getElem hx2]
  simp only [Option.getD_some]
  omega
end Go.Proofs.YtlocnjenkanmpaaDoor.Bo

/-
  Plain facts on rising spans: what a search by halves finds, and that it is the one span that has the number.
-/
set_option linter.unusedVariables false
namespace Go.Proofs.YtlocnjenkanmpaaDoor.Cl
abbrev Span := Int × Int × Int
/-- How many spans lie below a number. -/
def cnt (l : List Span) (c : Int) : Nat := (l.takeWhile fun s => decide (s.2.1 < c)).length
/-- Whether the first span that does not lie below has the number. -/
def hitB (l : List Span) (c : Int) : Bool := match l[cnt l c]? with
  | some s => decide (s.1 ≤ c)
  | none => false
/-- The class of a number by a rising list of spans. -/
def ofT (l : List Span) (c : Int) : Int := match l[cnt l c]? with
  | some s => if s.1 ≤ c then s.2.2 else 0
  | none => 0
/-- Spans rise, and are not empty. -/
def rises : List Span → Bool
  | [] => true
  | [s] => decide (s.1 ≤ s.2.1)
  | s :: t :: l => decide (s.1 ≤ s.2.1) && decide (s.2.1 < t.1) && rises (t :: l)
theorem rises_tail {s : Span} {l : List Span} (h : rises (s :: l) = true) : rises l = true := by
  cases l with
  | nil => rfl
  | cons t l => simp [rises] at h; exact h.2
theorem rises_head {s : Span} {l : List Span} (h : rises (s :: l) = true) : s.1 ≤ s.2.1 := by
  cases l with
  | nil => simpa [rises] using h
  | cons t l => simp [rises] at h; exact h.1.1
theorem rises_above {s : Span} : ∀ {l : List Span}, rises (s :: l) = true → ∀ t ∈ l, s.2.1 < t.1 ∧ t.1 ≤ t.2.1
  | [], _, t, ht => by cases ht
  | u :: l, h, t, ht => by
    have hu : s.2.1 < u.1 := by simp [rises] at h; exact h.1.2
    have hr := rises_tail h
    rcases List.mem_cons.1 ht with rfl | ht
    · exact ⟨hu, rises_head hr⟩
    · have := rises_above hr t ht
      have := rises_head hr
      omega
theorem rises_lt : ∀ {l : List Span}, rises l = true → ∀ (i j : Nat) (hi : i < l.length) (hj : j < l.length), i < j → l[i].2.1 < l[j].1 ∧ l[j].1 ≤ l[j].2.1
  | s :: l, h, 0, j + 1, hi, hj, _ => by
    simpa using rises_above h _ (List.getElem_mem (by simpa using hj))
  | s :: l, h, i + 1, j + 1, hi, hj, hij => by
    simpa using rises_lt (rises_tail h) i j (by simpa using hi) (by simpa using hj) (by omega)
theorem cnt_le (l : List Span) (c : Int) : cnt l c ≤ l.length := by
  unfold cnt; exact (List.takeWhile_sublist _).length_le
theorem cnt_below : ∀ (l : List Span) (c : Int) (k : Nat) (hk : k < l.length), k < cnt l c → l[k].2.1 < c
  | s :: l, c, k, hk, h => by
    unfold cnt at h
    rw [List.takeWhile_cons] at h
    split at h
    · rename_i hs
      cases k with
      | zero => simpa using hs
      | succ k => simpa using cnt_below l c k (by simpa using hk) (by simpa [cnt] using h)
    · simp at h
theorem cnt_at : ∀ (l : List Span) (c : Int) (hk : cnt l c < l.length), ¬ l[cnt l c].2.1 < c
  | s :: l, c, hk => by
    unfold cnt at hk ⊢
    by_cases hs : s.2.1 < c
    · have e : ((s :: l).takeWhile fun s => decide (s.2.1 < c)).length = cnt l c + 1 := by simp [hs, cnt]
      have := cnt_at l c (by rw [e] at hk; simpa using hk)
      simp only [e]
      simpa using this
    · have e : ((s :: l).takeWhile fun s => decide (s.2.1 < c)).length = 0 := by simp [hs]
      simp only [e]
      simpa using hs
/-- What a search by halves ends with is that number. -/
theorem cnt_is {l : List Span} (h : rises l = true) {c : Int} {i : Nat} (hi : i ≤ l.length) (hlo : ∀ k (hk : k < l.length), k < i → l[k].2.1 < c) (hhi : ∀ k (hk : k < l.length), i ≤ k → ¬ l[k].2.1 < c) : i = cnt l c := by
  have hc := cnt_le l c
  rcases Nat.lt_trichotomy i (cnt l c) with h1 | h1 | h1
  · exact absurd (cnt_below l c i (by omega) h1) (hhi i (by omega) (Nat.le_refl _))
  · exact h1
  · exact absurd (hlo _ (by omega) h1) (cnt_at l c (by omega))
theorem rises_mono {l : List Span} (h : rises l = true) {c : Int} {i j : Nat} (hij : i ≤ j) (hj : j < l.length) (hlt : l[j].2.1 < c) : l[i].2.1 < c := by
  rcases Nat.lt_or_eq_of_le hij with h1 | rfl
  · have := rises_lt h i j (by omega) hj h1
    omega
  · exact hlt
theorem hitB_some {l : List Span} {c : Int} (hk : cnt l c < l.length) : hitB l c = decide (l[cnt l c].1 ≤ c) := by
  unfold hitB
  rw [List.getElem?_eq_getElem hk]
theorem hitB_none {l : List Span} {c : Int} (hk : ¬ cnt l c < l.length) : hitB l c = false := by
  unfold hitB
  rw [List.getElem?_eq_none (by omega)]
theorem ofT_hit {l : List Span} {c : Int} (h : hitB l c = true) : ∃ hk : cnt l c < l.length, ofT l c = l[cnt l c].2.2 := by
  by_cases hk : cnt l c < l.length
  · refine ⟨hk, ?_⟩
    rw [hitB_some hk] at h
    unfold ofT
    rw [List.getElem?_eq_getElem hk]
    simp only [decide_eq_true_eq] at h
    exact if_pos h
  · rw [hitB_none hk] at h
    cases h
theorem ofT_miss {l : List Span} {c : Int} (h : hitB l c = false) : ofT l c = 0 := by
  unfold ofT
  by_cases hk : cnt l c < l.length
  · rw [hitB_some hk] at h
    rw [List.getElem?_eq_getElem hk]
    exact if_neg (by simpa using h)
  · rw [List.getElem?_eq_none (by omega)]
/-- The span that has a number tells its class. -/
theorem ofT_in {l : List Span} (h : rises l = true) {c : Int} {s : Span} (hs : s ∈ l) (h1 : s.1 ≤ c) (h2 : c ≤ s.2.1) : ofT l c = s.2.2 := by
  obtain ⟨k, hk, rfl⟩ := List.getElem_of_mem hs
  have e : k = cnt l c := cnt_is h (by omega) (fun j hj hjk => by have := rises_lt h j k hj hk hjk; omega) (fun j hj hkj => by
    rcases Nat.lt_or_eq_of_le hkj with h3 | rfl
    · have := rises_lt h k j hk hj h3
      omega
    · omega)
  unfold ofT
  rw [← e, List.getElem?_eq_getElem hk]
  exact if_pos h1
theorem ofT_out {l : List Span} {c : Int} (hno : ∀ s ∈ l, ¬ (s.1 ≤ c ∧ c ≤ s.2.1)) : ofT l c = 0 := by
  unfold ofT
  by_cases hk : cnt l c < l.length
  · rw [List.getElem?_eq_getElem hk]
    have h1 := cnt_at l c hk
    have h2 := hno _ (List.getElem_mem hk)
    exact if_neg (by omega)
  · rw [List.getElem?_eq_none (by omega)]
end Go.Proofs.YtlocnjenkanmpaaDoor.Cl

/-
  The table of classes, plainly: its spans, the class of a number. No program in it.
-/
set_option linter.unusedVariables false
namespace Go.Proofs.YtlocnjenkanmpaaDoor.Cl
open Go
/-- The spans that the program lays: first, last, class. -/
def spansL : List (Int × Int × Int) := [(0, 8, 9), (9, 9, 11), (10, 10, 10), (11, 11, 11), (12, 12, 12), (13, 13, 10), (14, 27, 9), (28, 30, 10), (31, 31, 11), (32, 32, 12), (33, 34, 13), (35, 37, 5), (38, 42, 13), (43, 43, 4), (44, 44, 7), (45, 45, 4), (46, 47, 7), (48, 57, 3), (58, 58, 7), (59, 64, 13), (91, 96, 13), (123, 126, 13), (127, 132, 9), (133, 133, 10), (134, 159, 9), (160, 160, 7), (161, 161, 13), (162, 165, 5), (166, 169, 13), (171, 172, 13), (173, 173, 9), (174, 175, 13), (176, 177, 5), (178, 179, 3), (180, 180, 13), (182, 184, 13), (185, 185, 3), (187, 191, 13), (215, 215, 13), (247, 247, 13), (768, 879, 8), (1155, 1161, 8), (1423, 1423, 5), (1424, 1424, 1), (1425, 1469, 8), (1470, 1470, 1), (1471, 1471, 8), (1472, 1472, 1), (1473, 1474, 8), (1475, 1475, 1), (1476, 1477, 8), (1478, 1478, 1), (1479, 1479, 8), (1480, 1535, 1), (1536, 1541, 6), (1542, 1543, 13), (1544, 1544, 2), (1545, 1546, 5), (1547, 1547, 2), (1548, 1548, 7), (1549, 1549, 2), (1550, 1551, 13), (1552, 1562, 8), (1563, 1610, 2), (1611, 1631, 8), (1632, 1641, 6), (1642, 1642, 5), (1643, 1644, 6), (1645, 1647, 2), (1648, 1648, 8), (1649, 1749, 2), (1750, 1756, 8), (1757, 1757, 6), (1758, 1758, 13), (1759, 1764, 8), (1765, 1766, 2), (1767, 1768, 8), (1769, 1769, 13), (1770, 1773, 8), (1774, 1775, 2), (1776, 1785, 3), (1786, 1791, 2), (1872, 1919, 2), (2274, 2274, 6), (2364, 2364, 8), (2369, 2376, 8), (2381, 2381, 8), (5760, 5760, 12), (8192, 8202, 12), (8203, 8205, 9), (8207, 8207, 1), (8208, 8231, 13), (8232, 8232, 12), (8233, 8233, 10), (8234, 8234, 14), (8235, 8235, 16), (8236, 8236, 18), (8237, 8237, 15), (8238, 8238, 17), (8239, 8239, 7), (8240, 8244, 5), (8245, 8259, 13), (8260, 8260, 7), (8261, 8286, 13), (8287, 8287, 12), (8288, 8293, 9), (8294, 8294, 19), (8295, 8295, 20), (8296, 8296, 21), (8297, 8297, 22), (8298, 8303, 9), (8304, 8304, 3), (8308, 8313, 3), (8314, 8315, 4), (8316, 8318, 13), (8320, 8329, 3), (8330, 8331, 4), (8332, 8334, 13), (8352, 8399, 5), (8400, 8432, 8), (8592, 8721, 13), (8722, 8722, 4), (8723, 8723, 5), (8724, 9013, 13), (9352, 9371, 3), (9472, 9899, 13), (9901, 10239, 13), (11904, 11929, 13), (12288, 12288, 12), (12289, 12292, 13), (12296, 12320, 13), (12330, 12333, 8), (12336, 12336, 13), (12441, 12442, 8), (64285, 64285, 1), (64286, 64286, 8), (64287, 64296, 1), (64297, 64297, 4), (64298, 64335, 1), (65024, 65039, 8), (65056, 65071, 8), (65104, 65104, 7), (65106, 65106, 7), (65109, 65109, 7), (65119, 65119, 5), (65122, 65123, 4), (65129, 65130, 5), (65136, 65278, 2), (65279, 65279, 9), (65281, 65282, 13), (65283, 65285, 5), (65286, 65290, 13), (65291, 65291, 4), (65292, 65292, 7), (65293, 65293, 4), (65294, 65295, 7), (65296, 65305, 3), (65306, 65306, 7), (65307, 65312, 13), (65339, 65344, 13), (65371, 65381, 13), (65504, 65505, 5), (65509, 65510, 5), (65529, 65533, 13), (127744, 128591, 13), (917760, 917999, 8)]
theorem rises_spans : rises spansL = true := by kernel_rfl
theorem spans_len : spansL.length = 166 := by kernel_rfl
/-- The class of a number, as the program tells it. -/
def cls (c : Int) : Int := ofT spansL c
end Go.Proofs.YtlocnjenkanmpaaDoor.Cl

/-
  The classes of runes, plainly, and as cells of a row. No program in it.
-/
set_option linter.unusedVariables false
namespace Go.Proofs.YtlocnjenkanmpaaDoor.Cl
open Go.RowKit Go.Lib
/-- The classes of runes. -/
def clsR (l : List Ku.R3) : List Int := l.map fun r => cls r.2.2
theorem clsR_len (l : List Ku.R3) : (clsR l).length = l.length := by simp [clsR]
def iClR (zs : List Int) : List Value := zs.map (Value.int .i64)
theorem clsR_take {l : List Ku.R3} {k : Nat} (hk : k < l.length) : iClR (clsR (l.take (k + 1))) = iClR (clsR (l.take k)) ++ [.int .i64 (cls l[k].2.2)] := by
  unfold iClR clsR
  rw [List.take_succ_eq_append_getElem hk, List.map_append, List.map_append]
  rfl
end Go.Proofs.YtlocnjenkanmpaaDoor.Cl

/-
  A line's slots, plainly (a slot as six numbers: kind, row, column, at, part, code): what is seen, its text, its pads, the slots. Clusters follow one another without a gap; each begins where its first rune does. No program in it.
-/
set_option linter.unusedVariables false
namespace Go.Proofs.YtlocnjenkanmpaaDoor.Pl
open Go Go.Proofs.YtlocnjenkanmpaaDoor.Ku Go.Proofs.YtlocnjenkanmpaaDoor.Wr Go.Proofs.YtlocnjenkanmpaaDoor.Bi Go.Proofs.YtlocnjenkanmpaaDoor.Bo
def padS : C6 := ⟨2, 0, 0, 0, 0, 0⟩
def dotsS : C6 := ⟨3, 0, 0, 0, 0, 0⟩
def txtS (a p d : Int) : C6 := ⟨4, 0, 0, a, p, d⟩
/-- A cluster that is seen, and its level. -/
abbrev Sn := C6 × Int
def sn0 : Sn := (d6, 0)
/-- Of k clusters from f on those that take a slot, each at its level. -/
def seenK (C : List C6) (own : List Int) (a f : Nat) : Nat → List Sn
  | 0 => []
  | k + 1 => seenK C own a f k ++ (if 0 < (C.getD (f + k) d6).w then [(C.getD (f + k) d6, own.getD ((C.getD (f + k) d6).f.toNat - a) 0)] else [])
/-- Where a line's runes begin, end. -/
def begR (C : List C6) (x : L5) : Nat := (C.getD x.f.toNat d6).f.toNat
def endR (C : List C6) (x : L5) : Nat := (C.getD (x.t.toNat - 1) d6).t.toNat
/-- A line's own levels. -/
def ownP (l : List R3) (lv : List Int) (C : List C6) (x : L5) (para : Int) : List Int :=
  lineZ (Cl.clsR ((l.drop (begR C x)).take (endR C x - begR C x))) ((lv.drop (begR C x)).take (endR C x - begR C x)) para
def seenP (l : List R3) (lv : List Int) (C : List C6) (x : L5) (para : Int) : List Sn :=
  if x.f = x.t then [] else seenK C (ownP l lv C x para) (begR C x) x.f.toNat (x.s.toNat - x.f.toNat)
/-- A cluster's slots, the first k of them. -/
def blkK (y : Sn) : Nat → List C6
  | 0 => []
  | k + 1 => blkK y k ++ [txtS y.1.a k (shownP y.1.c y.2)]
def blkP (y : Sn) : List C6 := blkK y y.1.w.toNat
/-- The slots of clusters in an order. -/
def rowP (Y : List Sn) (o : List Nat) : List C6 := o.flatMap fun j => blkP (Y.getD j sn0)
def ordP (Y : List Sn) : List Nat := orderP (Y.map (·.2))
def textP (Y : List Sn) (dots para : Int) : List C6 :=
  (if dots = 1 ∧ para = 1 then [dotsS] else []) ++ rowP Y (ordP Y) ++ (if dots = 1 ∧ para = 0 then [dotsS] else [])
def leftN (n w : Nat) (al : Int) : Nat := if al = 3 then w - n else if al = 4 then (w - n) / 2 else 0
def padAt (T : List C6) (w : Nat) (al : Int) (i : Nat) : C6 :=
  if leftN (T.take w).length w al ≤ i ∧ i - leftN (T.take w).length w al < (T.take w).length then (T.take w).getD (i - leftN (T.take w).length w al) d6 else padS
def padP (T : List C6) (w : Nat) (al : Int) : List C6 := (List.range w).map (padAt T w al)
def slotsP (l : List R3) (lv : List Int) (x : L5) (para w al : Int) : List C6 := padP (textP (seenP l lv (ofC l) x para) x.d para) w.toNat al
/-- Which error, if any. -/
def errP (n m cn : Nat) (x : L5) (para w al : Int) : Int :=
  if n ≠ m ∨ para < 0 ∨ 1 < para ∨ w < 1 ∨ 1024 < w ∨ al < 2 ∨ 4 < al then 1 else if x.f < 0 ∨ x.s < x.f ∨ x.t < x.s ∨ (cn : Int) < x.t then 4 else 0
def ansP (l : List R3) (lv : List Int) (x : L5) (para w al : Int) : List C6 :=
  if errP l.length lv.length (ofC l).length x para w al = 0 then slotsP l lv x para w al else []
theorem errP_ok {n m cn : Nat} {x : L5} {para w al : Int} (h : errP n m cn x para w al = 0) : n = m ∧ (para = 0 ∨ para = 1) ∧ 1 ≤ w ∧ w ≤ 1024 ∧ (al = 2 ∨ al = 3 ∨ al = 4) ∧ 0 ≤ x.f ∧ x.f ≤ x.s ∧ x.s ≤ x.t ∧ x.t ≤ cn := by
  unfold errP at h
  split at h
  · omega
  · split at h
    · omega
    · omega
theorem blk_len (y : Sn) : ∀ k, (blkK y k).length = k
  | 0 => rfl
  | k + 1 => by unfold blkK; rw [List.length_append, blk_len y k]; rfl
theorem blk_at (y : Sn) : ∀ (k i : Nat), i < k → (blkK y k)[i]? = some (txtS y.1.a i (shownP y.1.c y.2))
  | 0, i, h => by omega
  | k + 1, i, h => by
    unfold blkK
    rw [List.getElem?_append, blk_len]
    by_cases hi : i < k
    · rw [if_pos hi]; exact blk_at y k i hi
    · obtain rfl : i = k := by omega
      rw [if_neg hi, Nat.sub_self]; rfl
theorem pad_len (T : List C6) (w : Nat) (al : Int) : (padP T w al).length = w := by simp [padP]
theorem leftN_le (n w : Nat) (al : Int) : leftN n w al ≤ w - n := by
  unfold leftN
  split
  · omega
  · split <;> omega
/-- Pads, what stands between them, pads. -/
theorem pad_parts (T : List C6) (w : Nat) (al : Int) : padP T w al = List.replicate (leftN (T.take w).length w al) padS ++ T.take w ++ List.replicate (w - leftN (T.take w).length w al - (T.take w).length) padS := by
  have h1 := leftN_le (T.take w).length w al
  have h2 : (T.take w).length ≤ w := by rw [List.length_take]; omega
  unfold padP padAt
  generalize leftN (T.take w).length w al = L at *
  generalize T.take w = U at *
  apply List.ext_getElem?
  intro i
  rw [List.append_assoc, List.getElem?_append, List.getElem?_append, List.length_replicate, List.getElem?_map]
  by_cases hw : i < w
  · rw [List.getElem?_range hw, Option.map_some]
    by_cases ha : i < L
    · rw [if_pos ha, if_neg (by omega), List.getElem?_replicate, if_pos ha]
    · rw [if_neg ha]
      by_cases hb : i - L < U.length
      · rw [if_pos ⟨by omega, hb⟩, if_pos hb, List.getD_eq_getElem?_getD, List.getElem?_eq_getElem hb]
        rfl
      · rw [if_neg (fun h => hb h.2), if_neg hb, List.getElem?_replicate, if_pos (by omega)]
  · rw [List.getElem?_eq_none (by simpa using hw), if_neg (by omega), if_neg (by omega), List.getElem?_replicate, if_neg (by omega)]
    rfl
theorem seenK_len (C : List C6) (own : List Int) (a f : Nat) : ∀ k, (seenK C own a f k).length ≤ k
  | 0 => Nat.le_refl _
  | k + 1 => by
    have := seenK_len C own a f k
    unfold seenK
    rw [List.length_append]
    split <;> simp <;> omega
inductive Ftc : Nat → List C6 → Nat → Prop
  | nil (q : Nat) : Ftc q [] q
  | cons (q t e : Nat) (x : C6) (l : List C6) : x.f = q → x.t = t → q < t → Ftc t l e → Ftc q (x :: l) e
theorem run_ftc : ∀ (l : List R3) (σ : Sg) (n q : Nat) (x : C6), x.f = q → x.t = n → q < n → Ftc q (run σ n x l) (n + l.length)
  | [], σ, n, q, x, h1, h2, h3 => .cons q n n x [] h1 h2 h3 (.nil n)
  | r :: l, σ, n, q, x, h1, h2, h3 => by
    cases hj : joins σ r.2.2 with
    | true =>
      rw [run_yes hj]
      have := run_ftc l (Ku.step σ r.2.2) (n + 1) q (ext σ x n r) h1 (by unfold ext; rfl) (by omega)
      rw [List.length_cons, show n + (l.length + 1) = n + 1 + l.length from by omega]
      exact this
    | false =>
      rw [run_no hj]
      have := run_ftc l (Ku.step σ r.2.2) (n + 1) n (ext σ (new n r) n r) (by unfold ext new; rfl) (by unfold ext; rfl) (by omega)
      rw [List.length_cons, show n + (l.length + 1) = n + 1 + l.length from by omega]
      exact .cons q n _ x _ h1 h2 h3 this
theorem ofC_ftc : ∀ (l : List R3), Ftc 0 (ofC l) l.length
  | [] => .nil 0
  | r :: l => by
    have := run_ftc l (Ku.step none0 r.2.2) (0 + 1) 0 (ext none0 (new 0 r) 0 r) (by unfold ext new; rfl) (by unfold ext; rfl) (by omega)
    rw [List.length_cons, show l.length + 1 = 0 + 1 + l.length from by omega]
    exact this
theorem Ftc.le {q e : Nat} {l : List C6} (h : Ftc q l e) : q ≤ e := by
  induction h with
  | nil q => exact Nat.le_refl _
  | cons q t e x l h1 h2 h3 h4 ih => omega
theorem Ftc.len {q e : Nat} {l : List C6} (h : Ftc q l e) : q + l.length ≤ e := by
  induction h with
  | nil q => simp
  | cons q t e x l h1 h2 h3 h4 ih => simp only [List.length_cons]; omega
/-- Each one's place: from f to t, behind those ahead of it. -/
theorem Ftc.at_ {q e : Nat} {l : List C6} (h : Ftc q l e) : ∀ {i : Nat} (hi : i < l.length), ∃ f t : Nat, l[i].f = f ∧ l[i].t = t ∧ q ≤ f ∧ f < t ∧ t ≤ e ∧ Ftc q (l.take i) f ∧ Ftc t (l.drop (i + 1)) e := by
  induction h with
  | nil q => intro i hi; simp at hi
  | cons q t e x l h1 h2 h3 h4 ih =>
    intro i hi
    cases i with
    | zero => exact ⟨q, t, h1, h2, Nat.le_refl _, h3, h4.le, .nil q, h4⟩
    | succ i =>
      obtain ⟨f', t', e1, e2, k1, k2, k3, k4, k5⟩ := ih (i := i) (by simpa using hi)
      refine ⟨f', t', e1, e2, by omega, k2, k3, ?_, k5⟩
      rw [List.take_succ_cons]
      exact .cons q t f' x _ h1 h2 h3 k4
theorem Ftc.mono {q e : Nat} {l : List C6} (h : Ftc q l e) {i j : Nat} (hij : i < j) (hj : j < l.length) : ∃ f t f' t' : Nat, (l[i]'(by omega)).f = f ∧ (l[i]'(by omega)).t = t ∧ l[j].f = f' ∧ l[j].t = t' ∧ f < t ∧ t ≤ f' ∧ f' < t' ∧ t' ≤ e := by
  obtain ⟨f, t, e1, e2, k1, k2, k3, -, k5⟩ := h.at_ (i := i) (by omega)
  have hjl : j - (i + 1) < (l.drop (i + 1)).length := by rw [List.length_drop]; omega
  obtain ⟨f', t', g1, g2, m1, m2, m3, -, -⟩ := k5.at_ hjl
  have he : (l.drop (i + 1))[j - (i + 1)] = l[j] := by
    rw [List.getElem_drop]
    congr 1
    omega
  rw [he] at g1 g2
  exact ⟨f, t, f', t', e1, e2, g1, g2, k2, m1, m2, m3⟩
theorem run_a (L : List R3) : ∀ (l : List R3) (σ : Sg) (n : Nat) (x : C6), L.drop n = l → (∃ q : Nat, x.f = q ∧ ∃ r, L[q]? = some r ∧ x.a = r.1 ∧ x.c = r.2.2) → ∀ y ∈ run σ n x l, ∃ q : Nat, y.f = q ∧ ∃ r, L[q]? = some r ∧ y.a = r.1 ∧ y.c = r.2.2
  | [], σ, n, x, hd, h, y, hy => by
    rw [show run σ n x [] = [x] from rfl, List.mem_singleton] at hy
    rw [hy]
    exact h
  | r :: l, σ, n, x, hd, h, y, hy => by
    have hn : L[n]? = some r := by
      have := congrArg List.head? hd
      rw [List.head?_drop] at this
      exact this
    have hd2 : L.drop (n + 1) = l := by
      rw [← List.tail_drop, hd]
      rfl
    cases hj : joins σ r.2.2 with
    | true =>
      rw [run_yes hj] at hy
      exact run_a L l (Ku.step σ r.2.2) (n + 1) (ext σ x n r) hd2 h y hy
    | false =>
      rw [run_no hj, List.mem_cons] at hy
      rcases hy with rfl | hy
      · exact h
      · exact run_a L l (Ku.step σ r.2.2) (n + 1) (ext σ (new n r) n r) hd2 ⟨n, by unfold ext new; rfl, r, hn, by unfold ext new; rfl, by unfold ext new; rfl⟩ y hy
/-- Each cluster begins where its first rune does. -/
theorem ofC_a (l : List R3) : ∀ y ∈ ofC l, ∃ q : Nat, y.f = q ∧ ∃ r, l[q]? = some r ∧ y.a = r.1 ∧ y.c = r.2.2 := by
  cases l with
  | nil => intro y hy; simp [ofC, Ku.runN] at hy
  | cons r l =>
    intro y hy
    exact run_a (r :: l) l (Ku.step none0 r.2.2) (0 + 1) (ext none0 (new 0 r) 0 r) rfl ⟨0, by unfold ext new; rfl, r, rfl, by unfold ext new; rfl, by unfold ext new; rfl⟩ y hy
end Go.Proofs.YtlocnjenkanmpaaDoor.Pl

/-
  A law for the builtin append onto a row of the call's own, of whatever slice is appended, nil too: one way through.
-/
set_option linter.unusedVariables false
namespace Go.Proofs.YtlocnjenkanmpaaDoor
open Go
theorem wpList_append_src {P : Program} (w : World) {ops : Array Oper} {rest : List Oper} {o : Oper} {a : Act} {Q : Exit → Act → World → Prop} (hgd : o.guard = none) (s x : Operand) (t : TypeId)
    (ho : o.op = .call { callee := .builtin .append, args := #[s, x], argTypes := #[t, t] })
    (base : Nat) (e : TypeId) (i : TypeInfo) (z : Value) (size bytes : Nat) (ht : P.underlying t = some (.slice e)) (hi : P.info? e = some i) (hz : i.zero = some z)
    (hsize : i.size = size) (hby : i.bytes = bytes) (hzs : z.cells.size = size) (hsz : 0 < size)
    (v : Value) (n : Nat) (xs : List Value) (hs : a.eval s = v) (hown : w.ownsRow base e size v n xs)
    (A : Option Addr) (m c : Nat) (news : List Value) (hx : a.eval x = .slice A m c) (hl : news.length = m * size) (hA : A = none → m = 0) (hnews : ∀ ad, A = some ad → ∀ j u, news[j]? = some u → w.cell? (ad.add j) = some u) (h1 : ∀ u ∈ news, u.oneCell' = true)
    (h63 : n + m ≤ maxLen) (hbytes : (n + m) * bytes ≤ 140737488355328) (hbase : base ≤ w.heap.size)
    (h : ∀ v' w', w'.ownsRow base e size v' (n + m) (xs ++ news) → w.grownBy w' v.ownBlock → wpList P ops Q rest (a.put o.dst v') w') : wpList P ops Q (o :: rest) a w := by
  cases A with
  | some ad => exact wpList_append_own w hgd s x t ho base e i z size bytes ht hi hz hsize hby hzs hsz v n xs hs hown ad m c news hx hl (hnews ad rfl) h1 h63 hbytes hbase (fun v' w' h2 h3 _ => h v' w' h2 h3)
  | none =>
    obtain rfl := hA rfl
    obtain rfl : news = [] := List.eq_nil_of_length_eq_zero (by omega)
    have hshape : ∃ b k d, v = .slice b k d ∧ k ≤ d := by
      rcases hown.2 with ⟨rfl, _⟩ | ⟨g, cap, cur, rfl, _, _, hle, _⟩
      · exact ⟨_, _, _, rfl, Nat.le_refl _⟩
      · exact ⟨_, _, _, rfl, hle⟩
    obtain ⟨b, k, d, rfl, hkd⟩ := hshape
    have hr := run_append_nothing (P := P) w t t o.type e i ht hi b k d hkd (.slice none 0 c) (Src.ofNil w ht c)
    refine wpList_plain hgd fun K hK => ?_
    unfold Oper.wp execOp
    simp only [ho, resolve, invoke, builtin, Sem.run_bind, Sem.run_pure, Result.andThen_ok, List.map_toArray, List.map_cons, List.map_nil, hs, hx, hr]
    refine hK _ _ (h _ _ ?_ ⟨rfl, rfl, rfl, Nat.le_refl _, fun _ _ _ => rfl⟩)
    rw [Nat.add_zero, List.append_nil]
    exact hown
end Go.Proofs.YtlocnjenkanmpaaDoor

/-
  The built-in append of ints onto a row of the call's own, of whatever row of ints, in one step of a walk: what is owned then, and that nothing below the row's base changes.
-/
set_option linter.unusedVariables false
namespace Go.Proofs.YtlocnjenkanmpaaDoor.Cl
open Go Go.RowKit Go.Lib
/-- The cells of a row of ints. -/
def icl (zs : List Int) : List Value := zs.map (Value.int .i64)
theorem icl_snoc (a : List Int) (z : Int) : icl (a ++ [z]) = icl a ++ [.int .i64 z] := by simp [icl]
theorem icl_append (a b : List Int) : icl (a ++ b) = icl a ++ icl b := by simp [icl]
theorem icl_len (a : List Int) : (icl a).length = a.length := by simp [icl]
theorem intsAt_icl {w : World} {B n : Nat} {v : Value} {zs : List Int} (h : w.ownsRow B 3 1 v n (icl zs)) (hn : zs.length = n) : ∃ A c, v = .slice A n c ∧ IntsAt w A zs := by
  subst hn
  exact intsAt_own h
theorem made_ints (zs : List Int) (cs : Array Value) (e : TypeId) (w : World) (h : cs = (zs.map (Value.int .i64)).toArray) : IntsAt (w.alloc (.cells cs e)) (some ⟨w.heap.size, 0, none⟩) zs := by
  subst h
  refine .inr ⟨w.heap.size, 0, rfl, by simp, fun j z hz => ?_⟩
  obtain ⟨hj, rfl⟩ := List.getElem?_eq_some_iff.1 hz
  simp [hj]
theorem made_ints' {W : World} {B : Nat} {zs : List Int} {cs : Array Value} {e : TypeId} (hB : W.heap.size = B) (h : cs = (zs.map (Value.int .i64)).toArray) : IntsAt (W.alloc (.cells cs e)) (some ⟨B, 0, none⟩) zs := by
  subst hB
  exact made_ints zs cs e W h
theorem below_made (w : World) (o : Obj) : Below w.heap.size w (w.alloc o) := (Below.refl _ _).alloc (Nat.le_refl _) _
theorem wpList_add {ops : Array Oper} {rest : List Oper} {o : Oper} {a : Act} {Q : Exit → Act → World → Prop} {w : World} (hgd : o.guard = none) (s x : Operand)
    (ho : o.op = .call { callee := .builtin .append, args := #[s, x], argTypes := #[23, 23] })
    (base : Nat) (v : Value) (n : Nat) (zs : List Int) (hs : a.eval s = v) (hown : w.ownsRow base 3 1 v n (icl zs))
    (A : Option Addr) (m c : Nat) (ys : List Int) (hx : a.eval x = .slice A m c) (hy : IntsAt w A ys) (hl : ys.length = m) (hnm : n + m ≤ 1099511627776) (hbase : base ≤ w.heap.size)
    (h : ∀ v' w', w'.ownsRow base 3 1 v' (n + m) (icl (zs ++ ys)) → Below base w w' → wpList Tryd.prog ops Q rest (a.put o.dst v') w') : wpList Tryd.prog ops Q (o :: rest) a w := by
  obtain ⟨i0, hi, hz0, hz1, hz2⟩ := info_parts infoInt
  refine wpList_append_src w hgd s x 23 ho base 3 i0 (.int .i64 0) 1 8 Tryd.underlying23 hi hz0 hz1 hz2 rfl (by decide) v n (icl zs) hs hown A m c (icl ys) hx (by rw [icl_len, hl, Nat.mul_one])
    (fun e => by rw [← hl]; exact hy.nil_len e) (fun ad had => ?_) (ints_one _) (by unfold maxLen; omega) (by omega) hbase (fun v' w' h2 h3 => h v' w' (by rw [icl_append]; exact h2) ?_)
  · subst had
    exact hy.news
  · exact (Below.refl base w).grown h3 hbase (fun k hk => (hown.lt k hk).1)
end Go.Proofs.YtlocnjenkanmpaaDoor.Cl

/-
  The built-in append onto a row of the call's own of structs of six ints (clusters, slots), of whatever such row, in one step of a walk: what is owned then, and that nothing below the row's base changes.
-/
set_option linter.unusedVariables false
namespace Go.Proofs.YtlocnjenkanmpaaDoor.Pl
open Go Go.RowKit Go.Lib Go.Proofs.YtlocnjenkanmpaaDoor.Ku
def c6 (x : C6) : Array Value := #[.int .i64 x.a, .int .i64 x.z, .int .i64 x.f, .int .i64 x.t, .int .i64 x.w, .int .i64 x.c]
theorem cellsC_append (a b : List C6) : cellsC (a ++ b) = cellsC a ++ cellsC b := by simp [cellsC]
theorem cellsC_one (l : List C6) : ∀ u ∈ cellsC l, u.oneCell' = true := by
  intro u hu
  simp only [cellsC, List.mem_flatMap] at hu
  obtain ⟨x, _, hu⟩ := hu
  simp at hu
  rcases hu with rfl | rfl | rfl | rfl | rfl | rfl <;> rfl
theorem cellsC_get : ∀ (l : List C6) (j : Nat) (u : Value), (cellsC l)[j]? = some u → ∃ k, ∃ hk : k < l.length, ∃ i, i < 6 ∧ j = k * 6 + i ∧ (c6 l[k])[i]? = some u
  | [], j, u, h => by simp [cellsC] at h
  | x :: l, j, u, h => by
    have e : cellsC (x :: l) = (c6 x).toList ++ cellsC l := by simp [cellsC, c6]
    rw [e, List.getElem?_append] at h
    by_cases hj : j < 6
    · rw [if_pos (by simpa [c6] using hj)] at h
      exact ⟨0, by simp, j, hj, by omega, by simpa using h⟩
    · rw [if_neg (by simpa [c6] using hj)] at h
      obtain ⟨k, hk, i, hi, h1, h2⟩ := cellsC_get l _ u h
      have h3 : (c6 x).toList.length = 6 := rfl
      rw [h3] at h1
      exact ⟨k + 1, by simpa using hk, i, hi, by omega, by simpa using h2⟩
theorem cu_news {w : World} {ad : Addr} {l : List C6} (h : CuAt w (some ad) l) : ∀ j u, (cellsC l)[j]? = some u → w.cell? (ad.add j) = some u := by
  intro j u hu
  obtain ⟨k, hk, i, hi, rfl, hv⟩ := cellsC_get l j u hu
  obtain ⟨b, off, e, hb, c0, c1, c2, c3, c4, c5⟩ := h.at_ hk
  injection e with e
  subst e
  rw [add_off]
  rcases i with _ | _ | _ | _ | _ | _ | i
  · simp [c6] at hv; subst hv; exact c0
  · simp [c6] at hv; subst hv; exact c1
  · simp [c6] at hv; subst hv; exact c2
  · simp [c6] at hv; subst hv; exact c3
  · simp [c6] at hv; subst hv; exact c4
  · simp [c6] at hv; subst hv; exact c5
  · omega
theorem cu_nil {w : World} {A : Option Addr} {l : List C6} (h : CuAt w A l) : A = none → l.length = 0 := by
  intro hA
  subst hA
  rcases h with rfl | ⟨b, off, e, -⟩
  · rfl
  · cases e
theorem made_c (x : C6) (e : TypeId) (w : World) : CuAt (w.alloc (.cells #[.int .i64 x.a, .int .i64 x.z, .int .i64 x.f, .int .i64 x.t, .int .i64 x.w, .int .i64 x.c] e)) (some ⟨w.heap.size, 0, none⟩) [x] := by
  refine .inr ⟨w.heap.size, 0, rfl, by simp, fun k hk => ?_⟩
  obtain rfl : k = 0 := by simpa using hk
  simp
theorem made_c' {W : World} {B : Nat} (x : C6) (e : TypeId) (hB : W.heap.size = B) : CuAt (W.alloc (.cells #[.int .i64 x.a, .int .i64 x.z, .int .i64 x.f, .int .i64 x.t, .int .i64 x.w, .int .i64 x.c] e)) (some ⟨B, 0, none⟩) [x] := by
  subst hB
  exact made_c x e W
def sixInfo (e : TypeId) : Prop := (Tryd.prog.info? e).map (fun i => (i.zero, i.size, i.bytes)) = some (some (.agg #[.int .i64 0, .int .i64 0, .int .i64 0, .int .i64 0, .int .i64 0, .int .i64 0]), 6, 48)
/-- What lies in memory as cells stays, but for cells of one type. -/
def KeepsT (e : TypeId) (w w' : World) : Prop := w.heap.size ≤ w'.heap.size ∧ ∀ (b : Nat) (cs : Array Value) (t : TypeId) (fr : Nat × Nat), w.heap[b]? = some (Obj.cells cs t fr) → t ≠ e → w'.heap[b]? = some (Obj.cells cs t fr)
theorem KeepsT.refl (e : TypeId) (w : World) : KeepsT e w w := ⟨Nat.le_refl _, fun _ _ _ _ h _ => h⟩
theorem KeepsT.trans {e : TypeId} {a b c : World} (h : KeepsT e a b) (h' : KeepsT e b c) : KeepsT e a c := ⟨Nat.le_trans h.1 h'.1, fun k cs t fr hk ht => h'.2 k cs t fr (h.2 k cs t fr hk ht) ht⟩
theorem KeepsT.below {e : TypeId} {w w' : World} (h : Below w.heap.size w w') : KeepsT e w w' := ⟨h.size, fun k cs t fr hk _ => (h.block k (Array.getElem?_eq_some_iff.1 hk).1).trans hk⟩
theorem KeepsT.own {e t : TypeId} {w w' : World} {B sz n : Nat} {v : Value} {xs : List Value} (h : KeepsT e w w') (ht : t ≠ e) (ho : w.ownsRow B t sz v n xs) : w'.ownsRow B t sz v n xs := by
  refine ⟨ho.1, ?_⟩
  rcases ho.2 with h0 | ⟨g, cap, cur, h1, h2, h3, h4⟩
  · exact .inl h0
  · exact .inr ⟨g, cap, cur, h1, h2, h.2 g _ _ _ h3 ht, h4⟩
theorem KeepsT.grown {e : TypeId} {w w' : World} {B sz n : Nat} {v : Value} {xs : List Value} (ho : w.ownsRow B e sz v n xs) (h : w.grownBy w' v.ownBlock) : KeepsT e w w' := by
  refine ⟨h.size, fun k cs t fr hk ht => ?_⟩
  refine (h.block k (Array.getElem?_eq_some_iff.1 hk).1 ?_).trans hk
  rcases ho.2 with ⟨rfl, _⟩ | ⟨g, cap, cur, rfl, _, hg, _⟩
  · intro hh; cases hh
  · intro hh
    simp only [Value.ownBlock, Option.some.injEq] at hh
    subst hh
    rw [hg] at hk
    injection hk with hk
    injection hk with _ h2 _
    exact ht h2.symm
theorem own_far {w : World} {B sz n b : Nat} {e t : TypeId} {v : Value} {xs : List Value} {cs : Array Value} {fr : Nat × Nat} (ho : w.ownsRow B e sz v n xs) (hb : w.heap[b]? = some (Obj.cells cs t fr)) (ht : t ≠ e) : ∀ k, v.ownBlock = some k → k ≠ b := by
  intro k hk hkb
  rcases ho.2 with ⟨rfl, _⟩ | ⟨g, cap, cur, rfl, _, hg, _⟩
  · cases hk
  · simp only [Value.ownBlock, Option.some.injEq] at hk
    subst hk hkb
    rw [hg] at hb
    injection hb with hb
    injection hb with _ h2 _
    exact ht h2.symm
/-- Of what was there all blocks are as they were, but one. -/
def ButB (B : Nat) (a b : World) : Prop := a.heap.size ≤ b.heap.size ∧ ∀ k, k < a.heap.size → k ≠ B → b.heap[k]? = a.heap[k]?
theorem ButB.refl (B : Nat) (a : World) : ButB B a a := ⟨Nat.le_refl _, fun _ _ _ => rfl⟩
theorem ButB.own {B sz n b : Nat} {w w' : World} {e : TypeId} {v : Value} {xs : List Value} (h : ButB b w w') (ho : w.ownsRow B e sz v n xs) (hn : ∀ k, v.ownBlock = some k → k ≠ b) : w'.ownsRow B e sz v n xs := by
  refine ⟨ho.1, ?_⟩
  rcases ho.2 with h0 | ⟨g, cap, cur, rfl, h2, h3, h4⟩
  · exact .inl h0
  · exact .inr ⟨g, cap, cur, rfl, h2, (h.2 g (Array.getElem?_eq_some_iff.1 h3).1 (hn g rfl)).trans h3, h4⟩
/-- A row of the call's own, from a world on, grows, and is stored into a variable of that world. -/
theorem ButB.stored {b sz n i : Nat} {a w w3 : World} {e : TypeId} {v : Value} {xs : List Value} (h : ButB b a w) (o : Obj) (ho : (w.alloc o).drew.ownsRow a.heap.size e sz v n xs) (hg : (w.alloc o).drew.grownBy w3 v.ownBlock) (u : Value) : ButB b a (w3.setCell ⟨b, i, none⟩ u) := by
  have hs : w.heap.size + 1 ≤ w3.heap.size := by
    have := hg.size
    have e : ((w.alloc o).drew).heap.size = w.heap.size + 1 := by show (w.alloc o).heap.size = _; rw [World.size_alloc]
    omega
  refine ⟨?_, fun k hk hn => ?_⟩
  · have := h.1
    have e : (w3.setCell ⟨b, i, none⟩ u).heap.size = w3.heap.size := by simp
    omega
  · have h1 := h.1
    have e : ((w.alloc o).drew).heap.size = w.heap.size + 1 := by show (w.alloc o).heap.size = _; rw [World.size_alloc]
    refine (Below.heap_setCell w3 ⟨b, i, none⟩ u k hn).trans ((hg.block k (by omega) ?_).trans ((Below.heap_alloc w o k (by omega)).trans (h.2 k hk hn)))
    intro hh
    have := (ho.lt k hh.symm).1
    omega
theorem wpList_addC (tS e : TypeId) (hu : Tryd.prog.underlying tS = some (.slice e)) (hT : sixInfo e) {ops : Array Oper} {rest : List Oper} {o : Oper} {a : Act} {Q : Exit → Act → World → Prop} {w : World} (hgd : o.guard = none) (s x : Operand)
    (ho : o.op = .call { callee := .builtin .append, args := #[s, x], argTypes := #[tS, tS] })
    (base : Nat) (v : Value) (n : Nat) (zs : List C6) (hs : a.eval s = v) (hown : w.ownsRow base e 6 v n (cellsC zs))
    (A : Option Addr) (m c : Nat) (ys : List C6) (hx : a.eval x = .slice A m c) (hy : CuAt w A ys) (hl : ys.length = m) (hnm : n + m ≤ 1099511627776) (hbase : base ≤ w.heap.size)
    (h : ∀ v' w', w'.ownsRow base e 6 v' (n + m) (cellsC (zs ++ ys)) → Below base w w' → KeepsT e w w' → wpList Tryd.prog ops Q rest (a.put o.dst v') w') : wpList Tryd.prog ops Q (o :: rest) a w := by
  obtain ⟨i0, hi, hz0, hz1, hz2⟩ := Cl.info_parts hT
  refine wpList_append_src w hgd s x tS ho base e i0 (.agg #[.int .i64 0, .int .i64 0, .int .i64 0, .int .i64 0, .int .i64 0, .int .i64 0]) 6 48 hu hi hz0 hz1 hz2 rfl (by decide) v n (cellsC zs) hs hown A m c (cellsC ys) hx (by rw [cellsC_len, hl])
    (fun e => by rw [← hl]; exact cu_nil hy e) (fun ad had => ?_) (cellsC_one _) (by unfold maxLen; omega) (by omega) hbase (fun v' w' h2 h3 => h v' w' (by rw [cellsC_append]; exact h2) ?_ (KeepsT.grown hown h3))
  · subst had
    exact cu_news hy
  · exact (Below.refl base w).grown h3 hbase (fun k hk => (hown.lt k hk).1)
end Go.Proofs.YtlocnjenkanmpaaDoor.Pl

/-
  Proved here: parquetryref02.Same of two rows that hold the same numbers is true; it leaves what was in memory.
-/
set_option linter.unusedVariables false
namespace Go.Proofs.YtlocnjenkanmpaaDoor.Rc
open Go.RowKit Go.Lib Go.Proofs.YtlocnjenkanmpaaDoor.Cl
theorem same_ints_drewN (w : World) : ∀ n, Below w.heap.size w (w.drewN n)
  | 0 => Below.refl _ _
  | n + 1 => (same_ints_drewN w n).drew
set_option maxHeartbeats 1000000 in
set_option maxRecDepth 1000000 in
theorem same_ints (A B : Option Addr) (zs : List Int) (c d : Nat) (w : World) (ha : IntsAt w A zs) (hb : IntsAt w B zs) (hn : zs.length ≤ 1099511627776) :
    Calls Tryd.prog 12 #[.slice A zs.length c, .slice B zs.length d] w fun e w' => e = .returned (.bool true) ∧ Below w.heap.size w w' := by
  have HA := Lib.hid ha
  have HB := Lib.hid hb
  clear ha hb
  go_enter Tryd.func12, Tryd.ntmps12
  go_wp2_with fail
  go_loopw [5] (fun s5 wx => ∃ k : Nat, k ≤ zs.length ∧ s5 = .int .i64 k ∧ Below w.heap.size w wx) (fun s5 _ => zs.length - (RowKit.intOf s5).toNat)
  case atStart => exact ⟨0, Nat.zero_le _, rfl, Below.refl _ _⟩
  case round =>
    obtain ⟨k, hk, rfl, hbw⟩ := hrel
    by_cases hlt : k < zs.length
    · obtain ⟨g, o, rfl, c0⟩ := (HA.out.below hbw).at_ hlt
      obtain ⟨g', o', rfl, d0⟩ := (HB.out.below hbw).at_ hlt
      clear HA HB
      generalize zs[k] = z at *
      go_wp2_with fail
      go_quiet (fail)
      go_wp2_with fail
      go_roundw
      case rel => exact ⟨k + 1, by omega, by go_num, hbw.trans ((same_ints_drewN _ _).mono hbw.size)⟩
      case measure => simp [RowKit.intOf]; omega
    · go_wp2
      go_ret
      exact ⟨rfl, hbw⟩
end Go.Proofs.YtlocnjenkanmpaaDoor.Rc

/-
  A region that builds one slice of literal ints and hands it on (a table of the document's answer); no program here but its table of types.
-/
set_option linter.unusedVariables false
namespace Go.Proofs.YtlocnjenkanmpaaDoor.Tab
open Go.RowKit Go.Lib
def litParts (l : List Int) : Array (Nat × Operand) := ((l.zipIdx 0).map fun x => (x.2, Operand.const (Value.int .i64 x.1))).toArray
theorem wpList_assignTo {P : Program} {ops : Array Oper} {Q : Exit → Act → World → Prop} {rest : List Oper} {o : Oper} {a : Act} {w : World} (hg : o.guard = none) (x : Operand) (ho : o.op = .assign x)
    (h : wpList P ops Q rest (a.put o.dst (a.eval x)) w) : wpList P ops Q (o :: rest) a w :=
  wpList_plain hg fun K hK => by
    unfold Oper.wp execOp
    simp only [ho]
    exact hK _ _ h
theorem wp_ints {P : Program} {id : Nat} {l : List Oper} {Q : Exit → Act → World → Prop} {a : Act} {w : World} (d d2 : Nat) (t e : TypeId) (zs : List Int) (n : Nat)
    (hu : P.underlying t = some (.slice e)) (hsz : (P.info? e).map (·.size) = some 1) (hz : ((P.info? e).bind (·.zero)).isSome = true) (hn : n = zs.length) (hpos : 0 < n) (hsmall : n ≤ 2 ^ 24)
    (hl : l.map (fun o => (o.dst, o.op, o.guard)) = [(some d, .buildSlice t n (litParts zs), none), (some d2, .assign (.tmp d), none)])
    (h : Q .normal ((a.put (some d) (.slice (some ⟨w.heap.size, 0, none⟩) n n)).put (some d2) ((a.put (some d) (.slice (some ⟨w.heap.size, 0, none⟩) n n)).eval (.tmp d))) (w.alloc (.cells (zs.map (Value.int .i64)).toArray e))) :
    (Code.region id l.toArray false).wp P Q a w := by
  refine wp_region_lit ?_
  generalize hops : l.toArray = ops
  clear hops
  rcases l with _ | ⟨o1, _ | ⟨o2, _ | ⟨o3, m⟩⟩⟩
  · cases hl
  · simp at hl
  · simp only [List.map_cons, List.map_nil, List.cons.injEq, Prod.mk.injEq, and_true] at hl
    obtain ⟨⟨e1, e2, e3⟩, e4, e5, e6⟩ := hl
    refine wpList_buildFlat e3 t e n (litParts zs) e2 .i64 zs hu hsz hz hn hpos hsmall rfl ?_
    refine wpList_assignTo e6 (.tmp d) e5 ?_
    rw [e1, e4]
    exact h
  · simp at hl
theorem infoI1 : (Tryd.prog.info? 3).map (·.size) = some 1 := by kernel_rfl
theorem infoI2 : ((Tryd.prog.info? 3).bind (·.zero)).isSome = true := by kernel_rfl
/-- Numbers in memory, from a block's beginning on. -/
def LitAt (w : World) (g : Nat) (zs : List Int) : Prop := g < w.heap.size ∧ ∀ k (hk : k < zs.length), w.cell? ⟨g, k, none⟩ = some (.int .i64 zs[k])
theorem LitAt.below {w w' : World} {g : Nat} {zs : List Int} (h : LitAt w g zs) (hb : Below w.heap.size w w') : LitAt w' g zs :=
  ⟨Nat.lt_of_lt_of_le h.1 hb.size, fun k hk => (hb.cell (p := ⟨g, k, none⟩) h.1).trans (h.2 k hk)⟩
theorem litAt_made (zs : List Int) (e : TypeId) (w : World) : LitAt (w.alloc (.cells (zs.map (Value.int .i64)).toArray e)) w.heap.size zs := by
  refine ⟨by simp, fun k hk => ?_⟩
  simp [hk]
end Go.Proofs.YtlocnjenkanmpaaDoor.Tab

/-
  Small laws: a region that builds literals and stores the last one into the array that was made last; a new variable; a world that drew; no program here.
-/
set_option linter.unusedVariables false
namespace Go.Proofs.YtlocnjenkanmpaaDoor.Arr
open Go.RowKit Go.Lib
theorem below_drewN {B : Nat} {a w : World} (h : Below B a w) (n : Nat) : Below B a (w.drewN n) := ⟨h.os, h.tape, h.output, h.size, h.block⟩
theorem below_drew {B : Nat} {a w : World} (h : Below B a w) : Below B a w.drew := ⟨h.os, h.tape, h.output, h.size, h.block⟩
/-- The frame behind a list of literals of structs and arrays. -/
def builtAll (P : Program) : List Oper → Act → Option Act
  | [], a => some a
  | o :: l, a => match o.guard, o.op with
    | none, .build t parts => match P.built t (parts.map fun (i, x) => (i, a.eval x)).toList with
      | some cells => builtAll P l (a.put o.dst (.agg cells))
      | none => none
    | _, _ => none
theorem wpList_builtAll {P : Program} {ops : Array Oper} {Q : Exit → Act → World → Prop} {rest : List Oper} {w : World} :
    ∀ (l : List Oper) (a a' : Act), builtAll P l a = some a' → wpList P ops Q rest a' w → wpList P ops Q (l ++ rest) a w
  | [], a, a', h, hr => by
    simp only [builtAll, Option.some.injEq] at h
    subst h
    exact hr
  | o :: l, a, a', h, hr => by
    unfold builtAll at h
    split at h
    · rename_i t parts hg ho
      split at h
      · rename_i cells hc
        exact wpList_buildTo hg t parts ho _ rfl cells hc (wpList_builtAll l _ a' h hr)
      · cases h
    · cases h
/-- A region that builds literals, and stores the last one into the array that was made last. -/
theorem wp_stored {P : Program} {id : Nat} {l : List Oper} {Q : Exit → Act → World → Prop} {a : Act} {w : World} (n : Nat) (a' : Act) (h1 : builtAll P (l.take n) a = some a')
    (x y : Operand) (t : TypeId) (hl : (l.drop n).map (fun o => (o.dst, o.op, o.guard)) = [(none, .store t x y, none)]) (old cells : Array Value)
    (hx : a'.eval x = .pointer (some ⟨w.heap.size, 0, none⟩)) (hy : a'.eval y = .agg cells) (hi : (P.info? t).map (·.size) = some cells.size) (hold : old.size = cells.size) (hc : cells.all (·.oneCell') = true)
    (h : Q .normal a' (w.alloc (.cells cells t))) : (Code.region id l.toArray false).wp P Q a (w.alloc (.cells old t)) := by
  refine wp_region_lit ?_
  have hw : wpList P l.toArray Q (l.take n ++ l.drop n) a (w.alloc (.cells old t)) := by
    refine wpList_builtAll _ a a' h1 ?_
    generalize l.drop n = m at hl ⊢
    rcases m with _ | ⟨o1, _ | ⟨o2, m⟩⟩
    · cases hl
    · simp only [List.map_cons, List.map_nil, List.cons.injEq, Prod.mk.injEq, and_true] at hl
      obtain ⟨e1, e2, e3⟩ := hl
      refine wpList_store_rowTo e3 t x y e2 e1 w.heap.size cells hx hy t old (heap_alloc_last w _) hi hold hc ?_
      rw [World.setRow_alloc_new]
      exact h
    · simp at hl
  rwa [List.take_append_drop] at hw
/-- A new variable. -/
theorem wpList_allocVar {P : Program} {ops : Array Oper} {rest : List Oper} {o : Oper} {a : Act} {w : World} {Q : Exit → Act → World → Prop} (hg : o.guard = none) (t : TypeId) (ho : o.op = .alloc t) (d : Option Tmp) (hd : o.dst = d)
    (z : Value) (hz : ∀ w, (zeroValue t).run P w = .ok z w) (h : wpList P ops Q rest (a.put d (.pointer (some ⟨w.heap.size, 0, none⟩))) (w.alloc (.cells z.cells t))) : wpList P ops Q (o :: rest) a w := by
  subst hd
  refine wpList_plain hg fun K hK => ?_
  unfold Oper.wp execOp
  simp only [ho, Instr.alloc, Sem.run_bind, hz, Result.andThen_ok, newVar, newRow]
  exact hK _ _ h
theorem setRow_alloc_old (w : World) (B : Obj) (g : Nat) (c : Array Value) (h : g < w.heap.size) : (w.alloc B).setRow g c = (w.setRow g c).alloc B := by
  simp only [World.setRow, World.alloc]
  congr 1
  apply Array.ext_getElem?
  intro i
  rw [Array.getElem?_modify, Array.getElem?_push, Array.getElem?_push, Array.getElem?_modify, Array.size_modify]
  by_cases h1 : i = w.heap.size
  · subst h1
    rw [if_neg (by omega), if_pos rfl, if_pos rfl]
  · rw [if_neg h1, if_neg h1]
/-- Two new variables, each with its array. -/
theorem wpList_two {P : Program} {ops : Array Oper} {rest : List Oper} {o1 o2 o3 o4 : Oper} {a : Act} {w : World} {Q : Exit → Act → World → Prop} (t1 t2 : TypeId) (d1 d2 : Tmp) (x1 x2 : Operand) (c1 c2 z1 z2 : Array Value)
    (ho : [o1, o2, o3, o4].map (fun o => (o.dst, o.op, o.guard)) = [(some d1, .alloc t1, none), (some d2, .alloc t2, none), (none, .store t1 (.tmp d1) x1, none), (none, .store t2 (.tmp d2) x2, none)])
    (hz1 : ∀ w, (zeroValue t1).run P w = .ok (.agg z1) w) (hz2 : ∀ w, (zeroValue t2).run P w = .ok (.agg z2) w)
    (a' : Act) (ha : (a.put (some d1) (.pointer (some ⟨w.heap.size, 0, none⟩))).put (some d2) (.pointer (some ⟨w.heap.size + 1, 0, none⟩)) = a')
    (e1 : a'.eval (.tmp d1) = .pointer (some ⟨w.heap.size, 0, none⟩)) (e2 : a'.eval (.tmp d2) = .pointer (some ⟨w.heap.size + 1, 0, none⟩)) (e3 : a'.eval x1 = .agg c1) (e4 : a'.eval x2 = .agg c2)
    (hi1 : (P.info? t1).map (·.size) = some c1.size) (hi2 : (P.info? t2).map (·.size) = some c2.size) (s1 : z1.size = c1.size) (s2 : z2.size = c2.size)
    (b1 : c1.all (·.oneCell') = true) (b2 : c2.all (·.oneCell') = true)
    (h : wpList P ops Q rest a' ((w.alloc (.cells c1 t1)).alloc (.cells c2 t2))) : wpList P ops Q (o1 :: o2 :: o3 :: o4 :: rest) a w := by
  simp only [List.map_cons, List.map_nil, List.cons.injEq, Prod.mk.injEq, and_true] at ho
  obtain ⟨⟨f1, f2, f3⟩, ⟨f4, f5, f6⟩, ⟨f7, f8, f9⟩, f10, f11, f12⟩ := ho
  refine wpList_allocVar f3 t1 f2 (some d1) f1 _ hz1 ?_
  refine wpList_allocVar f6 t2 f5 (some d2) f4 _ hz2 ?_
  have hsz : (w.alloc (.cells (Value.agg z1).cells t1)).heap.size = w.heap.size + 1 := by simp
  rw [hsz, ha]
  refine wpList_store_rowTo f9 _ _ _ f8 f7 w.heap.size c1 e1 e3 t1 z1 (heap_alloc2_old _ _ _) hi1 s1 b1 ?_
  rw [setRow_alloc_old _ _ _ _ (by simp), World.setRow_alloc_new]
  have hsz2 : (w.alloc (.cells c1 t1)).heap.size = w.heap.size + 1 := by simp
  refine wpList_store_rowTo f12 _ _ _ f11 f10 (w.heap.size + 1) c2 e2 e4 t2 z2 (heap_alloc2_new _ _ _) hi2 s2 b2 ?_
  rw [← hsz2, World.setRow_alloc_new]
  exact h
theorem cell_heap {w w' : World} (h : w'.heap = w.heap) (a : Addr) : w'.cell? a = w.cell? a := by
  unfold World.cell?
  rw [h]
theorem litAt_heap {w w' : World} {g : Nat} {zs : List Int} (h : Tab.LitAt w g zs) (e : w'.heap = w.heap) : Tab.LitAt w' g zs :=
  ⟨by rw [e]; exact h.1, fun k hk => (cell_heap e _).trans (h.2 k hk)⟩
theorem below_heap {B : Nat} {a w w' : World} (h : Below B a w) (e : w'.heap = w.heap) (h1 : w'.os = w.os) (h2 : w'.output = w.output) (h3 : w'.tape = w.tape) : Below B a w' :=
  ⟨h1.trans h.os, h3.trans h.tape, h2.trans h.output, by rw [e]; exact h.size, fun k hk => by rw [e]; exact h.block k hk⟩
/-- A row of ints: cells of one word. -/
theorem ints_allOne (zs : List Int) : (zs.map (Value.int .i64)).toArray.all (·.oneCell') = true := by
  rw [Array.all_eq_true']
  intro x hx
  simp only [List.mem_toArray, List.mem_map] at hx
  obtain ⟨z, _, rfl⟩ := hx
  rfl
end Go.Proofs.YtlocnjenkanmpaaDoor.Arr
