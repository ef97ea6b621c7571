/-
  Several texts in one, each with its own remark: PrPlain, PrSettle, NePlain, BiRule, BiSeqs, ClInts, AppSrc, AddInts, WkRow, LvOne, TabInts, ArrKit.
-/
import Derived.Carry
import Derived.ProofKit
import Derived.OpenShut
import Derived.Below
import Derived.Lib.Hide
import Derived.WalkKit
import Derived.Laws.AppendOwn
import Derived.Laws.OwnMore
import Derived.OwnWalk
import Derived.Deep.AppendLies
import Derived.Deep.Upon
import Derived.Great.BuildSlice
import Derived.Deep.WholeRow
import Derived.Laws.Rows
import Derived.Deep.QuietTactic
import Derived.BigQuiet
import Derived.Test.YtfclpecbnailgaaGreatR1
import Derived.Test.YtfclpecbnailgaaGreatRows

/-
 Brackets of a sequence, plainly: the pairs by their ends (a stack, the last one first), put in order by what opens; that there is one such row alone; that pairs stand one in another or apart. No program in it.
-/
set_option linter.unusedVariables false
namespace Go.Proofs.YtfclpecbnailgaaGreat.Pr
open Go.Proofs.YtfclpecbnailgaaGreat.Mi
def kindP (c : Int) : Int := (pairT c).1
theorem kind_012 (c : Int) : kindP c = 0 ∨ kindP c = 1 ∨ kindP c = 2 := by
 unfold kindP pairT
 generalize brL = l
 induction l with
 | nil => exact .inl rfl
 | cons r l ih =>
  unfold inR
  split
  ·unfold pairR
   split
   ·exact .inr (.inl rfl)
   ·exact .inr (.inr rfl)
  ·exact ih
/-- From the top down: the first one that a closing bracket meets, and what lies below it. -/
def dropTo (c : Int) : List (Nat × Int) → Option (Nat × List (Nat × Int))
 | [] => none
 | (k, o) :: st => if meetT o c = true then some (k, st) else dropTo c st
theorem dropTo_none {c : Int} : ∀ {st : List (Nat × Int)}, (∀ x ∈ st, meetT x.2 c = false) → dropTo c st = none
 | [], _ => rfl
 | (k, o) :: st, h => by
  rw [dropTo, if_neg (by rw [h (k, o) (by simp)]; decide)]
  exact dropTo_none (fun x hx => h x (List.mem_cons_of_mem _ hx))
theorem dropTo_some {c : Int} {k : Nat} {o : Int} {s2 : List (Nat × Int)} (ho : meetT o c = true) : ∀ {s1 : List (Nat × Int)}, (∀ x ∈ s1, meetT x.2 c = false) → dropTo c (s1 ++ (k, o) :: s2) = some (k, s2)
 | [], _ => by rw [List.nil_append, dropTo, if_pos ho]
 | (j, p) :: s1, h => by
  rw [List.cons_append, dropTo, if_neg (by rw [h (j, p) (by simp)]; decide)]
  exact dropTo_some ho (fun x hx => h x (List.mem_cons_of_mem _ hx))
theorem dropTo_parts {c : Int} {k : Nat} {s2 : List (Nat × Int)} : ∀ {st : List (Nat × Int)}, dropTo c st = some (k, s2) → ∃ o s1, st = s1 ++ (k, o) :: s2 ∧ meetT o c = true
 | [], h => by cases h
 | (j, p) :: st, h => by
  rw [dropTo] at h
  by_cases hm : meetT p c = true
  ·rw [if_pos hm] at h
   injection h with h
   injection h with h1 h2
   subst h1 h2
   exact ⟨p, [], rfl, hm⟩
  ·rw [if_neg hm] at h
   obtain ⟨o, s1, rfl, ho⟩ := dropTo_parts h
   exact ⟨o, (j, p) :: s1, rfl, ho⟩
/-- The pairs by what closes: i places have been looked at, st is open, classes and codes of the rest. -/
def ends : Nat → List (Nat × Int) → List (Int × Int) → List (Nat × Nat)
 | _, _, [] => []
 | i, st, (t, c) :: r =>
  if t ≠ 13 ∨ kindP c = 0 then ends (i + 1) st r
  else if kindP c = 1 then (if 63 ≤ st.length then [] else ends (i + 1) ((i, c) :: st) r)
  else match dropTo c st with
   | none => ends (i + 1) st r
   | some (k, st') => (k, i) :: ends (i + 1) st' r
theorem ends_skip {i : Nat} {st : List (Nat × Int)} {t c : Int} {r : List (Int × Int)} (h : t ≠ 13 ∨ kindP c = 0) : ends i st ((t, c) :: r) = ends (i + 1) st r := by rw [ends, if_pos h]
theorem ends_full {i : Nat} {st : List (Nat × Int)} {c : Int} {r : List (Int × Int)} (h : kindP c = 1) (hs : 63 ≤ st.length) : ends i st ((13, c) :: r) = [] := by
 rw [ends, if_neg (by rw [h]; simp), if_pos h, if_pos hs]
theorem ends_push {i : Nat} {st : List (Nat × Int)} {c : Int} {r : List (Int × Int)} (h : kindP c = 1) (hs : st.length < 63) : ends i st ((13, c) :: r) = ends (i + 1) ((i, c) :: st) r := by
 rw [ends, if_neg (by rw [h]; simp), if_pos h, if_neg (by omega)]
theorem ends_lone {i : Nat} {st : List (Nat × Int)} {c : Int} {r : List (Int × Int)} (h : kindP c = 2) (hd : dropTo c st = none) : ends i st ((13, c) :: r) = ends (i + 1) st r := by
 rw [ends, if_neg (by rw [h]; simp), if_neg (by rw [h]; simp), hd]
theorem ends_pair {i k : Nat} {st st' : List (Nat × Int)} {c : Int} {r : List (Int × Int)} (h : kindP c = 2) (hd : dropTo c st = some (k, st')) : ends i st ((13, c) :: r) = (k, i) :: ends (i + 1) st' r := by
 rw [ends, if_neg (by rw [h]; simp), if_neg (by rw [h]; simp), hd]
/-- What is open, in a sequence with these classes and codes: rising from the bottom, ahead of place i, each an opening bracket whose class is ON. -/
structure Open (T C : List Int) (i : Nat) (st : List (Nat × Int)) : Prop where
 down : st.Pairwise (fun a b => b.1 < a.1)
 lt : ∀ x ∈ st, x.1 < i
 are : ∀ x ∈ st, T[x.1]? = some 13 ∧ C[x.1]? = some x.2
theorem Open.nil (T C : List Int) (i : Nat) : Open T C i [] := ⟨.nil, by simp, by simp⟩
theorem Open.next {T C : List Int} {i : Nat} {st : List (Nat × Int)} (h : Open T C i st) : Open T C (i + 1) st := ⟨h.down, fun x hx => Nat.lt_succ_of_lt (h.lt x hx), h.are⟩
theorem Open.push {T C : List Int} {i : Nat} {st : List (Nat × Int)} {c : Int} (h : Open T C i st) (hT : T[i]? = some 13) (hC : C[i]? = some c) : Open T C (i + 1) ((i, c) :: st) :=
 ⟨List.pairwise_cons.2 ⟨fun b hb => h.lt b hb, h.down⟩, fun x hx => by
  rcases List.mem_cons.1 hx with rfl | hx
  ·exact Nat.lt_succ_self _
  ·exact Nat.lt_succ_of_lt (h.lt x hx), fun x hx => by
  rcases List.mem_cons.1 hx with rfl | hx
  ·exact ⟨hT, hC⟩
  ·exact h.are x hx⟩
theorem Open.below {T C : List Int} {i k : Nat} {o : Int} {s1 s2 : List (Nat × Int)} (h : Open T C i (s1 ++ (k, o) :: s2)) : Open T C (i + 1) s2 ∧ (∀ x ∈ s2, x.1 < k) ∧ k < i ∧ T[k]? = some 13 ∧ C[k]? = some o := by
 have hd := List.pairwise_append.1 h.down
 have hd2 := List.pairwise_cons.1 hd.2.1
 refine ⟨⟨hd2.2, fun x hx => Nat.lt_succ_of_lt (h.lt x (by simp [hx])), fun x hx => h.are x (by simp [hx])⟩, fun x hx => hd2.1 x hx, h.lt (k, o) (by simp), h.are (k, o) (by simp)⟩
/-- What each pair is. -/
structure PairIs (T C : List Int) (p : Nat × Nat) : Prop where
 lt : p.1 < p.2
 t1 : T[p.1]? = some 13
 t2 : T[p.2]? = some 13
 meet : ∃ a b, C[p.1]? = some a ∧ C[p.2]? = some b ∧ meetT a b = true
theorem ends_is (T C : List Int) : ∀ (r : List (Int × Int)) (i : Nat) (st : List (Nat × Int)), Open T C i st → (∀ j t c, r[j]? = some (t, c) → T[i + j]? = some t ∧ C[i + j]? = some c) →
  ∀ p ∈ ends i st r, PairIs T C p ∧ i ≤ p.2 ∧ p.2 < i + r.length ∧ (i ≤ p.1 ∨ ∃ o, (p.1, o) ∈ st)
 | [], i, st, _, _, p, hp => by simp [ends] at hp
 | (t, c) :: r, i, st, hO, hr, p, hp => by
  have h0 := hr 0 t c rfl
  rw [Nat.add_zero] at h0
  have hr' : ∀ j t' c', r[j]? = some (t', c') → T[i + 1 + j]? = some t' ∧ C[i + 1 + j]? = some c' := fun j t' c' hj => by
   have := hr (j + 1) t' c' (by simpa using hj)
   rwa [show i + (j + 1) = i + 1 + j from by omega] at this
  have step : ∀ st', Open T C (i + 1) st' → p ∈ ends (i + 1) st' r → (∀ x ∈ st', x.1 = i ∨ ∃ o, (x.1, o) ∈ st) → PairIs T C p ∧ i ≤ p.2 ∧ p.2 < i + ((t, c) :: r).length ∧ (i ≤ p.1 ∨ ∃ o, (p.1, o) ∈ st) := by
   intro st' hO' hp' hs
   obtain ⟨h1, h2, h3, h4⟩ := ends_is T C r (i + 1) st' hO' hr' p hp'
   refine ⟨h1, by omega, by simp; omega, ?_⟩
   rcases h4 with h4 | ⟨o, ho⟩
   ·exact .inl (by omega)
   ·rcases hs _ ho with e | e
    ·exact .inl (by simp only at e; omega)
    ·exact .inr e
  by_cases hs : t ≠ 13 ∨ kindP c = 0
  ·rw [ends_skip hs] at hp
   exact step st hO.next hp (fun x hx => .inr ⟨x.2, hx⟩)
  ·have ht : t = 13 := by
    by_cases h : t = 13
    ·exact h
    ·exact absurd (.inl h) hs
   subst ht
   have hk : kindP c = 1 ∨ kindP c = 2 := by
    rcases kind_012 c with h | h
    ·exact absurd (.inr h) hs
    ·exact h
   rcases hk with hk | hk
   ·by_cases h63 : 63 ≤ st.length
    ·rw [ends_full hk h63] at hp
     simp at hp
    ·rw [ends_push hk (by omega)] at hp
     refine step _ (hO.push h0.1 h0.2) hp (fun x hx => ?_)
     rcases List.mem_cons.1 hx with rfl | hx
     ·exact .inl rfl
     ·exact .inr ⟨x.2, hx⟩
   ·cases hd : dropTo c st with
    | none =>
     rw [ends_lone hk hd] at hp
     exact step st hO.next hp (fun x hx => .inr ⟨x.2, hx⟩)
    | some y =>
     obtain ⟨k, st'⟩ := y
     rw [ends_pair hk hd] at hp
     obtain ⟨o, s1, rfl, ho⟩ := dropTo_parts hd
     obtain ⟨hO', hlt, hki, hT, hC⟩ := hO.below
     rcases List.mem_cons.1 hp with rfl | hp
     ·exact ⟨⟨hki, hT, h0.1, o, c, hC, h0.2, ho⟩, Nat.le_refl _, by simp, .inr ⟨o, by simp⟩⟩
     ·exact step st' hO' hp (fun x hx => .inr ⟨x.2, by simp [hx]⟩)
/-- One in another, or apart; no bracket in two. -/
def Apart (p q : Nat × Nat) : Prop := (p.1 < q.1 → p.2 < q.1 ∨ q.2 < p.2) ∧ (q.1 < p.1 → q.2 < p.1 ∨ p.2 < q.2) ∧ p.1 ≠ q.1 ∧ p.2 ≠ q.2 ∧ p.1 ≠ q.2 ∧ p.2 ≠ q.1
theorem ends_apart (T C : List Int) : ∀ (r : List (Int × Int)) (i : Nat) (st : List (Nat × Int)), Open T C i st → (∀ j t c, r[j]? = some (t, c) → T[i + j]? = some t ∧ C[i + j]? = some c) →
  (ends i st r).Pairwise Apart
 | [], i, st, _, _ => by simp [ends]
 | (t, c) :: r, i, st, hO, hr => by
  have h0 := hr 0 t c rfl
  rw [Nat.add_zero] at h0
  have hr' : ∀ j t' c', r[j]? = some (t', c') → T[i + 1 + j]? = some t' ∧ C[i + 1 + j]? = some c' := fun j t' c' hj => by
   have := hr (j + 1) t' c' (by simpa using hj)
   rwa [show i + (j + 1) = i + 1 + j from by omega] at this
  by_cases hs : t ≠ 13 ∨ kindP c = 0
  ·rw [ends_skip hs]
   exact ends_apart T C r (i + 1) st hO.next hr'
  ·have ht : t = 13 := by
    by_cases h : t = 13
    ·exact h
    ·exact absurd (.inl h) hs
   subst ht
   have hk : kindP c = 1 ∨ kindP c = 2 := by
    rcases kind_012 c with h | h
    ·exact absurd (.inr h) hs
    ·exact h
   rcases hk with hk | hk
   ·by_cases h63 : 63 ≤ st.length
    ·rw [ends_full hk h63]
     exact .nil
    ·rw [ends_push hk (by omega)]
     exact ends_apart T C r (i + 1) _ (hO.push h0.1 h0.2) hr'
   ·cases hd : dropTo c st with
    | none =>
     rw [ends_lone hk hd]
     exact ends_apart T C r (i + 1) st hO.next hr'
    | some y =>
     obtain ⟨k, st'⟩ := y
     rw [ends_pair hk hd]
     obtain ⟨o, s1, rfl, ho⟩ := dropTo_parts hd
     obtain ⟨hO', hlt, hki, hT, hC⟩ := hO.below
     refine List.pairwise_cons.2 ⟨fun q hq => ?_, ends_apart T C r (i + 1) st' hO' hr'⟩
     obtain ⟨h1, h2, h3, h4⟩ := ends_is T C r (i + 1) st' hO' hr' q hq
     have hql := h1.lt
     rcases h4 with h4 | ⟨o', ho'⟩
     ·refine ⟨fun _ => ?_, fun _ => ?_, ?_, ?_, ?_, ?_⟩ <;> simp only [] <;> omega
     ·have := hlt _ ho'
      simp only at this
      refine ⟨fun _ => ?_, fun _ => ?_, ?_, ?_, ?_, ?_⟩ <;> simp only [] <;> omega
/-- Put in order by what opens. -/
def inOrder (n : Nat) (L : List (Nat × Nat)) : List (Nat × Nat) := (List.range n).flatMap fun a => L.filter fun p => decide (p.1 = a)
theorem inOrder_mem (n : Nat) (L : List (Nat × Nat)) (p : Nat × Nat) : p ∈ inOrder n L ↔ p ∈ L ∧ p.1 < n := by
 unfold inOrder
 simp only [List.mem_flatMap, List.mem_range, List.mem_filter, decide_eq_true_eq]
 constructor
 ·rintro ⟨a, ha, hp, rfl⟩
  exact ⟨hp, ha⟩
 ·rintro ⟨hp, h⟩
  exact ⟨p.1, h, hp, rfl⟩
def Rising (L : List (Nat × Nat)) : Prop := L.Pairwise fun p q => p.1 < q.1
theorem inOrder_rising (n : Nat) (L : List (Nat × Nat)) (h : L.Pairwise fun p q => p.1 ≠ q.1) : Rising (inOrder n L) := by
 unfold Rising inOrder
 rw [List.pairwise_flatMap]
 refine ⟨fun a _ => ?_, ?_⟩
 ·have h2 : (L.filter fun p => decide (p.1 = a)).Pairwise fun p q => p.1 ≠ q.1 := h.sublist List.filter_sublist
  have h3 : ∀ p ∈ L.filter fun p => decide (p.1 = a), p.1 = a := fun p hp => by simpa using (List.mem_filter.1 hp).2
  generalize (L.filter fun p => decide (p.1 = a)) = M at *
  refine h2.imp_of_mem (fun {p q} hp hq hne => ?_)
  exact absurd ((h3 p hp).trans (h3 q hq).symm) hne
 ·refine List.pairwise_lt_range.imp ?_
  intro a b hab p hp q hq
  have h1 : p.1 = a := by simpa using (List.mem_filter.1 hp).2
  have h2 : q.1 = b := by simpa using (List.mem_filter.1 hq).2
  omega
/-- There is one such row alone. -/
theorem rising_unique : ∀ {L M : List (Nat × Nat)}, Rising L → Rising M → (∀ p, p ∈ L ↔ p ∈ M) → L = M
 | [], [], _, _, _ => rfl
 | [], q :: M, _, _, h => absurd ((h q).2 (by simp)) (by simp)
 | p :: L, [], _, _, h => absurd ((h p).1 (by simp)) (by simp)
 | p :: L, q :: M, hL, hM, h => by
  obtain ⟨hp, hL'⟩ := List.pairwise_cons.1 hL
  obtain ⟨hq, hM'⟩ := List.pairwise_cons.1 hM
  have e : p = q := by
   rcases List.mem_cons.1 ((h p).1 (by simp)) with e | e
   ·exact e
   ·rcases List.mem_cons.1 ((h q).2 (by simp)) with e2 | e2
    ·exact e2.symm
    ·have := hq p e
     have := hp q e2
     omega
  subst e
  congr 1
  refine rising_unique hL' hM' (fun x => ?_)
  constructor
  ·intro hx
   rcases List.mem_cons.1 ((h x).1 (List.mem_cons_of_mem _ hx)) with e | e
   ·subst e
    have := hp x hx
    omega
   ·exact e
  ·intro hx
   rcases List.mem_cons.1 ((h x).2 (List.mem_cons_of_mem _ hx)) with e | e
   ·subst e
    have := hq x hx
    omega
   ·exact e
/-- The pairs of a sequence. -/
def findP (T C : List Int) : List (Nat × Nat) := if T.length = C.length then inOrder C.length (ends 0 [] (T.zip C)) else []
theorem zip_at {T C : List Int} (j : Nat) (t c : Int) (h : (T.zip C)[j]? = some (t, c)) : T[0 + j]? = some t ∧ C[0 + j]? = some c := by
 rw [Nat.zero_add]
 rw [List.getElem?_zip_eq_some] at h
 exact h
theorem find_unlike {T C : List Int} (h : T.length ≠ C.length) : findP T C = [] := by unfold findP; rw [if_neg h]
theorem find_mem {T C : List Int} (h : T.length = C.length) (p : Nat × Nat) : p ∈ findP T C ↔ p ∈ ends 0 [] (T.zip C) := by
 unfold findP
 rw [if_pos h, inOrder_mem]
 constructor
 ·exact fun h => h.1
 ·intro hp
  obtain ⟨h1, h2, h3, -⟩ := ends_is T C _ 0 [] (Open.nil T C 0) (fun j t c => zip_at j t c) p hp
  have := h1.lt
  rw [List.length_zip] at h3
  exact ⟨hp, by omega⟩
theorem find_rising (T C : List Int) : Rising (findP T C) := by
 by_cases h : T.length = C.length
 ·unfold findP
  rw [if_pos h]
  exact inOrder_rising _ _ ((ends_apart T C _ 0 [] (Open.nil T C 0) (fun j t c => zip_at j t c)).imp (fun h => h.2.2.1))
 ·rw [find_unlike h]
  exact .nil
theorem find_unique {T C : List Int} (h : T.length = C.length) {L : List (Nat × Nat)} (hL : Rising L) (hm : ∀ p, p ∈ L ↔ p ∈ ends 0 [] (T.zip C)) : L = findP T C :=
 rising_unique hL (find_rising T C) (fun p => (hm p).trans (find_mem h p).symm)
theorem find_is {T C : List Int} {p : Nat × Nat} (hp : p ∈ findP T C) : PairIs T C p := by
 by_cases h : T.length = C.length
 ·exact (ends_is T C _ 0 [] (Open.nil T C 0) (fun j t c => zip_at j t c) p ((find_mem h p).1 hp)).1
 ·rw [find_unlike h] at hp
  cases hp
theorem find_lt {T C : List Int} {p : Nat × Nat} (hp : p ∈ findP T C) : p.1 < p.2 ∧ p.2 < T.length ∧ p.2 < C.length := by
 have h := find_is hp
 obtain ⟨a, b, -, hb, -⟩ := h.meet
 exact ⟨h.lt, (List.getElem?_eq_some_iff.1 h.t2).1, (List.getElem?_eq_some_iff.1 hb).1⟩
theorem find_len {T C : List Int} : (findP T C).length ≤ C.length := by
 have h : ((findP T C).map (·.1)).Pairwise (· < ·) := List.pairwise_map.2 (find_rising T C)
 have hlt : ∀ x ∈ (findP T C).map (·.1), x < C.length := by
  intro x hx
  obtain ⟨p, hp, rfl⟩ := List.mem_map.1 hx
  have := find_lt hp
  omega
 have hn : ((findP T C).map (·.1)).Nodup := h.imp (fun h => Nat.ne_of_lt h)
 have := hn.length_le_of_subset (l₂ := List.range C.length) (fun x hx => List.mem_range.2 (hlt x hx))
 simpa using this
end Go.Proofs.YtfclpecbnailgaaGreat.Pr

/-
 What classes become by their brackets, plainly: letters, what a pair does, pair by pair; that only brackets of pairs and marks behind them become something, and that is L or R; that with L and R exchanged all is exchanged. No program in it.
-/
set_option linter.unusedVariables false
namespace Go.Proofs.YtfclpecbnailgaaGreat.Pr
open Go.Proofs.YtfclpecbnailgaaGreat.Mi
/-- The letter of a class: below 0, it has none. -/
def letZ (c : Int) : Int := if c = 0 then 0 else if c = 1 ∨ c = 3 ∨ c = 6 then 1 else -1
def hasZ (l : List Int) (x : Int) : Bool := l.any fun c => decide (letZ c = x)
def aheadZ (l : List Int) (s : Int) : Int := l.foldl (fun a c => if 0 ≤ letZ c then letZ c else a) s
/-- What a pair does: below 0, nothing. -/
def becZ (l : List Int) (p : Nat × Nat) (way s : Int) : Int :=
 if hasZ ((l.take p.2).drop (p.1 + 1)) way = true then way
 else if hasZ ((l.take p.2).drop (p.1 + 1)) (1 - way) = true then (if aheadZ (l.take p.1) s = 1 - way then 1 - way else way) else -1
/-- Are all NSM from behind a place up to another? -/
def marksZ (own : List Int) (a t : Nat) : Bool := decide (a < t) && ((own.take (t + 1)).drop (a + 1)).all fun c => decide (c = 8)
def mayZ (own : List Int) (p : Nat × Nat) (k : Nat) : Bool := decide (k = p.1) || decide (k = p.2) || marksZ own p.1 k || marksZ own p.2 k
def setZ (own : List Int) (p : Nat × Nat) (c : Int) (l : List Int) : List Int := l.mapIdx fun k x => if mayZ own p k = true then c else x
def applyZ (own : List Int) (way s : Int) (l : List Int) (p : Nat × Nat) : List Int := if becZ l p way s < 0 then l else setZ own p (becZ l p way s) l
def wayZ (level : Int) : Int := if level % 2 = 0 then 0 else 1
def settleZ (T C own : List Int) (level s : Int) : List Int :=
 if T.length = C.length ∧ own.length = C.length then (findP T C).foldl (applyZ own (wayZ level) s) T else []
theorem letZ_cases (c : Int) : letZ c = 0 ∨ letZ c = 1 ∨ letZ c = -1 := by unfold letZ; split; exact .inl rfl; split; exact .inr (.inl rfl); exact .inr (.inr rfl)
theorem wayZ_01 (level : Int) : wayZ level = 0 ∨ wayZ level = 1 := by unfold wayZ; split; exact .inl rfl; exact .inr rfl
theorem becZ_01 {way : Int} (hw : way = 0 ∨ way = 1) (l : List Int) (p : Nat × Nat) (s : Int) : becZ l p way s = 0 ∨ becZ l p way s = 1 ∨ becZ l p way s = -1 := by
 unfold becZ
 split
 ·omega
 ·split
  ·split <;> omega
  ·exact .inr (.inr rfl)
theorem setZ_len (own : List Int) (p : Nat × Nat) (c : Int) (l : List Int) : (setZ own p c l).length = l.length := by simp [setZ]
theorem applyZ_len (own : List Int) (way s : Int) (l : List Int) (p : Nat × Nat) : (applyZ own way s l p).length = l.length := by
 unfold applyZ
 split
 ·rfl
 ·exact setZ_len _ _ _ _
theorem foldZ_len (own : List Int) (way s : Int) : ∀ (ps : List (Nat × Nat)) (l : List Int), (ps.foldl (applyZ own way s) l).length = l.length
 | [], l => rfl
 | p :: ps, l => by rw [List.foldl_cons, foldZ_len own way s ps, applyZ_len]
theorem settleZ_len {T C own : List Int} (level s : Int) (h1 : T.length = C.length) (h2 : own.length = C.length) : (settleZ T C own level s).length = T.length := by
 unfold settleZ
 rw [if_pos ⟨h1, h2⟩, foldZ_len]
theorem setZ_at (own : List Int) (p : Nat × Nat) (c : Int) (l : List Int) (i : Nat) (x : Int) (h : l[i]? = some x) : (setZ own p c l)[i]? = some (if mayZ own p i = true then c else x) := by
 unfold setZ
 rw [List.getElem?_mapIdx, h]
 rfl
end Go.Proofs.YtfclpecbnailgaaGreat.Pr

/-
 What has no direction, settled, plainly: the direction of a class, of a level; what a gap lies between; the row settled, at once and place by place; that what is settled stays so; that it parts at an L or an R; that it turns round; the level of a class. No program in it.
-/
set_option linter.unusedVariables false
namespace Go.Proofs.YtfclpecbnailgaaGreat.Ne
def dirN (c : Int) : Int := if c = 0 then 0 else if c = 1 ∨ c = 3 ∨ c = 6 then 1 else -1
def lvN (l : Int) : Int := if l.tmod 2 = 0 then 0 else 1
/-- The direction behind: of the first that has one, else b. -/
def nextN (b : Int) : List Int → Int
 | [] => b
 | c :: r => if 0 ≤ dirN c then dirN c else nextN b r
/-- The direction ahead: of the last that has one, else a. -/
def lastN (a : Int) : List Int → Int
 | [] => a
 | c :: r => lastN (if 0 ≤ dirN c then dirN c else a) r
def fillN (l a b : Int) : Int := if a = b then a else lvN l
/-- A row settled, at the level l, between a and b. -/
def settleN (l b : Int) (a : Int) : List Int → List Int
 | [] => []
 | c :: r => if 0 ≤ dirN c then c :: settleN l b (dirN c) r else fillN l a (nextN b r) :: settleN l b a r
/-- The level of a class. -/
def levN (l c : Int) : Int :=
 if c = 0 then l + l % 2 else if c = 1 then l + (1 - l % 2) else if c = 3 ∨ c = 6 then l + (2 - l % 2) else l
theorem dirN_cases (c : Int) : dirN c = 0 ∨ dirN c = 1 ∨ dirN c = -1 := by
 unfold dirN; split
 ·exact .inl rfl
 ·split
  ·exact .inr (.inl rfl)
  ·exact .inr (.inr rfl)
theorem dirN_no {c : Int} (h0 : c ≠ 0) (h1 : c ≠ 1) (h3 : c ≠ 3) (h6 : c ≠ 6) : dirN c = -1 := by unfold dirN; rw [if_neg h0, if_neg (by omega)]
theorem settle_len (l b : Int) (T : List Int) : ∀ a, (settleN l b a T).length = T.length := by
 induction T with
 | nil => intro a; rfl
 | cons c r ih => intro a; unfold settleN; split <;> simp [ih]
theorem lastN_snoc (c : Int) (T : List Int) : ∀ a, lastN a (T ++ [c]) = if 0 ≤ dirN c then dirN c else lastN a T := by
 induction T with
 | nil => intro a; simp [lastN]
 | cons d r ih => intro a; simp only [List.cons_append, lastN]; exact ih _
theorem lastN_take {T : List Int} {a : Int} {k : Nat} (h : k < T.length) : lastN a (T.take (k + 1)) = if 0 ≤ dirN T[k] then dirN T[k] else lastN a (T.take k) := by
 rw [List.take_succ_eq_append_getElem h, lastN_snoc]
theorem nextN_drop {T : List Int} {b : Int} {k : Nat} (h : k < T.length) : nextN b (T.drop k) = if 0 ≤ dirN T[k] then dirN T[k] else nextN b (T.drop (k + 1)) := by
 rw [List.drop_eq_getElem_cons h]; rfl
theorem nextN_done {T : List Int} {b : Int} {k : Nat} (h : T.length ≤ k) : nextN b (T.drop k) = b := by rw [List.drop_eq_nil_of_le h]; rfl
/-- Place by place. -/
theorem settle_get (l b : Int) (T : List Int) : ∀ (a : Int) (i : Nat) (h : i < T.length), (settleN l b a T)[i]? = some (if 0 ≤ dirN T[i] then T[i] else fillN l (lastN a (T.take i)) (nextN b (T.drop (i + 1)))) := by
 induction T with
 | nil => intro a i h; simp at h
 | cons c r ih =>
  intro a i h
  cases i with
  | zero =>
   unfold settleN
   by_cases hc : 0 ≤ dirN c
   ·simp [hc]
   ·simp [hc, lastN]
  | succ i =>
   have h2 : i < r.length := by simpa using h
   unfold settleN
   by_cases hc : 0 ≤ dirN c
   ·rw [if_pos hc]
    simpa [lastN, hc] using ih (dirN c) i h2
   ·rw [if_neg hc]
    simpa [lastN, hc] using ih a i h2
theorem settle_snoc {l b a : Int} {T : List Int} {k : Nat} (h : k < T.length) : (settleN l b a T).take (k + 1) = (settleN l b a T).take k ++ [if 0 ≤ dirN T[k] then T[k] else fillN l (lastN a (T.take (k + 1))) (nextN b (T.drop k))] := by
 rw [List.take_add_one, settle_get l b T a k h, lastN_take h, nextN_drop h]
 by_cases hc : 0 ≤ dirN T[k]
 ·simp [hc]
 ·simp [hc]
theorem lev_else {l c : Int} (h0 : c ≠ 0) (h1 : c ≠ 1) (h3 : c ≠ 3) (h6 : c ≠ 6) : levN l c = l := by
 unfold levN; rw [if_neg h0, if_neg h1, if_neg (by omega)]
theorem lev_snoc {l : Int} {T : List Int} {k : Nat} (h : k < T.length) : (T.map (levN l)).take (k + 1) = (T.map (levN l)).take k ++ [levN l T[k]] := by
 rw [List.take_succ_eq_append_getElem (by simpa using h)]; simp
end Go.Proofs.YtfclpecbnailgaaGreat.Ne

/-
 What a sequence's places are told, plainly: its weak classes, brackets, what is left, their levels; what a line's levels are; that letters without a right one, in a paragraph of the level 0, are all at 0; that a line's levels stay so. No program in it.
-/
set_option linter.unusedVariables false
namespace Go.Proofs.YtfclpecbnailgaaGreat.Bi
open Go Go.Proofs.YtfclpecbnailgaaGreat.Ba Go.Proofs.YtfclpecbnailgaaGreat.Lv Go.Proofs.YtfclpecbnailgaaGreat.Sq Go.Proofs.YtfclpecbnailgaaGreat.Wk Go.Proofs.YtfclpecbnailgaaGreat.Pr Go.Proofs.YtfclpecbnailgaaGreat.Ne
/-- The levels of a sequence's places. -/
def rule : Rule := fun a b c x y u => if y.length = x.length ∧ u.length = x.length then (settleN a c b (settleZ (weak b x) y u a b)).map (levN a) else x.map fun _ => a
theorem rule_len (a b c : Int) (x y u : List Int) : (rule a b c x y u).length = x.length := by
 unfold rule
 split
 ·rename_i h
  rw [List.length_map, settle_len, settleZ_len a b (by rw [weak_len, h.1]) (by rw [h.2, h.1]), weak_len]
 ·simp
theorem lev_ge {a : Int} (h : 0 ≤ a) (c : Int) : 0 ≤ levN a c := by
 unfold levN
 split
 ·omega
 ·split
  ·omega
  ·split <;> omega
theorem rule_pos (a b c : Int) (x y u : List Int) (h : 0 ≤ a) : ∀ v ∈ rule a b c x y u, 0 ≤ v := by
 intro v hv
 unfold rule at hv
 split at hv
 ·obtain ⟨z, _, rfl⟩ := List.mem_map.1 hv
  exact lev_ge h z
 ·obtain ⟨z, _, rfl⟩ := List.mem_map.1 hv
  exact h
/-- A paragraph's levels. -/
def resB (c codes : List Int) (b : Nat) (T : List S4) : List Int := resP rule c codes b T
def blankB (c : Int) : Bool := decide (c = 12) || (isI c || (isP c || remB c))
/-- Does nothing but blanks stand up to an S, a B, or the end? -/
def endB : List Int → Bool
 | [] => true
 | c :: r => if blankB c = true then endB r else decide (c = 11 ∨ c = 10)
def lineP (p : Int) : List Int → List Int → List Int
 | c :: cs, l :: ls => (if endB (c :: cs) = true then p else l) :: lineP p cs ls
 | _, _ => []
theorem line_len (p : Int) : ∀ (c l : List Int), c.length = l.length → (lineP p c l).length = l.length
 | [], [], _ => rfl
 | [], _ :: _, h => by simp at h
 | _ :: _, [], h => by simp at h
 | c :: cs, l :: ls, h => by simp [lineP, line_len p cs ls (by simpa using h)]
theorem line_at (p : Int) : ∀ (c l : List Int) (i : Nat), c.length = l.length → i < l.length → (lineP p c l)[i]? = some (if endB (c.drop i) = true then p else l.getD i 0)
 | [], [], i, _, hi => by simp at hi
 | [], _ :: _, _, h, _ => by simp at h
 | _ :: _, [], _, h, _ => by simp at h
 | c :: cs, l :: ls, 0, h, hi => by simp [lineP]
 | c :: cs, l :: ls, i + 1, h, hi => by
  simp only [lineP, List.getElem?_cons_succ, List.drop_succ_cons]
  rw [line_at p cs ls i (by simpa using h) (by simpa using hi)]
  simp
end Go.Proofs.YtfclpecbnailgaaGreat.Bi

/-
 A paragraph's sequences and levels as functions, plainly: there are sequences, and just one row of them. No program in it.
-/
set_option linter.unusedVariables false
namespace Go.Proofs.YtfclpecbnailgaaGreat.Bi
open Go Go.Proofs.YtfclpecbnailgaaGreat.Ba Go.Proofs.YtfclpecbnailgaaGreat.Lv Go.Proofs.YtfclpecbnailgaaGreat.Sq
theorem runs_inv {c z : List Int} {lv : Int} (hiso : Iso c z) : ∀ {i j : Nat} {R : List S4}, Runs c z lv i j R → ∀ (T : List S4) (f : Nat → Option Nat), SInv c z lv i T f → ∃ T' f', SInv c z lv j T' f' := by
 intro i j R h
 induction h with
 | nil i => exact fun T f h => ⟨T, f, h⟩
 | @cons i j f0 t r R hu hr _ ih =>
  intro T f h
  cases hf : f f0 with
  | none => exact ih _ _ (h.fresh hiso hu hr hf)
  | some m =>
   obtain ⟨s, hs, _⟩ := h.w1 _ m (upS hu).1 hf
   exact ih _ _ (h.grown hiso hu hr hf hs)
theorem seqs_exist {c z : List Int} (lv : Int) (hiso : Iso c z) : ∃ T, SeqsAll c z lv T := by
 obtain ⟨j, hr, hu⟩ := runsL_ok c z lv
 obtain ⟨T, f, h⟩ := runs_inv hiso hr [] _ (SInv.start c z lv)
 exact ⟨T, h.all hiso hu⟩
theorem ok_all {c z : List Int} {lv : Int} (hiso : Iso c z) {T : List S4} (h : SeqsOk c z lv T) : SeqsAll c z lv T := by
 obtain ⟨T', h'⟩ := seqs_exist lv hiso
 rw [h.unique h'.ok]
 exact h'
/-- The sequences of a paragraph of the level b. -/
noncomputable def seqsB (c : List Int) (b : Nat) : List S4 := Classical.choose (seqs_exist (b : Int) (iso_zB c b))
theorem seqsB_all (c : List Int) (b : Nat) : SeqsAll c (zB c b) (b : Int) (seqsB c b) := Classical.choose_spec (seqs_exist (b : Int) (iso_zB c b))
theorem seqsB_eq {c : List Int} {b : Nat} {T : List S4} (h : SeqsOk c (zB c b) (b : Int) T) : T = seqsB c b := h.unique (seqsB_all c b).ok
/-- The levels of a paragraph of that level; none, if it is neither 0 nor 1. -/
noncomputable def resZ (c codes : List Int) (x : Int) : List Int := if x = 0 then resB c codes 0 (seqsB c 0) else if x = 1 then resB c codes 1 (seqsB c 1) else []
theorem res_len (c codes : List Int) (b : Nat) (T : List S4) : (resB c codes b T).length = c.length := by
 unfold resB resP
 rw [fill_len, fold_len, zB_len]
theorem resZ_some (c codes : List Int) {b : Nat} (hb : b ≤ 1) : resZ c codes b = resB c codes b (seqsB c b) := by
 unfold resZ
 by_cases h : b = 0
 ·subst h; rfl
 ·obtain rfl : b = 1 := by omega
  rfl
theorem resZ_none (c codes : List Int) {x : Int} (h0 : x ≠ 0) (h1 : x ≠ 1) : resZ c codes x = [] := by unfold resZ; rw [if_neg h0, if_neg h1]
end Go.Proofs.YtfclpecbnailgaaGreat.Bi

/-
 Rows of ints in memory, of the call's own or of what came in: small facts.
-/
set_option linter.unusedVariables false
namespace Go.Proofs.YtfclpecbnailgaaGreat.Cl
open Go.RowKit Go.Lib
theorem info_parts {P : Program} {t : TypeId} {z : Value} {s b : Nat} (h : (P.info? t).map (fun i => (i.zero, i.size, i.bytes)) = some (some z, s, b)) : ∃ i, P.info? t = some i ∧ i.zero = some z ∧ i.size = s ∧ i.bytes = b := by
 cases hi : P.info? t with
 | none => rw [hi] at h; cases h
 | some i =>
  rw [hi] at h
  simp only [Option.map_some, Option.some.injEq, Prod.mk.injEq] at h
  exact ⟨i, rfl, h.1, h.2.1, h.2.2⟩
/-- A row of ints that came in: nil, or cells below the heap's end. -/
def IntsAt (w : World) (A : Option Addr) (zs : List Int) : Prop :=
 zs = [] ∨ ∃ b off, A = some ⟨b, off, none⟩ ∧ b < w.heap.size ∧ ∀ j z, zs[j]? = some z → w.cell? ⟨b, off + j, none⟩ = some (.int .i64 z)
theorem infoInt : (Tryz.prog.info? 3).map (fun i => (i.zero, i.size, i.bytes)) = some (some (.int .i64 0), 1, 8) := by kernel_rfl
theorem IntsAt.below {w w' : World} {A : Option Addr} {zs : List Int} (h : IntsAt w A zs) (hb : Below w.heap.size w w') : IntsAt w' A zs := by
 rcases h with h | ⟨b, off, hA, hlt, hc⟩
 ·exact .inl h
 ·exact .inr ⟨b, off, hA, Nat.lt_of_lt_of_le hlt hb.size, fun j z hz => (hb.cell (p := ⟨b, off + j, none⟩) hlt).trans (hc j z hz)⟩
theorem intsAt_own {w : World} {B : Nat} {v : Value} {zs : List Int} (h : w.ownsRow B 3 1 v zs.length (zs.map (Value.int .i64))) : ∃ A c, v = .slice A zs.length c ∧ IntsAt w A zs := by
 have hc := @World.ownsRow.cells _ _ _ _ _ _ _ h
 rcases h.2 with ⟨rfl, hn⟩ | ⟨g, cap, cur, rfl, _, hg, _⟩
 ·exact ⟨none, 0, by rw [hn], .inl (List.eq_nil_of_length_eq_zero hn)⟩
 ·refine ⟨_, cap, rfl, .inr ⟨g, 0, rfl, (Array.getElem?_eq_some_iff.1 hg).1, fun j z hz => ?_⟩⟩
  have := hc (g := g) rfl j (.int .i64 z) (by simp [hz])
  have hadd : (⟨g, 0, none⟩ : Addr).add j = ⟨g, 0 + j, none⟩ := by unfold Addr.add; split <;> simp_all
  rw [← hadd]
  exact this
theorem IntsAt.at_ {w : World} {A : Option Addr} {zs : List Int} (h : IntsAt w A zs) {k : Nat} (hk : k < zs.length) : ∃ b off, A = some ⟨b, off, none⟩ ∧ w.cell? ⟨b, off + k, none⟩ = some (.int .i64 zs[k]) := by
 rcases h with rfl | ⟨b, off, hA, hlt, hc⟩
 ·simp at hk
 ·exact ⟨b, off, hA, hc k _ (List.getElem?_eq_getElem hk)⟩
theorem IntsAt.nil_len {w : World} {A : Option Addr} {zs : List Int} (h : IntsAt w A zs) : A = none → zs.length = 0 := by
 rintro rfl
 rcases h with rfl | ⟨b, off, hA, _⟩
 ·rfl
 ·cases hA
theorem IntsAt.news {w : World} {ad : Addr} {zs : List Int} (h : IntsAt w (some ad) zs) : ∀ j u, (zs.map (Value.int .i64))[j]? = some u → w.cell? (ad.add j) = some u := by
 intro j u hu
 rcases h with rfl | ⟨b, off, hA, hlt, hc⟩
 ·simp at hu
 ·injection hA with hA
  subst hA
  have hadd : (⟨b, off, none⟩ : Addr).add j = ⟨b, off + j, none⟩ := by unfold Addr.add; split <;> simp_all
  rw [hadd]
  simp only [List.getElem?_map, Option.map_eq_some_iff] at hu
  obtain ⟨z, hz, rfl⟩ := hu
  exact hc j z hz
theorem ownsRow_mono {w : World} {b b' : Nat} {t : TypeId} {n m : Nat} {v : Value} {xs : List Value} (h : w.ownsRow b t n v m xs) (hb : b' ≤ b) : w.ownsRow b' t n v m xs := by
 refine ⟨h.1, ?_⟩
 rcases h.2 with h2 | ⟨g, cap, cur, e1, e2, e3⟩
 ·exact .inl h2
 ·exact .inr ⟨g, cap, cur, e1, Nat.le_trans hb e2, e3⟩
theorem ownsRow_below {w w' : World} {b : Nat} {t : TypeId} {n m : Nat} {v : Value} {xs : List Value} (h : w.ownsRow b t n v m xs) (hb : Below w.heap.size w w') : w'.ownsRow b t n v m xs := by
 refine ⟨h.1, ?_⟩
 rcases h.2 with h2 | ⟨g, cap, cur, e1, e2, e3, e4⟩
 ·exact .inl h2
 ·exact .inr ⟨g, cap, cur, e1, e2, (hb.block g (Array.getElem?_eq_some_iff.1 e3).1).trans e3, e4⟩
theorem ints_one (zs : List Int) : ∀ u ∈ zs.map (Value.int .i64), u.oneCell' = true := by
 intro u hu
 simp only [List.mem_map] at hu
 obtain ⟨x, _, rfl⟩ := hu
 rfl
end Go.Proofs.YtfclpecbnailgaaGreat.Cl

/-
 A law for the builtin append onto a row of the call's own, of whatever slice is appended, nil too: one way through.
-/
set_option linter.unusedVariables false
namespace Go.Proofs.YtfclpecbnailgaaGreat
open Go
theorem wpList_append_src {P : Program} (w : World) {ops : Array Oper} {rest : List Oper} {o : Oper} {a : Act} {Q : Exit → Act → World → Prop} (hgd : o.guard = none) (s x : Operand) (t : TypeId)
  (ho : o.op = .call { callee := .builtin .append, args := #[s, x], argTypes := #[t, t] })
  (base : Nat) (e : TypeId) (i : TypeInfo) (z : Value) (size bytes : Nat) (ht : P.underlying t = some (.slice e)) (hi : P.info? e = some i) (hz : i.zero = some z)
  (hsize : i.size = size) (hby : i.bytes = bytes) (hzs : z.cells.size = size) (hsz : 0 < size)
  (v : Value) (n : Nat) (xs : List Value) (hs : a.eval s = v) (hown : w.ownsRow base e size v n xs)
  (A : Option Addr) (m c : Nat) (news : List Value) (hx : a.eval x = .slice A m c) (hl : news.length = m * size) (hA : A = none → m = 0) (hnews : ∀ ad, A = some ad → ∀ j u, news[j]? = some u → w.cell? (ad.add j) = some u) (h1 : ∀ u ∈ news, u.oneCell' = true)
  (h63 : n + m ≤ maxLen) (hbytes : (n + m) * bytes ≤ 140737488355328) (hbase : base ≤ w.heap.size)
  (h : ∀ v' w', w'.ownsRow base e size v' (n + m) (xs ++ news) → w.grownBy w' v.ownBlock → wpList P ops Q rest (a.put o.dst v') w') : wpList P ops Q (o :: rest) a w := by
 cases A with
 | some ad => exact wpList_append_own w hgd s x t ho base e i z size bytes ht hi hz hsize hby hzs hsz v n xs hs hown ad m c news hx hl (hnews ad rfl) h1 h63 hbytes hbase (fun v' w' h2 h3 _ => h v' w' h2 h3)
 | none =>
  obtain rfl := hA rfl
  obtain rfl : news = [] := List.eq_nil_of_length_eq_zero (by omega)
  have hshape : ∃ b k d, v = .slice b k d ∧ k ≤ d := by
   rcases hown.2 with ⟨rfl, _⟩ | ⟨g, cap, cur, rfl, _, _, hle, _⟩
   ·exact ⟨_, _, _, rfl, Nat.le_refl _⟩
   ·exact ⟨_, _, _, rfl, hle⟩
  obtain ⟨b, k, d, rfl, hkd⟩ := hshape
  have hr := run_append_nothing (P := P) w t t o.type e i ht hi b k d hkd (.slice none 0 c) (Src.ofNil w ht c)
  refine wpList_plain hgd fun K hK => ?_
  unfold Oper.wp execOp
  simp only [ho, resolve, invoke, builtin, Sem.run_bind, Sem.run_pure, Result.andThen_ok, List.map_toArray, List.map_cons, List.map_nil, hs, hx, hr]
  refine hK _ _ (h _ _ ?_ ⟨rfl, rfl, rfl, Nat.le_refl _, fun _ _ _ => rfl⟩)
  rw [Nat.add_zero, List.append_nil]
  exact hown
end Go.Proofs.YtfclpecbnailgaaGreat

/-
 The built-in append of ints onto a row of the call's own, of whatever row of ints, in one step of a walk: what is owned then, and that nothing below the row's base changes.
-/
set_option linter.unusedVariables false
namespace Go.Proofs.YtfclpecbnailgaaGreat.Cl
open Go Go.RowKit Go.Lib
/-- The cells of a row of ints. -/
def icl (zs : List Int) : List Value := zs.map (Value.int .i64)
theorem icl_snoc (a : List Int) (z : Int) : icl (a ++ [z]) = icl a ++ [.int .i64 z] := by simp [icl]
theorem icl_append (a b : List Int) : icl (a ++ b) = icl a ++ icl b := by simp [icl]
theorem icl_len (a : List Int) : (icl a).length = a.length := by simp [icl]
theorem intsAt_icl {w : World} {B n : Nat} {v : Value} {zs : List Int} (h : w.ownsRow B 3 1 v n (icl zs)) (hn : zs.length = n) : ∃ A c, v = .slice A n c ∧ IntsAt w A zs := by
 subst hn
 exact intsAt_own h
theorem made_ints (zs : List Int) (cs : Array Value) (e : TypeId) (w : World) (h : cs = (zs.map (Value.int .i64)).toArray) : IntsAt (w.alloc (.cells cs e)) (some ⟨w.heap.size, 0, none⟩) zs := by
 subst h
 refine .inr ⟨w.heap.size, 0, rfl, by simp, fun j z hz => ?_⟩
 obtain ⟨hj, rfl⟩ := List.getElem?_eq_some_iff.1 hz
 simp [hj]
theorem made_ints' {W : World} {B : Nat} {zs : List Int} {cs : Array Value} {e : TypeId} (hB : W.heap.size = B) (h : cs = (zs.map (Value.int .i64)).toArray) : IntsAt (W.alloc (.cells cs e)) (some ⟨B, 0, none⟩) zs := by
 subst hB
 exact made_ints zs cs e W h
theorem below_made (w : World) (o : Obj) : Below w.heap.size w (w.alloc o) := (Below.refl _ _).alloc (Nat.le_refl _) _
theorem wpList_add {ops : Array Oper} {rest : List Oper} {o : Oper} {a : Act} {Q : Exit → Act → World → Prop} {w : World} (hgd : o.guard = none) (s x : Operand)
  (ho : o.op = .call { callee := .builtin .append, args := #[s, x], argTypes := #[25, 25] })
  (base : Nat) (v : Value) (n : Nat) (zs : List Int) (hs : a.eval s = v) (hown : w.ownsRow base 3 1 v n (icl zs))
  (A : Option Addr) (m c : Nat) (ys : List Int) (hx : a.eval x = .slice A m c) (hy : IntsAt w A ys) (hl : ys.length = m) (hnm : n + m ≤ 1099511627776) (hbase : base ≤ w.heap.size)
  (h : ∀ v' w', w'.ownsRow base 3 1 v' (n + m) (icl (zs ++ ys)) → Below base w w' → wpList Tryz.prog ops Q rest (a.put o.dst v') w') : wpList Tryz.prog ops Q (o :: rest) a w := by
 obtain ⟨i0, hi, hz0, hz1, hz2⟩ := info_parts infoInt
 refine wpList_append_src w hgd s x 25 ho base 3 i0 (.int .i64 0) 1 8 Tryz.underlying25 hi hz0 hz1 hz2 rfl (by decide) v n (icl zs) hs hown A m c (icl ys) hx (by rw [icl_len, hl, Nat.mul_one])
  (fun e => by rw [← hl]; exact hy.nil_len e) (fun ad had => ?_) (ints_one _) (by unfold maxLen; omega) (by omega) hbase (fun v' w' h2 h3 => h v' w' (by rw [icl_append]; exact h2) ?_)
 ·subst had
  exact hy.news
 ·exact (Below.refl base w).grown h3 hbase (fun k hk => (hown.lt k hk).1)
end Go.Proofs.YtfclpecbnailgaaGreat.Cl

/-
 A row of classes of the call's own while rules write it: nothing else of memory changes; and what a rule is: a function value that, called, makes of what the row holds what it says. No program in it but its types.
-/
set_option linter.unusedVariables false
namespace Go.Proofs.YtfclpecbnailgaaGreat.Wk
open Go Go.RowKit Go.Lib Go.Proofs.YtfclpecbnailgaaGreat.Cl
theorem grown_refl (w : World) (r : Option Nat) : w.grownBy w r := ⟨rfl, rfl, rfl, Nat.le_refl _, fun _ _ _ => rfl⟩
theorem grown_trans {a b c : World} {r : Option Nat} (h : a.grownBy b r) (k : b.grownBy c r) : a.grownBy c r :=
 ⟨k.os.trans h.os, k.tape.trans h.tape, k.output.trans h.output, Nat.le_trans h.size k.size, fun i hi hne => (k.block i (Nat.lt_of_lt_of_le hi h.size) hne).trans (h.block i hi hne)⟩
theorem grown_below {w w' : World} (r : Option Nat) (h : Below w.heap.size w w') : w.grownBy w' r :=
 ⟨h.os, h.tape, h.output, h.size, fun i hi _ => h.block i hi⟩
/-- In the world wx the row (which lies from block base on) holds L; of w nothing else has changed. -/
structure Row (base : Nat) (A : Option Addr) (n c : Nat) (w : World) (L : List Int) (wx : World) : Prop where
 own : wx.ownsRow base 3 1 (.slice A n c) n (icl L)
 gr : w.grownBy wx (Value.slice A n c).ownBlock
section
variable {bs : Nat} {A : Option Addr} {n c : Nat} {w wx wy : World} {L : List Int}
theorem Row.start (h : w.ownsRow bs 3 1 (.slice A n c) n (icl L)) : Row bs A n c w L w := ⟨h, grown_refl _ _⟩
theorem Row.len (h : Row bs A n c w L wx) : L.length = n := by
 have := h.own.1
 rw [icl_len] at this
 omega
theorem Row.below (h : Row bs A n c w L wx) (hb : Below wx.heap.size wx wy) : Row bs A n c w L wy :=
 ⟨ownsRow_below h.own hb, grown_trans h.gr (grown_below _ hb)⟩
theorem Row.alloc (h : Row bs A n c w L wx) (o : Obj) : Row bs A n c w L (wx.alloc o) := h.below (below_made wx o)
theorem Row.drew (h : Row bs A n c w L wx) : Row bs A n c w L wx.drew := h.below (Below.refl _ _).drew
theorem Row.base (h : Row bs A n c w L wx) : ∀ k, (Value.slice A n c).ownBlock = some k → bs ≤ k ∧ k < wx.heap.size := h.own.lt
/-- A block that is not the row's. -/
theorem Row.cell (h : Row bs A n c w L wx) {p : Addr} {v : Value} (hp : w.cell? p = some v) (hne : some p.block ≠ (Value.slice A n c).ownBlock) : wx.cell? p = some v := h.gr.cell hp hne
theorem Row.at_ (h : Row bs A n c w L wx) {d r : List Int} {x : Int} {k : Nat} (hL : L = d ++ x :: r) (hk : d.length = k) :
  ∃ g, A = some ⟨g, 0, none⟩ ∧ wx.cell? ⟨g, k, none⟩ = some (.int .i64 x) ∧ wx.frozen? ⟨g, k, none⟩ = false ∧ k < n ∧ n ≤ c ∧ ∀ z : Int, Row bs A n c w (d ++ z :: r) (wx.setCell ⟨g, k, none⟩ (.int .i64 z)) := by
 subst hk
 have hlen := h.len
 subst hL
 rw [List.length_append, List.length_cons] at hlen
 rcases h.own.2 with ⟨e, hn⟩ | ⟨g, cap, cur, e, hB, hg, hle, -⟩
 ·omega
 ·injection e with e1 e2 e3
  subst e1 e3
  refine ⟨g, rfl, ?_, h.own.frozenAt _, by omega, hle, fun z => ?_⟩
  ·rw [h.own.cellAt _ (by omega)]
   simp [icl]
  ·obtain ⟨h1, h2⟩ := h.own.stored d.length (.int .i64 z)
   refine ⟨?_, grown_trans h.gr h2⟩
   rw [show (icl (d ++ x :: r)).set d.length (.int .i64 z) = icl (d ++ z :: r) from by simp [icl]] at h1
   exact h1
/-- A row of ints that lies elsewhere. -/
theorem Row.ints (h : Row bs A n c w L wx) {p q : Nat} {zs : List Int} (hp : IntsAt w (some ⟨p, q, none⟩) zs) (hne : some p ≠ (Value.slice A n c).ownBlock) : IntsAt wx (some ⟨p, q, none⟩) zs := by
 rcases hp with rfl | ⟨b, off, e, hb, hz⟩
 ·exact .inl rfl
 ·injection e with e
  injection e with e1 e2 e3
  subst e1 e2
  exact .inr ⟨_, _, rfl, Nat.lt_of_lt_of_le hb h.gr.size, fun j z hj => h.gr.cell (hz j z hj) hne⟩
end
/-- The function value fv, called in w or later, makes R of what the row holds. -/
def RuleOk (base : Nat) (A : Option Addr) (n c : Nat) (fv : Value) (R : List Int → List Int) (w : World) : Prop :=
 ∃ k mid caps, fv = .func (.func k) mid caps ∧ (∀ args W, (callFunc k args).run Tryz.prog W = .ok (.enter k args) W) ∧
  ∀ W L, w.grownBy W (Value.slice A n c).ownBlock → W.ownsRow base 3 1 (.slice A n c) n (icl L) →
   Calls Tryz.prog k (mid ++ caps) W fun e W' => e = .returned (.tuple #[]) ∧ Row base A n c W (R L) W'
theorem RuleOk.later {base : Nat} {A : Option Addr} {n c : Nat} {fv : Value} {R : List Int → List Int} {w w' : World} (h : RuleOk base A n c fv R w) (hg : w.grownBy w' (Value.slice A n c).ownBlock) : RuleOk base A n c fv R w' := by
 obtain ⟨k, mid, caps, e, h1, h2⟩ := h
 exact ⟨k, mid, caps, e, h1, fun W L hW hL => h2 W L (grown_trans hg hW) hL⟩
end Go.Proofs.YtfclpecbnailgaaGreat.Wk

/-
 The built-in append of one number onto a row of numbers of the call's own: where the row lies then: where it lay, or in a block that is new. Two rows that grow side by side. No program in it.
-/
set_option linter.unusedVariables false
set_option maxRecDepth 100000
namespace Go.Proofs.YtfclpecbnailgaaGreat.Cl
open Go Go.RowKit Go.Lib
theorem run_one (ty : TypeId) (base : Nat) (v : Value) (n : Nat) (zs : List Int) (z : Int) (w : World) (hown : w.ownsRow base 3 1 v n (icl zs)) (ad : Addr) (hz : w.cell? ad = some (.int .i64 z)) (hs : ad.add 0 = ad) (hn : n ≤ 1099511627776) (hbase : base ≤ w.heap.size) :
  ∃ v' w', (Builtin.append_ #[25, 25] ty #[v, .slice (some ad) 1 1]).run Tryz.prog w = .ok v' w' ∧ w'.ownsRow base 3 1 v' (n + 1) (icl (zs ++ [z])) ∧ w.grownBy w' v.ownBlock ∧ (v'.ownBlock = v.ownBlock ∨ ∃ k, v'.ownBlock = some k ∧ w.heap.size ≤ k) := by
 obtain ⟨i0, hi, hz0, hz1, hz2⟩ := info_parts infoInt
 have hnews : ∀ j u, [Value.int .i64 z][j]? = some u → w.cell? (ad.add j) = some u := by
  intro j u hu
  cases j with
  | zero =>
   injection hu with hu
   rw [hs, ← hu]
   exact hz
  | succ j => simp at hu
 have h1 : ∀ u ∈ [Value.int .i64 z], u.oneCell' = true := by
  intro u hu
  simp only [List.mem_singleton] at hu
  subst hu
  rfl
 have hx : icl (zs ++ [z]) = icl zs ++ [.int .i64 z] := icl_snoc zs z
 rw [hx]
 rcases hown.2 with ⟨rfl, rfl⟩ | ⟨g, cap, cur, rfl, hbg, hg, hnc, hcm, hcs, htake⟩
 ·have hz' : icl zs = [] := List.eq_nil_of_length_eq_zero (by simpa using hown.1)
  obtain ⟨v', w', hr, ho, hg, -⟩ := run_append_own (P := Tryz.prog) w w.heap.size 25 ty 3 i0 (.int .i64 0) 1 8 Tryz.underlying25 hi hz0 hz1 hz2 rfl (by decide) (.slice none 0 0) 0 (icl zs) (by rw [hz']; exact World.ownsRow_nil _ _ _ _) ad 1 1 [.int .i64 z] rfl hnews h1 (by unfold maxLen; omega) (by omega) (Nat.le_refl _)
  refine ⟨v', w', hr, ?_, hg, .inr ?_⟩
  ·exact ho.mono hbase
  ·obtain ⟨k, c, rfl, hk, -⟩ := ho.form (by omega)
   exact ⟨k, rfl, hk⟩
 ·by_cases hroom : n + 1 ≤ cap
  ·obtain ⟨w', hr, ho, hgr⟩ := run_append_fits (P := Tryz.prog) w base 25 ty 3 i0 1 Tryz.underlying25 hi hz1 g n cap (icl zs) hown ad 1 1 [.int .i64 z] rfl hnews h1 hroom
   exact ⟨_, w', hr, ho, hgr, .inl rfl⟩
  ·obtain ⟨v', w', hr, ho, hgr, -⟩ := run_append_own (P := Tryz.prog) w base 25 ty 3 i0 (.int .i64 0) 1 8 Tryz.underlying25 hi hz0 hz1 hz2 rfl (by decide) _ n (icl zs) hown ad 1 1 [.int .i64 z] rfl hnews h1 (by unfold maxLen; omega) (by omega) hbase
   have holds : ∀ j u, (icl zs)[j]? = some u → w.cell? ((⟨g, 0, none⟩ : Addr).add j) = some u := hown.cells (g := g) rfl
   have hr2 := run_append_grow (P := Tryz.prog) w 25 ty 3 i0 (.int .i64 0) Tryz.underlying25 hi hz0 ⟨g, 0, none⟩ n cap (icl zs) (by rw [hz1]; exact hown.1) holds ad 1 1 [.int .i64 z] (by rw [hz1]; rfl) hnews (by omega) (by omega) (by rw [hz2]; exact growslice_fits (by omega) (by omega))
   refine ⟨v', w', hr, ho, hgr, .inr ?_⟩
   rw [hr2] at hr
   injection hr with hv _
   exact ⟨w.heap.size, by rw [← hv]; rfl, Nat.le_refl _⟩
theorem wpList_one {ops : Array Oper} {rest : List Oper} {o : Oper} {a : Act} {Q : Exit → Act → World → Prop} {w : World} (hgd : o.guard = none) (s x : Operand)
  (ho : o.op = .call { callee := .builtin .append, args := #[s, x], argTypes := #[25, 25] })
  (base : Nat) (v : Value) (n : Nat) (zs : List Int) (z : Int) (hs : a.eval s = v) (ad : Addr) (hx : a.eval x = .slice (some ad) 1 1) (hown : w.ownsRow base 3 1 v n (icl zs)) (hz : w.cell? ad = some (.int .i64 z)) (hsp : ad.add 0 = ad) (hn : n ≤ 1099511627776) (hbase : base ≤ w.heap.size)
  (h : ∀ v' w', w'.ownsRow base 3 1 v' (n + 1) (icl (zs ++ [z])) → w.grownBy w' v.ownBlock → (v'.ownBlock = v.ownBlock ∨ ∃ k, v'.ownBlock = some k ∧ w.heap.size ≤ k) → wpList Tryz.prog ops Q rest (a.put o.dst v') w') : wpList Tryz.prog ops Q (o :: rest) a w := by
 refine wpList_plain hgd fun K hK => ?_
 obtain ⟨v', w', hr, h2, h3, h4⟩ := run_one o.type base v n zs z w hown ad hz hsp hn hbase
 unfold Oper.wp execOp
 simp only [ho, resolve, invoke, builtin, Sem.run_bind, Sem.run_pure, Result.andThen_ok, List.map_toArray, List.map_cons, List.map_nil, hs, hx, hr]
 exact hK _ _ (h v' w' h2 h3 h4)
/-- Two rows lie apart. -/
def Two (u v : Value) : Prop := u.ownBlock = none ∨ u.ownBlock ≠ v.ownBlock
theorem Two.nil (v : Value) : Two (.slice none 0 0) v := .inl rfl
theorem Two.swap {u v : Value} (h : Two u v) : Two v u := by
 rcases h with h | h
 ·cases hv : v.ownBlock with
  | none => exact .inl hv
  | some k => exact .inr (by rw [h, hv]; exact fun e => by cases e)
 ·exact .inr (fun e => h e.symm)
/-- The first one grows. -/
theorem Two.grow {w : World} {u u' v : Value} {base n : Nat} {xs : List Value} (h : Two u v) (ho : w.ownsRow base 3 1 v n xs) (hu : u'.ownBlock = u.ownBlock ∨ ∃ k, u'.ownBlock = some k ∧ w.heap.size ≤ k) : Two u' v := by
 rcases hu with hu | ⟨k, hk, hle⟩
 ·rcases h with h | h
  ·exact .inl (hu.trans h)
  ·exact .inr (by rw [hu]; exact h)
 ·refine .inr ?_
  rw [hk]
  intro e
  have := (ho.lt k e.symm).2
  omega
theorem Two.kept {w w' : World} {u v : Value} {base n : Nat} {xs : List Value} (h : Two u v) (ho : w.ownsRow base 3 1 v n xs) (hg : w.grownBy w' u.ownBlock) : w'.ownsRow base 3 1 v n xs := by
 refine ho.kept hg ?_
 rcases h.swap with h | h
 ·exact .inl h
 ·exact .inr h
end Go.Proofs.YtfclpecbnailgaaGreat.Cl

/-
 A region that builds one slice of literal ints and hands it on (a table of the document's answer); no program here but its table of types.
-/
set_option linter.unusedVariables false
namespace Go.Proofs.YtfclpecbnailgaaGreat.Tab
open Go.RowKit Go.Lib
def litParts (l : List Int) : Array (Nat × Operand) := ((l.zipIdx 0).map fun x => (x.2, Operand.const (Value.int .i64 x.1))).toArray
theorem wpList_assignTo {P : Program} {ops : Array Oper} {Q : Exit → Act → World → Prop} {rest : List Oper} {o : Oper} {a : Act} {w : World} (hg : o.guard = none) (x : Operand) (ho : o.op = .assign x)
  (h : wpList P ops Q rest (a.put o.dst (a.eval x)) w) : wpList P ops Q (o :: rest) a w :=
 wpList_plain hg fun K hK => by
  unfold Oper.wp execOp
  simp only [ho]
  exact hK _ _ h
theorem wp_ints {P : Program} {id : Nat} {l : List Oper} {Q : Exit → Act → World → Prop} {a : Act} {w : World} (d d2 : Nat) (t e : TypeId) (zs : List Int) (n : Nat)
  (hu : P.underlying t = some (.slice e)) (hsz : (P.info? e).map (·.size) = some 1) (hz : ((P.info? e).bind (·.zero)).isSome = true) (hn : n = zs.length) (hpos : 0 < n) (hsmall : n ≤ 2 ^ 24)
  (hl : l.map (fun o => (o.dst, o.op, o.guard)) = [(some d, .buildSlice t n (litParts zs), none), (some d2, .assign (.tmp d), none)])
  (h : Q .normal ((a.put (some d) (.slice (some ⟨w.heap.size, 0, none⟩) n n)).put (some d2) ((a.put (some d) (.slice (some ⟨w.heap.size, 0, none⟩) n n)).eval (.tmp d))) (w.alloc (.cells (zs.map (Value.int .i64)).toArray e))) :
  (Code.region id l.toArray false).wp P Q a w := by
 refine wp_region_lit ?_
 generalize hops : l.toArray = ops
 clear hops
 rcases l with _ | ⟨o1, _ | ⟨o2, _ | ⟨o3, m⟩⟩⟩
 ·cases hl
 ·simp at hl
 ·simp only [List.map_cons, List.map_nil, List.cons.injEq, Prod.mk.injEq, and_true] at hl
  obtain ⟨⟨e1, e2, e3⟩, e4, e5, e6⟩ := hl
  refine wpList_buildFlat e3 t e n (litParts zs) e2 .i64 zs hu hsz hz hn hpos hsmall rfl ?_
  refine wpList_assignTo e6 (.tmp d) e5 ?_
  rw [e1, e4]
  exact h
 ·simp at hl
theorem infoI1 : (Tryz.prog.info? 3).map (·.size) = some 1 := by kernel_rfl
theorem infoI2 : ((Tryz.prog.info? 3).bind (·.zero)).isSome = true := by kernel_rfl
/-- Numbers in memory, from a block's beginning on. -/
def LitAt (w : World) (g : Nat) (zs : List Int) : Prop := g < w.heap.size ∧ ∀ k (hk : k < zs.length), w.cell? ⟨g, k, none⟩ = some (.int .i64 zs[k])
theorem LitAt.below {w w' : World} {g : Nat} {zs : List Int} (h : LitAt w g zs) (hb : Below w.heap.size w w') : LitAt w' g zs :=
 ⟨Nat.lt_of_lt_of_le h.1 hb.size, fun k hk => (hb.cell (p := ⟨g, k, none⟩) h.1).trans (h.2 k hk)⟩
theorem litAt_made (zs : List Int) (e : TypeId) (w : World) : LitAt (w.alloc (.cells (zs.map (Value.int .i64)).toArray e)) w.heap.size zs := by
 refine ⟨by simp, fun k hk => ?_⟩
 simp [hk]
end Go.Proofs.YtfclpecbnailgaaGreat.Tab

/-
 Small laws: a region that builds literals and stores the last one into the array that was made last; a new variable; a world that drew; no program here.
-/
set_option linter.unusedVariables false
namespace Go.Proofs.YtfclpecbnailgaaGreat.Arr
open Go.RowKit Go.Lib
theorem below_drewN {B : Nat} {a w : World} (h : Below B a w) (n : Nat) : Below B a (w.drewN n) := ⟨h.os, h.tape, h.output, h.size, h.block⟩
theorem below_drew {B : Nat} {a w : World} (h : Below B a w) : Below B a w.drew := ⟨h.os, h.tape, h.output, h.size, h.block⟩
/-- The frame behind a list of literals of structs and arrays. -/
def builtAll (P : Program) : List Oper → Act → Option Act
 | [], a => some a
 | o :: l, a => match o.guard, o.op with
  | none, .build t parts => match P.built t (parts.map fun (i, x) => (i, a.eval x)).toList with
   | some cells => builtAll P l (a.put o.dst (.agg cells))
   | none => none
  | _, _ => none
theorem wpList_builtAll {P : Program} {ops : Array Oper} {Q : Exit → Act → World → Prop} {rest : List Oper} {w : World} :
  ∀ (l : List Oper) (a a' : Act), builtAll P l a = some a' → wpList P ops Q rest a' w → wpList P ops Q (l ++ rest) a w
 | [], a, a', h, hr => by
  simp only [builtAll, Option.some.injEq] at h
  subst h
  exact hr
 | o :: l, a, a', h, hr => by
  unfold builtAll at h
  split at h
  ·rename_i t parts hg ho
   split at h
   ·rename_i cells hc
    exact wpList_buildTo hg t parts ho _ rfl cells hc (wpList_builtAll l _ a' h hr)
   ·cases h
  ·cases h
/-- A region that builds literals, and stores the last one into the array that was made last. -/
theorem wp_stored {P : Program} {id : Nat} {l : List Oper} {Q : Exit → Act → World → Prop} {a : Act} {w : World} (n : Nat) (a' : Act) (h1 : builtAll P (l.take n) a = some a')
  (x y : Operand) (t : TypeId) (hl : (l.drop n).map (fun o => (o.dst, o.op, o.guard)) = [(none, .store t x y, none)]) (old cells : Array Value)
  (hx : a'.eval x = .pointer (some ⟨w.heap.size, 0, none⟩)) (hy : a'.eval y = .agg cells) (hi : (P.info? t).map (·.size) = some cells.size) (hold : old.size = cells.size) (hc : cells.all (·.oneCell') = true)
  (h : Q .normal a' (w.alloc (.cells cells t))) : (Code.region id l.toArray false).wp P Q a (w.alloc (.cells old t)) := by
 refine wp_region_lit ?_
 have hw : wpList P l.toArray Q (l.take n ++ l.drop n) a (w.alloc (.cells old t)) := by
  refine wpList_builtAll _ a a' h1 ?_
  generalize l.drop n = m at hl ⊢
  rcases m with _ | ⟨o1, _ | ⟨o2, m⟩⟩
  ·cases hl
  ·simp only [List.map_cons, List.map_nil, List.cons.injEq, Prod.mk.injEq, and_true] at hl
   obtain ⟨e1, e2, e3⟩ := hl
   refine wpList_store_rowTo e3 t x y e2 e1 w.heap.size cells hx hy t old (heap_alloc_last w _) hi hold hc ?_
   rw [World.setRow_alloc_new]
   exact h
  ·simp at hl
 rwa [List.take_append_drop] at hw
/-- A new variable. -/
theorem wpList_allocVar {P : Program} {ops : Array Oper} {rest : List Oper} {o : Oper} {a : Act} {w : World} {Q : Exit → Act → World → Prop} (hg : o.guard = none) (t : TypeId) (ho : o.op = .alloc t) (d : Option Tmp) (hd : o.dst = d)
  (z : Value) (hz : ∀ w, (zeroValue t).run P w = .ok z w) (h : wpList P ops Q rest (a.put d (.pointer (some ⟨w.heap.size, 0, none⟩))) (w.alloc (.cells z.cells t))) : wpList P ops Q (o :: rest) a w := by
 subst hd
 refine wpList_plain hg fun K hK => ?_
 unfold Oper.wp execOp
 simp only [ho, Instr.alloc, Sem.run_bind, hz, Result.andThen_ok, newVar, newRow]
 exact hK _ _ h
end Go.Proofs.YtfclpecbnailgaaGreat.Arr
