/-
  Brackets of a sequence, plainly: the pairs by their ends (a stack, the last one first), put in order by what opens; that there is one such row alone; that pairs stand one in another or apart. No program in it.
-/
import Derived.Test.YtapeebnbiappgaaDoorMiPlain
set_option linter.unusedVariables false
namespace Go.Proofs.YtapeebnbiappgaaDoor.Pr
open Go.Proofs.YtapeebnbiappgaaDoor.Mi

def kindP (c : Int) : Int := (pairT c).1
theorem kind_012 (c : Int) : kindP c = 0 ∨ kindP c = 1 ∨ kindP c = 2 := by
  unfold kindP pairT
  generalize brL = l
  induction l with
  | nil => exact .inl rfl
  | cons r l ih =>
    unfold inR
    split
    · unfold pairR
      split
      · exact .inr (.inl rfl)
      · exact .inr (.inr rfl)
    · exact ih
theorem meet_kinds {a b : Int} (h : meetT a b = true) : kindP a = 1 ∧ kindP b = 2 := by
  unfold meetT at h
  simp only [Bool.and_eq_true, beq_iff_eq] at h
  exact ⟨h.1, h.2.1⟩

/-- From the top down: the first one that a closing bracket meets, and what lies below it. -/
def dropTo (c : Int) : List (Nat × Int) → Option (Nat × List (Nat × Int))
  | [] => none
  | (k, o) :: st => if meetT o c = true then some (k, st) else dropTo c st
theorem dropTo_none {c : Int} : ∀ {st : List (Nat × Int)}, (∀ x ∈ st, meetT x.2 c = false) → dropTo c st = none
  | [], _ => rfl
  | (k, o) :: st, h => by
    rw [dropTo, if_neg (by rw [h (k, o) (by simp)]; decide)]
    exact dropTo_none (fun x hx => h x (List.mem_cons_of_mem _ hx))
theorem dropTo_some {c : Int} {k : Nat} {o : Int} {s2 : List (Nat × Int)} (ho : meetT o c = true) : ∀ {s1 : List (Nat × Int)}, (∀ x ∈ s1, meetT x.2 c = false) → dropTo c (s1 ++ (k, o) :: s2) = some (k, s2)
  | [], _ => by rw [List.nil_append, dropTo, if_pos ho]
  | (j, p) :: s1, h => by
    rw [List.cons_append, dropTo, if_neg (by rw [h (j, p) (by simp)]; decide)]
    exact dropTo_some ho (fun x hx => h x (List.mem_cons_of_mem _ hx))
theorem dropTo_parts {c : Int} {k : Nat} {s2 : List (Nat × Int)} : ∀ {st : List (Nat × Int)}, dropTo c st = some (k, s2) → ∃ o s1, st = s1 ++ (k, o) :: s2 ∧ meetT o c = true
  | [], h => by cases h
  | (j, p) :: st, h => by
    rw [dropTo] at h
    by_cases hm : meetT p c = true
    · rw [if_pos hm] at h
      injection h with h
      injection h with h1 h2
      subst h1 h2
      exact ⟨p, [], rfl, hm⟩
    · rw [if_neg hm] at h
      obtain ⟨o, s1, rfl, ho⟩ := dropTo_parts h
      exact ⟨o, (j, p) :: s1, rfl, ho⟩

/-- The pairs by what closes: i places have been looked at, st is open, classes and codes of the rest. -/
def ends : Nat → List (Nat × Int) → List (Int × Int) → List (Nat × Nat)
  | _, _, [] => []
  | i, st, (t, c) :: r =>
    if t ≠ 13 ∨ kindP c = 0 then ends (i + 1) st r
    else if kindP c = 1 then (if 63 ≤ st.length then [] else ends (i + 1) ((i, c) :: st) r)
    else match dropTo c st with
      | none => ends (i + 1) st r
      | some (k, st') => (k, i) :: ends (i + 1) st' r

theorem ends_skip {i : Nat} {st : List (Nat × Int)} {t c : Int} {r : List (Int × Int)} (h : t ≠ 13 ∨ kindP c = 0) : ends i st ((t, c) :: r) = ends (i + 1) st r := by rw [ends, if_pos h]
theorem ends_full {i : Nat} {st : List (Nat × Int)} {c : Int} {r : List (Int × Int)} (h : kindP c = 1) (hs : 63 ≤ st.length) : ends i st ((13, c) :: r) = [] := by
  rw [ends, if_neg (by rw [h]; simp), if_pos h, if_pos hs]
theorem ends_push {i : Nat} {st : List (Nat × Int)} {c : Int} {r : List (Int × Int)} (h : kindP c = 1) (hs : st.length < 63) : ends i st ((13, c) :: r) = ends (i + 1) ((i, c) :: st) r := by
  rw [ends, if_neg (by rw [h]; simp), if_pos h, if_neg (by omega)]
theorem ends_lone {i : Nat} {st : List (Nat × Int)} {c : Int} {r : List (Int × Int)} (h : kindP c = 2) (hd : dropTo c st = none) : ends i st ((13, c) :: r) = ends (i + 1) st r := by
  rw [ends, if_neg (by rw [h]; simp), if_neg (by rw [h]; simp), hd]
theorem ends_pair {i k : Nat} {st st' : List (Nat × Int)} {c : Int} {r : List (Int × Int)} (h : kindP c = 2) (hd : dropTo c st = some (k, st')) : ends i st ((13, c) :: r) = (k, i) :: ends (i + 1) st' r := by
  rw [ends, if_neg (by rw [h]; simp), if_neg (by rw [h]; simp), hd]

/-- What is open, in a sequence with these classes and codes: rising from the bottom, ahead of place i, each an opening bracket whose class is ON. -/
structure Open (T C : List Int) (i : Nat) (st : List (Nat × Int)) : Prop where
  down : st.Pairwise (fun a b => b.1 < a.1)
  lt : ∀ x ∈ st, x.1 < i
  are : ∀ x ∈ st, T[x.1]? = some 13 ∧ C[x.1]? = some x.2
theorem Open.nil (T C : List Int) (i : Nat) : Open T C i [] := ⟨.nil, by simp, by simp⟩
theorem Open.next {T C : List Int} {i : Nat} {st : List (Nat × Int)} (h : Open T C i st) : Open T C (i + 1) st := ⟨h.down, fun x hx => Nat.lt_succ_of_lt (h.lt x hx), h.are⟩
theorem Open.push {T C : List Int} {i : Nat} {st : List (Nat × Int)} {c : Int} (h : Open T C i st) (hT : T[i]? = some 13) (hC : C[i]? = some c) : Open T C (i + 1) ((i, c) :: st) :=
  ⟨List.pairwise_cons.2 ⟨fun b hb => h.lt b hb, h.down⟩, fun x hx => by
    rcases List.mem_cons.1 hx with rfl | hx
    · exact Nat.lt_succ_self _
    · exact Nat.lt_succ_of_lt (h.lt x hx), fun x hx => by
    rcases List.mem_cons.1 hx with rfl | hx
    · exact ⟨hT, hC⟩
    · exact h.are x hx⟩
theorem Open.below {T C : List Int} {i k : Nat} {o : Int} {s1 s2 : List (Nat × Int)} (h : Open T C i (s1 ++ (k, o) :: s2)) : Open T C (i + 1) s2 ∧ (∀ x ∈ s2, x.1 < k) ∧ k < i ∧ T[k]? = some 13 ∧ C[k]? = some o := by
  have hd := List.pairwise_append.1 h.down
  have hd2 := List.pairwise_cons.1 hd.2.1
  refine ⟨⟨hd2.2, fun x hx => Nat.lt_succ_of_lt (h.lt x (by simp [hx])), fun x hx => h.are x (by simp [hx])⟩, fun x hx => hd2.1 x hx, h.lt (k, o) (by simp), h.are (k, o) (by simp)⟩

/-- What each pair is. -/
structure PairIs (T C : List Int) (p : Nat × Nat) : Prop where
  lt : p.1 < p.2
  t1 : T[p.1]? = some 13
  t2 : T[p.2]? = some 13
  meet : ∃ a b, C[p.1]? = some a ∧ C[p.2]? = some b ∧ meetT a b = true

theorem ends_is (T C : List Int) : ∀ (r : List (Int × Int)) (i : Nat) (st : List (Nat × Int)), Open T C i st → (∀ j t c, r[j]? = some (t, c) → T[i + j]? = some t ∧ C[i + j]? = some c) →
    ∀ p ∈ ends i st r, PairIs T C p ∧ i ≤ p.2 ∧ p.2 < i + r.length ∧ (i ≤ p.1 ∨ ∃ o, (p.1, o) ∈ st)
  | [], i, st, _, _, p, hp => by simp [ends] at hp
  | (t, c) :: r, i, st, hO, hr, p, hp => by
    have h0 := hr 0 t c rfl
    rw [Nat.add_zero] at h0
    have hr' : ∀ j t' c', r[j]? = some (t', c') → T[i + 1 + j]? = some t' ∧ C[i + 1 + j]? = some c' := fun j t' c' hj => by
      have := hr (j + 1) t' c' (by simpa using hj)
      rwa [show i + (j + 1) = i + 1 + j from by omega] at this
    have step : ∀ st', Open T C (i + 1) st' → p ∈ ends (i + 1) st' r → (∀ x ∈ st', x.1 = i ∨ ∃ o, (x.1, o) ∈ st) → PairIs T C p ∧ i ≤ p.2 ∧ p.2 < i + ((t, c) :: r).length ∧ (i ≤ p.1 ∨ ∃ o, (p.1, o) ∈ st) := by
      intro st' hO' hp' hs
      obtain ⟨h1, h2, h3, h4⟩ := ends_is T C r (i + 1) st' hO' hr' p hp'
      refine ⟨h1, by omega, by simp; omega, ?_⟩
      rcases h4 with h4 | ⟨o, ho⟩
      · exact .inl (by omega)
      · rcases hs _ ho with e | e
        · exact .inl (by simp only at e; omega)
        · exact .inr e
    by_cases hs : t ≠ 13 ∨ kindP c = 0
    · rw [ends_skip hs] at hp
      exact step st hO.next hp (fun x hx => .inr ⟨x.2, hx⟩)
    · have ht : t = 13 := by
        by_cases h : t = 13
        · exact h
        · exact absurd (.inl h) hs
      subst ht
      have hk : kindP c = 1 ∨ kindP c = 2 := by
        rcases kind_012 c with h | h
        · exact absurd (.inr h) hs
        · exact h
      rcases hk with hk | hk
      · by_cases h63 : 63 ≤ st.length
        · rw [ends_full hk h63] at hp
          simp at hp
        · rw [ends_push hk (by omega)] at hp
          refine step _ (hO.push h0.1 h0.2) hp (fun x hx => ?_)
          rcases List.mem_cons.1 hx with rfl | hx
          · exact .inl rfl
          · exact .inr ⟨x.2, hx⟩
      · cases hd : dropTo c st with
        | none =>
          rw [ends_lone hk hd] at hp
          exact step st hO.next hp (fun x hx => .inr ⟨x.2, hx⟩)
        | some y =>
          obtain ⟨k, st'⟩ := y
          rw [ends_pair hk hd] at hp
          obtain ⟨o, s1, rfl, ho⟩ := dropTo_parts hd
          obtain ⟨hO', hlt, hki, hT, hC⟩ := hO.below
          rcases List.mem_cons.1 hp with rfl | hp
          · exact ⟨⟨hki, hT, h0.1, o, c, hC, h0.2, ho⟩, Nat.le_refl _, by simp, .inr ⟨o, by simp⟩⟩
          · exact step st' hO' hp (fun x hx => .inr ⟨x.2, by simp [hx]⟩)

/-- One in another, or apart; no bracket in two. -/
def Apart (p q : Nat × Nat) : Prop := (p.1 < q.1 → p.2 < q.1 ∨ q.2 < p.2) ∧ (q.1 < p.1 → q.2 < p.1 ∨ p.2 < q.2) ∧ p.1 ≠ q.1 ∧ p.2 ≠ q.2 ∧ p.1 ≠ q.2 ∧ p.2 ≠ q.1

theorem ends_apart (T C : List Int) : ∀ (r : List (Int × Int)) (i : Nat) (st : List (Nat × Int)), Open T C i st → (∀ j t c, r[j]? = some (t, c) → T[i + j]? = some t ∧ C[i + j]? = some c) →
    (ends i st r).Pairwise Apart
  | [], i, st, _, _ => by simp [ends]
  | (t, c) :: r, i, st, hO, hr => by
    have h0 := hr 0 t c rfl
    rw [Nat.add_zero] at h0
    have hr' : ∀ j t' c', r[j]? = some (t', c') → T[i + 1 + j]? = some t' ∧ C[i + 1 + j]? = some c' := fun j t' c' hj => by
      have := hr (j + 1) t' c' (by simpa using hj)
      rwa [show i + (j + 1) = i + 1 + j from by omega] at this
    by_cases hs : t ≠ 13 ∨ kindP c = 0
    · rw [ends_skip hs]
      exact ends_apart T C r (i + 1) st hO.next hr'
    · have ht : t = 13 := by
        by_cases h : t = 13
        · exact h
        · exact absurd (.inl h) hs
      subst ht
      have hk : kindP c = 1 ∨ kindP c = 2 := by
        rcases kind_012 c with h | h
        · exact absurd (.inr h) hs
        · exact h
      rcases hk with hk | hk
      · by_cases h63 : 63 ≤ st.length
        · rw [ends_full hk h63]
          exact .nil
        · rw [ends_push hk (by omega)]
          exact ends_apart T C r (i + 1) _ (hO.push h0.1 h0.2) hr'
      · cases hd : dropTo c st with
        | none =>
          rw [ends_lone hk hd]
          exact ends_apart T C r (i + 1) st hO.next hr'
        | some y =>
          obtain ⟨k, st'⟩ := y
          rw [ends_pair hk hd]
          obtain ⟨o, s1, rfl, ho⟩ := dropTo_parts hd
          obtain ⟨hO', hlt, hki, hT, hC⟩ := hO.below
          refine List.pairwise_cons.2 ⟨fun q hq => ?_, ends_apart T C r (i + 1) st' hO' hr'⟩
          obtain ⟨h1, h2, h3, h4⟩ := ends_is T C r (i + 1) st' hO' hr' q hq
          have hql := h1.lt
          rcases h4 with h4 | ⟨o', ho'⟩
          · refine ⟨fun _ => ?_, fun _ => ?_, ?_, ?_, ?_, ?_⟩ <;> simp only [] <;> omega
          · have := hlt _ ho'
            simp only at this
            refine ⟨fun _ => ?_, fun _ => ?_, ?_, ?_, ?_, ?_⟩ <;> simp only [] <;> omega

/-- Put in order by what opens. -/
def inOrder (n : Nat) (L : List (Nat × Nat)) : List (Nat × Nat) := (List.range n).flatMap fun a => L.filter fun p => decide (p.1 = a)
theorem inOrder_mem (n : Nat) (L : List (Nat × Nat)) (p : Nat × Nat) : p ∈ inOrder n L ↔ p ∈ L ∧ p.1 < n := by
  unfold inOrder
  simp only [List.mem_flatMap, List.mem_range, List.mem_filter, decide_eq_true_eq]
  constructor
  · rintro ⟨a, ha, hp, rfl⟩
    exact ⟨hp, ha⟩
  · rintro ⟨hp, h⟩
    exact ⟨p.1, h, hp, rfl⟩
def Rising (L : List (Nat × Nat)) : Prop := L.Pairwise fun p q => p.1 < q.1
theorem inOrder_rising (n : Nat) (L : List (Nat × Nat)) (h : L.Pairwise fun p q => p.1 ≠ q.1) : Rising (inOrder n L) := by
  unfold Rising inOrder
  rw [List.pairwise_flatMap]
  refine ⟨fun a _ => ?_, ?_⟩
  · have h2 : (L.filter fun p => decide (p.1 = a)).Pairwise fun p q => p.1 ≠ q.1 := h.sublist List.filter_sublist
    have h3 : ∀ p ∈ L.filter fun p => decide (p.1 = a), p.1 = a := fun p hp => by simpa using (List.mem_filter.1 hp).2
    generalize (L.filter fun p => decide (p.1 = a)) = M at *
    refine h2.imp_of_mem (fun {p q} hp hq hne => ?_)
    exact absurd ((h3 p hp).trans (h3 q hq).symm) hne
  · refine List.pairwise_lt_range.imp ?_
    intro a b hab p hp q hq
    have h1 : p.1 = a := by simpa using (List.mem_filter.1 hp).2
    have h2 : q.1 = b := by simpa using (List.mem_filter.1 hq).2
    omega
/-- There is one such row alone. -/
theorem rising_unique : ∀ {L M : List (Nat × Nat)}, Rising L → Rising M → (∀ p, p ∈ L ↔ p ∈ M) → L = M
  | [], [], _, _, _ => rfl
  | [], q :: M, _, _, h => absurd ((h q).2 (by simp)) (by simp)
  | p :: L, [], _, _, h => absurd ((h p).1 (by simp)) (by simp)
  | p :: L, q :: M, hL, hM, h => by
    obtain ⟨hp, hL'⟩ := List.pairwise_cons.1 hL
    obtain ⟨hq, hM'⟩ := List.pairwise_cons.1 hM
    have e : p = q := by
      rcases List.mem_cons.1 ((h p).1 (by simp)) with e | e
      · exact e
      · rcases List.mem_cons.1 ((h q).2 (by simp)) with e2 | e2
        · exact e2.symm
        · have := hq p e
          have := hp q e2
          omega
    subst e
    congr 1
    refine rising_unique hL' hM' (fun x => ?_)
    constructor
    · intro hx
      rcases List.mem_cons.1 ((h x).1 (List.mem_cons_of_mem _ hx)) with e | e
      · subst e
        have := hp x hx
        omega
      · exact e
    · intro hx
      rcases List.mem_cons.1 ((h x).2 (List.mem_cons_of_mem _ hx)) with e | e
      · subst e
        have := hq x hx
        omega
      · exact e

/-- The pairs of a sequence. -/
def findP (T C : List Int) : List (Nat × Nat) := if T.length = C.length then inOrder C.length (ends 0 [] (T.zip C)) else []
theorem zip_at {T C : List Int} (j : Nat) (t c : Int) (h : (T.zip C)[j]? = some (t, c)) : T[0 + j]? = some t ∧ C[0 + j]? = some c := by
  rw [Nat.zero_add]
  rw [List.getElem?_zip_eq_some] at h
  exact h
theorem find_unlike {T C : List Int} (h : T.length ≠ C.length) : findP T C = [] := by unfold findP; rw [if_neg h]
theorem find_mem {T C : List Int} (h : T.length = C.length) (p : Nat × Nat) : p ∈ findP T C ↔ p ∈ ends 0 [] (T.zip C) := by
  unfold findP
  rw [if_pos h, inOrder_mem]
  constructor
  · exact fun h => h.1
  · intro hp
    obtain ⟨h1, h2, h3, -⟩ := ends_is T C _ 0 [] (Open.nil T C 0) (fun j t c => zip_at j t c) p hp
    have := h1.lt
    rw [List.length_zip] at h3
    exact ⟨hp, by omega⟩
theorem find_rising (T C : List Int) : Rising (findP T C) := by
  by_cases h : T.length = C.length
  · unfold findP
    rw [if_pos h]
    exact inOrder_rising _ _ ((ends_apart T C _ 0 [] (Open.nil T C 0) (fun j t c => zip_at j t c)).imp (fun h => h.2.2.1))
  · rw [find_unlike h]
    exact .nil
theorem find_unique {T C : List Int} (h : T.length = C.length) {L : List (Nat × Nat)} (hL : Rising L) (hm : ∀ p, p ∈ L ↔ p ∈ ends 0 [] (T.zip C)) : L = findP T C :=
  rising_unique hL (find_rising T C) (fun p => (hm p).trans (find_mem h p).symm)
theorem find_is {T C : List Int} {p : Nat × Nat} (hp : p ∈ findP T C) : PairIs T C p := by
  by_cases h : T.length = C.length
  · exact (ends_is T C _ 0 [] (Open.nil T C 0) (fun j t c => zip_at j t c) p ((find_mem h p).1 hp)).1
  · rw [find_unlike h] at hp
    cases hp
theorem apart_symm {p q : Nat × Nat} (h : Apart p q) : Apart q p := ⟨h.2.1, h.1, h.2.2.1.symm, h.2.2.2.1.symm, fun e => h.2.2.2.2.2 e.symm, fun e => h.2.2.2.2.1 e.symm⟩
theorem pairwise_mem {α : Type} {R : α → α → Prop} (hs : ∀ {a b}, R a b → R b a) : ∀ {l : List α}, l.Pairwise R → ∀ {a b}, a ∈ l → b ∈ l → a ≠ b → R a b
  | [], _, _, _, h, _, _ => by cases h
  | x :: l, hp, a, b, ha, hb, hne => by
    obtain ⟨h1, h2⟩ := List.pairwise_cons.1 hp
    rcases List.mem_cons.1 ha with ea | ha2
    · rcases List.mem_cons.1 hb with eb | hb2
      · exact absurd (ea.trans eb.symm) hne
      · exact ea ▸ h1 b hb2
    · rcases List.mem_cons.1 hb with eb | hb2
      · exact hs (eb ▸ h1 a ha2)
      · exact pairwise_mem hs h2 ha2 hb2 hne
/-- P14.4. -/
theorem find_apart {T C : List Int} {p q : Nat × Nat} (hp : p ∈ findP T C) (hq : q ∈ findP T C) (hne : p ≠ q) : Apart p q := by
  by_cases h : T.length = C.length
  · exact pairwise_mem apart_symm (ends_apart T C _ 0 [] (Open.nil T C 0) (fun j t c => zip_at j t c)) ((find_mem h p).1 hp) ((find_mem h q).1 hq) hne
  · rw [find_unlike h] at hp
    cases hp
theorem find_lt {T C : List Int} {p : Nat × Nat} (hp : p ∈ findP T C) : p.1 < p.2 ∧ p.2 < T.length ∧ p.2 < C.length := by
  have h := find_is hp
  obtain ⟨a, b, -, hb, -⟩ := h.meet
  exact ⟨h.lt, (List.getElem?_eq_some_iff.1 h.t2).1, (List.getElem?_eq_some_iff.1 hb).1⟩
theorem find_at {T C : List Int} {k i : Nat} {p q : Nat × Nat} (hk : (findP T C)[k]? = some q) (hi : (findP T C)[i]? = some p) (hki : k < i) : q.1 < p.1 ∧ (q.2 < p.1 ∨ p.2 < q.2) := by
  obtain ⟨hk1, rfl⟩ := List.getElem?_eq_some_iff.1 hk
  obtain ⟨hi1, rfl⟩ := List.getElem?_eq_some_iff.1 hi
  have h1 := (List.pairwise_iff_getElem.1 (find_rising T C)) k i hk1 hi1 hki
  have hne : (findP T C)[k] ≠ (findP T C)[i] := fun e => by rw [e] at h1; omega
  exact ⟨h1, (find_apart (List.getElem_mem hk1) (List.getElem_mem hi1) hne).1 h1⟩
theorem find_len {T C : List Int} : (findP T C).length ≤ C.length := by
  have h : ((findP T C).map (·.1)).Pairwise (· < ·) := List.pairwise_map.2 (find_rising T C)
  have hlt : ∀ x ∈ (findP T C).map (·.1), x < C.length := by
    intro x hx
    obtain ⟨p, hp, rfl⟩ := List.mem_map.1 hx
    have := find_lt hp
    omega
  have hn : ((findP T C).map (·.1)).Nodup := h.imp (fun h => Nat.ne_of_lt h)
  have := hn.length_le_of_subset (l₂ := List.range C.length) (fun x hx => List.mem_range.2 (hlt x hx))
  simpa using this
end Go.Proofs.YtapeebnbiappgaaDoor.Pr
