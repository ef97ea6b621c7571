/-
  Runs and sequences in memory: rows of structs of three ints and a row of ints, each row of its own; as they are read.
-/
import Derived.Test.YtehndhkcmccpmaaLvOne
import Derived.Test.YtehndhkcmccpmaaArrKit
import Derived.Test.YtehndhkcmccpmaaSqPlain
set_option linter.unusedVariables false
namespace Go.Proofs.Ytehndhkcmccpmaa.Sq
open Go Go.RowKit Go.Lib Go.Proofs.Ytehndhkcmccpmaa.Cl

theorem own_ne {w : World} {B B' : Nat} {t t' : TypeId} {sz sz' : Nat} {v v' : Value} {n n' : Nat} {xs xs' : List Value} (h : w.ownsRow B t sz v n xs) (h' : w.ownsRow B' t' sz' v' n' xs') (ht : t ≠ t') : v.ownBlock = none ∨ v.ownBlock ≠ v'.ownBlock := by
  rcases h.2 with ⟨rfl, _⟩ | ⟨g, cap, cur, rfl, _, hg, _⟩
  · exact .inl rfl
  · rcases h'.2 with ⟨rfl, _⟩ | ⟨g', cap', cur', rfl, _, hg', _⟩
    · exact .inr (by simp [Value.ownBlock])
    · right
      intro e
      simp [Value.ownBlock] at e
      subst e
      rw [hg] at hg'
      injection hg' with hg'
      injection hg' with _ h2 _
      exact ht h2
theorem own_heap {w w' : World} {B : Nat} {t : TypeId} {sz : Nat} {v : Value} {n : Nat} {xs : List Value} (h : w.ownsRow B t sz v n xs) (e : w'.heap = w.heap) : w'.ownsRow B t sz v n xs := by
  unfold World.ownsRow at h ⊢
  rw [e]
  exact h
theorem own_one {w : World} {B : Nat} {t : TypeId} {sz : Nat} {v : Value} {n : Nat} {xs : List Value} (h : w.ownsRow B t sz v n xs) : v.oneCell' = true := by
  rcases h.2 with ⟨rfl, _⟩ | ⟨g, cap, cur, rfl, _⟩ <;> rfl

/-- Places as numbers. -/
def ns (l : List Nat) : List Int := l.map fun p : Nat => (p : Int)
theorem ns_len (l : List Nat) : (ns l).length = l.length := by simp [ns]
theorem ns_append (a b : List Nat) : ns (a ++ b) = ns a ++ ns b := by simp [ns]
theorem ns_at {l : List Nat} {k : Nat} (h : k < l.length) : (ns l)[k]? = some ((l[k] : Nat) : Int) := by simp [ns, h]
def c4 (r : S4) (x : Value) : List Value := [.int .i64 r.a, .int .i64 r.b, .int .i64 r.c, x]
def cellsS : List S4 → List Value → List Value
  | r :: R, x :: X => c4 r x ++ cellsS R X
  | _, _ => []
theorem cellsS_len : ∀ {R : List S4} {X : List Value}, X.length = R.length → (cellsS R X).length = R.length * 4
  | [], [], _ => rfl
  | r :: R, x :: X, h => by
    have := cellsS_len (R := R) (X := X) (by simpa using h)
    simp [cellsS, c4, this]
    omega
theorem cellsS_snoc : ∀ {R : List S4} {X : List Value} (r : S4) (x : Value), X.length = R.length → cellsS (R ++ [r]) (X ++ [x]) = cellsS R X ++ c4 r x
  | [], [], r, x, _ => by simp [cellsS]
  | r0 :: R, x0 :: X, r, x, h => by
    have := cellsS_snoc (R := R) (X := X) r x (by simpa using h)
    simp only [List.cons_append, cellsS]
    rw [this, List.append_assoc]
theorem cellsS_at : ∀ {R : List S4} {X : List Value} {k : Nat} {x : Value} (hk : k < R.length), X[k]? = some x → (cellsS R X)[k * 4]? = some (.int .i64 R[k].a) ∧ (cellsS R X)[k * 4 + 1]? = some (.int .i64 R[k].b) ∧ (cellsS R X)[k * 4 + 2]? = some (.int .i64 R[k].c) ∧ (cellsS R X)[k * 4 + 3]? = some x
  | r :: R, y :: X, 0, x, _, h => by
    simp at h
    subst h
    exact ⟨rfl, rfl, rfl, rfl⟩
  | r :: R, y :: X, k + 1, x, hk, h => by
    have := cellsS_at (R := R) (X := X) (k := k) (x := x) (by simpa using hk) (by simpa using h)
    rw [show (k + 1) * 4 = k * 4 + 4 from by omega]
    exact this
theorem cellsS_setc : ∀ {R : List S4} {X : List Value} {k : Nat} (hk : k < R.length) (y : Int), X.length = R.length → (cellsS R X).set (k * 4 + 2) (.int .i64 y) = cellsS (R.set k ⟨R[k].a, R[k].b, y, R[k].p⟩) X
  | r :: R, x :: X, 0, _, y, _ => rfl
  | r :: R, x :: X, k + 1, hk, y, h => by
    have := cellsS_setc (R := R) (X := X) (k := k) (by simpa using hk) y (by simpa using h)
    rw [show (k + 1) * 4 + 2 = (k * 4 + 2) + 4 from by omega]
    simp only [List.set_cons_succ, cellsS, List.getElem_cons_succ]
    rw [← this]
    rfl
theorem cellsS_setp : ∀ {R : List S4} {X : List Value} {k : Nat} (hk : k < R.length) (x : Value) (p : List Nat), X.length = R.length → (cellsS R X).set (k * 4 + 3) x = cellsS (R.set k ⟨R[k].a, R[k].b, R[k].c, p⟩) (X.set k x)
  | r :: R, x0 :: X, 0, _, x, p, _ => rfl
  | r :: R, x0 :: X, k + 1, hk, x, p, h => by
    have := cellsS_setp (R := R) (X := X) (k := k) (by simpa using hk) x p (by simpa using h)
    rw [show (k + 1) * 4 + 3 = (k * 4 + 3) + 4 from by omega]
    simp only [List.set_cons_succ, cellsS, List.getElem_cons_succ]
    rw [← this]
    rfl

/-- Such a row of the call's own, of a struct's type, with the values of its rows. -/
structure SqI (T : TypeId) (B : Nat) (w : World) (v : Value) (R : List S4) (X : List Value) : Prop where
  ty : T ≠ 3
  len : X.length = R.length
  row : w.ownsRow B T 4 v R.length (cellsS R X)
  own : ∀ i (h : i < R.length) x, X[i]? = some x → w.ownsRow B 3 1 x R[i].p.length (icl (ns R[i].p))
  two : ∀ (i j : Nat) (x y : Value), i ≠ j → X[i]? = some x → X[j]? = some y → Two x y
theorem SqI.nil {T : TypeId} (B : Nat) (w : World) (hT : T ≠ 3) : SqI T B w (.slice none 0 0) [] [] :=
  ⟨hT, rfl, World.ownsRow_nil _ _ _ _, fun i h => by simp at h, fun i j x y _ h => by simp at h⟩
theorem SqI.below {T : TypeId} {B : Nat} {w w' : World} {v : Value} {R : List S4} {X : List Value} (h : SqI T B w v R X) (hb : Below w.heap.size w w') : SqI T B w' v R X :=
  ⟨h.ty, h.len, ownsRow_below h.row hb, fun i hi x hx => ownsRow_below (h.own i hi x hx) hb, h.two⟩
theorem SqI.heap {T : TypeId} {B : Nat} {w w' : World} {v : Value} {R : List S4} {X : List Value} (h : SqI T B w v R X) (e : w'.heap = w.heap) : SqI T B w' v R X :=
  ⟨h.ty, h.len, own_heap h.row e, fun i hi x hx => own_heap (h.own i hi x hx) e, h.two⟩
theorem SqI.mono {T : TypeId} {B C : Nat} {w : World} {v : Value} {R : List S4} {X : List Value} (h : SqI T B w v R X) (hC : C ≤ B) : SqI T C w v R X :=
  ⟨h.ty, h.len, ownsRow_mono h.row hC, fun i hi x hx => ownsRow_mono (h.own i hi x hx) hC, h.two⟩
theorem SqI.val {T : TypeId} {B : Nat} {w : World} {v : Value} {R : List S4} {X : List Value} (h : SqI T B w v R X) {i : Nat} (hi : i < R.length) : ∃ x, X[i]? = some x := ⟨_, List.getElem?_eq_getElem (by rw [h.len]; exact hi)⟩
theorem SqI.lt {T : TypeId} {B : Nat} {w : World} {v : Value} {R : List S4} {X : List Value} (h : SqI T B w v R X) {i : Nat} {x : Value} (hx : X[i]? = some x) {k : Nat} (hk : x.ownBlock = some k) : B ≤ k ∧ k < w.heap.size := by
  have hi : i < R.length := by rw [← h.len]; exact (List.getElem?_eq_some_iff.1 hx).1
  exact (h.own i hi x hx).lt k hk
/-- Anything changes but blocks that are none of its own. -/
theorem SqI.kept {T : TypeId} {B : Nat} {w w' : World} {v : Value} {R : List S4} {X : List Value} (h : SqI T B w v R X) {row : Option Nat} (hg : w.grownBy w' row) (hr : ∀ k, row = some k → k < B) : SqI T B w' v R X := by
  have hn : ∀ (u : Value), (∀ k, u.ownBlock = some k → B ≤ k ∧ k < w.heap.size) → u.ownBlock = none ∨ u.ownBlock ≠ row := fun u hu => by
    cases hb : u.ownBlock with
    | none => exact .inl rfl
    | some k =>
      right
      intro e
      have := (hu k hb).1
      have := hr k e.symm
      omega
  exact ⟨h.ty, h.len, h.row.kept hg (hn v h.row.lt), fun i hi x hx => (h.own i hi x hx).kept hg (hn x (h.own i hi x hx).lt), h.two⟩
/-- Anything changes but cells. -/
theorem own_other {w w' : World} {B : Nat} {t : TypeId} {sz : Nat} {v : Value} {n : Nat} {xs : List Value} (h : w.ownsRow B t sz v n xs) {row : Option Nat} (hg : w.grownBy w' row) (hr : ∀ r, row = some r → ∀ b t' f, w.heap[r]? ≠ some (.cells b t' f)) : w'.ownsRow B t sz v n xs := by
  refine h.kept hg ?_
  rcases h.2 with ⟨rfl, _⟩ | ⟨g, cap, cur, rfl, _, hgb, _⟩
  · exact .inl rfl
  · refine .inr fun e' => ?_
    have ho := hr g (by simpa [Value.ownBlock] using e'.symm)
    exact ho _ _ _ hgb
theorem SqI.other {T : TypeId} {B : Nat} {w w' : World} {v : Value} {R : List S4} {X : List Value} (h : SqI T B w v R X) {row : Option Nat} (hg : w.grownBy w' row) (hr : ∀ r, row = some r → ∀ b t' f, w.heap[r]? ≠ some (.cells b t' f)) : SqI T B w' v R X :=
  ⟨h.ty, h.len, own_other h.row hg hr, fun i hi x hx => own_other (h.own i hi x hx) hg hr, h.two⟩
theorem new_cells {W : World} {cs : Array Value} {e : TypeId} : ∀ j u, cs.toList[j]? = some u → (W.alloc (.cells cs e)).cell? ((⟨W.heap.size, 0, none⟩ : Addr).add j) = some u := by
  intro j u hu
  obtain ⟨hj, rfl⟩ := List.getElem?_eq_some_iff.1 hu
  have hadd : (⟨W.heap.size, 0, none⟩ : Addr).add j = ⟨W.heap.size, 0 + j, none⟩ := by unfold Addr.add; split <;> simp_all
  rw [hadd, Nat.zero_add, cell_of_row _ W.heap.size j cs e (0, 0) (heap_alloc_last W _)]
  have hj' : j < cs.size := by simpa using hj
  rw [Array.getElem?_eq_getElem hj']
  simp
/-- One more. -/
theorem SqI.push {T : TypeId} {B : Nat} {w w' : World} {v v' : Value} {R : List S4} {X : List Value} (h : SqI T B w v R X) (r : S4) (x : Value) (hrow : w'.ownsRow B T 4 v' (R.length + 1) (cellsS R X ++ c4 r x)) (hg : w.grownBy w' v.ownBlock)
    (hx : w.ownsRow B 3 1 x r.p.length (icl (ns r.p))) (h2 : ∀ y ∈ X, Two y x) : SqI T B w' v' (R ++ [r]) (X ++ [x]) := by
  have hl := h.len
  refine ⟨h.ty, by simp [hl], ?_, fun i hi y hy => ?_, fun i j y z hij hy hz => ?_⟩
  · rw [cellsS_snoc r x hl, List.length_append]
    exact hrow
  · by_cases hlt : i < R.length
    · have e : (R ++ [r])[i] = R[i] := List.getElem_append_left hlt
      rw [e]
      rw [List.getElem?_append_left (by omega)] at hy
      exact (h.own i hlt y hy).kept hg (own_ne (h.own i hlt y hy) h.row (fun e => h.ty e.symm))
    · have hi' : i = R.length := by simp at hi; omega
      subst hi'
      rw [List.getElem?_append_right (by omega), hl, Nat.sub_self] at hy
      simp at hy
      subst hy
      simp only [List.getElem_concat_length]
      exact hx.kept hg (own_ne hx h.row (fun e => h.ty e.symm))
  · have hcase : ∀ (i : Nat) (y : Value), (X ++ [x])[i]? = some y → (i < X.length ∧ X[i]? = some y) ∨ (i = X.length ∧ y = x) := fun i y hy => by
      by_cases hi : i < X.length
      · rw [List.getElem?_append_left hi] at hy
        exact .inl ⟨hi, hy⟩
      · rw [List.getElem?_append_right (by omega)] at hy
        have : i - X.length = 0 := by
          have := (List.getElem?_eq_some_iff.1 hy).1
          simp at this
          omega
        rw [this] at hy
        simp at hy
        exact .inr ⟨by omega, hy.symm⟩
    rcases hcase i y hy with ⟨h3, h4⟩ | ⟨h3, h4⟩
    · rcases hcase j z hz with ⟨h5, h6⟩ | ⟨h5, h6⟩
      · exact h.two i j y z hij h4 h6
      · subst h6
        exact h2 y (List.mem_of_getElem? h4)
    · rcases hcase j z hz with ⟨h5, h6⟩ | ⟨h5, h6⟩
      · subst h4
        exact (h2 z (List.mem_of_getElem? h6)).swap
      · omega
/-- One of them, as it lies. -/
theorem SqI.get {T : TypeId} {B : Nat} {w : World} {v : Value} {R : List S4} {X : List Value} (h : SqI T B w v R X) {k : Nat} (hk : k < R.length) : ∃ g cap x A c, v = .slice (some ⟨g, 0, none⟩) R.length cap ∧ B ≤ g ∧ g < w.heap.size ∧ X[k]? = some x ∧ x = .slice A R[k].p.length c ∧ IntsAt w A (ns R[k].p) ∧
    w.cell? ⟨g, k * 4, none⟩ = some (.int .i64 R[k].a) ∧ w.cell? ⟨g, k * 4 + 1, none⟩ = some (.int .i64 R[k].b) ∧ w.cell? ⟨g, k * 4 + 2, none⟩ = some (.int .i64 R[k].c) ∧ w.cell? ⟨g, k * 4 + 3, none⟩ = some x ∧ (∀ j, w.frozen? ⟨g, j, none⟩ = false) := by
  obtain ⟨x, hx⟩ := h.val hk
  obtain ⟨h0, h1, h2, h3⟩ := cellsS_at hk hx
  have hw := h.own k hk x hx
  obtain ⟨A, c, ex, hi⟩ := intsAt_icl hw (ns_len _)
  have hr := h.row
  rcases hr.2 with ⟨e, hn⟩ | ⟨g, cap, cur, e, hB, hg, _⟩
  · omega
  · subst e
    refine ⟨g, cap, x, A, c, rfl, hB, (Array.getElem?_eq_some_iff.1 hg).1, hx, ex, hi, ?_, ?_, ?_, ?_, fun j => hr.frozenAt j⟩
    · rw [hr.cellAt _ (by omega)]; exact h0
    · rw [hr.cellAt _ (by omega)]; exact h1
    · rw [hr.cellAt _ (by omega)]; exact h2
    · rw [hr.cellAt _ (by omega)]; exact h3
/-- The third number is stored. -/
theorem SqI.setc {T : TypeId} {B g cap : Nat} {w : World} {R : List S4} {X : List Value} (h : SqI T B w (.slice (some ⟨g, 0, none⟩) R.length cap) R X) {k : Nat} (hk : k < R.length) (y : Int) :
    SqI T B (w.setCell ⟨g, k * 4 + 2, none⟩ (.int .i64 y)) (.slice (some ⟨g, 0, none⟩) R.length cap) (R.set k ⟨R[k].a, R[k].b, y, R[k].p⟩) X := by
  obtain ⟨h1, h2⟩ := h.row.stored (k * 4 + 2) (.int .i64 y)
  rw [cellsS_setc hk y h.len] at h1
  refine ⟨h.ty, by rw [List.length_set]; exact h.len, by rw [List.length_set]; exact h1, fun i hi x hx => ?_, h.two⟩
  have hi' : i < R.length := by simpa using hi
  have ho := (h.own i hi' x hx).kept h2 (own_ne (h.own i hi' x hx) h.row (fun e => h.ty e.symm))
  have e : (R.set k ⟨R[k].a, R[k].b, y, R[k].p⟩)[i].p = R[i].p := by
    rw [List.getElem_set]
    split
    · rename_i hki
      subst hki
      rfl
    · rfl
  rw [e]
  exact ho
/-- The places are stored, when they have grown. -/
theorem SqI.setp {T : TypeId} {B g cap : Nat} {w w1 : World} {R : List S4} {X : List Value} (h : SqI T B w (.slice (some ⟨g, 0, none⟩) R.length cap) R X) {k : Nat} (hk : k < R.length) {x x' : Value} (hx : X[k]? = some x) (q : List Nat)
    (ho : w1.ownsRow B 3 1 x' (R[k].p ++ q).length (icl (ns (R[k].p ++ q)))) (hg : w.grownBy w1 x.ownBlock) (hw : x'.ownBlock = x.ownBlock ∨ ∃ j, x'.ownBlock = some j ∧ w.heap.size ≤ j) :
    SqI T B (w1.setCell ⟨g, k * 4 + 3, none⟩ x') (.slice (some ⟨g, 0, none⟩) R.length cap) (R.set k ⟨R[k].a, R[k].b, R[k].c, R[k].p ++ q⟩) (X.set k x') ∧ w1.cell? ⟨g, k * 4 + 3, none⟩ = some x ∧ w1.frozen? ⟨g, k * 4 + 3, none⟩ = false := by
  have hxo := h.own k hk x hx
  have hr1 := h.row.kept hg (own_ne h.row hxo h.ty)
  obtain ⟨h1, h2⟩ := hr1.stored (k * 4 + 3) x'
  rw [cellsS_setp hk x' (R[k].p ++ q) h.len] at h1
  obtain ⟨-, -, -, h3⟩ := cellsS_at hk hx
  have htw : ∀ i y, i ≠ k → X[i]? = some y → Two x' y := fun i y hik hy => by
    have hi : i < R.length := by rw [← h.len]; exact (List.getElem?_eq_some_iff.1 hy).1
    exact (h.two k i x y (fun e => hik e.symm) hx hy).grow (h.own i hi y hy) hw
  refine ⟨⟨h.ty, by simp [h.len], by rw [List.length_set]; exact h1, fun i hi y hy => ?_, fun i j y z hij hy hz => ?_⟩, ?_, hr1.frozenAt _⟩
  · have hi' : i < R.length := by simpa using hi
    by_cases e : i = k
    · subst e
      rw [List.getElem?_set_self (by rw [h.len]; exact hk)] at hy
      injection hy with hy
      subst hy
      simp only [List.getElem_set_self]
      exact ho.kept h2 (own_ne ho hr1 (fun e => h.ty e.symm))
    · rw [List.getElem?_set_ne (fun e' => e e'.symm)] at hy
      simp only [List.getElem_set_ne (fun e' => e e'.symm)]
      have hy1 := (h.two k i x y (fun e' => e e'.symm) hx hy).kept (h.own i hi' y hy) hg
      exact hy1.kept h2 (own_ne hy1 hr1 (fun e => h.ty e.symm))
  · by_cases e : i = k
    · subst e
      rw [List.getElem?_set_self (by rw [h.len]; exact hk)] at hy
      injection hy with hy
      subst hy
      rw [List.getElem?_set_ne hij] at hz
      exact htw j z (fun e => hij e.symm) hz
    · rw [List.getElem?_set_ne (fun e' => e e'.symm)] at hy
      by_cases e2 : j = k
      · subst e2
        rw [List.getElem?_set_self (by rw [h.len]; exact hk)] at hz
        injection hz with hz
        subst hz
        exact (htw i y e hy).swap
      · rw [List.getElem?_set_ne (fun e' => e2 e'.symm)] at hz
        exact h.two i j y z hij hy hz
  · rw [hr1.cellAt _ (by omega)]; exact h3

/-- Such a row as it is read. -/
def SqAt (w : World) (A : Option Addr) (R : List S4) : Prop :=
  R = [] ∨ ∃ b off, A = some ⟨b, off, none⟩ ∧ b < w.heap.size ∧ ∀ k (hk : k < R.length), ∃ A' c, w.cell? ⟨b, off + k * 4, none⟩ = some (.int .i64 R[k].a) ∧ w.cell? ⟨b, off + k * 4 + 1, none⟩ = some (.int .i64 R[k].b) ∧ w.cell? ⟨b, off + k * 4 + 2, none⟩ = some (.int .i64 R[k].c) ∧ w.cell? ⟨b, off + k * 4 + 3, none⟩ = some (.slice A' R[k].p.length c) ∧ IntsAt w A' (ns R[k].p)
theorem SqAt.below {w w' : World} {A : Option Addr} {R : List S4} (h : SqAt w A R) (hb : Below w.heap.size w w') : SqAt w' A R := by
  rcases h with h | ⟨b, off, hA, hlt, hc⟩
  · exact .inl h
  · refine .inr ⟨b, off, hA, Nat.lt_of_lt_of_le hlt hb.size, fun k hk => ?_⟩
    obtain ⟨A', c, h0, h1, h2, h3, h4⟩ := hc k hk
    exact ⟨A', c, (hb.cell (p := ⟨b, off + k * 4, none⟩) hlt).trans h0, (hb.cell (p := ⟨b, off + k * 4 + 1, none⟩) hlt).trans h1, (hb.cell (p := ⟨b, off + k * 4 + 2, none⟩) hlt).trans h2, (hb.cell (p := ⟨b, off + k * 4 + 3, none⟩) hlt).trans h3, h4.below hb⟩
theorem SqAt.at_ {w : World} {A : Option Addr} {R : List S4} (h : SqAt w A R) {k : Nat} (hk : k < R.length) : ∃ b off A' c, A = some ⟨b, off, none⟩ ∧ w.cell? ⟨b, off + k * 4, none⟩ = some (.int .i64 R[k].a) ∧ w.cell? ⟨b, off + k * 4 + 1, none⟩ = some (.int .i64 R[k].b) ∧ w.cell? ⟨b, off + k * 4 + 2, none⟩ = some (.int .i64 R[k].c) ∧ w.cell? ⟨b, off + k * 4 + 3, none⟩ = some (.slice A' R[k].p.length c) ∧ IntsAt w A' (ns R[k].p) := by
  rcases h with rfl | ⟨b, off, hA, hlt, hc⟩
  · simp at hk
  · obtain ⟨A', c, h0, h1, h2, h3, h4⟩ := hc k hk
    exact ⟨b, off, A', c, hA, h0, h1, h2, h3, h4⟩
theorem SqAt.nil_len {w : World} {A : Option Addr} {R : List S4} (h : SqAt w A R) : A = none → R.length = 0 := by
  rintro rfl
  rcases h with rfl | ⟨b, off, hA, _⟩
  · rfl
  · cases hA
theorem SqI.reads {T : TypeId} {B : Nat} {w : World} {v : Value} {R : List S4} {X : List Value} (h : SqI T B w v R X) : ∃ A c, v = .slice A R.length c ∧ SqAt w A R := by
  by_cases hR : R = []
  · have := h.row
    subst hR
    rcases this.2 with ⟨rfl, _⟩ | ⟨g, cap, cur, rfl, _⟩
    · exact ⟨_, _, rfl, .inl rfl⟩
    · exact ⟨_, _, rfl, .inl rfl⟩
  · have h0 : 0 < R.length := List.length_pos_iff.2 hR
    obtain ⟨g, cap, _, _, _, hv, _, hlt, _⟩ := h.get h0
    refine ⟨_, cap, hv, .inr ⟨g, 0, rfl, hlt, fun k hk => ?_⟩⟩
    obtain ⟨g', cap', x, A, c, hv', _, _, _, ex, hi, c0, c1, c2, c3, _⟩ := h.get hk
    rw [hv] at hv'
    injection hv' with e1 e2 e3
    injection e1 with e1
    injection e1 with e1
    subst e1
    subst ex
    refine ⟨A, c, ?_, ?_, ?_, ?_, hi⟩
    · rw [Nat.zero_add]; exact c0
    · rw [Nat.zero_add]; exact c1
    · rw [Nat.zero_add]; exact c2
    · rw [Nat.zero_add]; exact c3
end Go.Proofs.Ytehndhkcmccpmaa.Sq
