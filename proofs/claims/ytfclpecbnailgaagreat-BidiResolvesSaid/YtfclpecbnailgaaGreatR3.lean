/-
  Several texts in one, each with its own remark: SqRows, SqSmall, LvMem, StepKit, LvFns, LvClose.
-/
import Derived.IntWalk
import Derived.BigQuiet
import Derived.WalkSmall
import Derived.OneCell
import Derived.OwnWalk
import Derived.RegionTactic
import Derived.Deep.AppendLies
import Derived.Carry
import Derived.ProofKit
import Derived.Below
import Derived.WalkKit
import Derived.Laws.AppendOwn
import Derived.Deep.RegionLaw
import Derived.Test.YtfclpecbnailgaaGreatR2
import Derived.Test.YtfclpecbnailgaaGreatR0
import Derived.Test.YtfclpecbnailgaaGreatRows

/-
 Runs and sequences in memory: rows of structs of three ints and a row of ints, each row of its own; as they are read.
-/
set_option linter.unusedVariables false
namespace Go.Proofs.YtfclpecbnailgaaGreat.Sq
open Go Go.RowKit Go.Lib Go.Proofs.YtfclpecbnailgaaGreat.Cl
theorem own_ne {w : World} {B B' : Nat} {t t' : TypeId} {sz sz' : Nat} {v v' : Value} {n n' : Nat} {xs xs' : List Value} (h : w.ownsRow B t sz v n xs) (h' : w.ownsRow B' t' sz' v' n' xs') (ht : t ≠ t') : v.ownBlock = none ∨ v.ownBlock ≠ v'.ownBlock := by
 rcases h.2 with ⟨rfl, _⟩ | ⟨g, cap, cur, rfl, _, hg, _⟩
 ·exact .inl rfl
 ·rcases h'.2 with ⟨rfl, _⟩ | ⟨g', cap', cur', rfl, _, hg', _⟩
  ·exact .inr (by simp [Value.ownBlock])
  ·right
   intro e
   simp [Value.ownBlock] at e
   subst e
   rw [hg] at hg'
   injection hg' with hg'
   injection hg' with _ h2 _
   exact ht h2
theorem own_heap {w w' : World} {B : Nat} {t : TypeId} {sz : Nat} {v : Value} {n : Nat} {xs : List Value} (h : w.ownsRow B t sz v n xs) (e : w'.heap = w.heap) : w'.ownsRow B t sz v n xs := by
 unfold World.ownsRow at h ⊢
 rw [e]
 exact h
theorem own_one {w : World} {B : Nat} {t : TypeId} {sz : Nat} {v : Value} {n : Nat} {xs : List Value} (h : w.ownsRow B t sz v n xs) : v.oneCell' = true := by
 rcases h.2 with ⟨rfl, _⟩ | ⟨g, cap, cur, rfl, _⟩ <;> rfl
/-- Places as numbers. -/
def ns (l : List Nat) : List Int := l.map fun p : Nat => (p : Int)
theorem ns_len (l : List Nat) : (ns l).length = l.length := by simp [ns]
theorem ns_append (a b : List Nat) : ns (a ++ b) = ns a ++ ns b := by simp [ns]
theorem ns_at {l : List Nat} {k : Nat} (h : k < l.length) : (ns l)[k]? = some ((l[k] : Nat) : Int) := by simp [ns, h]
def c4 (r : S4) (x : Value) : List Value := [.int .i64 r.a, .int .i64 r.b, .int .i64 r.c, x]
def cellsS : List S4 → List Value → List Value
 | r :: R, x :: X => c4 r x ++ cellsS R X
 | _, _ => []
theorem cellsS_snoc : ∀ {R : List S4} {X : List Value} (r : S4) (x : Value), X.length = R.length → cellsS (R ++ [r]) (X ++ [x]) = cellsS R X ++ c4 r x
 | [], [], r, x, _ => by simp [cellsS]
 | r0 :: R, x0 :: X, r, x, h => by
  have := cellsS_snoc (R := R) (X := X) r x (by simpa using h)
  simp only [List.cons_append, cellsS]
  rw [this, List.append_assoc]
theorem cellsS_at : ∀ {R : List S4} {X : List Value} {k : Nat} {x : Value} (hk : k < R.length), X[k]? = some x → (cellsS R X)[k * 4]? = some (.int .i64 R[k].a) ∧ (cellsS R X)[k * 4 + 1]? = some (.int .i64 R[k].b) ∧ (cellsS R X)[k * 4 + 2]? = some (.int .i64 R[k].c) ∧ (cellsS R X)[k * 4 + 3]? = some x
 | r :: R, y :: X, 0, x, _, h => by
  simp at h
  subst h
  exact ⟨rfl, rfl, rfl, rfl⟩
 | r :: R, y :: X, k + 1, x, hk, h => by
  have := cellsS_at (R := R) (X := X) (k := k) (x := x) (by simpa using hk) (by simpa using h)
  rw [show (k + 1) * 4 = k * 4 + 4 from by omega]
  exact this
theorem cellsS_setc : ∀ {R : List S4} {X : List Value} {k : Nat} (hk : k < R.length) (y : Int), X.length = R.length → (cellsS R X).set (k * 4 + 2) (.int .i64 y) = cellsS (R.set k ⟨R[k].a, R[k].b, y, R[k].p⟩) X
 | r :: R, x :: X, 0, _, y, _ => rfl
 | r :: R, x :: X, k + 1, hk, y, h => by
  have := cellsS_setc (R := R) (X := X) (k := k) (by simpa using hk) y (by simpa using h)
  rw [show (k + 1) * 4 + 2 = (k * 4 + 2) + 4 from by omega]
  simp only [List.set_cons_succ, cellsS, List.getElem_cons_succ]
  rw [← this]
  rfl
theorem cellsS_setp : ∀ {R : List S4} {X : List Value} {k : Nat} (hk : k < R.length) (x : Value) (p : List Nat), X.length = R.length → (cellsS R X).set (k * 4 + 3) x = cellsS (R.set k ⟨R[k].a, R[k].b, R[k].c, p⟩) (X.set k x)
 | r :: R, x0 :: X, 0, _, x, p, _ => rfl
 | r :: R, x0 :: X, k + 1, hk, x, p, h => by
  have := cellsS_setp (R := R) (X := X) (k := k) (by simpa using hk) x p (by simpa using h)
  rw [show (k + 1) * 4 + 3 = (k * 4 + 3) + 4 from by omega]
  simp only [List.set_cons_succ, cellsS, List.getElem_cons_succ]
  rw [← this]
  rfl
/-- Such a row of the call's own, of a struct's type, with the values of its rows. -/
structure SqI (T : TypeId) (B : Nat) (w : World) (v : Value) (R : List S4) (X : List Value) : Prop where
 ty : T ≠ 3
 len : X.length = R.length
 row : w.ownsRow B T 4 v R.length (cellsS R X)
 own : ∀ i (h : i < R.length) x, X[i]? = some x → w.ownsRow B 3 1 x R[i].p.length (icl (ns R[i].p))
 two : ∀ (i j : Nat) (x y : Value), i ≠ j → X[i]? = some x → X[j]? = some y → Two x y
theorem SqI.nil {T : TypeId} (B : Nat) (w : World) (hT : T ≠ 3) : SqI T B w (.slice none 0 0) [] [] :=
 ⟨hT, rfl, World.ownsRow_nil _ _ _ _, fun i h => by simp at h, fun i j x y _ h => by simp at h⟩
theorem SqI.below {T : TypeId} {B : Nat} {w w' : World} {v : Value} {R : List S4} {X : List Value} (h : SqI T B w v R X) (hb : Below w.heap.size w w') : SqI T B w' v R X :=
 ⟨h.ty, h.len, ownsRow_below h.row hb, fun i hi x hx => ownsRow_below (h.own i hi x hx) hb, h.two⟩
theorem SqI.heap {T : TypeId} {B : Nat} {w w' : World} {v : Value} {R : List S4} {X : List Value} (h : SqI T B w v R X) (e : w'.heap = w.heap) : SqI T B w' v R X :=
 ⟨h.ty, h.len, own_heap h.row e, fun i hi x hx => own_heap (h.own i hi x hx) e, h.two⟩
theorem SqI.mono {T : TypeId} {B C : Nat} {w : World} {v : Value} {R : List S4} {X : List Value} (h : SqI T B w v R X) (hC : C ≤ B) : SqI T C w v R X :=
 ⟨h.ty, h.len, ownsRow_mono h.row hC, fun i hi x hx => ownsRow_mono (h.own i hi x hx) hC, h.two⟩
theorem SqI.val {T : TypeId} {B : Nat} {w : World} {v : Value} {R : List S4} {X : List Value} (h : SqI T B w v R X) {i : Nat} (hi : i < R.length) : ∃ x, X[i]? = some x := ⟨_, List.getElem?_eq_getElem (by rw [h.len]; exact hi)⟩
theorem SqI.lt {T : TypeId} {B : Nat} {w : World} {v : Value} {R : List S4} {X : List Value} (h : SqI T B w v R X) {i : Nat} {x : Value} (hx : X[i]? = some x) {k : Nat} (hk : x.ownBlock = some k) : B ≤ k ∧ k < w.heap.size := by
 have hi : i < R.length := by rw [← h.len]; exact (List.getElem?_eq_some_iff.1 hx).1
 exact (h.own i hi x hx).lt k hk
/-- Anything changes but blocks that are none of its own. -/
theorem SqI.kept {T : TypeId} {B : Nat} {w w' : World} {v : Value} {R : List S4} {X : List Value} (h : SqI T B w v R X) {row : Option Nat} (hg : w.grownBy w' row) (hr : ∀ k, row = some k → k < B) : SqI T B w' v R X := by
 have hn : ∀ (u : Value), (∀ k, u.ownBlock = some k → B ≤ k ∧ k < w.heap.size) → u.ownBlock = none ∨ u.ownBlock ≠ row := fun u hu => by
  cases hb : u.ownBlock with
  | none => exact .inl rfl
  | some k =>
   right
   intro e
   have := (hu k hb).1
   have := hr k e.symm
   omega
 exact ⟨h.ty, h.len, h.row.kept hg (hn v h.row.lt), fun i hi x hx => (h.own i hi x hx).kept hg (hn x (h.own i hi x hx).lt), h.two⟩
/-- Anything changes but cells. -/
theorem own_other {w w' : World} {B : Nat} {t : TypeId} {sz : Nat} {v : Value} {n : Nat} {xs : List Value} (h : w.ownsRow B t sz v n xs) {row : Option Nat} (hg : w.grownBy w' row) (hr : ∀ r, row = some r → ∀ b t' f, w.heap[r]? ≠ some (.cells b t' f)) : w'.ownsRow B t sz v n xs := by
 refine h.kept hg ?_
 rcases h.2 with ⟨rfl, _⟩ | ⟨g, cap, cur, rfl, _, hgb, _⟩
 ·exact .inl rfl
 ·refine .inr fun e' => ?_
  have ho := hr g (by simpa [Value.ownBlock] using e'.symm)
  exact ho _ _ _ hgb
theorem SqI.other {T : TypeId} {B : Nat} {w w' : World} {v : Value} {R : List S4} {X : List Value} (h : SqI T B w v R X) {row : Option Nat} (hg : w.grownBy w' row) (hr : ∀ r, row = some r → ∀ b t' f, w.heap[r]? ≠ some (.cells b t' f)) : SqI T B w' v R X :=
 ⟨h.ty, h.len, own_other h.row hg hr, fun i hi x hx => own_other (h.own i hi x hx) hg hr, h.two⟩
theorem new_cells {W : World} {cs : Array Value} {e : TypeId} : ∀ j u, cs.toList[j]? = some u → (W.alloc (.cells cs e)).cell? ((⟨W.heap.size, 0, none⟩ : Addr).add j) = some u := by
 intro j u hu
 obtain ⟨hj, rfl⟩ := List.getElem?_eq_some_iff.1 hu
 have hadd : (⟨W.heap.size, 0, none⟩ : Addr).add j = ⟨W.heap.size, 0 + j, none⟩ := by unfold Addr.add; split <;> simp_all
 rw [hadd, Nat.zero_add, cell_of_row _ W.heap.size j cs e (0, 0) (heap_alloc_last W _)]
 have hj' : j < cs.size := by simpa using hj
 rw [Array.getElem?_eq_getElem hj']
 simp
/-- One more. -/
theorem SqI.push {T : TypeId} {B : Nat} {w w' : World} {v v' : Value} {R : List S4} {X : List Value} (h : SqI T B w v R X) (r : S4) (x : Value) (hrow : w'.ownsRow B T 4 v' (R.length + 1) (cellsS R X ++ c4 r x)) (hg : w.grownBy w' v.ownBlock)
  (hx : w.ownsRow B 3 1 x r.p.length (icl (ns r.p))) (h2 : ∀ y ∈ X, Two y x) : SqI T B w' v' (R ++ [r]) (X ++ [x]) := by
 have hl := h.len
 refine ⟨h.ty, by simp [hl], ?_, fun i hi y hy => ?_, fun i j y z hij hy hz => ?_⟩
 ·rw [cellsS_snoc r x hl, List.length_append]
  exact hrow
 ·by_cases hlt : i < R.length
  ·have e : (R ++ [r])[i] = R[i] := List.getElem_append_left hlt
   rw [e]
   rw [List.getElem?_append_left (by omega)] at hy
   exact (h.own i hlt y hy).kept hg (own_ne (h.own i hlt y hy) h.row (fun e => h.ty e.symm))
  ·have hi' : i = R.length := by simp at hi; omega
   subst hi'
   rw [List.getElem?_append_right (by omega), hl, Nat.sub_self] at hy
   simp at hy
   subst hy
   simp only [List.getElem_concat_length]
   exact hx.kept hg (own_ne hx h.row (fun e => h.ty e.symm))
 ·have hcase : ∀ (i : Nat) (y : Value), (X ++ [x])[i]? = some y → (i < X.length ∧ X[i]? = some y) ∨ (i = X.length ∧ y = x) := fun i y hy => by
   by_cases hi : i < X.length
   ·rw [List.getElem?_append_left hi] at hy
    exact .inl ⟨hi, hy⟩
   ·rw [List.getElem?_append_right (by omega)] at hy
    have : i - X.length = 0 := by
     have := (List.getElem?_eq_some_iff.1 hy).1
     simp at this
     omega
    rw [this] at hy
    simp at hy
    exact .inr ⟨by omega, hy.symm⟩
  rcases hcase i y hy with ⟨h3, h4⟩ | ⟨h3, h4⟩
  ·rcases hcase j z hz with ⟨h5, h6⟩ | ⟨h5, h6⟩
   ·exact h.two i j y z hij h4 h6
   ·subst h6
    exact h2 y (List.mem_of_getElem? h4)
  ·rcases hcase j z hz with ⟨h5, h6⟩ | ⟨h5, h6⟩
   ·subst h4
    exact (h2 z (List.mem_of_getElem? h6)).swap
   ·omega
/-- One of them, as it lies. -/
theorem SqI.get {T : TypeId} {B : Nat} {w : World} {v : Value} {R : List S4} {X : List Value} (h : SqI T B w v R X) {k : Nat} (hk : k < R.length) : ∃ g cap x A c, v = .slice (some ⟨g, 0, none⟩) R.length cap ∧ B ≤ g ∧ g < w.heap.size ∧ X[k]? = some x ∧ x = .slice A R[k].p.length c ∧ IntsAt w A (ns R[k].p) ∧
  w.cell? ⟨g, k * 4, none⟩ = some (.int .i64 R[k].a) ∧ w.cell? ⟨g, k * 4 + 1, none⟩ = some (.int .i64 R[k].b) ∧ w.cell? ⟨g, k * 4 + 2, none⟩ = some (.int .i64 R[k].c) ∧ w.cell? ⟨g, k * 4 + 3, none⟩ = some x ∧ (∀ j, w.frozen? ⟨g, j, none⟩ = false) := by
 obtain ⟨x, hx⟩ := h.val hk
 obtain ⟨h0, h1, h2, h3⟩ := cellsS_at hk hx
 have hw := h.own k hk x hx
 obtain ⟨A, c, ex, hi⟩ := intsAt_icl hw (ns_len _)
 have hr := h.row
 rcases hr.2 with ⟨e, hn⟩ | ⟨g, cap, cur, e, hB, hg, _⟩
 ·omega
 ·subst e
  refine ⟨g, cap, x, A, c, rfl, hB, (Array.getElem?_eq_some_iff.1 hg).1, hx, ex, hi, ?_, ?_, ?_, ?_, fun j => hr.frozenAt j⟩
  ·rw [hr.cellAt _ (by omega)]; exact h0
  ·rw [hr.cellAt _ (by omega)]; exact h1
  ·rw [hr.cellAt _ (by omega)]; exact h2
  ·rw [hr.cellAt _ (by omega)]; exact h3
/-- The third number is stored. -/
theorem SqI.setc {T : TypeId} {B g cap : Nat} {w : World} {R : List S4} {X : List Value} (h : SqI T B w (.slice (some ⟨g, 0, none⟩) R.length cap) R X) {k : Nat} (hk : k < R.length) (y : Int) :
  SqI T B (w.setCell ⟨g, k * 4 + 2, none⟩ (.int .i64 y)) (.slice (some ⟨g, 0, none⟩) R.length cap) (R.set k ⟨R[k].a, R[k].b, y, R[k].p⟩) X := by
 obtain ⟨h1, h2⟩ := h.row.stored (k * 4 + 2) (.int .i64 y)
 rw [cellsS_setc hk y h.len] at h1
 refine ⟨h.ty, by rw [List.length_set]; exact h.len, by rw [List.length_set]; exact h1, fun i hi x hx => ?_, h.two⟩
 have hi' : i < R.length := by simpa using hi
 have ho := (h.own i hi' x hx).kept h2 (own_ne (h.own i hi' x hx) h.row (fun e => h.ty e.symm))
 have e : (R.set k ⟨R[k].a, R[k].b, y, R[k].p⟩)[i].p = R[i].p := by
  rw [List.getElem_set]
  split
  ·rename_i hki
   subst hki
   rfl
  ·rfl
 rw [e]
 exact ho
/-- The places are stored, when they have grown. -/
theorem SqI.setp {T : TypeId} {B g cap : Nat} {w w1 : World} {R : List S4} {X : List Value} (h : SqI T B w (.slice (some ⟨g, 0, none⟩) R.length cap) R X) {k : Nat} (hk : k < R.length) {x x' : Value} (hx : X[k]? = some x) (q : List Nat)
  (ho : w1.ownsRow B 3 1 x' (R[k].p ++ q).length (icl (ns (R[k].p ++ q)))) (hg : w.grownBy w1 x.ownBlock) (hw : x'.ownBlock = x.ownBlock ∨ ∃ j, x'.ownBlock = some j ∧ w.heap.size ≤ j) :
  SqI T B (w1.setCell ⟨g, k * 4 + 3, none⟩ x') (.slice (some ⟨g, 0, none⟩) R.length cap) (R.set k ⟨R[k].a, R[k].b, R[k].c, R[k].p ++ q⟩) (X.set k x') ∧ w1.cell? ⟨g, k * 4 + 3, none⟩ = some x ∧ w1.frozen? ⟨g, k * 4 + 3, none⟩ = false := by
 have hxo := h.own k hk x hx
 have hr1 := h.row.kept hg (own_ne h.row hxo h.ty)
 obtain ⟨h1, h2⟩ := hr1.stored (k * 4 + 3) x'
 rw [cellsS_setp hk x' (R[k].p ++ q) h.len] at h1
 obtain ⟨-, -, -, h3⟩ := cellsS_at hk hx
 have htw : ∀ i y, i ≠ k → X[i]? = some y → Two x' y := fun i y hik hy => by
  have hi : i < R.length := by rw [← h.len]; exact (List.getElem?_eq_some_iff.1 hy).1
  exact (h.two k i x y (fun e => hik e.symm) hx hy).grow (h.own i hi y hy) hw
 refine ⟨⟨h.ty, by simp [h.len], by rw [List.length_set]; exact h1, fun i hi y hy => ?_, fun i j y z hij hy hz => ?_⟩, ?_, hr1.frozenAt _⟩
 ·have hi' : i < R.length := by simpa using hi
  by_cases e : i = k
  ·subst e
   rw [List.getElem?_set_self (by rw [h.len]; exact hk)] at hy
   injection hy with hy
   subst hy
   simp only [List.getElem_set_self]
   exact ho.kept h2 (own_ne ho hr1 (fun e => h.ty e.symm))
  ·rw [List.getElem?_set_ne (fun e' => e e'.symm)] at hy
   simp only [List.getElem_set_ne (fun e' => e e'.symm)]
   have hy1 := (h.two k i x y (fun e' => e e'.symm) hx hy).kept (h.own i hi' y hy) hg
   exact hy1.kept h2 (own_ne hy1 hr1 (fun e => h.ty e.symm))
 ·by_cases e : i = k
  ·subst e
   rw [List.getElem?_set_self (by rw [h.len]; exact hk)] at hy
   injection hy with hy
   subst hy
   rw [List.getElem?_set_ne hij] at hz
   exact htw j z (fun e => hij e.symm) hz
  ·rw [List.getElem?_set_ne (fun e' => e e'.symm)] at hy
   by_cases e2 : j = k
   ·subst e2
    rw [List.getElem?_set_self (by rw [h.len]; exact hk)] at hz
    injection hz with hz
    subst hz
    exact (htw i y e hy).swap
   ·rw [List.getElem?_set_ne (fun e' => e2 e'.symm)] at hz
    exact h.two i j y z hij hy hz
 ·rw [hr1.cellAt _ (by omega)]; exact h3
/-- Such a row as it is read. -/
def SqAt (w : World) (A : Option Addr) (R : List S4) : Prop :=
 R = [] ∨ ∃ b off, A = some ⟨b, off, none⟩ ∧ b < w.heap.size ∧ ∀ k (hk : k < R.length), ∃ A' c, w.cell? ⟨b, off + k * 4, none⟩ = some (.int .i64 R[k].a) ∧ w.cell? ⟨b, off + k * 4 + 1, none⟩ = some (.int .i64 R[k].b) ∧ w.cell? ⟨b, off + k * 4 + 2, none⟩ = some (.int .i64 R[k].c) ∧ w.cell? ⟨b, off + k * 4 + 3, none⟩ = some (.slice A' R[k].p.length c) ∧ IntsAt w A' (ns R[k].p)
theorem SqAt.below {w w' : World} {A : Option Addr} {R : List S4} (h : SqAt w A R) (hb : Below w.heap.size w w') : SqAt w' A R := by
 rcases h with h | ⟨b, off, hA, hlt, hc⟩
 ·exact .inl h
 ·refine .inr ⟨b, off, hA, Nat.lt_of_lt_of_le hlt hb.size, fun k hk => ?_⟩
  obtain ⟨A', c, h0, h1, h2, h3, h4⟩ := hc k hk
  exact ⟨A', c, (hb.cell (p := ⟨b, off + k * 4, none⟩) hlt).trans h0, (hb.cell (p := ⟨b, off + k * 4 + 1, none⟩) hlt).trans h1, (hb.cell (p := ⟨b, off + k * 4 + 2, none⟩) hlt).trans h2, (hb.cell (p := ⟨b, off + k * 4 + 3, none⟩) hlt).trans h3, h4.below hb⟩
theorem SqAt.at_ {w : World} {A : Option Addr} {R : List S4} (h : SqAt w A R) {k : Nat} (hk : k < R.length) : ∃ b off A' c, A = some ⟨b, off, none⟩ ∧ w.cell? ⟨b, off + k * 4, none⟩ = some (.int .i64 R[k].a) ∧ w.cell? ⟨b, off + k * 4 + 1, none⟩ = some (.int .i64 R[k].b) ∧ w.cell? ⟨b, off + k * 4 + 2, none⟩ = some (.int .i64 R[k].c) ∧ w.cell? ⟨b, off + k * 4 + 3, none⟩ = some (.slice A' R[k].p.length c) ∧ IntsAt w A' (ns R[k].p) := by
 rcases h with rfl | ⟨b, off, hA, hlt, hc⟩
 ·simp at hk
 ·obtain ⟨A', c, h0, h1, h2, h3, h4⟩ := hc k hk
  exact ⟨b, off, A', c, hA, h0, h1, h2, h3, h4⟩
theorem SqAt.nil_len {w : World} {A : Option Addr} {R : List S4} (h : SqAt w A R) : A = none → R.length = 0 := by
 rintro rfl
 rcases h with rfl | ⟨b, off, hA, _⟩
 ·rfl
 ·cases hA
theorem SqI.reads {T : TypeId} {B : Nat} {w : World} {v : Value} {R : List S4} {X : List Value} (h : SqI T B w v R X) : ∃ A c, v = .slice A R.length c ∧ SqAt w A R := by
 by_cases hR : R = []
 ·have := h.row
  subst hR
  rcases this.2 with ⟨rfl, _⟩ | ⟨g, cap, cur, rfl, _⟩
  ·exact ⟨_, _, rfl, .inl rfl⟩
  ·exact ⟨_, _, rfl, .inl rfl⟩
 ·have h0 : 0 < R.length := List.length_pos_iff.2 hR
  obtain ⟨g, cap, _, _, _, hv, _, hlt, _⟩ := h.get h0
  refine ⟨_, cap, hv, .inr ⟨g, 0, rfl, hlt, fun k hk => ?_⟩⟩
  obtain ⟨g', cap', x, A, c, hv', _, _, _, ex, hi, c0, c1, c2, c3, _⟩ := h.get hk
  rw [hv] at hv'
  injection hv' with e1 e2 e3
  injection e1 with e1
  injection e1 with e1
  subst e1
  subst ex
  refine ⟨A, c, ?_, ?_, ?_, ?_, hi⟩
  ·rw [Nat.zero_add]; exact c0
  ·rw [Nat.zero_add]; exact c1
  ·rw [Nat.zero_add]; exact c2
  ·rw [Nat.zero_add]; exact c3
end Go.Proofs.YtfclpecbnailgaaGreat.Sq

/-
 Proved here: what the small functions of seqs return: a run's first and last place, the direction of two levels, whether an initiator is open. They leave what was in memory.
-/
set_option linter.unusedVariables false
namespace Go.Proofs.YtfclpecbnailgaaGreat.Sq
open Go Go.RowKit Go.Lib Go.Proofs.YtfclpecbnailgaaGreat.Cl Go.Proofs.YtfclpecbnailgaaGreat.Ba
theorem ns_hd {l : List Nat} (h : l ≠ []) : (ns l)[0]? = some ((hd l : Nat) : Int) := by cases l <;> simp_all [ns, hd]
theorem ns_lst {l : List Nat} (h : l ≠ []) : (ns l)[l.length - 1]? = some ((lst l : Nat) : Int) := by
 have h0 : 0 < l.length := List.length_pos_iff.2 h
 rw [ns_at (by omega)]
 congr 2
 unfold lst
 rw [List.getLastD_eq_getLast?, List.getLast?_eq_getElem?, List.getElem?_eq_getElem (by omega)]
 rfl
theorem at_val {w : World} {A : Option Addr} {zs : List Int} (h : IntsAt w A zs) {k : Nat} {z : Int} (hz : zs[k]? = some z) : ∃ b off, A = some ⟨b, off, none⟩ ∧ w.cell? ⟨b, off + k, none⟩ = some (.int .i64 z) := by
 obtain ⟨hk, rfl⟩ := List.getElem?_eq_some_iff.1 hz
 exact h.at_ hk
set_option maxHeartbeats 1000000 in
set_option maxRecDepth 100000 in
theorem first_any (a b c : Int) (A : Option Addr) (cp n : Nat) (l : List Nat) (w : World) (hl : l.length = n) (hne : l ≠ []) (hR : IntsAt w A (ns l)) (hn : n ≤ 1099511627776) :
  Calls Tryz.prog 53 #[.agg #[.int .i64 a, .int .i64 b, .int .i64 c, .slice A n cp]] w fun e w' => e = .returned (.int .i64 (hd l)) ∧ Below w.heap.size w w' := by
 have hb := (Below.refl w.heap.size w).alloc (Nat.le_refl _) (.cells #[.int .i64 a, .int .i64 b, .int .i64 c, .slice A n cp] 72)
 obtain ⟨bk, off, rfl, hc⟩ := at_val (hR.below hb) (ns_hd hne)
 have h0 : 0 < n := by rw [← hl]; exact List.length_pos_iff.2 hne
 have h0' : (0 : Int) < (n : Int) := by omega
 rw [Nat.add_zero] at hc
 clear hR hl hne
 generalize hd l = x at *
 go_enter Tryz.func53, Tryz.ntmps53
 go_wp2
 go_ret
 exact ⟨rfl, hb⟩
set_option maxHeartbeats 1000000 in
set_option maxRecDepth 100000 in
theorem last_any (a b c : Int) (A : Option Addr) (cp n : Nat) (l : List Nat) (w : World) (hl : l.length = n) (hne : l ≠ []) (hR : IntsAt w A (ns l)) (hn : n ≤ 1099511627776) :
  Calls Tryz.prog 51 #[.agg #[.int .i64 a, .int .i64 b, .int .i64 c, .slice A n cp]] w fun e w' => e = .returned (.int .i64 (lst l)) ∧ Below w.heap.size w w' := by
 have hb := (Below.refl w.heap.size w).alloc (Nat.le_refl _) (.cells #[.int .i64 a, .int .i64 b, .int .i64 c, .slice A n cp] 72)
 obtain ⟨bk, off, rfl, hc⟩ := at_val (hR.below hb) (ns_lst hne)
 have h0 : 0 < n := by rw [← hl]; exact List.length_pos_iff.2 hne
 obtain ⟨m, rfl⟩ : ∃ m, n = m + 1 := ⟨n - 1, by omega⟩
 rw [hl, Nat.add_sub_cancel] at hc
 have hw : IntKind.i64.wrap (((m + 1 : Nat) : Int) - 1) = (m : Int) := by rw [IntKind.wrap_i64]; omega
 have hw2 : IntKind.i64.wrap ((m : Int) + 1 - 1) = (m : Int) := by rw [IntKind.wrap_i64]; omega
 have hw3 : IntKind.i64.wrap (m : Int) = (m : Int) := by rw [IntKind.wrap_i64]; omega
 have h1 : (0 : Int) ≤ (m : Int) := by omega
 have h2 : (m : Int) < ((m + 1 : Nat) : Int) := by omega
 clear hR hl hne
 generalize lst l = x at *
 go_enter Tryz.func51, Tryz.ntmps51
 go_wp2
 go_ret
 exact ⟨rfl, hb⟩
set_option maxHeartbeats 1000000 in
theorem direction_any (x y : Int) (w : World) :
  Calls Tryz.prog 54 #[.int .i64 x, .int .i64 y] w fun e w' => e = .returned (.int .i64 (way x y)) ∧ w = w' := by
 unfold way
 have hm : (if x < y then y else x) = max x y := by split <;> omega
 cases hb : ((if x < y then y else x).tmod 2 == 0) with
 | true =>
  rw [if_pos (by rw [← hm]; simpa using hb)]
  clear hm
  go_enter Tryz.func54, Tryz.ntmps54
  go_wp2
  all_goals go_ret
  all_goals exact ⟨rfl, rfl⟩
 | false =>
  rw [if_neg (by rw [← hm]; simpa using hb)]
  clear hm
  go_enter Tryz.func54, Tryz.ntmps54
  go_wp2
  all_goals go_ret
  all_goals exact ⟨rfl, rfl⟩
set_option maxHeartbeats 1000000 in
set_option maxRecDepth 100000 in
theorem open_any (lv m : Int) (V : Value) (A : Option Addr) (cp n k : Nat) (zs : List Int) (w : World) (hl : zs.length = n) (hR : IntsAt w A zs) (hk : zs[k]? = some m) (hn : n ≤ 1099511627776) (hV : ∃ b1 n1 c1, V = .slice b1 n1 c1) :
  Calls Tryz.prog 97 #[.agg #[.int .i64 lv, V, .slice A n cp], .int .i64 k] w fun e w' => e = .returned (.bool (m == (n : Int))) ∧ Below w.heap.size w w' := by
 obtain ⟨b1, n1, c1, rfl⟩ := hV
 have hb := (Below.refl w.heap.size w).alloc (Nat.le_refl _) (.cells #[.int .i64 lv, .slice b1 n1 c1, .slice A n cp] 69)
 obtain ⟨bk, off, rfl, hc⟩ := at_val (hR.below hb) hk
 have hkn : k < n := by rw [← hl]; exact (List.getElem?_eq_some_iff.1 hk).1
 have h1 : (0 : Int) ≤ (k : Int) := by omega
 have h2 : (k : Int) < (n : Int) := by omega
 clear hR hl hk
 go_enter Tryz.func97, Tryz.ntmps97
 go_wp2_with fail
 go_quiet (fail)
 go_wp2
 go_ret
 exact ⟨rfl, Arr.below_drewN hb _⟩
end Go.Proofs.YtfclpecbnailgaaGreat.Sq

/-
 What is open, in memory: a block of four cells and a row of its own; what (*level.opened).last and takeOff do. Small facts.
-/
set_option linter.unusedVariables false
namespace Go.Proofs.YtfclpecbnailgaaGreat.Lv
open Go.RowKit Go.Lib Go.Proofs.YtfclpecbnailgaaGreat.Cl
def eC (e : E) : List Value := [.int .i64 e.lev, .int .i64 e.ov, .bool e.iso]
/-- The cells of what is open. -/
def esC : List E → List Value
 | [] => []
 | e :: r => esC r ++ eC e
theorem esC_len : ∀ (es : List E), (esC es).length = es.length * 3
 | [] => rfl
 | e :: r => by simp [esC, eC, esC_len r]; omega
theorem esC_last (e : E) (r : List E) : (esC (e :: r))[r.length * 3]? = some (.int .i64 e.lev) ∧ (esC (e :: r))[r.length * 3 + 1]? = some (.int .i64 e.ov) ∧ (esC (e :: r))[r.length * 3 + 2]? = some (.bool e.iso) := by
 have h := esC_len r
 refine ⟨?_, ?_, ?_⟩
 ·rw [esC, List.getElem?_append_right (by omega), h, Nat.sub_self]; rfl
 ·rw [esC, List.getElem?_append_right (by omega), h, Nat.add_sub_cancel_left]; rfl
 ·rw [esC, List.getElem?_append_right (by omega), h, Nat.add_sub_cancel_left]; rfl
theorem esC_first (b : Nat) : ∀ {es : List E}, Chain b es → (esC es)[0]? = some (.int .i64 b)
 | [], h => h.elim
 | [e], h => by
  have h : e = ⟨b, -1, false⟩ := h
  subst h
  rfl
 | e :: t :: r, h => by
  have h1 := esC_first b h.2.2.2
  have h2 := esC_len (t :: r)
  rw [esC, List.getElem?_append_left (by rw [h2]; simp)]
  exact h1
/-- What is open lies in memory: block B, and a row behind it. -/
def OpAt (w : World) (B : Nat) (s : St) : Prop :=
 ∃ g c, w.heap[B]? = some (.cells #[.int .i64 s.li, .int .i64 s.ld, .slice (some ⟨g, 0, none⟩) s.es.length c, .int .i64 s.op] 145 (0, 0)) ∧ w.ownsRow (B - 1) 140 3 (.slice (some ⟨g, 0, none⟩) s.es.length c) s.es.length (esC s.es)
theorem OpAt.lt {w : World} {B : Nat} {s : St} (h : OpAt w B s) : B < w.heap.size := by
 obtain ⟨g, c, h1, h2⟩ := h
 exact (Array.getElem?_eq_some_iff.1 h1).1
theorem OpAt.below {w w' : World} {B : Nat} {s : St} (h : OpAt w B s) (hb : Below w.heap.size w w') : OpAt w' B s := by
 obtain ⟨g, c, h1, h2⟩ := h
 exact ⟨g, c, (hb.block B (Array.getElem?_eq_some_iff.1 h1).1).trans h1, ownsRow_below h2 hb⟩
theorem own_ne {w : World} {B base g n c : Nat} {xs : List Value} {cs : Array Value} (h1 : w.heap[B]? = some (.cells cs 145 (0, 0))) (h2 : w.ownsRow base 140 3 (.slice (some ⟨g, 0, none⟩) n c) n xs) (u : Nat) (hu : u = B) : (Value.slice (some ⟨g, 0, none⟩) n c).ownBlock ≠ some u := by
 subst hu
 intro he
 have he : some g = some u := he
 injection he with he
 subst he
 rcases h2.2 with ⟨h, _⟩ | ⟨g', cap, cur, hv, _, hg, _⟩
 ·cases h
 ·cases hv
  rw [h1] at hg
  injection hg with hg
  injection hg with _ hg _
  exact absurd hg (by decide)
/-- A store ahead of it. -/
theorem OpAt.store {w : World} {B : Nat} {s : St} (h : OpAt w B s) {a : Addr} (ha : a.block < B - 1) (u : Value) : OpAt (w.setCell a u) B s := by
 obtain ⟨g, c, h1, h2⟩ := h
 exact ⟨g, c, (heap_setCell_other _ _ _ _ (by omega)).trans h1, ownsRow_setCell_below h2 ha u⟩
theorem four {w : World} {g : Nat} {v0 v1 v2 v3 : Value} {t : TypeId} (h : w.heap[g]? = some (.cells #[v0, v1, v2, v3] t)) :
  (w.cell? ⟨g, 0, none⟩ = some v0 ∧ w.cell? ⟨g, 1, none⟩ = some v1 ∧ w.cell? ⟨g, 2, none⟩ = some v2 ∧ w.cell? ⟨g, 3, none⟩ = some v3) ∧ w.frozen? ⟨g, 0, none⟩ = false ∧ w.frozen? ⟨g, 1, none⟩ = false ∧ w.frozen? ⟨g, 2, none⟩ = false ∧ w.frozen? ⟨g, 3, none⟩ = false :=
 ⟨⟨cell_of_row w g 0 _ _ _ h, cell_of_row w g 1 _ _ _ h, cell_of_row w g 2 _ _ _ h, cell_of_row w g 3 _ _ _ h⟩, frozen_of_row w g 0 _ _ h, frozen_of_row w g 1 _ _ h, frozen_of_row w g 2 _ _ h, frozen_of_row w g 3 _ _ h⟩
theorem three {w : World} {g : Nat} {v0 v1 v2 : Value} {t : TypeId} (h : w.heap[g]? = some (.cells #[v0, v1, v2] t)) :
  (w.cell? ⟨g, 0, none⟩ = some v0 ∧ w.cell? ⟨g, 1, none⟩ = some v1 ∧ w.cell? ⟨g, 2, none⟩ = some v2) ∧ w.frozen? ⟨g, 0, none⟩ = false ∧ w.frozen? ⟨g, 1, none⟩ = false ∧ w.frozen? ⟨g, 2, none⟩ = false :=
 ⟨⟨cell_of_row w g 0 _ _ _ h, cell_of_row w g 1 _ _ _ h, cell_of_row w g 2 _ _ _ h⟩, frozen_of_row w g 0 _ _ h, frozen_of_row w g 1 _ _ h, frozen_of_row w g 2 _ _ h⟩
theorem infoE : (Tryz.prog.info? 140).map (·.size) = some 3 := by kernel_rfl
theorem top3 {w : World} {B g n c : Nat} {T : TypeId} {e : E} {r : List E} (hn : r.length = n) (h : w.ownsRow B T 3 (.slice (some ⟨g, 0, none⟩) (n + 1) c) (n + 1) (esC (e :: r))) :
  w.cell? ⟨g, n * 3, none⟩ = some (.int .i64 e.lev) ∧ w.cell? ⟨g, n * 3 + 1, none⟩ = some (.int .i64 e.ov) ∧ w.cell? ⟨g, n * 3 + 2, none⟩ = some (.bool e.iso) := by
 subst hn
 obtain ⟨h0, h1, h2⟩ := esC_last e r
 exact ⟨(h.cellAt _ (by omega)).trans h0, (h.cellAt _ (by omega)).trans h1, (h.cellAt _ (by omega)).trans h2⟩
set_option maxHeartbeats 1000000 in
set_option maxRecDepth 100000 in
theorem last_any (B : Nat) (e : E) (r : List E) (li ld op : Nat) (w : World) (hO : OpAt w B ⟨e :: r, li, ld, op⟩) (hr : r.length ≤ 1000) :
  Calls Tryz.prog 128 #[.pointer (some ⟨B, 0, none⟩)] w fun x w' => x = .returned (.agg #[.int .i64 e.lev, .int .i64 e.ov, .bool e.iso]) ∧ Below w.heap.size w w' := by
 obtain ⟨g, c, h1, h2⟩ := hO
 obtain ⟨n, hn⟩ : ∃ n, r.length = n := ⟨_, rfl⟩
 have hi := infoE
 simp only [List.length_cons] at h1 h2
 rw [hn] at h1 h2 hr
 have hbg := (h2.lt g rfl)
 obtain ⟨k0, k1, k2⟩ := top3 hn h2
 obtain ⟨lev, ov, iso⟩ := e
 simp only at k0 k1 k2
 have hB : B < w.heap.size := (Array.getElem?_eq_some_iff.1 h1).1
 obtain ⟨⟨-, -, c2, -⟩, -⟩ := four h1
 have hA : ∀ o (k j : Nat), k < w.heap.size → (w.alloc o).cell? ⟨k, j, none⟩ = w.cell? ⟨k, j, none⟩ := fun o k j hk => World.cell?_of_block (w := w) (Below.heap_alloc w o k hk)
 obtain ⟨o, ho⟩ : ∃ o, (Obj.cells #[.int .i64 0, .int .i64 0, .bool false] 140 (0, 0)) = o := ⟨_, rfl⟩
 have q2 := (hA o B 2 hB).trans c2
 have r0 := (hA o g (n * 3) hbg.2).trans k0
 have r1 := (hA o g (n * 3 + 1) hbg.2).trans k1
 have r2 := (hA o g (n * 3 + 2) hbg.2).trans k2
 have hnew := heap_alloc_last w o
 subst ho
 obtain ⟨-, f0, f1, f2⟩ := three hnew
 have HN := Lib.hid hnew
 have HI := Lib.hid hi
 clear hA hn hnew h1 h2 k0 k1 k2 c2 hbg hi
 go_enter Tryz.func128, Tryz.ntmps128
 go_wp2_with fail
 go_region
 all_goals
  go_wp2_with fail
  refine bodyPost_ret (results_cell_row Tryz.results128 _ _ w.heap.size 140 _ (0, 0) _ rfl (heap_alloc_last w _) Tryz.underlying140 rfl HI.out) rfl ?_
  exact ⟨rfl, ((Below.refl _ _).alloc (Nat.le_refl _) _).drew⟩
set_option maxHeartbeats 1000000 in
set_option maxRecDepth 100000 in
theorem takeOff_any (B : Nat) (e t : E) (r : List E) (li ld op : Nat) (w : World) (hO : OpAt w B ⟨e :: t :: r, li, ld, op⟩) (hr : r.length ≤ 1000) :
  Calls Tryz.prog 155 #[.pointer (some ⟨B, 0, none⟩)] w fun x w' => x = .returned (.tuple #[]) ∧ OpAt w' B ⟨t :: r, li, ld, op⟩ ∧ Below (B - 1) w w' := by
 obtain ⟨g, c, h1, h2⟩ := hO
 obtain ⟨n, hn⟩ : ∃ n, (t :: r).length = n := ⟨_, rfl⟩
 have hn1 : 0 < n := by rw [← hn]; simp
 have hn2 : n ≤ 1001 := by rw [← hn]; simp; omega
 simp only [List.length_cons] at h1 h2 hn
 rw [hn] at h1 h2
 have hbg := (h2.lt g rfl)
 have hne := own_ne h1 h2 B rfl
 have hpop := ownsRow_pop (by rw [esC_len, List.length_cons, hn]) h2
 have hcap : n + 1 ≤ c := by
  rcases h2.2 with ⟨h1, _⟩ | ⟨g1, c1, cur, hv, _, _, hle, _⟩
  ·cases h1
  ·cases hv; exact hle
 obtain ⟨⟨-, -, c2, -⟩, -, -, f2, -⟩ := four h1
 have hB : B < w.heap.size := (Array.getElem?_eq_some_iff.1 h1).1
 have H1 := Lib.hid h1
 have HP := Lib.hid hpop
 have HN := Lib.hid hn
 clear h1 h2 hpop hn
 go_enter Tryz.func155, Tryz.ntmps155
 go_wp2_with fail
 go_region
 all_goals
  go_wp2_with fail
  go_end0
  refine ⟨rfl, ⟨g, c, ?_, ?_⟩, (Below.refl _ _).drew.setCell (p := ⟨B, 2, none⟩) (Nat.sub_le _ _) _⟩
  ·simp only [List.length_cons]
   rw [HN.out]
   exact heap_setCell_same w _ 2 _ _ _ H1.out
  ·simp only [List.length_cons]
   rw [HN.out]
   exact ownsRow_setCell_other HP.out (a := ⟨B, 2, none⟩) hne _
end Go.Proofs.YtfclpecbnailgaaGreat.Lv

/-
 Steps of a region that draws its order: an append onto a row of the call's own, a call of a function by its contract. No program in it.
-/
set_option linter.unusedVariables false
namespace Go.Proofs.YtfclpecbnailgaaGreat
open Go Go.RowKit
theorem step_append_own {P : Program} {ops : Array Oper} {o : Oper} {a : Act} {w : World} {K : Act → World → Prop} {Q : Exit → Act → World → Prop} {E : Prop}
  (hg : o.guard = none) (s x : Operand) (t : TypeId) (ho : o.op = Op.call { callee := Callee.builtin Builtin.append, args := #[s, x], argTypes := #[t, t] })
  (base : Nat) (e : TypeId) (i : TypeInfo) (z : Value) (size bytes : Nat) (ht : P.underlying t = some (.slice e)) (hi : P.info? e = some i) (hz : i.zero = some z)
  (hsize : i.size = size) (hby : i.bytes = bytes) (hzs : z.cells.size = size) (hsz : 0 < size)
  (v : Value) (n : Nat) (xs : List Value) (hs : a.eval s = v) (hown : w.ownsRow base e size v n xs)
  (ad : Addr) (m c : Nat) (news : List Value) (hx : a.eval x = .slice (some ad) m c) (hl : news.length = m * size) (hnews : ∀ j u, news[j]? = some u → w.cell? (ad.add j) = some u) (h1 : ∀ u ∈ news, u.oneCell' = true)
  (h63 : n + m ≤ maxLen) (hbytes : (n + m) * bytes ≤ 140737488355328) (hbase : base ≤ w.heap.size)
  (h : ∀ v' w', w'.ownsRow base e size v' (n + m) (xs ++ news) → w.grownBy w' v.ownBlock → K (a.put o.dst v') w') :
  if Region.wanted o (yielded ops a.tmps) = true then Oper.wp P o a w K Q else E := by
 have hw : Region.wanted o (yielded ops a.tmps) = true := by simp [Region.wanted, hg]
 rw [if_pos hw]
 exact wp_append_own w s x t ho base e i z size bytes ht hi hz hsize hby hzs hsz v n xs hs hown ad m c news hx hl hnews h1 h63 hbytes hbase fun v' w' h2 h3 _ => h v' w' h2 h3
end Go.Proofs.YtfclpecbnailgaaGreat

/-
  Proved here: what (*level.opened).odd, even, put, embed, isolate return and do to what is open in memory. Condition: what is open is as it may be; counts of at most 2^40.
-/
set_option linter.unusedVariables false
namespace Go.Proofs.YtfclpecbnailgaaGreat.Lv
open Go Go.RowKit Go.Lib Go.Proofs.YtfclpecbnailgaaGreat.Cl
theorem odd_bits : ((List.range 126).all fun (l : Nat) => bits BinOp.or IntKind.i64 ((l : Int) + 1) 1 == (nxt 1 l : Int)) = true := by kernel_rfl
theorem even_bits : ((List.range 126).all fun (l : Nat) => bits BinOp.andNot IntKind.i64 ((l : Int) + 2) 1 == (nxt 0 l : Int)) = true := by kernel_rfl
theorem odd_is {l : Nat} (h : l ≤ 125) : bits BinOp.or IntKind.i64 ((l : Int) + 1) 1 = (nxt 1 l : Int) := by
  have := List.all_eq_true.1 odd_bits l (List.mem_range.2 (by omega))
  simpa using this
theorem even_is {l : Nat} (h : l ≤ 125) : bits BinOp.andNot IntKind.i64 ((l : Int) + 2) 1 = (nxt 0 l : Int) := by
  have := List.all_eq_true.1 even_bits l (List.mem_range.2 (by omega))
  simpa using this
theorem nxt_le {o l : Nat} (h : l ≤ 125) : nxt o l ≤ 127 := by unfold nxt; split <;> omega
set_option maxHeartbeats 1000000 in
set_option maxRecDepth 100000 in
theorem odd_any (B : Nat) (e : E) (r : List E) (li ld op : Nat) (w : World) (hO : OpAt w B ⟨e :: r, li, ld, op⟩) (hr : r.length ≤ 1000) (he : e.lev ≤ 125) :
    Calls Tryz.prog 131 #[.pointer (some ⟨B, 0, none⟩)] w fun x w' => x = .returned (.int .i64 (nxt 1 e.lev)) ∧ Below w.heap.size w w' := by
  have HL := Lib.hid (last_any B e r li ld op w hO hr)
  have hb := odd_is he
  have h7 := nxt_le (o := 1) he
  clear hO hr
  obtain ⟨lev, ov, iso⟩ := e
  simp only at he hb h7 ⊢
  simp only at HL
  have hf : ∀ W, (Instr.field 140 (.agg #[.int .i64 lev, .int .i64 ov, .bool iso]) 0).run Tryz.prog W = .ok (.int .i64 lev) W := fun W => by kernel_rfl
  go_enter Tryz.func131, Tryz.ntmps131
  go_wp2_with fail
  refine HL.out.mono ?_
  rintro x w1 ⟨rfl, hb1⟩
  go_wp2
  go_ret
  exact ⟨rfl, hb1⟩
set_option maxHeartbeats 1000000 in
set_option maxRecDepth 100000 in
theorem even_any (B : Nat) (e : E) (r : List E) (li ld op : Nat) (w : World) (hO : OpAt w B ⟨e :: r, li, ld, op⟩) (hr : r.length ≤ 1000) (he : e.lev ≤ 125) :
    Calls Tryz.prog 132 #[.pointer (some ⟨B, 0, none⟩)] w fun x w' => x = .returned (.int .i64 (nxt 0 e.lev)) ∧ Below w.heap.size w w' := by
  have HL := Lib.hid (last_any B e r li ld op w hO hr)
  have hb := even_is he
  have h7 := nxt_le (o := 0) he
  clear hO hr
  obtain ⟨lev, ov, iso⟩ := e
  simp only at he hb h7 ⊢
  simp only at HL
  have hf : ∀ W, (Instr.field 140 (.agg #[.int .i64 lev, .int .i64 ov, .bool iso]) 0).run Tryz.prog W = .ok (.int .i64 lev) W := fun W => by kernel_rfl
  go_enter Tryz.func132, Tryz.ntmps132
  go_wp2_with fail
  refine HL.out.mono ?_
  rintro x w1 ⟨rfl, hb1⟩
  go_wp2
  go_ret
  exact ⟨rfl, hb1⟩
theorem infoE4 : (Tryz.prog.info? 140).map (fun i => (i.zero, i.size, i.bytes)) = some (some (.agg #[.int .i64 0, .int .i64 0, .bool false]), 3, 24) := by kernel_rfl
theorem cells_made (w : World) (cs : Array Value) (t : TypeId) (news : List Value) (h : cs.toList = news) (ad : Addr) (hB : ad = ⟨w.heap.size, 0, none⟩) : ∀ j u, news[j]? = some u → (w.alloc (.cells cs t)).cell? (ad.add j) = some u := by
  subst h hB
  intro j u hu
  obtain ⟨hj, rfl⟩ := List.getElem?_eq_some_iff.1 hu
  simp only [Array.length_toList] at hj
  have := cell_of_row (w.alloc (.cells cs t)) w.heap.size j cs t (0, 0) (heap_alloc_last w _)
  rw [Array.getElem?_eq_getElem hj] at this
  have hadd : (⟨w.heap.size, 0, none⟩ : Addr).add j = ⟨w.heap.size, 0 + j, none⟩ := by unfold Addr.add; split <;> simp_all
  rw [hadd, Nat.zero_add, this]
  simp
theorem cell_alloc (w : World) (o : Obj) {k : Nat} (j : Nat) (h : k < w.heap.size) : (w.alloc o).cell? ⟨k, j, none⟩ = w.cell? ⟨k, j, none⟩ := World.cell?_of_block (w := w) (Below.heap_alloc w o k h)
set_option maxHeartbeats 1000000 in
set_option maxRecDepth 100000 in
theorem put_not (B l : Nat) (v : Int) (i : Bool) (s : St) (w : World) (hO : OpAt w B s) (hn : (decide (l ≤ 125) && (decide (s.li = 0) && decide (s.ld = 0))) = false) (hl : l ≤ 127) (h1 : s.li ≤ 1099511627776) (h2 : s.ld ≤ 1099511627776) :
    Calls Tryz.prog 156 #[.pointer (some ⟨B, 0, none⟩), .agg #[.int .i64 l, .int .i64 v, .bool i]] w fun x w' => x = .returned (.bool false) ∧ Below w.heap.size w w' := by
  obtain ⟨g, c, hb, hw⟩ := hO
  obtain ⟨es, li, ld, op⟩ := s
  simp only at *
  have hB : B < w.heap.size := (Array.getElem?_eq_some_iff.1 hb).1
  obtain ⟨⟨c0, c1, -, -⟩, -⟩ := four hb
  obtain ⟨o, ho⟩ : ∃ o, (Obj.cells #[.int .i64 l, .int .i64 v, .bool i] 140 (0, 0)) = o := ⟨_, rfl⟩
  have q0 := (cell_alloc w o 0 hB).trans c0
  have q1 := (cell_alloc w o 1 hB).trans c1
  subst ho
  clear hb hw c0 c1
  by_cases ha : l ≤ 125
  · have ka : decide ((125 : Int) < (l : Int)) = false := by simp; omega
    rcases Nat.eq_zero_or_pos li with h0 | h0
    · subst h0
      have k1 : decide (0 < ld) = true := by
        simp [ha] at hn
        simp
        omega
      clear hn
      go_enter Tryz.func156, Tryz.ntmps156
      go_wp2
      go_ret
      exact ⟨rfl, (Below.refl _ _).alloc (Nat.le_refl _) _⟩
    · have k0 : decide (0 < li) = true := by simp; omega
      clear hn
      go_enter Tryz.func156, Tryz.ntmps156
      go_wp2
      go_ret
      exact ⟨rfl, (Below.refl _ _).alloc (Nat.le_refl _) _⟩
  · have ka : decide ((125 : Int) < (l : Int)) = true := by simp; omega
    clear hn
    go_enter Tryz.func156, Tryz.ntmps156
    go_wp2
    go_ret
    exact ⟨rfl, (Below.refl _ _).alloc (Nat.le_refl _) _⟩
set_option maxHeartbeats 2000000 in
set_option maxRecDepth 100000 in
theorem put_fits (B l : Nat) (v : Int) (i : Bool) (es : List E) (op : Nat) (w : World) (hO : OpAt w B ⟨es, 0, 0, op⟩) (hl : l ≤ 125) (hr : es.length ≤ 1000) :
    Calls Tryz.prog 156 #[.pointer (some ⟨B, 0, none⟩), .agg #[.int .i64 l, .int .i64 v, .bool i]] w fun x w' => x = .returned (.bool true) ∧ OpAt w' B ⟨⟨l, v, i⟩ :: es, 0, 0, op⟩ ∧ Below (B - 1) w w' := by
  obtain ⟨i0, hi, hz0, hz1, hz2⟩ := Cl.info_parts infoE4
  obtain ⟨g, c, hb, hw⟩ := hO
  simp only at *
  have hB : B < w.heap.size := (Array.getElem?_eq_some_iff.1 hb).1
  obtain ⟨⟨c0, c1, c2, -⟩, -, -, f2, -⟩ := four hb
  obtain ⟨o, ho⟩ : ∃ o, (Obj.cells #[.int .i64 l, .int .i64 v, .bool i] 140 (0, 0)) = o := ⟨_, rfl⟩
  have q0 := (cell_alloc w o 0 hB).trans c0
  have q1 := (cell_alloc w o 1 hB).trans c1
  have q2 := (cell_alloc w o 2 hB).trans c2
  have hnew := heap_alloc_last w o
  subst ho
  obtain ⟨⟨n0, n1, n2⟩, -⟩ := three hnew
  have ka : decide ((125 : Int) < (l : Int)) = false := by simp; omega
  have HW := Lib.hid hw
  have HB := Lib.hid hb
  have HN := Lib.hid hnew
  have hgB : g ≠ B := fun e => own_ne hb hw B rfl (by rw [e]; rfl)
  have HSAME := Lib.hid (fun (o1 o2 : Obj) (w3 : World) (hg3 : ((w.alloc o1).alloc o2).drew.grownBy w3 (some g)) => show w3.heap[B]? = _ from (hg3.block B (by show B < ((w.alloc o1).alloc o2).heap.size; simp; omega) (by simp; omega)).trans ((Below.heap_alloc _ _ _ (by simp; omega)).trans ((Below.heap_alloc _ _ _ hB).trans hb)))
  clear hnew hb hw c0 c1 c2 f2
  go_enter Tryz.func156, Tryz.ntmps156
  go_wp2_with fail
  go_region_law
    (   (refine step_append_own rfl (.tmp 28) (.tmp 30) 141 rfl (B - 1) 140 i0 (.agg #[.int .i64 0, .int .i64 0, .bool false]) 3 24 Tryz.underlying141 hi hz0 hz1 hz2 rfl (by decide) (.slice (some ⟨g, 0, none⟩) es.length c) es.length (esC es) (by rfl) ?c0 _ 1 1 [.int .i64 l, .int .i64 v, .bool i] (by rfl) rfl ?c1 ?c2 ?c3 ?c4 ?c5 ?_
         case c0 => exact (HW.out.alloc _).alloc _
         case c1 => exact cells_made _ _ _ _ rfl _ (by simp)
         case c2 => intro u hu; simp only [List.mem_cons, List.not_mem_nil, or_false] at hu; rcases hu with rfl | rfl | rfl <;> rfl
         case c3 => unfold maxLen; omega
         case c4 => omega
         case c5 => simp; omega
         intro v' w3 ho3 hg3
         obtain ⟨g3, k3, rfl, hge, hgl⟩ := ho3.form (by omega)
         have hblk := HSAME.out _ _ w3 hg3
         obtain ⟨⟨-, -, b2, -⟩, -, -, z2, -⟩ := four hblk))
  all_goals
    have hbw : Below (B - 1) w w3 := (((Below.refl (B - 1) w).alloc (by omega) _).alloc (by simp; omega) _).drew.grown hg3 (by show B - 1 ≤ (_ : World).heap.size; simp; omega) (fun k hk => by have := (HW.out.lt k hk).1; omega)
    have H3 := Lib.hid hblk
    have HO3 := Lib.hid ho3
    have HBW := Lib.hid hbw
    clear hg3 hblk ho3 hbw b2 z2 q0 q1 q2 n0 n1 n2
    go_wp2
    go_ret
    exact ⟨rfl, ⟨g3, k3, heap_setCell_same _ _ 2 _ _ _ H3.out, ownsRow_setCell_other HO3.out (a := ⟨B, 2, none⟩) (own_ne H3.out HO3.out B rfl) _⟩, HBW.out.setCell (p := ⟨B, 2, none⟩) (Nat.sub_le _ _) _⟩
theorem OpAt.heap {w w' : World} {B : Nat} {s : St} (h : OpAt w B s) (hh : w'.heap = w.heap) : OpAt w' B s := by
  obtain ⟨g, c, h1, h2⟩ := h
  refine ⟨g, c, by rw [hh]; exact h1, ?_⟩
  unfold World.ownsRow at h2 ⊢
  rw [hh]
  exact h2
theorem OpAt.lost {w : World} {B : Nat} {es : List E} {li ld op : Nat} (h : OpAt w B ⟨es, li, ld, op⟩) (x : Nat) : OpAt (w.setCell ⟨B, 0, none⟩ (.int .i64 x)) B ⟨es, x, ld, op⟩ := by
  obtain ⟨g, c, h1, h2⟩ := h
  exact ⟨g, c, heap_setCell_same _ _ 0 _ _ _ h1, ownsRow_setCell_other h2 (a := ⟨B, 0, none⟩) (own_ne h1 h2 B rfl) _⟩
theorem OpAt.deep {w : World} {B : Nat} {es : List E} {li ld op : Nat} (h : OpAt w B ⟨es, li, ld, op⟩) (x : Nat) : OpAt (w.setCell ⟨B, 1, none⟩ (.int .i64 x)) B ⟨es, li, x, op⟩ := by
  obtain ⟨g, c, h1, h2⟩ := h
  exact ⟨g, c, heap_setCell_same _ _ 1 _ _ _ h1, ownsRow_setCell_other h2 (a := ⟨B, 1, none⟩) (own_ne h1 h2 B rfl) _⟩
theorem OpAt.count {w : World} {B : Nat} {es : List E} {li ld op : Nat} (h : OpAt w B ⟨es, li, ld, op⟩) (x : Nat) : OpAt (w.setCell ⟨B, 3, none⟩ (.int .i64 x)) B ⟨es, li, ld, x⟩ := by
  obtain ⟨g, c, h1, h2⟩ := h
  exact ⟨g, c, heap_setCell_same _ _ 3 _ _ _ h1, ownsRow_setCell_other h2 (a := ⟨B, 3, none⟩) (own_ne h1 h2 B rfl) _⟩
/-- Its cells. -/
theorem OpAt.at_ {w : World} {B : Nat} {s : St} (h : OpAt w B s) : (w.cell? ⟨B, 0, none⟩ = some (.int .i64 s.li) ∧ w.cell? ⟨B, 1, none⟩ = some (.int .i64 s.ld) ∧ w.cell? ⟨B, 3, none⟩ = some (.int .i64 s.op)) ∧ w.frozen? ⟨B, 0, none⟩ = false ∧ w.frozen? ⟨B, 1, none⟩ = false ∧ w.frozen? ⟨B, 3, none⟩ = false := by
  obtain ⟨g, c, h1, h2⟩ := h
  obtain ⟨⟨c0, c1, c2, c3⟩, f0, f1, f2, f3⟩ := four h1
  exact ⟨⟨c0, c1, c3⟩, f0, f1, f3⟩
set_option maxHeartbeats 1000000 in
set_option maxRecDepth 100000 in
theorem embed_any (B o : Nat) (v : Int) (s : St) (w : World) (hO : OpAt w B s) (ht : (top s.es).lev ≤ 125) (hr : s.es.length ≤ 1000) (h1 : s.li ≤ 1099511627776) (h2 : s.ld ≤ 1099511627776) :
    Calls Tryz.prog 130 #[.pointer (some ⟨B, 0, none⟩), .int .i64 (nxt o (top s.es).lev), .int .i64 v] w fun x w' => x = .returned (.tuple #[]) ∧ OpAt w' B (embedS o v s) ∧ Below (B - 1) w w' := by
  have hl := nxt_le (o := o) ht
  cases hf : fits o s with
  | true =>
    obtain ⟨f1, f2, f3⟩ := fits_iff.1 hf
    have e : embedS o v s = push ⟨nxt o (top s.es).lev, v, false⟩ s := by unfold embedS; rw [if_pos hf]
    rw [e]
    obtain ⟨es, li, ld, op⟩ := s
    simp only at f1 f2 f3 hl hr h1 h2 ht
    subst f2 f3
    simp only [push]
    clear e hf
    generalize nxt o (top es).lev = l at *
    have HP := Lib.hid (put_fits B l v false es op w hO f1 hr)
    clear hO
    go_enter Tryz.func130, Tryz.ntmps130
    go_wp2_with fail
    refine HP.out.mono ?_
    rintro x w1 ⟨rfl, ho1, hb1⟩
    go_wp2
    go_end0
    exact ⟨rfl, ho1, hb1⟩
  | false =>
    have HP := Lib.hid (put_not B _ v false s w hO hf hl h1 h2)
    have hB := hO.lt
    have HO := Lib.hid hO
    have e : embedS o v s = if s.li = 0 then ⟨s.es, s.li, s.ld + 1, s.op⟩ else s := by unfold embedS; rw [if_neg (by rw [hf]; decide)]
    rw [e]
    clear hO hf e
    generalize nxt o (top s.es).lev = l at *
    obtain ⟨es, li, ld, op⟩ := s
    simp only at *
    rcases Nat.eq_zero_or_pos li with h0 | h0
    · subst h0
      rw [if_pos rfl]
      go_enter Tryz.func130, Tryz.ntmps130
      go_wp2_with fail
      refine HP.out.mono ?_
      rintro x w1 ⟨rfl, hb1⟩
      have ho1 := HO.out.below hb1
      obtain ⟨⟨c0, c1, -⟩, -, f1, -⟩ := ho1.at_
      have HO1 := Lib.hid (ho1.deep (ld + 1))
      have HB1 := Lib.hid (hb1.mono (B' := B - 1) (by omega))
      clear ho1 hb1
      go_wp2
      go_end0
      exact ⟨rfl, HO1.out, HB1.out.setCell (p := ⟨B, 1, none⟩) (Nat.sub_le _ _) _⟩
    · rw [if_neg (by omega)]
      have k0 : ((li : Int) == 0) = false := by simp; omega
      go_enter Tryz.func130, Tryz.ntmps130
      go_wp2_with fail
      refine HP.out.mono ?_
      rintro x w1 ⟨rfl, hb1⟩
      have ho1 := HO.out.below hb1
      obtain ⟨⟨c0, c1, -⟩, -, f1, -⟩ := ho1.at_
      have HO1 := Lib.hid ho1
      have HB1 := Lib.hid (hb1.mono (B' := B - 1) (by omega))
      clear ho1 hb1
      go_wp2
      go_end0
      exact ⟨rfl, HO1.out, HB1.out⟩
set_option maxHeartbeats 1000000 in
set_option maxRecDepth 100000 in
theorem isolate_any (B o : Nat) (s : St) (w : World) (hO : OpAt w B s) (ht : (top s.es).lev ≤ 125) (hr : s.es.length ≤ 1000) (h1 : s.li ≤ 1099511627776) (h2 : s.ld ≤ 1099511627776) (h3 : s.op ≤ 1099511627776) :
    Calls Tryz.prog 133 #[.pointer (some ⟨B, 0, none⟩), .int .i64 (nxt o (top s.es).lev)] w fun x w' => x = .returned (.tuple #[]) ∧ OpAt w' B (beginS o s) ∧ Below (B - 1) w w' := by
  have hl := nxt_le (o := o) ht
  cases hf : fits o s with
  | true =>
    obtain ⟨f1, f2, f3⟩ := fits_iff.1 hf
    have e : beginS o s = ⟨⟨nxt o (top s.es).lev, -1, true⟩ :: s.es, s.li, s.ld, s.op + 1⟩ := by unfold beginS; rw [if_pos hf]
    rw [e]
    obtain ⟨es, li, ld, op⟩ := s
    simp only at f1 f2 f3 hl hr h1 h2 h3 ht
    subst f2 f3
    simp only
    clear e hf
    generalize nxt o (top es).lev = l at *
    have HP := Lib.hid (put_fits B l (-1) true es op w hO f1 hr)
    clear hO
    go_enter Tryz.func133, Tryz.ntmps133
    go_wp2_with fail
    refine HP.out.mono ?_
    rintro x w1 ⟨rfl, ho1, hb1⟩
    obtain ⟨⟨-, -, c3⟩, -, -, f3⟩ := ho1.at_
    have HO1 := Lib.hid (ho1.count (op + 1))
    have HB1 := Lib.hid hb1
    clear ho1 hb1
    go_wp2
    go_end0
    exact ⟨rfl, HO1.out, HB1.out.setCell (p := ⟨B, 3, none⟩) (Nat.sub_le _ _) _⟩
  | false =>
    have HP := Lib.hid (put_not B _ (-1) true s w hO hf hl h1 h2)
    have hB := hO.lt
    have HO := Lib.hid hO
    have e : beginS o s = ⟨s.es, s.li + 1, s.ld, s.op⟩ := by unfold beginS; rw [if_neg (by rw [hf]; decide)]
    rw [e]
    clear hO hf e
    generalize nxt o (top s.es).lev = l at *
    obtain ⟨es, li, ld, op⟩ := s
    simp only at *
    go_enter Tryz.func133, Tryz.ntmps133
    go_wp2_with fail
    refine HP.out.mono ?_
    rintro x w1 ⟨rfl, hb1⟩
    have ho1 := HO.out.below hb1
    obtain ⟨⟨c0, c1, -⟩, f0, -, -⟩ := ho1.at_
    have HO1 := Lib.hid (ho1.lost (li + 1))
    have HB1 := Lib.hid (hb1.mono (B' := B - 1) (by omega))
    clear ho1 hb1
    go_wp2
    go_end0
    exact ⟨rfl, HO1.out, HB1.out.setCell (p := ⟨B, 0, none⟩) (Nat.sub_le _ _) _⟩
end Go.Proofs.YtfclpecbnailgaaGreat.Lv

/-
 Proved here: what (*level.opened).closeEmbedding, closeIsolate and close do to what is open in memory. Condition: what is open is as it may be; counts of at most 2^40.
-/
set_option linter.unusedVariables false
namespace Go.Proofs.YtfclpecbnailgaaGreat.Lv
open Go Go.RowKit Go.Lib Go.Proofs.YtfclpecbnailgaaGreat.Cl
theorem OpAt.row {w : World} {B : Nat} {s : St} (h : OpAt w B s) : ∃ g c, w.cell? ⟨B, 2, none⟩ = some (.slice (some ⟨g, 0, none⟩) s.es.length c) := by
 obtain ⟨g, c, h1, h2⟩ := h
 obtain ⟨⟨-, -, c2, -⟩, -⟩ := four h1
 exact ⟨g, c, c2⟩
theorem field_iso (x0 x1 : Int) (i : Bool) (w : World) : (Instr.field 140 (.agg #[.int .i64 x0, .int .i64 x1, .bool i]) 2).run Tryz.prog w = .ok (.bool i) w := by kernel_rfl
/-- How many are open, in a world. -/
def openN (W : World) (B : Nat) : Nat := match W.cell? ⟨B, 2, none⟩ with
 | some (.slice _ n _) => n
 | _ => 0
theorem OpAt.many {w : World} {B : Nat} {s : St} (h : OpAt w B s) : openN w B = s.es.length := by
 obtain ⟨g, c, h⟩ := h.row
 simp [openN, h]
set_option maxHeartbeats 1000000 in
set_option maxRecDepth 100000 in
theorem closeEmbedding_any (b B : Nat) (s : St) (w : World) (hb : b ≤ 1) (hc : Chain b s.es) (hO : OpAt w B s) (h1 : s.li ≤ 1099511627776) (h2 : s.ld ≤ 1099511627776) :
  Calls Tryz.prog 126 #[.pointer (some ⟨B, 0, none⟩)] w fun x w' => x = .returned (.tuple #[]) ∧ OpAt w' B (popS s) ∧ Below (B - 1) w w' := by
 have hB := hO.lt
 obtain ⟨⟨c0, c1, -⟩, -, f1, -⟩ := hO.at_
 have hs := hc.small hb
 have HO := Lib.hid hO
 have HC := Lib.hid hc
 have HF := Lib.hid field_iso
 clear hO hc
 obtain ⟨es, li, ld, op⟩ := s
 simp only at *
 unfold popS
 simp only
 by_cases h0 : 0 < li
 ·rw [if_pos h0]
  have k0 : decide (0 < li) = true := by simpa using h0
  go_enter Tryz.func126, Tryz.ntmps126
  go_wp2
  go_end0
  exact ⟨rfl, HO.out, Below.refl _ _⟩
 ·rw [if_neg h0]
  obtain rfl : li = 0 := by omega
  by_cases hd : 0 < ld
  ·rw [if_pos hd]
   obtain ⟨ld', rfl⟩ : ∃ ld', ld = ld' + 1 := ⟨ld - 1, by omega⟩
   have k1 : decide (0 < ld' + 1) = true := by simp
   have HO1 := Lib.hid (HO.out.deep ld')
   clear HO
   go_enter Tryz.func126, Tryz.ntmps126
   go_wp2
   go_end0
   exact ⟨rfl, HO1.out, (Below.refl _ _).setCell (p := ⟨B, 1, none⟩) (Nat.sub_le _ _) _⟩
  ·rw [if_neg hd]
   obtain rfl : ld = 0 := by omega
   cases es with
   | nil => exact HC.out.elim
   | cons e r =>
    have HL := Lib.hid (last_any B e r 0 0 op w HO.out (by simp at hs; omega))
    obtain ⟨lev, ov, iso⟩ := e
    simp only at HL
    cases iso with
    | true =>
     rw [if_pos (.inl rfl)]
     have hf := fun W => field_iso lev ov true W
     go_enter Tryz.func126, Tryz.ntmps126
     go_wp2_with fail
     refine HL.out.mono ?_
     rintro x w1 ⟨rfl, hb1⟩
     go_wp2
     go_end0
     exact ⟨rfl, HO.out.below hb1, hb1.mono (B' := B - 1) (by omega)⟩
    | false =>
     have hf := fun W => field_iso lev ov false W
     cases r with
     | nil =>
      rw [if_pos (.inr rfl)]
      go_enter Tryz.func126, Tryz.ntmps126
      go_wp2_with fail
      refine HL.out.mono ?_
      rintro x w1 ⟨rfl, hb1⟩
      have ho1 := HO.out.below hb1
      obtain ⟨g, c, q2⟩ := ho1.row
      simp only [List.length_cons, List.length_nil] at q2
      have HO1 := Lib.hid ho1
      have HB1 := Lib.hid (hb1.mono (B' := B - 1) (by omega))
      clear ho1 hb1
      go_wp2
      go_end0
      exact ⟨rfl, HO1.out, HB1.out⟩
     | cons t r =>
      rw [if_neg (by simp [top])]
      simp only [List.length_cons] at hs
      go_enter Tryz.func126, Tryz.ntmps126
      go_wp2_with fail
      refine HL.out.mono ?_
      rintro x w1 ⟨rfl, hb1⟩
      have ho1 := HO.out.below hb1
      obtain ⟨g, c, q2⟩ := ho1.row
      simp only [List.length_cons] at q2
      have HT := Lib.hid (takeOff_any B _ t r 0 0 op w1 ho1 (by omega))
      have HB1 := Lib.hid (hb1.mono (B' := B - 1) (by omega))
      have kl : decide (1 < r.length + 1 + 1) = true := by simp
      clear ho1 hb1
      go_wp2_with fail
      refine HT.out.mono ?_
      rintro x w2 ⟨rfl, ho2, hb2⟩
      go_wp2
      go_end0
      exact ⟨rfl, ho2, HB1.out.trans hb2⟩
set_option maxHeartbeats 1000000 in
set_option maxRecDepth 100000 in
theorem closeIsolate_any (b B : Nat) (s : St) (w : World) (hb : b ≤ 1) (hk : Ok b s) (hO : OpAt w B s) (h1 : s.li ≤ 1099511627776) (h2 : s.ld ≤ 1099511627776) (h3 : s.op ≤ 1099511627776) :
  Calls Tryz.prog 127 #[.pointer (some ⟨B, 0, none⟩)] w fun x w' => x = .returned (.tuple #[]) ∧ OpAt w' B (endS s) ∧ Below (B - 1) w w' := by
 have hB := hO.lt
 obtain ⟨⟨c0, c1, c3⟩, f0, f1, f3⟩ := hO.at_
 obtain ⟨hc, hop⟩ := hk
 have HO := Lib.hid hO
 have HC := Lib.hid hc
 clear hO hc
 obtain ⟨es, li, ld, op⟩ := s
 simp only at *
 unfold endS
 simp only
 by_cases h0 : 0 < li
 ·rw [if_pos h0]
  obtain ⟨li', rfl⟩ : ∃ li', li = li' + 1 := ⟨li - 1, by omega⟩
  have k0 : decide (0 < li' + 1) = true := by simp
  have HO1 := Lib.hid (HO.out.lost li')
  clear HO
  go_enter Tryz.func127, Tryz.ntmps127
  go_wp2
  try simp only [Exit.inBlock, Exit.then]
  refine bodyPost_ret (results_none rfl _ _ _) rfl ?_
  exact ⟨rfl, HO1.out, (Below.refl _ _).setCell (p := ⟨B, 0, none⟩) (Nat.sub_le _ _) _⟩
 ·rw [if_neg h0]
  obtain rfl : li = 0 := by omega
  clear h0
  by_cases hz : op = 0
  ·rw [if_pos hz]
   subst hz
   clear hop
   go_enter Tryz.func127, Tryz.ntmps127
   go_wp2
   try simp only [Exit.inBlock, Exit.then]
   refine bodyPost_ret (results_none rfl _ _ _) rfl ?_
   exact ⟨rfl, HO.out, Below.refl _ _⟩
  ·rw [if_neg hz]
   have kz : ((op : Int) == 0) = false := by simpa using hz
   have HP := Lib.hid (show 0 < isos es by omega)
   have HO1 := Lib.hid (HO.out.deep 0)
   clear HO hop
   obtain ⟨op', rfl⟩ : ∃ op', op = op' + 1 := ⟨op - 1, by omega⟩
   have kz2 : ((op' : Int) + 1 == 0) = false := by simp; omega
   clear hz
   go_enter Tryz.func127, Tryz.ntmps127
   go_wp2_with fail
   go_loopw [26] (fun _ wx => ∃ xs, Chain b xs ∧ 0 < isos xs ∧ cutI xs = cutI es ∧ OpAt wx B ⟨xs, 0, 0, op' + 1⟩ ∧ Below (B - 1) w wx) (fun _ wx => openN wx B)
   case atStart => exact ⟨es, HC.out, HP.out, rfl, HO1.out, (Below.refl _ _).setCell (p := ⟨B, 1, none⟩) (Nat.sub_le _ _) _⟩
   case round =>
    obtain ⟨xs, hc, hp, hcut, ho, hbw⟩ := hrel
    have hs := hc.small hb
    have hmany := ho.many
    clear HP HO1 HC
    cases xs with
    | nil => exact hc.elim
    | cons e r =>
     cases r with
     | nil =>
      have hc : e = ⟨b, -1, false⟩ := hc
      subst hc
      simp [isos] at hp
     | cons t r =>
      simp only [List.length_cons] at hs hmany
      obtain ⟨lev, ov, iso⟩ := e
      have hBr := ho.lt
      have HL := Lib.hid (last_any B _ (t :: r) 0 0 (op' + 1) wr ho (by simp; omega))
      simp only at HL
      have HO := Lib.hid ho
      have HB := Lib.hid hbw
      have HCH := Lib.hid hc.2.2.2
      have HCU := Lib.hid hcut
      have HP := Lib.hid hp
      have HM := Lib.hid hmany
      clear ho hbw hc hcut hp hmany
      cases iso with
      | true =>
       have hf := fun W => field_iso lev ov true W
       go_wp2_with fail
       refine HL.out.mono ?_
       rintro x w1 ⟨rfl, hb1⟩
       have ho1 := HO.out.below hb1
       have HT := Lib.hid (takeOff_any B _ t r 0 0 (op' + 1) w1 ho1 (by omega))
       have HB1 := Lib.hid (HB.out.trans (hb1.mono (B' := B - 1) (by omega)))
       clear ho1 hb1
       go_wp2_with fail
       refine HT.out.mono ?_
       rintro x w2 ⟨rfl, ho2, hb2⟩
       obtain ⟨⟨-, -, q3⟩, -, -, z3⟩ := ho2.at_
       have HO2 := Lib.hid (ho2.count op')
       have HB2 := Lib.hid (HB1.out.trans hb2)
       clear ho2 hb2
       go_wp2
       go_end0
       refine ⟨rfl, ?_, HB2.out.setCell (p := ⟨B, 3, none⟩) (Nat.sub_le _ _) _⟩
       rw [← HCU.out]
       exact HO2.out
      | false =>
       have hf := fun W => field_iso lev ov false W
       go_wp2_with fail
       refine HL.out.mono ?_
       rintro x w1 ⟨rfl, hb1⟩
       have ho1 := HO.out.below hb1
       have HT := Lib.hid (takeOff_any B _ t r 0 0 (op' + 1) w1 ho1 (by omega))
       have HB1 := Lib.hid (HB.out.trans (hb1.mono (B' := B - 1) (by omega)))
       clear ho1 hb1
       go_wp2_with fail
       refine HT.out.mono ?_
       rintro x w2 ⟨rfl, ho2, hb2⟩
       go_wp2
       go_roundw
       case measure =>
        rw [HM.out, ho2.many]
        simp
       case rel =>
        refine ⟨t :: r, HCH.out, ?_, ?_, ho2, HB1.out.trans hb2⟩
        ·have := HP.out
         unfold isos at this
         rw [if_neg (fun h => by cases h)] at this
         exact this
        ·have h1 : cutI (⟨lev, ov, false⟩ :: t :: r) = cutI (t :: r) := by
          conv => lhs; unfold cutI
          rw [if_neg (fun h => by cases h)]
         rw [← h1]
         exact HCU.out
set_option maxHeartbeats 1000000 in
theorem close_any (c : Int) (b B : Nat) (s : St) (w : World) (hb : b ≤ 1) (hk : Ok b s) (hO : OpAt w B s) (h1 : s.li ≤ 1099511627776) (h2 : s.ld ≤ 1099511627776) (h3 : s.op ≤ 1099511627776) :
  Calls Tryz.prog 92 #[.pointer (some ⟨B, 0, none⟩), .int .i64 c] w fun x w' => x = .returned (.tuple #[]) ∧ OpAt w' B (closeS c s) ∧ Below (B - 1) w w' := by
 have HE := Lib.hid (closeEmbedding_any b B s w hb hk.chain hO h1 h2)
 have HI := Lib.hid (closeIsolate_any b B s w hb hk hO h1 h2 h3)
 have HO := Lib.hid hO
 clear hk hO
 unfold closeS
 by_cases e1 : c = 18
 ·rw [if_pos e1]
  subst e1
  go_enter Tryz.func92, Tryz.ntmps92
  go_wp2_with fail
  refine HE.out.mono ?_
  rintro x w1 ⟨rfl, ho1, hb1⟩
  go_wp2
  go_end0
  exact ⟨rfl, ho1, hb1⟩
 ·rw [if_neg e1]
  have k1 : (c == 18) = false := by simpa using e1
  by_cases e2 : c = 22
  ·rw [if_pos e2]
   subst e2
   go_enter Tryz.func92, Tryz.ntmps92
   go_wp2_with fail
   refine HI.out.mono ?_
   rintro x w1 ⟨rfl, ho1, hb1⟩
   go_wp2
   go_end0
   exact ⟨rfl, ho1, hb1⟩
  ·rw [if_neg e2]
   have k2 : (c == 22) = false := by simpa using e2
   go_enter Tryz.func92, Tryz.ntmps92
   go_wp2
   go_end0
   exact ⟨rfl, HO.out, Below.refl _ _⟩
end Go.Proofs.YtfclpecbnailgaaGreat.Lv
