/-
  Several texts in one, each with its own remark: PoRow, MiRows, MiSearch, MiPair, MiGlyph, BcShown.
-/
import Derived.Carry
import Derived.ProofKit
import Derived.OpenShut
import Derived.Below
import Derived.Lib.Hide
import Derived.Great.BuildSlice
import Derived.Deep.WholeRow
import Derived.Laws.Rows
import Derived.WalkKit
import Derived.IntWalk
import Derived.OwnWalk
import Derived.Deep.QuietTactic
import Derived.BigQuiet
import Derived.Deep.RegionWith
import Derived.Test.YtlocnjenkanmpaaDoorM2
import Derived.Test.YtlocnjenkanmpaaDoorRows
import Derived.Test.YtlocnjenkanmpaaDoorM5

/-
  A row of the call's own of structs of six ints, made whole and filled: its cells, one element stored, one element's first field stored. No program in it but its types.
-/
set_option linter.unusedVariables false
namespace Go.Proofs.YtlocnjenkanmpaaDoor.Pl
open Go Go.RowKit Go.Lib Go.Proofs.YtlocnjenkanmpaaDoor.Ku Go.Proofs.YtlocnjenkanmpaaDoor.Wr
theorem cellsC_cons (z : C6) (Z : List C6) : cellsC (z :: Z) = .int .i64 z.a :: .int .i64 z.z :: .int .i64 z.f :: .int .i64 z.t :: .int .i64 z.w :: .int .i64 z.c :: cellsC Z := by simp [cellsC]
theorem cellsC_set : ∀ (Z : List C6) (k : Nat) (x : C6), k < Z.length → ((((((cellsC Z).set (k * 6) (.int .i64 x.a)).set (k * 6 + 1) (.int .i64 x.z)).set (k * 6 + 2) (.int .i64 x.f)).set (k * 6 + 3) (.int .i64 x.t)).set (k * 6 + 4) (.int .i64 x.w)).set (k * 6 + 5) (.int .i64 x.c) = cellsC (Z.set k x)
  | [], k, x, h => by simp at h
  | z :: Z, 0, x, _ => by
    rw [List.set_cons_zero, cellsC_cons, cellsC_cons]
    rfl
  | z :: Z, k + 1, x, h => by
    have ih := cellsC_set Z k x (by simpa using h)
    rw [List.set_cons_succ, cellsC_cons, cellsC_cons, ← ih, show (k + 1) * 6 = k * 6 + 6 from by omega]
    rfl
theorem cellsC_set0 : ∀ (Z : List C6) (k : Nat) (h : k < Z.length) (y : Int), (cellsC Z).set (k * 6) (.int .i64 y) = cellsC (Z.set k ⟨y, Z[k].z, Z[k].f, Z[k].t, Z[k].w, Z[k].c⟩)
  | [], k, h, y => by simp at h
  | z :: Z, 0, _, y => by
    rw [List.set_cons_zero, cellsC_cons, cellsC_cons]
    rfl
  | z :: Z, k + 1, h, y => by
    have ih := cellsC_set0 Z k (by simpa using h) y
    rw [List.set_cons_succ, cellsC_cons, cellsC_cons, show (k + 1) * 6 = k * 6 + 6 from by omega]
    show .int .i64 z.a :: .int .i64 z.z :: .int .i64 z.f :: .int .i64 z.t :: .int .i64 z.w :: .int .i64 z.c :: (cellsC Z).set (k * 6) (.int .i64 y) = _
    rw [ih]
    rfl
theorem made_six (n : Nat) : (madeCells (Value.agg #[.int .i64 0, .int .i64 0, .int .i64 0, .int .i64 0, .int .i64 0, .int .i64 0]).cells (n * 6)).toList = cellsC (List.replicate n d6) := by
  apply List.ext_getElem?
  intro j
  have hl : (cellsC (List.replicate n d6)).length = n * 6 := by rw [cellsC_len, List.length_replicate]
  have h0 : ∀ u ∈ cellsC (List.replicate n d6), u = .int .i64 0 := by
    intro u hu
    simp only [cellsC, List.mem_flatMap, List.mem_replicate] at hu
    obtain ⟨y, ⟨-, rfl⟩, hu⟩ := hu
    simpa [d6] using hu
  by_cases hj : j < n * 6
  · have hr : (cellsC (List.replicate n d6))[j]? = some (.int .i64 0) := by
      rw [List.getElem?_eq_getElem (by rw [hl]; exact hj), h0 _ (List.getElem_mem _)]
    rw [hr]
    have h6 : j % 6 < 6 := Nat.mod_lt _ (by omega)
    have : ∀ i, i < 6 → (#[.int .i64 0, .int .i64 0, .int .i64 0, .int .i64 0, .int .i64 0, .int .i64 0] : Array Value)[i]! = .int .i64 0 := by
      intro i hi
      rcases i with _ | _ | _ | _ | _ | _ | i <;> first | rfl | omega
    simp only [madeCells, Array.getElem?_toList, Array.getElem?_map, Value.cells]
    rw [Array.getElem?_range, if_pos hj]
    exact congrArg some (this _ h6)
  · have hr : (cellsC (List.replicate n d6))[j]? = none := List.getElem?_eq_none (by rw [hl]; omega)
    rw [hr]
    simp [madeCells]
    omega
/-- The six cells of an element of such a row. -/
theorem own_six {w : World} {B g n cap : Nat} {e : TypeId} {Z : List C6} (h : w.ownsRow B e 6 (.slice (some ⟨g, 0, none⟩) n cap) n (cellsC Z)) (hl : Z.length = n) {k : Nat} (hk : k < Z.length) :
    (w.cell? ⟨g, k * 6, none⟩ = some (.int .i64 Z[k].a) ∧ w.cell? ⟨g, k * 6 + 1, none⟩ = some (.int .i64 Z[k].z) ∧ w.cell? ⟨g, k * 6 + 2, none⟩ = some (.int .i64 Z[k].f) ∧ w.cell? ⟨g, k * 6 + 3, none⟩ = some (.int .i64 Z[k].t) ∧ w.cell? ⟨g, k * 6 + 4, none⟩ = some (.int .i64 Z[k].w) ∧ w.cell? ⟨g, k * 6 + 5, none⟩ = some (.int .i64 Z[k].c)) ∧
    w.frozen? ⟨g, k * 6, none⟩ = false ∧ w.frozen? ⟨g, k * 6 + 1, none⟩ = false ∧ w.frozen? ⟨g, k * 6 + 2, none⟩ = false ∧ w.frozen? ⟨g, k * 6 + 3, none⟩ = false ∧ w.frozen? ⟨g, k * 6 + 4, none⟩ = false ∧ w.frozen? ⟨g, k * 6 + 5, none⟩ = false := by
  obtain ⟨A, c, e1, hcu⟩ := cuAt_own (hl ▸ h)
  injection e1 with e1 _ _
  subst e1
  obtain ⟨b, off, e2, -, c0, c1, c2, c3, c4, c5⟩ := hcu.at_ hk
  injection e2 with e2
  injection e2 with e3 e4 _
  subst e3 e4
  rw [Nat.zero_add] at c0 c1 c2 c3 c4 c5
  exact ⟨⟨c0, c1, c2, c3, c4, c5⟩, h.frozenAt _, h.frozenAt _, h.frozenAt _, h.frozenAt _, h.frozenAt _, h.frozenAt _⟩
theorem six_stored {w : World} {B g n cap : Nat} {e : TypeId} {Z : List C6} (h : w.ownsRow B e 6 (.slice (some ⟨g, 0, none⟩) n cap) n (cellsC Z)) {k : Nat} (hk : k < Z.length) (x : C6) :
    ((((((w.setCell ⟨g, k * 6, none⟩ (.int .i64 x.a)).setCell ⟨g, k * 6 + 1, none⟩ (.int .i64 x.z)).setCell ⟨g, k * 6 + 2, none⟩ (.int .i64 x.f)).setCell ⟨g, k * 6 + 3, none⟩ (.int .i64 x.t)).setCell ⟨g, k * 6 + 4, none⟩ (.int .i64 x.w)).setCell ⟨g, k * 6 + 5, none⟩ (.int .i64 x.c)).ownsRow B e 6 (.slice (some ⟨g, 0, none⟩) n cap) n (cellsC (Z.set k x)) := by
  rw [← cellsC_set Z k x hk]
  exact ((((((h.stored _ _).1.stored _ _).1.stored _ _).1.stored _ _).1.stored _ _).1.stored _ _).1
theorem below_six {B g : Nat} {w U : World} (h : Below B w U) (hb : B ≤ g) (i0 i1 i2 i3 i4 i5 : Nat) (x0 x1 x2 x3 x4 x5 : Value) :
    Below B w ((((((U.setCell ⟨g, i0, none⟩ x0).setCell ⟨g, i1, none⟩ x1).setCell ⟨g, i2, none⟩ x2).setCell ⟨g, i3, none⟩ x3).setCell ⟨g, i4, none⟩ x4).setCell ⟨g, i5, none⟩ x5) :=
  (((((h.setCell (by exact hb) _).setCell (by exact hb) _).setCell (by exact hb) _).setCell (by exact hb) _).setCell (by exact hb) _).setCell (by exact hb) _
/-- A row that is filled from the left. -/
theorem fill_set {X : List C6} {n k : Nat} (hX : X.length = k) (hk : k < n) (x : C6) : (X ++ List.replicate (n - k) d6).set k x = (X ++ [x]) ++ List.replicate (n - (k + 1)) d6 := by
  rw [show n - k = (n - (k + 1)) + 1 from by omega, List.replicate_succ, List.set_append, if_neg (by omega), hX, Nat.sub_self, List.set_cons_zero, List.append_assoc]
  rfl
end Go.Proofs.YtlocnjenkanmpaaDoor.Pl

/-
  Proved here: what mirror.brackets and mirror.signs return: the arrays of their rows; they leave what was in memory. No condition.
-/
set_option linter.unusedVariables false
namespace Go.Proofs.YtlocnjenkanmpaaDoor.Mi
open Go.RowKit Go.Lib
def rowV (r : MRow) : Value := .agg #[.int .i64 r.1, .int .i64 r.2.1, .int .i64 r.2.2]
def rowCells (l : List MRow) : List Value := l.flatMap fun r => [.int .i64 r.1, .int .i64 r.2.1, .int .i64 r.2.2]
/-- The frame behind a list of literals of structs and arrays. -/
def builtAll (P : Program) : List Oper → Act → Option Act
  | [], a => some a
  | o :: l, a => match o.guard, o.op with
    | none, .build t parts => match P.built t (parts.map fun (i, x) => (i, a.eval x)).toList with
      | some cells => builtAll P l (a.put o.dst (.agg cells))
      | none => none
    | _, _ => none
theorem wpList_builtAll {P : Program} {ops : Array Oper} {Q : Exit → Act → World → Prop} {rest : List Oper} {w : World} :
    ∀ (l : List Oper) (a a' : Act), builtAll P l a = some a' → wpList P ops Q rest a' w → wpList P ops Q (l ++ rest) a w
  | [], a, a', h, hr => by
    simp only [builtAll, Option.some.injEq] at h
    subst h
    exact hr
  | o :: l, a, a', h, hr => by
    unfold builtAll at h
    split at h
    · rename_i t parts hg ho
      split at h
      · rename_i cells hc
        exact wpList_buildTo hg t parts ho _ rfl cells hc (wpList_builtAll l _ a' h hr)
      · cases h
    · cases h
/-- A region that builds literals, and stores the last one into the array that was made last. -/
theorem wp_stored {P : Program} {id : Nat} {l : List Oper} {Q : Exit → Act → World → Prop} {a : Act} {w : World} (n : Nat) (a' : Act) (h1 : builtAll P (l.take n) a = some a')
    (x y : Operand) (t : TypeId) (hl : (l.drop n).map (fun o => (o.dst, o.op, o.guard)) = [(none, .store t x y, none)]) (old cells : Array Value)
    (hx : a'.eval x = .pointer (some ⟨w.heap.size, 0, none⟩)) (hy : a'.eval y = .agg cells) (hi : (P.info? t).map (·.size) = some cells.size) (hold : old.size = cells.size) (hc : cells.all (·.oneCell') = true)
    (h : Q .normal a' (w.alloc (.cells cells t))) : (Code.region id l.toArray false).wp P Q a (w.alloc (.cells old t)) := by
  refine wp_region_lit ?_
  have hw : wpList P l.toArray Q (l.take n ++ l.drop n) a (w.alloc (.cells old t)) := by
    refine wpList_builtAll _ a a' h1 ?_
    generalize l.drop n = m at hl ⊢
    rcases m with _ | ⟨o1, _ | ⟨o2, m⟩⟩
    · cases hl
    · simp only [List.map_cons, List.map_nil, List.cons.injEq, Prod.mk.injEq, and_true] at hl
      obtain ⟨e1, e2, e3⟩ := hl
      refine wpList_store_rowTo e3 t x y e2 e1 w.heap.size cells hx hy t old (heap_alloc_last w _) hi hold hc ?_
      rw [World.setRow_alloc_new]
      exact h
    · simp at hl
  rwa [List.take_append_drop] at hw
theorem infoBr : (Tryd.prog.info? 132).map (fun i => (i.zero, i.size)) = some (some (.agg (List.replicate 78 (.int .i64 0)).toArray), 78) := by kernel_rfl
/-- A new variable. -/
theorem wpList_allocVar {P : Program} {ops : Array Oper} {rest : List Oper} {o : Oper} {a : Act} {w : World} {Q : Exit → Act → World → Prop} (hg : o.guard = none) (t : TypeId) (ho : o.op = .alloc t) (d : Option Tmp) (hd : o.dst = d)
    (z : Value) (hz : ∀ w, (zeroValue t).run P w = .ok z w) (h : wpList P ops Q rest (a.put d (.pointer (some ⟨w.heap.size, 0, none⟩))) (w.alloc (.cells z.cells t))) : wpList P ops Q (o :: rest) a w := by
  subst hd
  refine wpList_plain hg fun K hK => ?_
  unfold Oper.wp execOp
  simp only [ho, Instr.alloc, Sem.run_bind, hz, Result.andThen_ok, newVar, newRow]
  exact hK _ _ h
def brFrame (g : Nat) : Act := ⟨((Value.pointer (some ⟨g, 0, none⟩) :: (brL.flatMap fun r => [Value.agg #[.int .i64 r.1, .int .i64 r.2.1], rowV r])) ++ [Value.agg (rowCells brL).toArray]).toArray, []⟩
theorem br_size : (rowCells brL).toArray.size = 78 := by kernel_rfl
theorem br_one : (rowCells brL).toArray.all (·.oneCell') = true := by kernel_rfl
set_option maxHeartbeats 4000000 in
set_option maxRecDepth 1000000 in
theorem br_any (w : World) :
    Calls Tryd.prog 101 #[] w fun e w' => e = .returned (.agg (rowCells brL).toArray) ∧ Below w.heap.size w w' := by
  obtain ⟨hz, hi⟩ := zero_of_info infoBr
  rw [← br_size] at hi
  go_enter Tryd.func101, Tryd.ntmps101
  refine wp_seq (wp_region_lit (l := [_]) (wpList_allocVar rfl _ rfl (some 0) rfl _ hz ?_))
  show Exit.then _ _ _ _ _
  refine wp_seq ?_
  refine wp_stored 53 (brFrame w.heap.size) (by kernel_rfl) (.tmp 0) (.tmp 53) 132 (by kernel_rfl) _ (rowCells brL).toArray (by kernel_rfl) (by kernel_rfl) hi (by kernel_rfl) br_one ?_
  refine wp_ret ?_
  exact bodyPost_ret (results_cell_row Tryd.results101 _ _ w.heap.size 132 _ (0, 0) _ (by kernel_rfl) (heap_alloc_last w _) Tryd.underlying132 rfl hi) (by kernel_rfl) ⟨rfl, (Below.refl _ _).alloc (Nat.le_refl _) _⟩
end Go.Proofs.YtlocnjenkanmpaaDoor.Mi

/-
  Proved here: what (mirror.row).has, (mirror.row).pair, the closure of pairIn, the search at rows, mirror.pairIn return; they leave what was in memory. Condition: rows as they are here (small numbers, steps from 1 on).
-/
set_option linter.unusedVariables false
namespace Go.Proofs.YtlocnjenkanmpaaDoor.Mi
open Go.RowKit Go.Lib
/-- Rows in memory. -/
def RowsAt (w : World) (b : Nat) (l : List MRow) : Prop :=
  b < w.heap.size ∧ ∀ k (hk : k < l.length), w.cell? ⟨b, k * 3, none⟩ = some (.int .i64 l[k].1) ∧ w.cell? ⟨b, k * 3 + 1, none⟩ = some (.int .i64 l[k].2.1) ∧ w.cell? ⟨b, k * 3 + 2, none⟩ = some (.int .i64 l[k].2.2)
theorem RowsAt.below {w w' : World} {b : Nat} {l : List MRow} (h : RowsAt w b l) (hb : Below w.heap.size w w') : RowsAt w' b l :=
  ⟨Nat.lt_of_lt_of_le h.1 hb.size, fun k hk => ⟨(hb.cell (p := ⟨b, k * 3, none⟩) h.1).trans (h.2 k hk).1, (hb.cell (p := ⟨b, k * 3 + 1, none⟩) h.1).trans (h.2 k hk).2.1, (hb.cell (p := ⟨b, k * 3 + 2, none⟩) h.1).trans (h.2 k hk).2.2⟩⟩
theorem rowCells_at : ∀ (l : List MRow) (k : Nat) (hk : k < l.length), (rowCells l)[k * 3]? = some (.int .i64 l[k].1) ∧ (rowCells l)[k * 3 + 1]? = some (.int .i64 l[k].2.1) ∧ (rowCells l)[k * 3 + 2]? = some (.int .i64 l[k].2.2)
  | r :: l, 0, _ => ⟨rfl, rfl, rfl⟩
  | r :: l, k + 1, hk => by
    have := rowCells_at l k (by simpa using hk)
    rw [show (k + 1) * 3 = k * 3 + 3 from by omega]
    exact this
theorem rowsAt_made (l : List MRow) (t : TypeId) (w : World) : RowsAt (w.alloc (.cells (rowCells l).toArray t)) w.heap.size l := by
  refine ⟨by simp, fun k hk => ?_⟩
  obtain ⟨h0, h1, h2⟩ := rowCells_at l k hk
  refine ⟨?_, ?_, ?_⟩
  · simpa using h0
  · simpa using h1
  · simpa using h2
set_option maxHeartbeats 1000000 in
set_option maxRecDepth 100000 in
theorem has_any (a b s c : Int) (w : World) (ho : okR (a, b, s) = true) :
    Calls Tryd.prog 104 #[.agg #[.int .i64 a, .int .i64 b, .int .i64 s], .int .i64 c] w fun e w' => e = .returned (.bool (hasB (a, b, s) c)) ∧ Below w.heap.size w w' := by
  obtain ⟨o1, o2, o3, o4, o5, -⟩ := okR_is ho
  simp only at o1 o2 o3 o4 o5
  clear ho
  by_cases h1 : a ≤ c
  · have d1 : decide (a ≤ c) = true := decide_eq_true h1
    by_cases h2 : c ≤ b
    · have d2 : decide (c ≤ b) = true := decide_eq_true h2
      have e : hasB (a, b, s) c = ((c - a) % s == 0) := by unfold hasB; rw [d1, d2]; rfl
      rw [e]
      clear e
      go_enter Tryd.func104, Tryd.ntmps104
      go_wp2
      go_ret
      exact ⟨rfl, (Below.refl _ _).alloc (Nat.le_refl _) _⟩
    · have d2 : decide (c ≤ b) = false := decide_eq_false h2
      have e : hasB (a, b, s) c = false := by unfold hasB; rw [d1, d2]; rfl
      rw [e]
      clear e
      go_enter Tryd.func104, Tryd.ntmps104
      go_wp2
      go_ret
      exact ⟨rfl, (Below.refl _ _).alloc (Nat.le_refl _) _⟩
  · have d1 : decide (a ≤ c) = false := decide_eq_false h1
    have e : hasB (a, b, s) c = false := by unfold hasB; rw [d1]; rfl
    rw [e]
    clear e
    go_enter Tryd.func104, Tryd.ntmps104
    go_wp2
    go_ret
    exact ⟨rfl, (Below.refl _ _).alloc (Nat.le_refl _) _⟩
set_option maxHeartbeats 1000000 in
set_option maxRecDepth 100000 in
theorem pair_any (a b s c : Int) (w : World) (ho : okR (a, b, s) = true) (h1 : a ≤ c) (h2 : c ≤ b) :
    Calls Tryd.prog 105 #[.agg #[.int .i64 a, .int .i64 b, .int .i64 s], .int .i64 c] w fun e w' => e = .returned (.tuple #[.int .i64 (pairR (a, b, s) c).1, .int .i64 (pairR (a, b, s) c).2]) ∧ Below w.heap.size w w' := by
  obtain ⟨o1, o2, o3, o4, o5, -⟩ := okR_is ho
  simp only at o1 o2 o3 o4 o5
  clear ho
  have q0 : 0 ≤ (c - a) / s := Int.ediv_nonneg (by omega) (by omega)
  have q1 : (c - a) / s ≤ 100000 := Int.le_trans (Int.ediv_le_self _ (by omega)) (by omega)
  by_cases h : (c - a) / s % 2 = 0
  · have e : pairR (a, b, s) c = (1, c + s) := if_pos h
    rw [e]
    clear e
    have hd : ((c - a) / s % 2 == 0) = true := by simpa using h
    clear h
    go_enter Tryd.func105, Tryd.ntmps105
    go_wp2
    go_quiet (fail)
    go_wp2
    go_ret2
    refine ⟨rfl, ?_⟩
    exact below_drewN ((Below.refl _ _).alloc (Nat.le_refl _) _) _
  · have e : pairR (a, b, s) c = (2, c - s) := if_neg h
    rw [e]
    clear e
    have hd : ((c - a) / s % 2 == 0) = false := by simpa using h
    clear h
    go_enter Tryd.func105, Tryd.ntmps105
    go_wp2
    go_quiet (fail)
    go_wp2
    go_ret2
    refine ⟨rfl, ?_⟩
    exact below_drewN ((Below.refl _ _).alloc (Nat.le_refl _) _) _
set_option maxHeartbeats 1000000 in
set_option maxRecDepth 100000 in
theorem closure_any (a b s c : Int) (g : Nat) (w : World) (ho : okR (a, b, s) = true) (hg : g < w.heap.size) (hc : w.cell? ⟨g, 0, none⟩ = some (.int .i64 c)) :
    Calls Tryd.prog 103 #[.agg #[.int .i64 a, .int .i64 b, .int .i64 s], .pointer (some ⟨g, 0, none⟩)] w fun e w' => e = .returned (.bool (hasB (a, b, s) c)) ∧ Below w.heap.size w w' := by
  have HO := Lib.hid ho
  clear ho
  have hb0 : Below w.heap.size w (w.alloc (.cells #[.int .i64 a, .int .i64 b, .int .i64 s] 117)) := (Below.refl _ _).alloc (Nat.le_refl _) _
  go_enter Tryd.func103, Tryd.ntmps103
  go_wp2_with fail
  refine (has_any a b s c _ HO.out).mono ?_
  rintro e w' ⟨rfl, hb⟩
  go_wp2
  go_ret
  exact ⟨rfl, hb0.trans (hb.mono hb0.size)⟩
set_option maxHeartbeats 1000000 in
set_option maxRecDepth 100000 in
theorem index_any (b : Nat) (l : List MRow) (c : Int) (g : Nat) (w : World) (hR : RowsAt w b l) (hl : l.length ≤ 1000) (hok : ∀ r ∈ l, okR r = true) (hg : g < w.heap.size) (hc : w.cell? ⟨g, 0, none⟩ = some (.int .i64 c))
    (i : Nat) (hi : i ≤ l.length) (hlo : ∀ j (hj : j < l.length), j < i → hasB l[j] c = false) (v : Int) (hv : (∃ h : i < l.length, hasB l[i] c = true ∧ v = i) ∨ (i = l.length ∧ v = -1)) :
    Calls Tryd.prog 102 #[.slice (some ⟨b, 0, none⟩) l.length l.length, .func (.func 103) #[] #[.pointer (some ⟨g, 0, none⟩)]] w fun e w' => e = .returned (.int .i64 v) ∧ Below w.heap.size w w' := by
  have HR := Lib.hid hR
  have HOK := Lib.hid hok
  have HLO := Lib.hid hlo
  have HV := Lib.hid hv
  have HC := Lib.hid hc
  clear hR hok hlo hv hc
  go_enter Tryd.func102, Tryd.ntmps102
  go_wp2
  go_loopw [8] (fun s8 wx => ∃ k : Nat, k ≤ i ∧ s8 = .int .i64 k ∧ Below w.heap.size w wx) (fun s8 _ => i - (RowKit.intOf s8).toNat)
  case atStart => exact ⟨0, Nat.zero_le _, rfl, Below.refl _ _⟩
  case round =>
    obtain ⟨k, hk, rfl, hb⟩ := hrel
    have HB := Lib.hid hb
    have hbs := hb.size
    clear hb
    by_cases hlt : k < l.length
    · obtain ⟨c0, c1, c2⟩ := (HR.out.below HB.out).2 _ hlt
      have hcg := (HB.out.cell (p := ⟨g, 0, none⟩) hg).trans HC.out
      have hgx := Nat.lt_of_lt_of_le hg hbs
      have HCG := Lib.hid hcg
      clear hcg
      have ho := HOK.out _ (List.getElem_mem hlt)
      generalize hs : l[k] = s at c0 c1 c2 ho
      obtain ⟨s0, s1, s2⟩ := s
      simp only at c0 c1 c2
      have HS := Lib.hid hs
      have HO := Lib.hid ho
      clear hs ho
      by_cases hki : k < i
      · have hh : hasB (s0, s1, s2) c = false := by rw [← HS.out]; exact HLO.out k hlt hki
        have HH := Lib.hid hh
        clear hh
        go_wp2_with fail
        refine (closure_any s0 s1 s2 c g _ HO.out hgx HCG.out).mono ?_
        rw [HH.out]
        rintro e w' ⟨rfl, hb2⟩
        go_wp2
        go_roundw
        case rel => exact ⟨k + 1, by omega, by go_num, HB.out.trans (hb2.mono HB.out.size)⟩
        case measure => simp [RowKit.intOf]; omega
      · obtain rfl : i = k := by omega
        have hh : hasB (s0, s1, s2) c = true ∧ v = i := by
          rcases HV.out with ⟨h, h1, h2⟩ | ⟨h, _⟩
          · rw [← HS.out]; exact ⟨h1, h2⟩
          · omega
        have HH := Lib.hid hh
        clear hh
        go_wp2_with fail
        refine (closure_any s0 s1 s2 c g _ HO.out hgx HCG.out).mono ?_
        rw [HH.out.1]
        rintro e w' ⟨rfl, hb2⟩
        go_wp2
        go_ret
        exact ⟨by rw [HH.out.2]; rfl, HB.out.trans (hb2.mono HB.out.size)⟩
    · have hv : v = -1 := by
        rcases HV.out with ⟨h, h1, h2⟩ | ⟨_, h⟩
        · omega
        · exact h
      subst hv
      go_wp2
      go_ret
      exact ⟨rfl, HB.out⟩
set_option maxHeartbeats 1000000 in
set_option maxRecDepth 100000 in
theorem pairIn_any (b : Nat) (l : List MRow) (c : Int) (w : World) (hR : RowsAt w b l) (hl : l.length ≤ 1000) (hok : ∀ r ∈ l, okR r = true) :
    Calls Tryd.prog 94 #[.slice (some ⟨b, 0, none⟩) l.length l.length, .int .i64 c] w fun e w' => e = .returned (.tuple #[.int .i64 (inR l c).1, .int .i64 (inR l c).2]) ∧ Below w.heap.size w w' := by
  have HR := Lib.hid hR
  have HOK := Lib.hid hok
  clear hR hok
  have hb0 : Below w.heap.size w (w.alloc (.cells #[.int .i64 c] 3)) := (Below.refl _ _).alloc (Nat.le_refl _) _
  have HB0 := Lib.hid hb0
  clear hb0
  have hcell : (w.alloc (.cells #[.int .i64 c] 3)).cell? ⟨w.heap.size, 0, none⟩ = some (.int .i64 c) := by simp
  have HCELL := Lib.hid hcell
  clear hcell
  rcases first_is l c with ⟨i, hi, hlo, hh⟩ | hno
  · have HI := Lib.hid (inR_at l c i hi hlo hh)
    have HLO := Lib.hid hlo
    have ho := HOK.out _ (List.getElem_mem hi)
    generalize hs : l[i] = s at ho
    obtain ⟨s0, s1, s2⟩ := s
    have HS := Lib.hid hs
    have HO := Lib.hid ho
    have HH := Lib.hid hh
    clear hs ho hlo hh
    go_enter Tryd.func94, Tryd.ntmps94
    go_wp2_with fail
    refine (index_any b l c w.heap.size _ (HR.out.below HB0.out) hl HOK.out (by simp) HCELL.out i (by omega) HLO.out i (.inl ⟨hi, HH.out, rfl⟩)).mono ?_
    rintro e w1 ⟨rfl, hb1⟩
    have HB1 := Lib.hid (HB0.out.trans (hb1.mono HB0.out.size))
    have c3 : w1.cell? ⟨w.heap.size, 0, none⟩ = some (.int .i64 c) := (hb1.cell (p := ⟨w.heap.size, 0, none⟩) (by simp)).trans HCELL.out
    clear hb1
    obtain ⟨c0, c1, c2⟩ := (HR.out.below HB1.out).2 _ hi
    rw [HS.out] at c0 c1 c2
    simp only at c0 c1 c2
    obtain ⟨b1, b2⟩ : s0 ≤ c ∧ c ≤ s1 := by
      have := HH.out
      rw [HS.out] at this
      simp only [hasB, Bool.and_eq_true, decide_eq_true_eq] at this
      exact ⟨this.1, this.2.1⟩
    have hbw : Below w.heap.size w w1 := HB1.out
    go_wp2
    go_region_with (go_at_call 105; refine (pair_any _ _ _ _ _ HO.out b1 b2).mono ?_; rintro e w2 ⟨rfl, hb2⟩)
    all_goals go_wp2
    all_goals go_ret2
    all_goals (refine ⟨by rw [HI.out, HS.out]; rfl, ?_⟩; first | exact (below_drew hbw).trans (hb2.mono hbw.size) | exact hbw.trans (hb2.mono hbw.size))
  · have HI := Lib.hid (inR_none l c hno)
    rw [HI.out]
    have HNO := Lib.hid hno
    clear hno
    go_enter Tryd.func94, Tryd.ntmps94
    go_wp2_with fail
    refine (index_any b l c w.heap.size _ (HR.out.below HB0.out) hl HOK.out (by simp) HCELL.out l.length (Nat.le_refl _) (fun j hj _ => HNO.out _ (List.getElem_mem hj)) (-1) (.inr ⟨rfl, rfl⟩)).mono ?_
    rintro e w1 ⟨rfl, hb1⟩
    go_wp2
    go_ret2
    exact ⟨rfl, HB0.out.trans (hb1.mono HB0.out.size)⟩
end Go.Proofs.YtlocnjenkanmpaaDoor.Mi

/-
  Proved here: what mirror.Pair returns, for every number. It leaves what was in memory.
-/
set_option linter.unusedVariables false
namespace Go.Proofs.YtlocnjenkanmpaaDoor.Mi
open Go.RowKit Go.Lib
theorem brL_len : brL.length = 26 := by kernel_rfl
set_option maxHeartbeats 1000000 in
set_option maxRecDepth 100000 in
theorem mPair_any (c : Int) (w : World) :
    Calls Tryd.prog 92 #[.int .i64 c] w fun e w' => e = .returned (.tuple #[.int .i64 (pairT c).1, .int .i64 (pairT c).2]) ∧ Below w.heap.size w w' := by
  have HC := Lib.hid (br_any w)
  have HP := fun (b : Nat) (W : World) (h : RowsAt W b brL) => pairIn_any b brL c W h (by rw [brL_len]; decide) brL_ok
  rw [brL_len] at HP
  have HP' := Lib.hid HP
  clear HP
  have hm := fun W : World => rowsAt_made brL 132 W
  have HM := Lib.hid hm
  clear hm
  obtain ⟨hz, hi⟩ := zero_of_info infoBr
  have HZ := Lib.hid hz
  rw [← br_size] at hi
  have HI := Lib.hid hi
  have HS := Lib.hid br_size
  have HO := Lib.hid br_one
  clear hz hi
  unfold pairT
  generalize (rowCells brL).toArray = cs at *
  generalize inR brL c = res at *
  go_enter Tryd.func92, Tryd.ntmps92
  go_wp2_with fail
  rename_i Q0 K1 hK1 K2 hK2
  refine HC.out.mono ?_
  rintro e w1 ⟨rfl, hb1⟩
  refine hK2 _ _ ?_
  refine wpList_allocVar rfl _ rfl (some 4) rfl _ HZ.out ?_
  refine wpList_store_rowTo rfl _ _ _ rfl rfl w1.heap.size cs rfl rfl 132 _ (heap_alloc_last w1 _) HI.out (by rw [HS.out]; rfl) HO.out ?_
  rw [World.setRow_alloc_new]
  refine wpList_nil (hK1 _ _ ?_)
  have hb2 : Below w.heap.size w (w1.alloc (.cells cs 132)) := hb1.alloc hb1.size _
  have HB2 := Lib.hid hb2
  have hR := HM.out w1
  have HR := Lib.hid hR
  clear hb1 hb2 hR HI HO HS HZ HM HC
  generalize w1.alloc (.cells cs 132) = w2 at *
  generalize w1.heap.size = b at *
  go_wp2_with fail
  refine (HP'.out b _ HR.out).mono ?_
  rintro e w3 ⟨rfl, hb3⟩
  go_wp2
  go_ret2
  exact ⟨rfl, HB2.out.trans (hb3.mono HB2.out.size)⟩
end Go.Proofs.YtlocnjenkanmpaaDoor.Mi

/-
  Proved here: what mirror.Glyph returns, for every number; it leaves what was in memory. No condition.
-/
set_option linter.unusedVariables false
namespace Go.Proofs.YtlocnjenkanmpaaDoor.Mi
open Go.RowKit Go.Lib
theorem infoSg : (Tryd.prog.info? 118).map (fun i => (i.zero, i.size)) = some (some (.agg (List.replicate 48 (.int .i64 0)).toArray), 48) := by kernel_rfl
def sgFrame (g : Nat) : Act := ⟨((Value.pointer (some ⟨g, 0, none⟩) :: (sgL.flatMap fun r => [Value.agg #[.int .i64 r.1, .int .i64 r.2.1], rowV r])) ++ [Value.agg (rowCells sgL).toArray]).toArray, []⟩
theorem sg_size : (rowCells sgL).toArray.size = 48 := by kernel_rfl
theorem sg_one : (rowCells sgL).toArray.all (·.oneCell') = true := by kernel_rfl
set_option maxHeartbeats 4000000 in
set_option maxRecDepth 1000000 in
theorem sg_any (w : World) :
    Calls Tryd.prog 93 #[] w fun e w' => e = .returned (.agg (rowCells sgL).toArray) ∧ Below w.heap.size w w' := by
  obtain ⟨hz, hi⟩ := zero_of_info infoSg
  rw [← sg_size] at hi
  go_enter Tryd.func93, Tryd.ntmps93
  refine wp_seq (wp_region_lit (l := [_]) (wpList_allocVar rfl _ rfl (some 0) rfl _ hz ?_))
  show Exit.then _ _ _ _ _
  refine wp_seq ?_
  refine wp_stored 33 (sgFrame w.heap.size) (by kernel_rfl) (.tmp 0) (.tmp 33) 118 (by kernel_rfl) _ (rowCells sgL).toArray (by kernel_rfl) (by kernel_rfl) hi (by kernel_rfl) sg_one ?_
  refine wp_ret ?_
  exact bodyPost_ret (results_cell_row Tryd.results93 _ _ w.heap.size 118 _ (0, 0) _ (by kernel_rfl) (heap_alloc_last w _) Tryd.underlying118 rfl hi) (by kernel_rfl) ⟨rfl, (Below.refl _ _).alloc (Nat.le_refl _) _⟩
theorem sgL_len : sgL.length = 16 := by kernel_rfl
set_option maxHeartbeats 1000000 in
set_option maxRecDepth 100000 in
theorem mGlyph_any (c : Int) (w : World) :
    Calls Tryd.prog 70 #[.int .i64 c] w fun e w' => e = .returned (.int .i64 (glyphT c)) ∧ Below w.heap.size w w' := by
  have CA := Lib.hid (fun W => mPair_any c W)
  have HC := Lib.hid (fun W => sg_any W)
  have HP := fun (b : Nat) (W : World) (h : RowsAt W b sgL) => pairIn_any b sgL c W h (by rw [sgL_len]; decide) sgL_ok
  rw [sgL_len] at HP
  have HP' := Lib.hid HP
  clear HP
  have hm := fun W : World => rowsAt_made sgL 118 W
  have HM := Lib.hid hm
  clear hm
  obtain ⟨hz, hi⟩ := zero_of_info infoSg
  have HZ := Lib.hid hz
  rw [← sg_size] at hi
  have HI := Lib.hid hi
  have HS := Lib.hid sg_size
  have HO := Lib.hid sg_one
  clear hz hi
  unfold glyphT
  generalize (rowCells sgL).toArray = cs at *
  generalize inR sgL c = res at *
  generalize pairT c = p at *
  obtain ⟨k, o⟩ := p
  obtain ⟨m, x⟩ := res
  simp only at CA HP' ⊢
  by_cases h1 : k = 0
  · subst h1
    rw [if_pos rfl]
    have main : ∀ v : Int, (if m = 0 then c else x) = v → Calls Tryd.prog 70 #[.int .i64 c] w fun e w' => e = .returned (.int .i64 v) ∧ Below w.heap.size w w' := by
      intro v hv
      have HV := Lib.hid hv
      clear hv
      go_enter Tryd.func70, Tryd.ntmps70
      go_wp2_with fail
      refine (CA.out _).mono ?_
      rintro e w0 ⟨rfl, hb0⟩
      go_wp2_with fail
      rename_i Q0 K1 hK1 K2 hK2 K3 hK3
      refine (HC.out _).mono ?_
      rintro e w1 ⟨rfl, hb1⟩
      refine hK3 _ _ ?_
      refine wpList_allocVar rfl _ rfl (some 5) rfl _ HZ.out ?_
      refine wpList_store_rowTo rfl _ _ _ rfl rfl w1.heap.size cs rfl rfl 118 _ (heap_alloc_last w1 _) HI.out (by rw [HS.out]; rfl) HO.out ?_
      rw [World.setRow_alloc_new]
      refine wpList_nil (hK2 _ _ ?_)
      have hb1' := hb0.trans (hb1.mono hb0.size)
      have hb2 : Below w.heap.size w (w1.alloc (.cells cs 118)) := hb1'.alloc hb1'.size _
      have HB2 := Lib.hid hb2
      have hR := HM.out w1
      have HR := Lib.hid hR
      clear hb0 hb1 hb1' hb2 hR HI HO HS HZ HM HC
      generalize w1.alloc (.cells cs 118) = w2 at *
      generalize w1.heap.size = b at *
      by_cases h2 : m = 0
      · obtain rfl : c = v := by have := HV.out; rwa [if_pos h2] at this
        subst h2
        go_wp2_with fail
        refine (HP'.out b _ HR.out).mono ?_
        rintro e w3 ⟨rfl, hb3⟩
        go_wp2
        go_ret
        exact ⟨rfl, HB2.out.trans (hb3.mono HB2.out.size)⟩
      · obtain rfl : x = v := by have := HV.out; rwa [if_neg h2] at this
        have d2 : (m == 0) = false := by simpa using h2
        clear h2
        go_wp2_with fail
        refine (HP'.out b _ HR.out).mono ?_
        rintro e w3 ⟨rfl, hb3⟩
        go_wp2
        go_ret
        exact ⟨rfl, HB2.out.trans (hb3.mono HB2.out.size)⟩
    exact main _ rfl
  · rw [if_neg h1]
    have d1 : (k == 0) = false := by simpa using h1
    clear h1
    go_enter Tryd.func70, Tryd.ntmps70
    go_wp2_with fail
    refine (CA.out _).mono ?_
    rintro e w0 ⟨rfl, hb0⟩
    go_wp2
    go_ret
    exact ⟨rfl, hb0⟩
end Go.Proofs.YtlocnjenkanmpaaDoor.Mi

/-
  Proved here: what bidi.Shown returns, for every two numbers: the sign by which a code point is shown. It leaves what was in memory.
-/
set_option linter.unusedVariables false
namespace Go.Proofs.YtlocnjenkanmpaaDoor.Bi
open Go Go.RowKit Go.Lib
set_option maxHeartbeats 1000000 in
set_option maxRecDepth 100000 in
theorem shown_any (c l : Int) (w : World) : Calls Tryd.prog 49 #[.int .i64 c, .int .i64 l] w fun e w' => e = .returned (.int .i64 (shownP c l)) ∧ Below w.heap.size w w' := by
  have HG := Lib.hid (fun W => Mi.mGlyph_any c W)
  by_cases hm : l.tmod 2 = 0
  · have m1 : (l.tmod 2 == 0) = true := by simpa using hm
    rw [show shownP c l = c from if_pos hm]
    clear hm
    go_enter Tryd.func49, Tryd.ntmps49
    go_wp2
    go_ret
    exact ⟨rfl, Below.refl _ _⟩
  · have m1 : (l.tmod 2 == 0) = false := by simpa using hm
    rw [show shownP c l = Mi.glyphT c from if_neg hm]
    clear hm
    generalize Mi.glyphT c = v at *
    go_enter Tryd.func49, Tryd.ntmps49
    go_wp2_with fail
    refine (HG.out _).mono ?_
    rintro e w1 ⟨rfl, hb⟩
    go_wp2_with fail
    go_ret
    exact ⟨rfl, hb⟩
end Go.Proofs.YtlocnjenkanmpaaDoor.Bi
