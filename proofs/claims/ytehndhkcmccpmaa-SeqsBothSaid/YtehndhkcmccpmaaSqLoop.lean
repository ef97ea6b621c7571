/-
  What lies in memory while seqs' Sequences goes through the runs: the sequences so far, the map of what waits; each step of it.
-/
import Derived.Test.YtehndhkcmccpmaaSqGoes
import Derived.Test.YtehndhkcmccpmaaSqRuns
import Derived.Test.YtehndhkcmccpmaaAddAt
import Derived.Maps.OwnSet
import Derived.Maps.Range
import Derived.WalkArith
set_option linter.unusedVariables false
namespace Go.Proofs.Ytehndhkcmccpmaa.Sq
open Go Go.RowKit Go.Lib Go.Maps Go.Proofs.Ytehndhkcmccpmaa.Cl Go.Proofs.Ytehndhkcmccpmaa.Ba

theorem infoSeq : (Try.prog.info? 35).map (fun i => (i.zero, i.size, i.bytes)) = some (some (.agg #[.int .i64 0, .int .i64 0, .int .i64 0, .slice none 0 0]), 4, 48) := by kernel_rfl
theorem lawInt : Keyed Try.prog 3 := int_keyed Try.underlying3
theorem zeroInt (w : World) : (zeroValue 3).run Try.prog w = .ok (.int .i64 0) w := by kernel_rfl

/-- What a map holds. -/
def MapIs (D : DataW Unit) (f : Nat → Option Nat) : Prop := Maps.IsMap D ∧ ∀ p : Nat, Maps.has D (.int .i64 (p : Int)) = (f p).isSome ∧ ∀ m, f p = some m → D.atKey (.int .i64 (p : Int)) (.lit (.int .i64 0)) = .lit (.int .i64 (m : Int))
theorem MapIs.start : MapIs (.map []) (fun _ => none) := ⟨⟨[], rfl⟩, fun p => ⟨rfl, fun m h => by cases h⟩⟩
theorem MapIs.put {D : DataW Unit} {f : Nat → Option Nat} (h : MapIs D f) (q m : Nat) : MapIs (D.put (.int .i64 (q : Int)) (.lit (.int .i64 (m : Int)))) (fun p => if p = q then some m else f p) := by
  obtain ⟨h1, h2⟩ := h
  refine ⟨h1.put _ _, fun p => ?_⟩
  by_cases e : p = q
  · subst e
    dsimp only
    rw [if_pos rfl]
    have hk : WideAt.IsKeyLit (Lit.int .i64 (p : Int)) := trivial
    refine ⟨by rw [has_put_same h1 hk]; rfl, fun m' hm' => ?_⟩
    injection hm' with hm'
    subst hm'
    exact atKey_put_same h1 hk _ _
  · dsimp only
    rw [if_neg e]
    have hne : (Lit.int .i64 (p : Int)) ≠ Lit.int .i64 (q : Int) := fun e2 => by
      injection e2 with _ e2
      exact e (by omega)
    refine ⟨by rw [has_put_other hne]; exact (h2 p).1, fun m' hm' => ?_⟩
    rw [atKey_put_other hne]
    exact (h2 p).2 m' hm'
theorem below_grown {V V' : World} (h : Below V.heap.size V V') (row : Option Nat) : V.grownBy V' row := ⟨h.os, h.tape, h.output, h.size, fun k hk _ => h.block k hk⟩
/-- The append of a row of numbers, as a step of a region that draws its order. -/
theorem step_addAt {ops : Array Oper} {o : Oper} {a : Act} {w : World} {K : Act → World → Prop} {Q : Exit → Act → World → Prop} {E : Prop} (hgd : o.guard = none) (s x : Operand)
    (ho : o.op = .call { callee := .builtin .append, args := #[s, x], argTypes := #[22, 22] })
    (base : Nat) (v : Value) (n : Nat) (zs : List Int) (hs : a.eval s = v) (hown : w.ownsRow base 3 1 v n (icl zs))
    (A : Option Addr) (m c : Nat) (ys : List Int) (hx : a.eval x = .slice A m c) (hy : IntsAt w A ys) (hl : ys.length = m) (hne : ys ≠ []) (hnm : n + m ≤ 1099511627776) (hbase : base ≤ w.heap.size)
    (h : ∀ v' w', w'.ownsRow base 3 1 v' (n + m) (icl (zs ++ ys)) → w.grownBy w' v.ownBlock → (v'.ownBlock = v.ownBlock ∨ ∃ k, v'.ownBlock = some k ∧ w.heap.size ≤ k) → K (a.put o.dst v') w') : if Region.wanted o (yielded ops a.tmps) = true then Oper.wp Try.prog o a w K Q else E := by
  have hw : Region.wanted o (yielded ops a.tmps) = true := by simp [Region.wanted, hgd]
  rw [if_pos hw]
  obtain ⟨i0, hi, hz0, hz1, hz2⟩ := info_parts infoInt
  cases A with
  | none =>
    have : ys = [] := List.eq_nil_of_length_eq_zero (hy.nil_len rfl)
    exact absurd this hne
  | some ad =>
    obtain ⟨v', w', hr, h2, h3, -, h4⟩ := run_append_own_at (P := Try.prog) w base 22 o.type 3 i0 (.int .i64 0) 1 8 Try.underlying22 hi hz0 hz1 hz2 rfl (by decide) v n (icl zs) hown ad m c (icl ys) (by rw [icl_len, hl, Nat.mul_one]) hy.news (ints_one _) (by unfold maxLen; omega) (by omega) hbase
    unfold Oper.wp execOp
    simp only [ho, resolve, invoke, builtin, Sem.run_bind, Sem.run_pure, Result.andThen_ok, List.map_toArray, List.map_cons, List.map_nil, hs, hx, hr]
    exact h v' w' (by rw [icl_append]; exact h2) h3 (h4.imp_right fun e => ⟨_, e, Nat.le_refl _⟩)

structure Lp (w2 : World) (Bm : Nat) (V : World) (v : Value) (T : List S4) (X : List Value) (nm : Nat) (D : DataW Unit) (f : Nat → Option Nat) : Prop where
  hs : SqI 35 w2.heap.size V v T X
  hm : V.ownsMap Try.prog 3 (plainElem Try.prog 3) Bm nm D
  hf : MapIs D f
  hg : w2.grownBy V (some Bm)
  hB : Bm < w2.heap.size
variable {w2 V : World} {Bm nm : Nat} {v : Value} {T : List S4} {X : List Value} {D : DataW Unit} {f : Nat → Option Nat}
theorem Lp.below (h : Lp w2 Bm V v T X nm D f) {V' : World} (hb : Below V.heap.size V V') : Lp w2 Bm V' v T X nm D f := by
  have hsz := h.hg.size
  exact ⟨h.hs.below hb, h.hm.kept (below_grown hb none) (by simp), h.hf, h.hg.trans (below_grown hb _), h.hB⟩
theorem Lp.drew (h : Lp w2 Bm V v T X nm D f) : Lp w2 Bm V.drew v T X nm D f := h.below (Below.refl _ _).drew
theorem Lp.alloc (h : Lp w2 Bm V v T X nm D f) (o : Obj) : Lp w2 Bm (V.alloc o) v T X nm D f := h.below ((Below.refl _ _).alloc (Nat.le_refl _) _)
/-- A block that is new since then changes. -/
theorem Lp.turned (h : Lp w2 Bm V v T X nm D f) {V' : World} {row : Option Nat} (hg : V.grownBy V' row) (hr : ∀ k, row = some k → w2.heap.size ≤ k) : V'.ownsMap Try.prog 3 (plainElem Try.prog 3) Bm nm D ∧ w2.grownBy V' (some Bm) := by
  have hB := h.hB
  refine ⟨h.hm.kept hg (fun e => by have := hr _ e.symm; omega), ⟨hg.os.trans h.hg.os, hg.tape.trans h.hg.tape, hg.output.trans h.hg.output, Nat.le_trans h.hg.size hg.size, fun k hk hne => (hg.block k (Nat.lt_of_lt_of_le hk h.hg.size) (fun e => by have := hr _ e.symm; omega)).trans (h.hg.block k hk hne)⟩⟩
theorem Lp.pushed (h : Lp w2 Bm V v T X nm D f) {w1 : World} {v' : Value} (r : S4) (hr : r.p = []) (ho : w1.ownsRow w2.heap.size 35 4 v' (T.length + 1) (cellsS T X ++ c4 r (.slice none 0 0))) (hg : V.grownBy w1 v.ownBlock) : Lp w2 Bm w1 v' (T ++ [r]) (X ++ [.slice none 0 0]) nm D f := by
  obtain ⟨a1, a2⟩ := h.turned hg (fun k hk => (h.hs.row.lt k hk).1)
  exact ⟨h.hs.push r (.slice none 0 0) ho hg (by rw [hr]; exact World.ownsRow_nil _ _ _ _) (fun y _ => (Two.nil _).swap), a1, h.hf, a2, h.hB⟩
/-- One of the sequences, as it lies. -/
theorem Lp.get (h : Lp w2 Bm V v T X nm D f) {m n : Nat} (hn : T.length = n) {s : S4} (hm : T[m]? = some s) : ∃ g cap x0 A0 k0, v = .slice (some ⟨g, 0, none⟩) n cap ∧ w2.heap.size ≤ g ∧ m < n ∧ X[m]? = some x0 ∧ x0 = .slice A0 s.p.length k0 ∧ IntsAt V A0 (ns s.p) ∧
    V.cell? ⟨g, m * 4 + 2, none⟩ = some (.int .i64 s.c) ∧ V.cell? ⟨g, m * 4 + 3, none⟩ = some x0 ∧ (∀ j, V.frozen? ⟨g, j, none⟩ = false) ∧ V.ownsRow w2.heap.size 3 1 x0 s.p.length (icl (ns s.p)) := by
  subst hn
  obtain ⟨hlt, e⟩ := List.getElem?_eq_some_iff.1 hm
  obtain ⟨g, cap, x0, A0, k0, e1, e2, e3, e4, e5, e6, e7, e8, e9, e10, e11⟩ := h.hs.get hlt
  have ho := h.hs.own m hlt x0 e4
  rw [e] at e5 e6 e9 ho
  exact ⟨g, cap, x0, A0, k0, e1, e2, hlt, e4, e5, e6, e9, e10, e11, ho⟩
theorem Lp.setc {g cap m n : Nat} {s : S4} (h : Lp w2 Bm V (.slice (some ⟨g, 0, none⟩) n cap) T X nm D f) (hn : T.length = n) (hm : T[m]? = some s) (y : Int) :
    Lp w2 Bm (V.setCell ⟨g, m * 4 + 2, none⟩ (.int .i64 y)) (.slice (some ⟨g, 0, none⟩) n cap) (T.set m ⟨s.a, s.b, y, s.p⟩) X nm D f := by
  subst hn
  obtain ⟨hlt, e⟩ := List.getElem?_eq_some_iff.1 hm
  have hset := h.hs.setc hlt y
  rw [e] at hset
  obtain ⟨a1, a2⟩ := h.turned (V' := V.setCell ⟨g, m * 4 + 2, none⟩ (.int .i64 y)) (row := some g) ⟨rfl, rfl, rfl, (KeepsOthers.setCell V ⟨g, m * 4 + 2, none⟩ _).size, fun k _ hk => heap_setCell_other V ⟨g, m * 4 + 2, none⟩ k _ (fun e => hk (by simp [e]))⟩ (fun k hk => (h.hs.row.lt k hk).1)
  exact ⟨hset, a1, h.hf, a2, h.hB⟩
theorem Lp.grew {g cap m n : Nat} {s : S4} (h : Lp w2 Bm V (.slice (some ⟨g, 0, none⟩) n cap) T X nm D f) (hn : T.length = n) (hm : T[m]? = some s) {x0 v' : Value} (hx : X[m]? = some x0) {w1 : World} (q : List Nat)
    (ho : w1.ownsRow w2.heap.size 3 1 v' (s.p.length + q.length) (icl (ns s.p ++ ns q))) (hg : V.grownBy w1 x0.ownBlock) (hw : v'.ownBlock = x0.ownBlock ∨ ∃ k, v'.ownBlock = some k ∧ V.heap.size ≤ k) :
    w1.cell? ⟨g, m * 4 + 3, none⟩ = some x0 ∧ w1.frozen? ⟨g, m * 4 + 3, none⟩ = false ∧ Lp w2 Bm (w1.setCell ⟨g, m * 4 + 3, none⟩ v') (.slice (some ⟨g, 0, none⟩) n cap) (T.set m ⟨s.a, s.b, s.c, s.p ++ q⟩) (X.set m v') nm D f := by
  subst hn
  obtain ⟨hlt, e⟩ := List.getElem?_eq_some_iff.1 hm
  have ho' : w1.ownsRow w2.heap.size 3 1 v' (T[m].p ++ q).length (icl (ns (T[m].p ++ q))) := by
    rw [e, List.length_append, ns_append]
    exact ho
  obtain ⟨b1, b2, b3⟩ := h.hs.setp hlt hx q ho' hg hw
  rw [e] at b1
  obtain ⟨a1, a2⟩ := h.turned hg (fun k hk => (h.hs.lt hx hk).1)
  have hgg := (h.hs.row.lt g rfl).1
  have hB := h.hB
  have hgs : w1.grownBy (w1.setCell ⟨g, m * 4 + 3, none⟩ v') (some g) := ⟨rfl, rfl, rfl, (KeepsOthers.setCell w1 ⟨g, m * 4 + 3, none⟩ v').size, fun k _ hk => heap_setCell_other w1 ⟨g, m * 4 + 3, none⟩ k v' (fun e => hk (by simp [e]))⟩
  refine ⟨b2, b3, ⟨b1, a1.kept hgs (fun e => by injection e with e; omega), h.hf, ⟨a2.os, a2.tape, a2.output, Nat.le_trans a2.size hgs.size, fun k hk hne => (hgs.block k (Nat.lt_of_lt_of_le hk a2.size) (fun e => by injection e with e; omega)).trans (a2.block k hk hne)⟩, h.hB⟩⟩
theorem Lp.putm (h : Lp w2 Bm V v T X nm D f) {w1 : World} (q m : Nat) (hm : w1.ownsMap Try.prog 3 (plainElem Try.prog 3) Bm (nm + 1) (D.put (.int .i64 (q : Int)) (.lit (.int .i64 (m : Int))))) (hg : V.grownBy w1 (some Bm)) : Lp w2 Bm w1 v T X (nm + 1) (D.put (.int .i64 (q : Int)) (.lit (.int .i64 (m : Int)))) (fun p => if p = q then some m else f p) :=
  ⟨h.hs.kept hg (fun k e => by cases e; exact h.hB), hm, h.hf.put q m, h.hg.trans hg, h.hB⟩
/-- What was there as cells stays. -/
theorem Lp.cell (h : Lp w2 Bm V v T X nm D f) (hmap : ∃ es cl, w2.heap[Bm]? = some (.map es cl)) {a : Addr} {u : Value} (hc : w2.cell? a = some u) : V.cell? a = some u := by
  refine h.hg.cell hc (fun e => ?_)
  injection e with e
  obtain ⟨es, cl, hm⟩ := hmap
  unfold World.cell? at hc
  rw [e, hm] at hc
  simp at hc
theorem Lp.ints (h : Lp w2 Bm V v T X nm D f) (hmap : ∃ es cl, w2.heap[Bm]? = some (.map es cl)) {A : Option Addr} {zs : List Int} (hi : IntsAt w2 A zs) : IntsAt V A zs := by
  rcases hi with hi | ⟨b, off, e, hlt, hc⟩
  · exact .inl hi
  · exact .inr ⟨b, off, e, Nat.lt_of_lt_of_le hlt h.hg.size, fun j z hz => h.cell hmap (hc j z hz)⟩

variable {Bx : Nat}
theorem box_below {V' : World} {o : Obj} (h : V.heap[Bx]? = some o) (hb : Below V.heap.size V V') : V'.heap[Bx]? = some o := (hb.block _ (Array.getElem?_eq_some_iff.1 h).1).trans h
theorem own_not_box {cs : Array Value} {t t' : TypeId} {fr : Nat × Nat} {B sz n g cap : Nat} {xs : List Value} (h : V.heap[Bx]? = some (.cells cs t fr)) (ho : V.ownsRow B t' sz (.slice (some ⟨g, 0, none⟩) n cap) n xs) (ht : t' ≠ t) : g ≠ Bx := by
  rintro rfl
  rcases ho.2 with ⟨h1, _⟩ | ⟨g', cap', cur, h1, _, hg, _⟩
  · cases h1
  · simp only [Value.slice.injEq, Option.some.injEq, Addr.mk.injEq, and_true, true_and] at h1
    obtain ⟨rfl, rfl⟩ := h1
    rw [h] at hg
    injection hg with hg
    injection hg with _ h2 _
    exact ht h2.symm
theorem box_grown {cs : Array Value} {t t' : TypeId} {fr : Nat × Nat} {B sz n : Nat} {u : Value} {xs : List Value} {w1 : World} (h : V.heap[Bx]? = some (.cells cs t fr)) (ho : V.ownsRow B t' sz u n xs) (ht : t' ≠ t) (hg : V.grownBy w1 u.ownBlock) : w1.heap[Bx]? = some (.cells cs t fr) := by
  refine (hg.block _ (Array.getElem?_eq_some_iff.1 h).1 (fun e => ?_)).trans h
  rcases ho.2 with ⟨rfl, _⟩ | ⟨g', cap', cur, rfl, _, hgb, _⟩
  · cases e
  · simp only [Value.ownBlock, Option.some.injEq] at e
    subst e
    rw [h] at hgb
    injection hgb with hgb
    injection hgb with _ h2 _
    exact ht h2.symm
theorem box_set {o : Obj} {g j : Nat} {u : Value} (h : V.heap[Bx]? = some o) (hgB : g ≠ Bx) : (V.setCell ⟨g, j, none⟩ u).heap[Bx]? = some o := (heap_setCell_other V ⟨g, j, none⟩ Bx u (Ne.symm hgB)).trans h
theorem box4 {v0 v1 v2 v3 : Value} {t : TypeId} (h : V.heap[Bx]? = some (.cells #[v0, v1, v2, v3] t (0, 0))) : V.cell? ⟨Bx, 0, none⟩ = some v0 ∧ V.cell? ⟨Bx, 1, none⟩ = some v1 ∧ V.cell? ⟨Bx, 2, none⟩ = some v2 ∧ V.cell? ⟨Bx, 3, none⟩ = some v3 :=
  ⟨cell_of_row V Bx 0 _ _ _ h, cell_of_row V Bx 1 _ _ _ h, cell_of_row V Bx 2 _ _ _ h, cell_of_row V Bx 3 _ _ _ h⟩
theorem box2 {v0 v1 v2 v3 : Value} {t : TypeId} (h : V.heap[Bx]? = some (.cells #[v0, v1, v2, v3] t (0, 0))) : V.cell? ⟨Bx, 0, none⟩ = some v0 ∧ V.cell? ⟨Bx, 1, none⟩ = some v1 := ⟨(box4 h).1, (box4 h).2.1⟩
theorem box3 {v0 v1 v2 v3 : Value} {t : TypeId} (h : V.heap[Bx]? = some (.cells #[v0, v1, v2, v3] t (0, 0))) : V.cell? ⟨Bx, 3, none⟩ = some v3 := (box4 h).2.2.2
theorem own_form {B : Nat} {t : TypeId} {sz n : Nat} {u : Value} {xs : List Value} (h : V.ownsRow B t sz u n xs) (hn : 0 < n) : ∃ g c, u = .slice (some ⟨g, 0, none⟩) n c := by
  rcases h.2 with ⟨_, h0⟩ | ⟨g, cap, _, rfl, _⟩
  · omega
  · exact ⟨g, cap, rfl⟩
theorem ns_nil {l : List Nat} : ns l = [] ↔ l = [] := by cases l <;> simp [ns]
theorem updW_true {c : List Int} {f : Nat → Option Nat} {t m : Nat} (h1 : isI (c.getD t 0) = true) (h2 : endAt c t < c.length) : updW c f t m = fun p => if p = endAt c t then some m else f p := by
  funext p
  unfold updW
  by_cases e : p = endAt c t
  · rw [if_pos ⟨h1, h2, e⟩, if_pos e]
  · rw [if_neg (fun h => e h.2.2), if_neg e]
theorem updW_false {c : List Int} {f : Nat → Option Nat} {t m : Nat} (h : ¬ (isI (c.getD t 0) = true ∧ endAt c t < c.length)) : updW c f t m = f := by
  funext p
  unfold updW
  rw [if_neg (fun h' => h ⟨h'.1, h'.2.1⟩)]
theorem SInv.short {c z : List Int} {lv : Int} {bd : Nat} (h : SInv c z lv bd T f) : T.length ≤ bd := by
  have e := congrArg List.length h.heads
  rw [List.length_map] at e
  rw [e]
  unfold headsTo
  refine Nat.le_trans (List.length_filter_le _ _) ?_
  simp
end Go.Proofs.Ytehndhkcmccpmaa.Sq
