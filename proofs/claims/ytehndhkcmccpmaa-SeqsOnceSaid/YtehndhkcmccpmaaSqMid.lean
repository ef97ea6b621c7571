/-
  What lies in memory while seqs' runs goes through its places; each step of it.
-/
import Derived.Test.YtehndhkcmccpmaaSqKept
import Derived.Test.YtehndhkcmccpmaaStepKit
import Derived.Maps.AppendAt
set_option linter.unusedVariables false
namespace Go.Proofs.Ytehndhkcmccpmaa.Sq
open Go Go.RowKit Go.Lib Go.Proofs.Ytehndhkcmccpmaa.Cl Go.Proofs.Ytehndhkcmccpmaa.Ba

theorem infoRun : (Try.prog.info? 51).map (fun i => (i.zero, i.size, i.bytes)) = some (some (.agg #[.int .i64 0, .int .i64 0, .int .i64 0, .slice none 0 0]), 4, 48) := by kernel_rfl
/-- The append of one number, as a step of a region that draws its order. -/
theorem step_one {ops : Array Oper} {o : Oper} {a : Act} {w : World} {K : Act → World → Prop} {Q : Exit → Act → World → Prop} {E : Prop} (hgd : o.guard = none) (s x : Operand)
    (ho : o.op = .call { callee := .builtin .append, args := #[s, x], argTypes := #[22, 22] })
    (base : Nat) (v : Value) (n : Nat) (zs : List Int) (z : Int) (hs : a.eval s = v) (ad : Addr) (hx : a.eval x = .slice (some ad) 1 1) (hown : w.ownsRow base 3 1 v n (icl zs)) (hz : w.cell? ad = some (.int .i64 z)) (hsp : ad.add 0 = ad) (hn : n ≤ 1099511627776) (hbase : base ≤ w.heap.size)
    (h : ∀ v' w', w'.ownsRow base 3 1 v' (n + 1) (icl (zs ++ [z])) → w.grownBy w' v.ownBlock → (v'.ownBlock = v.ownBlock ∨ ∃ k, v'.ownBlock = some k ∧ w.heap.size ≤ k) → K (a.put o.dst v') w') : if Region.wanted o (yielded ops a.tmps) = true then Oper.wp Try.prog o a w K Q else E := by
  have hw : Region.wanted o (yielded ops a.tmps) = true := by simp [Region.wanted, hgd]
  rw [if_pos hw]
  obtain ⟨v', w', hr, h2, h3, h4⟩ := run_one o.type base v n zs z w hown ad hz hsp hn hbase
  unfold Oper.wp execOp
  simp only [ho, resolve, invoke, builtin, Sem.run_bind, Sem.run_pure, Result.andThen_ok, List.map_toArray, List.map_cons, List.map_nil, hs, hx, hr]
  exact h v' w' h2 h3 h4

/-- It ends as it should, and so. -/
def OnlyN (K1 : Act → World → Prop) : Exit → Act → World → Prop
  | .normal, a, w => K1 a w
  | _, _, _ => False
theorem OnlyN.mk {K1 : Act → World → Prop} {a : Act} {w : World} (h : K1 a w) : OnlyN K1 .normal a w := h
theorem normal_mono_fr {F : Fence} {n : Nat} {P : Program} {x : Code} {Q : Exit → Act → World → Prop} {fr : Nat → Nat → Act} {R : Nat → Nat → World → Prop} {a : Act} {w : World} (h : x.wpIn F n P (OnlyN (fun a' w' => ∃ g c, a' = fr g c ∧ R g c w')) a w) (h2 : ∀ g c w', R g c w' → Q .normal (fr g c) w') : x.wpIn F n P Q a w :=
  wpIn_mono h fun e a w => by
    cases e
    case normal =>
      rintro ⟨g, c, rfl, hR⟩
      exact h2 g c w hR
    all_goals exact fun h => h.elim
theorem normal_mono_in {F : Fence} {n : Nat} {P : Program} {x : Code} {Q : Exit → Act → World → Prop} {K1 : Act → World → Prop} {a : Act} {w : World} (h : x.wpIn F n P (OnlyN K1) a w) (h2 : ∀ a w, K1 a w → Q .normal a w) : x.wpIn F n P Q a w :=
  wpIn_mono h fun e a w => by cases e <;> first | exact h2 a w | exact fun h => h.elim
theorem three' {w : World} {g : Nat} {v0 v1 v2 : Value} {t : TypeId} (h : w.heap[g]? = some (.cells #[v0, v1, v2] t (0, 0))) : w.cell? ⟨g, 0, none⟩ = some v0 ∧ w.cell? ⟨g, 1, none⟩ = some v1 ∧ w.cell? ⟨g, 2, none⟩ = some v2 :=
  ⟨cell_of_row w g 0 _ _ _ h, cell_of_row w g 1 _ _ _ h, cell_of_row w g 2 _ _ _ h⟩
/-- Whether an initiator is open, by what Match answers. -/
theorem opn_match {c : List Int} {t : Nat} (h : t < c.length) (m : Int) (hm : (matchL c)[t]? = some m) : opn c t = (m == (c.length : Int)) := by
  have hm' : m = mtK c c.length t := by
    rw [List.getElem?_eq_getElem (by rw [matchL_len]; exact h), matchL_at c t h] at hm
    injection hm with hm
    exact hm.symm
  have hg : c.getD t 0 = c[t] := by simp [List.getD, List.getElem?_eq_getElem h]
  unfold opn
  rw [hg]
  cases hi : isI c[t] with
  | true =>
    rw [hm', mt_I h hi]
    by_cases he : endAt c t = c.length
    · rw [he]; simp
    · have h1 : decide (true = true ∧ endAt c t = c.length) = false := by simp [he]
      rw [h1]
      symm
      simp
      omega
  | false =>
    have h1 : decide (false = true ∧ endAt c t = c.length) = false := by simp
    rw [h1, hm']
    symm
    cases hp : isP c[t] with
    | true =>
      rw [mt_P h hp]
      cases hs : stk c t with
      | nil => (simp; try omega)
      | cons u r =>
        have := (stk_at c t (by omega) 0 u (by rw [hs]; rfl)).1
        simp
        omega
    | false =>
      rw [mt_N h hp hi]
      (simp; try omega)

structure Mid (lv : Int) (s1 s2 : Value) (w W V : World) (v : Value) (R : List S4) (X : List Value) : Prop where
  hv : Boxed V (w.heap.size + 1) 55 v
  hp : V.heap[w.heap.size]? = some (.cells #[.int .i64 lv, s1, s2] 48 (0, 0))
  hs : SqI 51 (w.heap.size + 2) V v R X
  hb : Below w.heap.size w V
  kf : KeepsFrom (w.heap.size + 2) W V
  bw : Below w.heap.size W V
variable {lv : Int} {s1 s2 : Value} {w W V : World} {v : Value} {R : List S4} {X : List Value}
theorem Mid.size (h : Mid lv s1 s2 w W V v R X) : w.heap.size + 2 ≤ V.heap.size := by
  have := h.hv.lt
  omega
/-- Whatever is there stays. -/
theorem Mid.below (h : Mid lv s1 s2 w W V v R X) {V' : World} (hb : Below V.heap.size V V') : Mid lv s1 s2 w W V' v R X := by
  have hs := h.size
  refine ⟨(hb.block _ h.hv.lt).trans h.hv, (hb.block _ (by omega)).trans h.hp, h.hs.below hb, h.hb.trans (hb.mono (by omega)), h.kf.trans ⟨hb.size, fun k o _ hk _ => (hb.block k (Array.getElem?_eq_some_iff.1 hk).1).trans hk⟩, h.bw.trans (hb.mono (by omega))⟩
theorem Mid.drew (h : Mid lv s1 s2 w W V v R X) : Mid lv s1 s2 w W V.drew v R X := h.below (Below.refl _ _).drew
theorem Mid.alloc (h : Mid lv s1 s2 w W V v R X) (o : Obj) : Mid lv s1 s2 w W (V.alloc o) v R X := h.below ((Below.refl _ _).alloc (Nat.le_refl _) _)
/-- A block of cells of its own changes, from the third on. -/
theorem Mid.grown (h : Mid lv s1 s2 w W V v R X) {V' : World} {row : Option Nat} (hg : V.grownBy V' row) (hrow : ∀ k, row = some k → w.heap.size + 2 ≤ k ∧ ∃ b t f, V.heap[k]? = some (.cells b t f)) :
    Boxed V' (w.heap.size + 1) 55 v ∧ V'.heap[w.heap.size]? = some (.cells #[.int .i64 lv, s1, s2] 48 (0, 0)) ∧ Below w.heap.size w V' ∧ KeepsFrom (w.heap.size + 2) W V' ∧ Below w.heap.size W V' := by
  have hs := h.size
  have hg2 : Below w.heap.size V V' := (Below.refl _ _).grown hg (by omega) (fun k hk => by have := (hrow k hk).1; omega)
  refine ⟨h.hv.kept hg (fun e => by have := (hrow _ e.symm).1; omega), (hg.block _ (by omega) (fun e => by have := (hrow _ e.symm).1; omega)).trans h.hp, h.hb.trans hg2, h.kf.trans ⟨hg.size, fun k o _ hk ho => (hg.block k (Array.getElem?_eq_some_iff.1 hk).1 (fun e => ?_)).trans hk⟩, h.bw.trans hg2⟩
  obtain ⟨-, b, t, f, hc⟩ := hrow k e.symm
  rw [hk] at hc
  cases hc
  cases ho
theorem row_cells {B : Nat} {t : TypeId} {sz n : Nat} {u : Value} {xs : List Value} (h : V.ownsRow B t sz u n xs) : ∀ k, u.ownBlock = some k → B ≤ k ∧ ∃ b t f, V.heap[k]? = some (.cells b t f) := by
  intro k hk
  refine ⟨(h.lt k hk).1, ?_⟩
  rcases h.2 with ⟨rfl, _⟩ | ⟨g, cap, cur, rfl, _, hgb, _⟩
  · cases hk
  · simp only [Value.ownBlock, Option.some.injEq] at hk
    subst hk
    exact ⟨_, _, _, hgb⟩
theorem Mid.set (h : Mid lv s1 s2 w W V v R X) {g j : Nat} {u : Value} (hg : w.heap.size + 2 ≤ g) (hc : ∃ b t f, V.heap[g]? = some (.cells b t f)) :
    Boxed (V.setCell ⟨g, j, none⟩ u) (w.heap.size + 1) 55 v ∧ (V.setCell ⟨g, j, none⟩ u).heap[w.heap.size]? = some (.cells #[.int .i64 lv, s1, s2] 48 (0, 0)) ∧ Below w.heap.size w (V.setCell ⟨g, j, none⟩ u) ∧ KeepsFrom (w.heap.size + 2) W (V.setCell ⟨g, j, none⟩ u) ∧ Below w.heap.size W (V.setCell ⟨g, j, none⟩ u) :=
  h.grown (row := some g) ⟨rfl, rfl, rfl, (KeepsOthers.setCell V ⟨g, j, none⟩ u).size, fun k _ hk => heap_setCell_other V ⟨g, j, none⟩ k u (fun e => hk (by simp [e]))⟩ (fun k hk => by cases hk; exact ⟨hg, hc⟩)
/-- A run more. -/
theorem Mid.pushed (h : Mid lv s1 s2 w W V v R X) {w1 : World} {v' : Value} (r : S4) (hr : r.p = []) (ho : w1.ownsRow (w.heap.size + 2) 51 4 v' (R.length + 1) (cellsS R X ++ c4 r (.slice none 0 0))) (hg : V.grownBy w1 v.ownBlock) :
    Boxed w1 (w.heap.size + 1) 55 v ∧ w1.heap[w.heap.size]? = some (.cells #[.int .i64 lv, s1, s2] 48 (0, 0)) ∧ Mid lv s1 s2 w W (w1.setCell ⟨w.heap.size + 1, 0, none⟩ v') v' (R ++ [r]) (X ++ [.slice none 0 0]) := by
  obtain ⟨a1, a2, a3, a4, a5⟩ := h.grown hg (row_cells h.hs.row)
  have hpush := h.hs.push r (.slice none 0 0) ho hg (by rw [hr]; exact World.ownsRow_nil _ _ _ _) (fun y _ => (Two.nil _).swap)
  have hg2 := grownBy_setCell' w1 (w.heap.size + 1) v'
  refine ⟨a1, a2, a1.set v', (hg2.block _ (by have := a1.lt; omega) (by simp)).trans a2, ?_, a3.setCell (p := ⟨w.heap.size + 1, 0, none⟩) (by simp) _, a4.trans ((KeepsOthers.setCell _ _ _).from _), a5.setCell (p := ⟨w.heap.size + 1, 0, none⟩) (by simp) _⟩
  exact hpush.kept hg2 (fun k e => by cases e; omega)
theorem Mid.setc {g cap m : Nat} {D : List S4} {r : S4} (h : Mid lv s1 s2 w W V (.slice (some ⟨g, 0, none⟩) (m + 1) cap) (D ++ [r]) X) (hm : D.length = m) (y : Int) :
    Mid lv s1 s2 w W (V.setCell ⟨g, m * 4 + 2, none⟩ (.int .i64 y)) (.slice (some ⟨g, 0, none⟩) (m + 1) cap) (D ++ [⟨r.a, r.b, y, r.p⟩]) X := by
  have hl : (D ++ [r]).length = m + 1 := by simp [hm]
  have hlt : m < (D ++ [r]).length := by omega
  have hrow := row_cells h.hs.row g rfl
  obtain ⟨a1, a2, a3, a4, a5⟩ := h.set (j := m * 4 + 2) (u := .int .i64 y) hrow.1 hrow.2
  have hs := h.hs
  rw [← hl] at hs
  have hset := hs.setc hlt y
  have e : (D ++ [r]).set m ⟨(D ++ [r])[m].a, (D ++ [r])[m].b, y, (D ++ [r])[m].p⟩ = D ++ [⟨r.a, r.b, y, r.p⟩] := by
    subst hm
    simp
  rw [e, hl] at hset
  exact ⟨a1, a2, hset, a3, a4, a5⟩
/-- What the last run is, as it lies. -/
theorem Mid.last {m : Nat} {D : List S4} {r : S4} (h : Mid lv s1 s2 w W V v (D ++ [r]) X) (hm : D.length = m) : ∃ g cap x0 A0 k0, v = .slice (some ⟨g, 0, none⟩) (m + 1) cap ∧ w.heap.size + 2 ≤ g ∧ X[m]? = some x0 ∧ x0 = .slice A0 r.p.length k0 ∧ IntsAt V A0 (ns r.p) ∧
    V.cell? ⟨g, m * 4, none⟩ = some (.int .i64 r.a) ∧ V.cell? ⟨g, m * 4 + 1, none⟩ = some (.int .i64 r.b) ∧ V.cell? ⟨g, m * 4 + 2, none⟩ = some (.int .i64 r.c) ∧ V.cell? ⟨g, m * 4 + 3, none⟩ = some x0 ∧ (∀ j, V.frozen? ⟨g, j, none⟩ = false) ∧ V.ownsRow (w.heap.size + 2) 3 1 x0 r.p.length (icl (ns r.p)) := by
  have hl : (D ++ [r]).length = m + 1 := by simp [hm]
  have hlt : m < (D ++ [r]).length := by omega
  obtain ⟨g, cap, x0, A0, k0, e1, e2, e3, e4, e5, e6, e7, e8, e9, e10, e11⟩ := h.hs.get hlt
  have ho := h.hs.own m hlt x0 e4
  have er : (D ++ [r])[m] = r := by subst hm; simp
  rw [er] at e5 e6 e7 e8 e9 ho
  rw [hl] at e1
  exact ⟨g, cap, x0, A0, k0, e1, e2, e4, e5, e6, e7, e8, e9, e10, e11, ho⟩
theorem Mid.rowOf {m : Nat} {D : List S4} {r : S4} (h : Mid lv s1 s2 w W V v (D ++ [r]) X) (hm : D.length = m) {x0 : Value} (hx : X[m]? = some x0) : V.ownsRow (w.heap.size + 2) 3 1 x0 r.p.length (icl (ns r.p)) := by
  obtain ⟨g, cap, y, A0, k0, e1, e2, e3, e4, e5, e6, e7, e8, e9, e10, e11⟩ := h.last hm
  rw [e3] at hx
  injection hx with hx
  subst hx
  exact e11
theorem cell_new1 (V : World) (u : Value) (t : TypeId) : (V.alloc (.cells #[u] t)).cell? ⟨V.heap.size, 0, none⟩ = some u := cell_of_row _ _ 0 _ _ _ (heap_alloc_last _ _)
/-- A place more, in the last run. -/
theorem Mid.placed {g cap m : Nat} {D : List S4} {r : S4} (h : Mid lv s1 s2 w W V (.slice (some ⟨g, 0, none⟩) (m + 1) cap) (D ++ [r]) X) (hm : D.length = m) {x0 v' : Value} (hx : X[m]? = some x0) {w1 : World} (x : Nat)
    (ho : w1.ownsRow (w.heap.size + 2) 3 1 v' (r.p.length + 1) (icl (ns r.p ++ [(x : Int)]))) (hg : V.grownBy w1 x0.ownBlock) (hw : v'.ownBlock = x0.ownBlock ∨ ∃ k, v'.ownBlock = some k ∧ V.heap.size ≤ k) :
    w1.cell? ⟨g, m * 4 + 3, none⟩ = some x0 ∧ w1.frozen? ⟨g, m * 4 + 3, none⟩ = false ∧ w1.cell? ⟨w.heap.size + 1, 0, none⟩ = some (.slice (some ⟨g, 0, none⟩) (m + 1) cap) ∧
    Mid lv s1 s2 w W (w1.setCell ⟨g, m * 4 + 3, none⟩ v') (.slice (some ⟨g, 0, none⟩) (m + 1) cap) (D ++ [⟨r.a, r.b, r.c, r.p ++ [x]⟩]) (X.set m v') := by
  have hl : (D ++ [r]).length = m + 1 := by simp [hm]
  have hlt : m < (D ++ [r]).length := by omega
  have er : (D ++ [r])[m] = r := by subst hm; simp
  have hxo := h.hs.own m hlt x0 hx
  obtain ⟨a1, a2, a3, a4, a5⟩ := h.grown hg (row_cells hxo)
  have hrow := row_cells h.hs.row g rfl
  have hs := h.hs
  rw [← hl] at hs
  have ho' : w1.ownsRow (w.heap.size + 2) 3 1 v' ((D ++ [r])[m].p ++ [x]).length (icl (ns ((D ++ [r])[m].p ++ [x]))) := by
    rw [er, List.length_append, ns_append]
    exact ho
  obtain ⟨b1, b2, b3⟩ := hs.setp hlt hx [x] ho' hg hw
  have e : (D ++ [r]).set m ⟨(D ++ [r])[m].a, (D ++ [r])[m].b, (D ++ [r])[m].c, (D ++ [r])[m].p ++ [x]⟩ = D ++ [⟨r.a, r.b, r.c, r.p ++ [x]⟩] := by
    subst hm
    simp
  rw [e, hl] at b1
  have hgs : w1.grownBy (w1.setCell ⟨g, m * 4 + 3, none⟩ v') (some g) := ⟨rfl, rfl, rfl, (KeepsOthers.setCell w1 ⟨g, m * 4 + 3, none⟩ v').size, fun k _ hk => heap_setCell_other w1 ⟨g, m * 4 + 3, none⟩ k v' (fun e => hk (by simp [e]))⟩
  have hgB : w.heap.size + 2 ≤ g := hrow.1
  refine ⟨b2, b3, a1.cell, ⟨a1.kept hgs (fun e => by injection e with e; omega), (hgs.block _ (by have := a1.lt; omega) (fun e => by injection e with e; omega)).trans a2, b1, a3.setCell (p := ⟨g, m * 4 + 3, none⟩) (by simp; omega) _, a4.trans ((KeepsOthers.setCell _ _ _).from _), a5.setCell (p := ⟨g, m * 4 + 3, none⟩) (by simp; omega) _⟩⟩

/-- How long runs are. -/
def Short (k : Nat) (P : Nat → Prop) (R : List S4) : Prop := R.length ≤ k ∧ ∀ r ∈ R, r.p.length ≤ k ∧ r.p ≠ [] ∧ ∀ q ∈ r.p, P q
theorem runsTo_snoc (c z : List Int) (lv : Int) (l : List Nat) (x : Nat) : runsTo c z lv (l ++ [x]) = stepR c z lv (runsTo c z lv l) x := by
  unfold runsTo
  rw [List.foldl_append]
  rfl
theorem Short.step {k : Nat} {P : Nat → Prop} {R : List S4} (h : Short k P R) (c z : List Int) (lv : Int) {x : Nat} (hx : P x) : Short (k + 1) P (stepR c z lv R x) := by
  obtain ⟨h1, h2⟩ := h
  rcases List.eq_nil_or_concat R with rfl | ⟨D, r, rfl⟩
  · refine ⟨by simp [stepR, room, putIn], fun r hr => ?_⟩
    simp [stepR, room, putIn] at hr
    subst hr
    exact ⟨by simp, by simp, by simpa using hx⟩
  · rw [List.concat_eq_append] at h1 h2 ⊢
    unfold stepR
    rw [room_snoc]
    have hD : ∀ r' ∈ D, r'.p.length ≤ k + 1 ∧ r'.p ≠ [] ∧ ∀ q ∈ r'.p, P q := fun r' hr' => by
      obtain ⟨a, b, c⟩ := h2 r' (List.mem_append_left _ hr')
      exact ⟨by omega, b, c⟩
    obtain ⟨a, b, e⟩ := h2 r (by simp)
    have h1 : D.length + 1 ≤ k := by simpa using h1
    split
    · rw [putIn_snoc]
      refine ⟨by simp only [List.length_append, List.length_cons, List.length_nil]; omega, fun r' hr' => ?_⟩
      rcases List.mem_append.1 hr' with hr' | hr'
      · exact hD r' hr'
      · simp at hr'
        subst hr'
        refine ⟨by simp; omega, by simp, fun q hq => ?_⟩
        simp at hq
        rcases hq with hq | rfl
        · exact e q hq
        · exact hx
    · rw [putIn_snoc]
      refine ⟨by simp only [List.length_append, List.length_cons, List.length_nil]; omega, fun r' hr' => ?_⟩
      rcases List.mem_append.1 hr' with hr' | hr'
      · rcases List.mem_append.1 hr' with hr' | hr'
        · exact hD r' hr'
        · simp at hr'
          subst hr'
          exact ⟨Nat.le_succ_of_le a, b, e⟩
      · simp at hr'
        subst hr'
        exact ⟨by simp, by simp, by simpa using hx⟩
theorem runsTo_short (c z : List Int) (lv : Int) {P : Nat → Prop} : ∀ (n : Nat) (l : List Nat), l.length = n → (∀ x ∈ l, P x) → Short n P (runsTo c z lv l)
  | 0, l, hl, _ => by
    have : l = [] := List.eq_nil_of_length_eq_zero hl
    subst this
    exact ⟨by simp [runsTo], fun r hr => by simp [runsTo] at hr⟩
  | n + 1, l, hl, h => by
    rcases List.eq_nil_or_concat l with rfl | ⟨l', x, rfl⟩
    · simp at hl
    · rw [List.concat_eq_append] at hl h ⊢
      rw [runsTo_snoc]
      exact (runsTo_short c z lv n l' (by simpa using hl) (fun y hy => h y (List.mem_append_left _ hy))).step c z lv (h x (by simp))
end Go.Proofs.Ytehndhkcmccpmaa.Sq
