/-
  Proved here: what csv.Parse returns, for every text: the records of the document, or the place at which it is spoilt, or ErrLong; it leaves what was in memory.
-/
import Derived.Test.YtafpddpeffpnfaaDoorCvGoes
import Derived.Test.YtafpddpeffpnfaaDoorCvText
import Derived.Test.YtafpddpeffpnfaaDoorCvCells
import Derived.Test.YtafpddpeffpnfaaDoorCvRows
set_option linter.unusedVariables false
namespace Go.Proofs.YtafpddpeffpnfaaDoor.Cv
open Go Go.RowKit Go.Lib Go.Proofs.YtafpddpeffpnfaaDoor.Cl

theorem grp_lens : ∀ (es : List Ev) (R : List (List Bs) × List Bs), (grp R es).1.length ≤ R.1.length + es.length ∧ (grp R es).2.length ≤ R.2.length + es.length
  | [], R => ⟨Nat.le_refl _, Nat.le_refl _⟩
  | e :: es, R => by
    have h := grp_lens es (putE R e)
    have e1 : grp R (e :: es) = grp (putE R e) es := rfl
    rw [e1]
    unfold putE at h ⊢
    cases he : e.2 <;> simp [he] at h ⊢ <;> omega
theorem g0_lens (es : List Ev) : (g0 es).1.length ≤ es.length ∧ (g0 es).2.length ≤ es.length := by
  have h := grp_lens es ([], [])
  simp at h
  exact h

structure PM (B0 B : Nat) (w : World) (p q : Nat) (vs v : Value) (R : List (List Bs)) (r : List Bs) (W : World) : Prop where
  below : Below B0 w W
  held : Held W
  b0 : 0 < B0
  hp : B0 ≤ p
  hq : B0 ≤ q
  lp : p < B
  lq : q < B
  ne : p ≠ q
  cp : W.heap[p]? = some (.cells #[v] 33 (0, 0))
  cq : W.heap[q]? = some (.cells #[vs] 25 (0, 0))
  ri : RI B W vs v R r
def PI (B0 B : Nat) (w : World) (p q : Nat) (es : List Ev) (W : World) : Prop := ∃ vs v, PM B0 B w p q vs v (g0 es).1 (g0 es).2 W

theorem below_drew {B : Nat} {W w1 : World} (h : Below B W.drew w1) : Below B W w1 := ⟨h.os, h.tape, h.output, h.size, h.block⟩
section
variable {B0 B : Nat} {w : World} {p q : Nat} {vs v : Value} {R : List (List Bs)} {r : List Bs} {W : World}
/-- Behind an append onto the record: it is stored. -/
theorem PM.field (h : PM B0 B w p q vs v R r W) {w1 w3 : World} {v' : Value} {r' : List Bs} (hb : Below W.heap.size W w1) (hg : w1.grownBy w3 v.ownBlock) (hne : ∀ k, v.ownBlock = some k → B ≤ k) (hri : RI B w3 vs v' R r') :
    PM B0 B w p q vs v' R r' (w3.setCell ⟨p, 0, none⟩ v') := by
  have hlp : p < W.heap.size := (Array.getElem?_eq_some_iff.1 h.cp).1
  have hlq : q < W.heap.size := (Array.getElem?_eq_some_iff.1 h.cq).1
  have hB0 : B0 ≤ W.heap.size := Nat.le_trans (Nat.le_trans h.hp (Nat.le_of_lt hlp)) (Nat.le_refl _)
  have b1 : Below B0 w w1 := h.below.trans (hb.mono hB0)
  have b3 : Below B0 w w3 := b1.grown hg (Nat.le_trans hB0 hb.size) (fun k hk => by have := hne k hk; have := h.lp; have := h.hp; omega)
  have hh : Below B0 W w3 := (hb.mono hB0).grown hg (Nat.le_trans hB0 hb.size) (fun k hk => by have := hne k hk; have := h.lp; have := h.hp; omega)
  have ep : w3.heap[p]? = some (.cells #[v] 33 (0, 0)) := by
    rw [hg.block p (Nat.lt_of_lt_of_le hlp hb.size) (fun e => by have := hne p e.symm; have := h.lp; omega), hb.block p hlp, h.cp]
  have eq : w3.heap[q]? = some (.cells #[vs] 25 (0, 0)) := by
    rw [hg.block q (Nat.lt_of_lt_of_le hlq hb.size) (fun e => by have := hne q e.symm; have := h.lq; omega), hb.block q hlq, h.cq]
  refine ⟨b3.setCell h.hp _, h.held.below h.b0 (hh.setCell h.hp _), h.b0, h.hp, h.hq, h.lp, h.lq, h.ne, ?_, ?_, hri.set _ h.lp⟩
  · exact heap_setCell_same w3 p 0 _ _ _ ep
  · rw [heap_setCell_ne w3 p 0 q _ (fun e => h.ne e.symm)]
    exact eq
/-- Behind an append onto the records: they are stored, and the record begins anew. -/
theorem PM.close (h : PM B0 B w p q vs v R r W) {w1 w3 : World} {vs' : Value} {R' : List (List Bs)} (hb : Below W.heap.size W w1) (hg : w1.grownBy w3 vs.ownBlock) (hne : ∀ k, vs.ownBlock = some k → B ≤ k) (hri : RI B w3 vs' (.slice none 0 0) R' []) :
    PM B0 B w p q vs' (.slice none 0 0) R' [] ((w3.setCell ⟨q, 0, none⟩ vs').setCell ⟨p, 0, none⟩ (.slice none 0 0)) := by
  have hlp : p < W.heap.size := (Array.getElem?_eq_some_iff.1 h.cp).1
  have hlq : q < W.heap.size := (Array.getElem?_eq_some_iff.1 h.cq).1
  have hB0 : B0 ≤ W.heap.size := Nat.le_trans (Nat.le_trans h.hp (Nat.le_of_lt hlp)) (Nat.le_refl _)
  have b1 : Below B0 w w1 := h.below.trans (hb.mono hB0)
  have b3 : Below B0 w w3 := b1.grown hg (Nat.le_trans hB0 hb.size) (fun k hk => by have := hne k hk; have := h.lp; have := h.hp; omega)
  have hh : Below B0 W w3 := (hb.mono hB0).grown hg (Nat.le_trans hB0 hb.size) (fun k hk => by have := hne k hk; have := h.lp; have := h.hp; omega)
  have ep : w3.heap[p]? = some (.cells #[v] 33 (0, 0)) := by
    rw [hg.block p (Nat.lt_of_lt_of_le hlp hb.size) (fun e => by have := hne p e.symm; have := h.lp; omega), hb.block p hlp, h.cp]
  have eq : w3.heap[q]? = some (.cells #[vs] 25 (0, 0)) := by
    rw [hg.block q (Nat.lt_of_lt_of_le hlq hb.size) (fun e => by have := hne q e.symm; have := h.lq; omega), hb.block q hlq, h.cq]
  refine ⟨(b3.setCell h.hq _).setCell h.hp _, h.held.below h.b0 ((hh.setCell h.hq _).setCell h.hp _), h.b0, h.hp, h.hq, h.lp, h.lq, h.ne, ?_, ?_, (hri.set _ h.lq).set _ h.lp⟩
  · refine heap_setCell_same _ p 0 _ _ _ ((heap_setCell_ne w3 q 0 p _ h.ne).trans ep)
  · rw [heap_setCell_ne _ p 0 q _ (fun e => h.ne e.symm)]
    exact heap_setCell_same w3 q 0 _ _ _ eq
end

theorem cells_after {W w1 w2 : World} {p : Nat} {v : Value} {t : TypeId} (h1 : w1.heap[p]? = W.heap[p]?) (hg : w1.grownBy w2 v.ownBlock) (hc : W.heap[p]? = some (.cells #[v] t (0, 0))) (hp : p < W.heap.size) (hne : ∀ k, v.ownBlock = some k → k ≠ p) :
    w2.cell? ⟨p, 0, none⟩ = some v ∧ w2.frozen? ⟨p, 0, none⟩ = false := by
  have hlt : p < w1.heap.size := by
    rw [hc] at h1
    exact (Array.getElem?_eq_some_iff.1 h1).1
  have e : w2.heap[p]? = some (.cells #[v] t (0, 0)) := by
    rw [hg.block p hlt (fun h => hne p h.symm rfl), h1, hc]
  exact ⟨by have := cell_of_row w2 p 0 _ _ _ e; simpa using this, frozen_of_row w2 p 0 _ _ e⟩

theorem cells_kept {W w1 w2 : World} {p : Nat} {v x : Value} {t : TypeId} (h1 : w1.heap[p]? = W.heap[p]?) (hg : w1.grownBy w2 v.ownBlock) (hc : W.heap[p]? = some (.cells #[x] t (0, 0))) (hp : p < W.heap.size) (hne : ∀ k, v.ownBlock = some k → k ≠ p) :
    w2.cell? ⟨p, 0, none⟩ = some x ∧ w2.frozen? ⟨p, 0, none⟩ = false := by
  have hlt : p < w1.heap.size := by
    rw [hc] at h1
    exact (Array.getElem?_eq_some_iff.1 h1).1
  have e : w2.heap[p]? = some (.cells #[x] t (0, 0)) := by
    rw [hg.block p hlt (fun h => hne p h.symm rfl), h1, hc]
  exact ⟨by have := cell_of_row w2 p 0 _ _ _ e; simpa using this, frozen_of_row w2 p 0 _ _ e⟩

set_option maxHeartbeats 1000000 in
set_option maxRecDepth 1000000 in
theorem parse_takes (B0 B : Nat) (w : World) (p q : Nat) : Takes 29 (.pointer (some ⟨p, 0, none⟩)) (.pointer (some ⟨q, 0, none⟩)) (PI B0 B w p q) := by
  intro es x b W hI hn hx hw
  obtain ⟨vs, v, hI⟩ := hI
  have cp := hI.cp
  have cq := hI.cq
  have hRI := hI.ri
  have hlens := g0_lens es
  obtain ⟨i0, hi, hz0, hz1, hz2⟩ := info_parts infoStr
  obtain ⟨i1, hi', hz0', hz1', hz2'⟩ := info_parts infoRow
  obtain ⟨R, hR⟩ : ∃ R, (g0 es).1 = R := ⟨_, rfl⟩
  obtain ⟨r, hr⟩ : ∃ r, (g0 es).2 = r := ⟨_, rfl⟩
  rw [hR, hr] at hlens hRI hI
  have hg : ∀ b, g0 (es ++ [(x, b)]) = if b then (R ++ [r ++ [txt x]], []) else (R, r ++ [txt x]) := fun b => by rw [g0_snoc]; unfold putE; rw [hR, hr]
  have HG := Lib.hid hg
  have hT : ∀ V, Held V → Calls Tryd.prog 30 #[.string ⟨x.toArray⟩] V fun e V' => ∃ u, e = .returned u ∧ (u = .string ⟨(txt x).toArray⟩ ∧ Below V.heap.size V V') := fun V hV => by
    refine (text_any ⟨x.toArray⟩ V hV (by show x.toArray.size ≤ _; simp; omega) hw).mono ?_
    rintro e V' ⟨rfl, hb⟩
    exact ⟨_, rfl, rfl, hb⟩
  have HT := Lib.hid hT
  have HI := Lib.hid hI
  have HRI := Lib.hid hRI
  have CP := Lib.hid cp
  have CQ := Lib.hid cq
  have hplt : p < W.heap.size := (Array.getElem?_eq_some_iff.1 cp).1
  have hqlt : q < W.heap.size := (Array.getElem?_eq_some_iff.1 cq).1
  have q0 := cell_of_row W p 0 _ _ _ cp
  have f0 := frozen_of_row W p 0 _ _ cp
  simp at q0
  obtain ⟨base, hbase, hBb, hown, hfield⟩ := hRI.field
  have HOWN := Lib.hid hown
  have HFIELD := Lib.hid hfield
  have hl2 : r.length ≤ 65536 := by omega
  have hl1 : R.length ≤ 65536 := by omega
  have lp := hI.lp
  have lq := hI.lq
  have hpq := hI.ne
  clear hg hT hI hRI cp cq hown hfield hR hr hlens hw
  go_enter Tryd.func29, Tryd.ntmps29
  go_wp2_with fail
  have HTD := Lib.hid (HT.out W.drew HI.out.held)
  have HC3 := Lib.hid (fun (w1 w2 : World) (h1 : w1.heap[p]? = W.heap[p]?) (hg : w1.grownBy w2 v.ownBlock) => cells_after (p := p) (v := v) h1 hg CP.out hplt (fun k hk => by have := (HOWN.out.lt k hk).1; omega))
  go_region_law
    (first
      | (refine step_call (P := Tryd.prog) (R := fun u V' => u = .string ⟨(txt x).toArray⟩ ∧ Below W.drew.heap.size W.drew V') rfl 30 #[.tmp 7] #[9] (by rfl) (enters_of Tryd.func30 (by kernel_rfl) rfl) #[.string ⟨x.toArray⟩] (by simp [Act.eval, Act.put]) HTD.out ?_
         rintro u w1 ⟨rfl, hb1⟩
         have q1 := cell_of_row w1 p 0 _ _ _ ((hb1.block p hplt).trans CP.out)
         have f1 := frozen_of_row w1 p 0 _ _ ((hb1.block p hplt).trans CP.out)
         simp at q1
         have hbW : Below W.heap.size W w1 := ⟨hb1.os, hb1.tape, hb1.output, hb1.size, hb1.block⟩
         have q2 : ∀ o, (w1.alloc o).cell? ⟨p, 0, none⟩ = some v := fun o => (World.cell?_of_block (w := w1) (Below.heap_alloc w1 o p (Nat.lt_of_lt_of_le hplt hbW.size))).trans q1)
      | (refine step_append_own rfl (.tmp 6) (.tmp 9) 33 rfl base 9 i0 (.string ⟨#[]⟩) 1 16 Tryd.underlying33 hi hz0 hz1 hz2 rfl (by decide) v r.length (rowC r) (by rfl) ?c0 _ 1 1 [.string ⟨(txt x).toArray⟩] (by rfl) rfl ?c1 ?c2 ?c3 ?c4 ?c5 ?_
         case c0 => exact (own_below HOWN.out hbW (fun k hk => (HOWN.out.lt k hk).2)).alloc _
         case c1 => exact cell_one_new _ _ _
         case c2 => intro u hu; simp only [List.mem_singleton] at hu; subst hu; rfl
         case c3 => unfold maxLen; omega
         case c4 => omega
         case c5 => have := hbW.size; simp; omega
         intro v' w3 ho3 hg3
         obtain ⟨A3, k3, rfl, -, -⟩ := vAt_own ho3
         obtain ⟨c3, f3⟩ := HC3.out _ w3 ((Below.heap_alloc _ _ _ (Nat.lt_of_lt_of_le hplt hbW.size)).trans (hbW.block p hplt)) hg3))
  all_goals
    have hbA : Below W.heap.size W (w1.alloc (.cells #[.string ⟨(txt x).toArray⟩] 9)) := hbW.alloc hbW.size _
    have hri3 := HFIELD.out _ (txt x) _ w3 hbA ho3 hg3
    have hPM := HI.out.field hbA hg3 (fun k hk => Nat.le_trans hBb (HOWN.out.lt k hk).1) hri3
    clear ho3 hg3 hbA hri3 c3 f3 hbW q2 q1 f1 hb1 q0 f0
    generalize hw4 : w3.setCell ⟨p, 0, none⟩ (.slice A3 (r.length + 1) k3) = w4 at *
    have HPM := Lib.hid hPM
    have d0 := cell_of_row w4 p 0 _ _ _ hPM.cp
    have e0 := frozen_of_row w4 p 0 _ _ hPM.cp
    have d1 := cell_of_row w4 q 0 _ _ _ hPM.cq
    have e1 := frozen_of_row w4 q 0 _ _ hPM.cq
    simp at d0 d1
    clear hPM hw4
    obtain ⟨vals, hB4, hown4, hone4, hclose4⟩ := HPM.out.ri.close
    have HOWN4 := Lib.hid hown4
    have HCLOSE4 := Lib.hid hclose4
    clear hown4 hclose4 hone4
    cases b
    · go_wp2_with fail
      refine bodyPost_end (results_none rfl _ _ _) rfl ⟨rfl, vs, .slice A3 (r.length + 1) k3, ?_⟩
      rw [HG.out]
      exact HPM.out
    · go_wp2_with (at_builtin; refine wpList_append_own _ rfl _ _ 25 rfl B 33 i1 (.slice none 0 0) 1 24 Tryd.underlying25 hi' hz0' hz1' hz2' rfl (by decide) _ _ _ rfl (HOWN4.out.alloc _) ⟨w4.heap.size, 0, none⟩ 1 1 [.slice A3 (r.length + 1) k3] rfl rfl ?c1 ?c2 ?c3 ?c4 ?c5 ?_)
      case c1 => exact cell_one_new _ _ _
      case c2 => intro u hu; simp only [List.mem_singleton] at hu; subst hu; rfl
      case c3 => unfold maxLen; omega
      case c4 => omega
      case c5 => simp; omega
      intro vs' w6 ho6 hg6 _
      obtain ⟨A6, k6, rfl, -, -⟩ := vAt_own ho6
      have hbB : Below w4.heap.size w4 (w4.alloc (.cells #[.slice A3 (r.length + 1) k3] 33)) := (Below.refl _ _).alloc (Nat.le_refl _) _
      have hri6 := HCLOSE4.out _ _ w6 hbB ho6 hg6
      have hne6 : ∀ k, vs.ownBlock = some k → B ≤ k := fun k hk => (HOWN4.out.lt k hk).1
      have hPM6 := HPM.out.close hbB hg6 hne6 hri6
      have hlp4 : p < w4.heap.size := (Array.getElem?_eq_some_iff.1 HPM.out.cp).1
      have hlq4 : q < w4.heap.size := (Array.getElem?_eq_some_iff.1 HPM.out.cq).1
      obtain ⟨c6, f6⟩ := cells_after (p := q) (v := vs) (Below.heap_alloc _ _ _ hlq4) hg6 HPM.out.cq hlq4 (fun k hk => by have := hne6 k hk; omega)
      obtain ⟨c7, f7⟩ := cells_kept (p := p) (v := vs) (Below.heap_alloc _ _ _ hlp4) hg6 HPM.out.cp hlp4 (fun k hk => by have := hne6 k hk; omega)
      have c8 : ∀ u, (w6.setCell ⟨q, 0, none⟩ u).cell? ⟨p, 0, none⟩ = some (.slice A3 (r.length + 1) k3) := fun u => (World.cell?_of_block (w := w6) (heap_setCell_ne w6 q 0 p u hpq)).trans c7
      have f8 : ∀ u, (w6.setCell ⟨q, 0, none⟩ u).frozen? ⟨p, 0, none⟩ = false := fun u => (World.frozen?_of_block (w := w6) (heap_setCell_ne w6 q 0 p u hpq)).trans f7
      have HPM6 := Lib.hid hPM6
      clear hPM6 ho6 hg6 hri6 hbB hne6 d0 d1 e0 e1 c7 f7
      go_wp2
      refine bodyPost_end (results_none rfl _ _ _) rfl ⟨rfl, .slice A6 (R.length + 1) k6, .slice none 0 0, ?_⟩
      rw [HG.out]
      exact HPM6.out

/-- The records of a text, or none; where it is spoilt, and the error. -/
def recsP (s : ByteArray) : List (List Bs) := if s.size ≤ 65536 ∧ place 0 0 (tx s) = none then (g0 (evs 0 [] (tx s))).1 else []
def atP (s : ByteArray) : Int := if s.size ≤ 65536 then pz (place 0 0 (tx s)) else 0
def erP (s : ByteArray) : Int := if s.size ≤ 65536 then ez (place 0 0 (tx s)) else 3
def ParsePost (s : ByteArray) (w : World) (e : Ending) (w' : World) : Prop :=
  ∃ A c, e = .returned (.tuple #[.slice A (recsP s).length c, .int .i64 (atP s), .int .i64 (erP s)]) ∧ RecsAt w' A (recsP s) ∧ Below w.heap.size w w'

set_option maxHeartbeats 1000000 in
set_option maxRecDepth 1000000 in
theorem parse_any (s : ByteArray) (w : World) (hH : Held w) :
    Calls Tryd.prog 19 #[.string s] w (ParsePost s w) := by
  obtain ⟨B0, hB⟩ : ∃ B0, w.heap.size = B0 := ⟨_, rfl⟩
  have a0 : ((w.alloc (.cells #[.slice none 0 0] 25)).alloc (.cells #[.slice none 0 0] 33)).heap[B0]? = some (.cells #[.slice none 0 0] 25 (0, 0)) := by rw [← hB]; exact heap_alloc2_old w _ _
  have a1 : ((w.alloc (.cells #[.slice none 0 0] 25)).alloc (.cells #[.slice none 0 0] 33)).heap[B0 + 1]? = some (.cells #[.slice none 0 0] 33 (0, 0)) := by rw [← hB]; exact heap_alloc2_new w _ _
  have ab : Below B0 w ((w.alloc (.cells #[.slice none 0 0] 25)).alloc (.cells #[.slice none 0 0] 33)) := ((Below.refl B0 w).alloc (by omega) _).alloc (by simp; omega) _
  have hB1 : 0 < B0 := by rw [← hB]; exact hH.1
  have hPM : PM B0 (B0 + 2) w (B0 + 1) B0 (.slice none 0 0) (.slice none 0 0) [] [] ((w.alloc (.cells #[.slice none 0 0] 25)).alloc (.cells #[.slice none 0 0] 33)) :=
    ⟨ab, hH.below hB1 ab, hB1, by omega, by omega, by omega, by omega, by omega, a1, a0, RI.start (by simp; omega)⟩
  have HPM := Lib.hid hPM
  clear hPM a0 a1 ab
  by_cases hs : s.size ≤ 65536
  · have hW := fun W (h : PI B0 (B0 + 2) w (B0 + 1) B0 [] W) => walk_any 29 (enters_of Tryd.func29 (by kernel_rfl) rfl) (.pointer (some ⟨B0 + 1, 0, none⟩)) (.pointer (some ⟨B0, 0, none⟩)) _ (parse_takes B0 (B0 + 2) w (B0 + 1) B0) s W hs h
    unfold WalkPost at hW
    unfold ParsePost
    have ea : atP s = pz (place 0 0 (tx s)) := if_pos hs
    have ee : erP s = ez (place 0 0 (tx s)) := if_pos hs
    cases hp : place 0 0 (tx s) with
    | none =>
      have er : recsP s = (g0 (evs 0 [] (tx s))).1 := if_pos ⟨hs, hp⟩
      rw [er, ea, ee, hp]
      rw [hp] at hW
      have HW := Lib.hid hW
      clear hW hp er ea ee
      generalize evs 0 [] (tx s) = es at *
      go_enter Tryd.func19, Tryd.ntmps19
      go_wp2_with fail
      refine (HW.out _ ⟨_, _, HPM.out⟩).mono ?_
      rintro e w3 ⟨rfl, vs, v, hI⟩
      clear HPM HW
      obtain ⟨A, c, rfl, hR⟩ := hI.ri.reads
      have q0 := cell_of_row w3 _ 0 _ _ _ hI.cp
      have q1 := cell_of_row w3 _ 0 _ _ _ hI.cq
      have f0 := frozen_of_row w3 _ 0 _ _ hI.cp
      have f1 := frozen_of_row w3 _ 0 _ _ hI.cq
      have HI := Lib.hid hI
      have HR := Lib.hid hR
      clear hI hR
      simp at q0 q1
      simp only [pz, ez]
      go_wp2_with fail
      have hb := HI.out.below.setCell (p := ⟨B0, 0, none⟩) (Nat.le_refl _) (.slice A (g0 es).fst.length c)
      have r0 := heap_setCell_same w3 B0 0 _ _ (.slice A (g0 es).fst.length c) HI.out.cq
      obtain ⟨A', c', e', hR'⟩ := (HI.out.ri.set (p := B0) (.slice A (g0 es).fst.length c) (by omega)).reads
      injection e' with e1 e2 e3
      subst e1
      refine bodyPost_ret (results_cell_tmps rfl _ _ ⟨B0, 0, none⟩ (.slice A (g0 es).fst.length c) rfl Tryd.isAgg25 ?_) rfl ?_
      · exact cell_of_row _ _ 0 _ _ _ r0
      · rw [hB]
        exact ⟨A, c, rfl, hR', hb⟩
    | some k =>
      have er : recsP s = [] := if_neg (by rw [hp]; simp)
      rw [er, ea, ee, hp]
      rw [hp] at hW
      have HW := Lib.hid hW
      clear hW hp er ea ee
      generalize evs 0 [] (tx s) = es at *
      go_enter Tryd.func19, Tryd.ntmps19
      go_wp2_with fail
      refine (HW.out _ ⟨_, _, HPM.out⟩).mono ?_
      rintro e w3 ⟨rfl, vs, v, hI⟩
      clear HPM HW
      have q0 := cell_of_row w3 _ 0 _ _ _ hI.cp
      have q1 := cell_of_row w3 _ 0 _ _ _ hI.cq
      have f0 := frozen_of_row w3 _ 0 _ _ hI.cp
      have f1 := frozen_of_row w3 _ 0 _ _ hI.cq
      have HI := Lib.hid hI
      clear hI
      simp at q0 q1
      simp only [pz, ez]
      go_wp2_with fail
      have hb := HI.out.below.setCell (p := ⟨B0, 0, none⟩) (Nat.le_refl _) (.slice none 0 0)
      have r0 := heap_setCell_same w3 B0 0 _ _ (.slice none 0 0) HI.out.cq
      refine bodyPost_ret (results_cell_tmps rfl _ _ ⟨B0, 0, none⟩ (.slice none 0 0) rfl Tryd.isAgg25 ?_) rfl ?_
      · exact cell_of_row _ _ 0 _ _ _ r0
      · rw [hB]
        exact ⟨none, 0, rfl, RecsAt.nil _ _, hb⟩
  · have er : recsP s = [] := if_neg (by simp [hs])
    have ea : atP s = 0 := if_neg hs
    have ee : erP s = 3 := if_neg hs
    unfold ParsePost
    rw [er, ea, ee]
    clear er ea ee
    have hW := Lib.hid (fun c W => walk_long s c W (by omega))
    have q0 := cell_of_row _ _ 0 _ _ _ HPM.out.cp
    have q1 := cell_of_row _ _ 0 _ _ _ HPM.out.cq
    have f0 := frozen_of_row _ _ 0 _ _ HPM.out.cp
    have f1 := frozen_of_row _ _ 0 _ _ HPM.out.cq
    go_enter Tryd.func19, Tryd.ntmps19
    go_wp2_with fail
    refine (hW.out _ _).mono ?_
    rintro e w' ⟨rfl, rfl⟩
    generalize (w.alloc (.cells #[.slice none 0 0] 25)).alloc (.cells #[.slice none 0 0] 33) = w3 at *
    simp at q0 q1
    go_wp2_with fail
    have hb := HPM.out.below.setCell (p := ⟨B0, 0, none⟩) (Nat.le_refl _) (.slice none 0 0)
    have r0 := heap_setCell_same w3 B0 0 _ _ (.slice none 0 0) HPM.out.cq
    refine bodyPost_ret (results_cell_tmps rfl _ _ ⟨B0, 0, none⟩ (.slice none 0 0) rfl Tryd.isAgg25 ?_) rfl ?_
    · exact cell_of_row _ _ 0 _ _ _ r0
    · rw [hB]
      exact ⟨none, 0, rfl, RecsAt.nil _ _, hb⟩
end Go.Proofs.YtafpddpeffpnfaaDoor.Cv
