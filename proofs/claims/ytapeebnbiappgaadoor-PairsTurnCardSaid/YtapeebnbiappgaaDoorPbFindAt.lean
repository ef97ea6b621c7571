/-
  What lies in memory while pairs.Find goes over the places: the codes, the pairs that were found, the stack of what is open, each in its variable; and what is gone over from the stack's top down. 
-/
import Derived.Test.YtapeebnbiappgaaDoorPbDown
import Derived.Test.YtapeebnbiappgaaDoorPrMore
import Derived.Test.YtapeebnbiappgaaDoorPrRows
import Derived.Test.YtapeebnbiappgaaDoorAddInts
import Derived.RangeFuncBox
set_option linter.unusedVariables false
namespace Go.Proofs.YtapeebnbiappgaaDoor.Pb
open Go Go.RowKit Go.Lib Go.Proofs.YtapeebnbiappgaaDoor.Cl Go.Proofs.YtapeebnbiappgaaDoor.Pr Go.Proofs.YtapeebnbiappgaaDoor.Mi

/-! From the top down. -/
def tops : List (Nat × Int) → List (Nat × Int)
  | [] => []
  | (k, _) :: s => (s.length, (k : Int)) :: tops s
theorem tops_len : ∀ s, (tops s).length = s.length
  | [] => rfl
  | _ :: s => by rw [tops, List.length_cons, List.length_cons, tops_len s]
theorem tops_at : ∀ (s1 : List (Nat × Int)) (k : Nat) (o : Int) (s2 : List (Nat × Int)), (tops (s1 ++ (k, o) :: s2))[s1.length]? = some (s2.length, (k : Int))
  | [], k, o, s2 => rfl
  | x :: s1, k, o, s2 => by
    rw [List.cons_append, List.length_cons]
    show ((_ :: tops (s1 ++ (k, o) :: s2)) : List (Nat × Int))[s1.length + 1]? = _
    rw [List.getElem?_cons_succ]
    exact tops_at s1 k o s2
theorem downFrom_app (zs : List Int) (z : Int) : ∀ k, k ≤ zs.length → downFrom (zs ++ [z]) k = downFrom zs k
  | 0, _ => rfl
  | k + 1, h => by
    rw [downFrom, downFrom, downFrom_app zs z k (by omega)]
    congr 2
    simp [List.getD, List.getElem?_append_left (show k < zs.length by omega)]
theorem down_tops : ∀ st : List (Nat × Int), downL (stI st) = tops st
  | [] => rfl
  | (k, o) :: st => by
    have ih := down_tops st
    unfold downL at ih ⊢
    rw [stI_push, List.length_append, List.length_singleton, downFrom, downFrom_app _ _ _ (Nat.le_refl _), ih, tops]
    congr 2
    · exact stI_len st
    · simp [List.getD]
/-- What has been gone over does not meet. -/
def Gone (st : List (Nat × Int)) (c : Int) (pre : List (Nat × Int)) : Prop := ∃ s1 s2 : List (Nat × Int), st = s1 ++ s2 ∧ pre = (tops st).take s1.length ∧ ∀ y : Nat × Int, y ∈ s1 → meetT y.2 c = false
theorem Gone.nil (st : List (Nat × Int)) (c : Int) : Gone st c [] := ⟨[], st, rfl, by simp, by simp⟩
theorem Gone.next {st : List (Nat × Int)} {c : Int} {pre : List (Nat × Int)} {x : Nat × Int} (h : Gone st c pre) (hx : pre ++ [x] <+: downL (stI st)) :
    ∃ (s1 : List (Nat × Int)) (k : Nat) (o : Int) (s2 : List (Nat × Int)), st = s1 ++ (k, o) :: s2 ∧ x = (s2.length, (k : Int)) ∧ (∀ y : Nat × Int, y ∈ s1 → meetT y.2 c = false) ∧ (meetT o c = false → Gone st c (pre ++ [x])) := by
  rw [down_tops] at hx
  obtain ⟨s1, s2, rfl, rfl, hn⟩ := h
  have hlen := hx.length_le
  rw [List.length_append, List.length_take, tops_len, List.length_append, List.length_singleton] at hlen
  cases s2 with
  | nil => simp at hlen; omega
  | cons y s2 =>
    obtain ⟨k, o⟩ := y
    obtain ⟨r, hr⟩ := hx
    have h2 := tops_at s1 k o s2
    have h3 : (tops (s1 ++ (k, o) :: s2))[s1.length]? = some x := by
      rw [← hr]
      have hl : ((tops (s1 ++ (k, o) :: s2)).take s1.length).length = s1.length := by rw [List.length_take, tops_len]; simp
      rw [List.getElem?_append_left (by rw [List.length_append, hl]; simp), List.getElem?_append_right (by rw [hl]; exact Nat.le_refl _), hl]
      simp
    rw [h2] at h3
    injection h3 with h3
    refine ⟨s1, k, o, s2, rfl, h3.symm, hn, fun hm => ⟨s1 ++ [(k, o)], s2, by simp, ?_, ?_⟩⟩
    · rw [List.length_append, List.length_singleton, List.take_add_one, h2, ← h3]
      rfl
    · intro y hy
      rcases List.mem_append.1 hy with hy | hy
      · exact hn y hy
      · obtain rfl : y = (k, o) := by simpa using hy
        exact hm
theorem Gone.all {st : List (Nat × Int)} {c : Int} (h : Gone st c (downL (stI st))) : dropTo c st = none := by
  obtain ⟨s1, s2, rfl, he, hn⟩ := h
  rw [down_tops] at he
  have := congrArg List.length he
  rw [List.length_take, tops_len, List.length_append] at this
  have h0 : s2 = [] := List.eq_nil_of_length_eq_zero (by omega)
  subst h0
  rw [List.append_nil]
  exact dropTo_none hn

/-! Memory. -/
structure FindAt (w W : World) (cs vl vo : Value) (L : List (Nat × Nat)) (Z : List Int) : Prop where
  bc : Boxed W w.heap.size 22 cs
  bl : Boxed W (w.heap.size + 1) 25 vl
  bo : Boxed W (w.heap.size + 2) 38 vo
  ol : W.ownsRow w.heap.size 31 2 vl L.length (cellsP L)
  oo : W.ownsRow w.heap.size 3 1 vo Z.length (icl Z)
  below : Below w.heap.size w W

theorem own_not {W : World} {b1 e1 s1 n1 b2 e2 s2 n2 : Nat} {v1 v2 : Value} {x1 x2 : List Value} (h1 : W.ownsRow b1 e1 s1 v1 n1 x1) (h2 : W.ownsRow b2 e2 s2 v2 n2 x2) (he : e1 ≠ e2) : v1.ownBlock = none ∨ v1.ownBlock ≠ v2.ownBlock := by
  rcases h1.2 with ⟨rfl, _⟩ | ⟨g, cap, cur, rfl, _, hg, _⟩
  · exact .inl rfl
  · refine .inr fun e => ?_
    rcases h2.2 with ⟨rfl, _⟩ | ⟨g', cap', cur', rfl, _, hg', _⟩
    · cases e
    · obtain rfl : g = g' := by simpa [Value.ownBlock] using e
      rw [hg] at hg'
      injection hg' with hg'
      injection hg' with _ h3
      exact he h3
theorem own_cells {W : World} {b e s n : Nat} {v : Value} {xs : List Value} (h : W.ownsRow b e s v n xs) {row : Option Nat} (hr : ∀ r, row = some r → ∃ o : Obj, W.heap[r]? = some o ∧ o.isCells = false) : v.ownBlock = none ∨ v.ownBlock ≠ row := by
  rcases h.2 with ⟨rfl, _⟩ | ⟨g, cap, cur, rfl, _, hg, _⟩
  · exact .inl rfl
  · refine .inr fun e => ?_
    obtain ⟨o, ho, hc⟩ := hr g (by rw [← e]; rfl)
    rw [hg] at ho
    cases ho
    cases hc
theorem box_cells {W : World} {B : Nat} {t : TypeId} {v : Value} (h : Boxed W B t v) {row : Option Nat} (hr : ∀ r, row = some r → ∃ o : Obj, W.heap[r]? = some o ∧ o.isCells = false) : some B ≠ row := fun e => by
  obtain ⟨o, ho, hc⟩ := hr B e.symm
  rw [show W.heap[B]? = _ from h] at ho
  cases ho
  cases hc

section
variable {w W W' w1 : World} {cs vl vo v' : Value} {L L' : List (Nat × Nat)} {Z Z' : List Int} {row : Option Nat}
theorem FindAt.kept (h : FindAt w W cs vl vo L Z) (hg : W.grownBy W' row) (hr : ∀ r, row = some r → w.heap.size ≤ r ∧ ∃ o : Obj, W.heap[r]? = some o ∧ o.isCells = false) : FindAt w W' cs vl vo L Z :=
  have hc := fun r e => (hr r e).2
  ⟨h.bc.kept hg (box_cells h.bc hc), h.bl.kept hg (box_cells h.bl hc), h.bo.kept hg (box_cells h.bo hc), h.ol.kept hg (own_cells h.ol hc), h.oo.kept hg (own_cells h.oo hc), h.below.grown hg h.below.size (fun k e => (hr k e).1)⟩
theorem FindAt.later (h : FindAt w W cs vl vo L Z) (hb : Below W.heap.size W W') : FindAt w W' cs vl vo L Z :=
  h.kept (row := none) ⟨hb.os, hb.tape, hb.output, hb.size, fun k hk _ => hb.block k hk⟩ (fun r e => by cases e)
theorem FindAt.putObj (h : FindAt w W cs vl vo L Z) {D : Nat} {o : Obj} (o' : Obj) (hD : w.heap.size ≤ D) (ho : W.heap[D]? = some o) (hc : o.isCells = false) : FindAt w (W.putObj D o') cs vl vo L Z :=
  h.kept (grownBy_putObj' W D o') (fun r e => by cases e; exact ⟨hD, o, ho, hc⟩)
theorem FindAt.alloc (h : FindAt w W cs vl vo L Z) (o : Obj) : FindAt w (W.alloc o) cs vl vo L Z := h.later (below_made W o)
theorem FindAt.pushed (h : FindAt w W cs vl vo L Z) (hown : w1.ownsRow w.heap.size 3 1 v' Z'.length (icl Z')) (hg : W.grownBy w1 vo.ownBlock) :
    Boxed w1 (w.heap.size + 2) 38 vo ∧ FindAt w (w1.setCell ⟨w.heap.size + 2, 0, none⟩ v') cs vl v' L Z' ∧ KeepsOthers W (w1.setCell ⟨w.heap.size + 2, 0, none⟩ v') := by
  have hbo := h.bo.kept hg (h.bo.not_row (by decide) h.oo)
  have hbc := h.bc.kept hg (h.bc.not_row (by decide) h.oo)
  have hbl := h.bl.kept hg (h.bl.not_row (by decide) h.oo)
  have hol := h.ol.kept hg (own_not h.ol h.oo (by decide))
  have hs := grownBy_setCell' w1 (w.heap.size + 2) v'
  refine ⟨hbo, ⟨hbc.kept hs (by simp), hbl.kept hs (by simp), hbo.set v', hol.kept hs (.inr (hbo.not_row (by decide) hol).symm), hown.kept hs (.inr (hbo.not_row (by decide) hown).symm), ?_⟩, ?_⟩
  · refine (h.below.grown hg h.below.size (fun k e => (h.oo.lt k e).1)).setCell (p := ⟨w.heap.size + 2, 0, none⟩) (by show w.heap.size ≤ w.heap.size + 2; omega) v'
  · refine (KeepsOthers.of_grownBy hg fun j o ej hj => ?_).trans (KeepsOthers.setCell _ _ _)
    rcases h.oo.2 with ⟨rfl, _⟩ | ⟨g, cap, cur, rfl, _, hgb, _⟩
    · cases ej
    · obtain rfl : g = j := by simpa [Value.ownBlock] using ej
      rw [hgb] at hj; cases hj; rfl
theorem FindAt.paired (h : FindAt w W cs vl vo L Z) (hown : w1.ownsRow w.heap.size 31 2 v' L'.length (cellsP L')) (hg : W.grownBy w1 vl.ownBlock) :
    Boxed w1 (w.heap.size + 1) 25 vl ∧ FindAt w (w1.setCell ⟨w.heap.size + 1, 0, none⟩ v') cs v' vo L' Z ∧ KeepsOthers W (w1.setCell ⟨w.heap.size + 1, 0, none⟩ v') := by
  have hbo := h.bo.kept hg (h.bo.not_row (by decide) h.ol)
  have hbc := h.bc.kept hg (h.bc.not_row (by decide) h.ol)
  have hbl := h.bl.kept hg (h.bl.not_row (by decide) h.ol)
  have hoo := h.oo.kept hg (own_not h.oo h.ol (by decide))
  have hs := grownBy_setCell' w1 (w.heap.size + 1) v'
  refine ⟨hbl, ⟨hbc.kept hs (by simp), hbl.set v', hbo.kept hs (by simp), hown.kept hs (.inr (hbl.not_row (by decide) hown).symm), hoo.kept hs (.inr (hbl.not_row (by decide) hoo).symm), ?_⟩, ?_⟩
  · refine (h.below.grown hg h.below.size (fun k e => (h.ol.lt k e).1)).setCell (p := ⟨w.heap.size + 1, 0, none⟩) (by show w.heap.size ≤ w.heap.size + 1; omega) v'
  · refine (KeepsOthers.of_grownBy hg fun j o ej hj => ?_).trans (KeepsOthers.setCell _ _ _)
    rcases h.ol.2 with ⟨rfl, _⟩ | ⟨g, cap, cur, rfl, _, hgb, _⟩
    · cases ej
    · obtain rfl : g = j := by simpa [Value.ownBlock] using ej
      rw [hgb] at hj; cases hj; rfl
theorem FindAt.cut {g n cap : Nat} (h : FindAt w W cs vl (.slice (some ⟨g, 0, none⟩) n cap) L Z) {k : Nat} (hk : k ≤ Z.length) :
    FindAt w (W.setCell ⟨w.heap.size + 2, 0, none⟩ (.slice (some ⟨g, 0, none⟩) k cap)) cs vl (.slice (some ⟨g, 0, none⟩) k cap) L (Z.take k) ∧ KeepsOthers W (W.setCell ⟨w.heap.size + 2, 0, none⟩ (.slice (some ⟨g, 0, none⟩) k cap)) := by
  have hs := grownBy_setCell' W (w.heap.size + 2) (.slice (some ⟨g, 0, none⟩) k cap)
  have hrow : W.ownsRow w.heap.size 3 1 (.slice (some ⟨g, 0, none⟩) k cap) (Z.take k).length (icl (Z.take k)) := by
    have hl := h.oo.1
    rw [icl_len] at hl
    rcases h.oo.2 with ⟨e, _⟩ | ⟨g', cap', cur, e, hB, hg, hle, hmax, hsz, htk⟩
    · cases e
    · injection e with e1 e2 e3
      injection e1 with e1
      injection e1 with e1
      subst e1 e3
      have hkl : (Z.take k).length = k := by rw [List.length_take]; omega
      rw [hkl]
      refine ⟨by rw [icl_len, hkl]; omega, .inr ⟨g, cap, cur, rfl, hB, hg, by omega, hmax, hsz, ?_⟩⟩
      have := congrArg (List.take k) htk
      rw [List.take_take] at this
      rw [Nat.mul_one]
      rw [Nat.mul_one, Nat.min_eq_left hk] at this
      rw [this, icl, icl, List.map_take]
  exact ⟨⟨h.bc.kept hs (by simp), h.bl.kept hs (by simp), h.bo.set _, h.ol.kept hs (.inr (h.bo.not_row (by decide) h.ol).symm), hrow.kept hs (.inr (h.bo.not_row (by decide) hrow).symm), h.below.setCell (p := ⟨w.heap.size + 2, 0, none⟩) (by show w.heap.size ≤ w.heap.size + 2; omega) _⟩, KeepsOthers.setCell _ _ _⟩
end
end Go.Proofs.YtapeebnbiappgaaDoor.Pb
