/-
  Rows of lines in memory: their cells, as they are read; a line as a value, its five cells in a block. No program in it but its type.
-/
import Derived.Test.YtikjchebffohdaaRuRows
import Derived.Laws.Rows
set_option linter.unusedVariables false
namespace Go.Proofs.Ytikjchebffohdaa.Wr
open Go Go.RowKit Go.Lib Go.Proofs.Ytikjchebffohdaa.Ku

/-- A line: from, to, show, hard, dots. -/
structure L5 where
  f : Int
  t : Int
  s : Int
  h : Int
  d : Int
deriving DecidableEq
def cellsL (l : List L5) : List Value := l.flatMap fun x => [.int .i64 x.f, .int .i64 x.t, .int .i64 x.s, .int .i64 x.h, .int .i64 x.d]
theorem cellsL_len (l : List L5) : (cellsL l).length = l.length * 5 := by
  induction l with
  | nil => rfl
  | cons r l ih => simp [cellsL] at ih ⊢; omega
theorem cellsL_snoc (l : List L5) (x : L5) : cellsL (l ++ [x]) = cellsL l ++ [.int .i64 x.f, .int .i64 x.t, .int .i64 x.s, .int .i64 x.h, .int .i64 x.d] := by simp [cellsL]
theorem cellsL_at : ∀ (l : List L5) (k : Nat) (hk : k < l.length), (cellsL l)[k * 5]? = some (.int .i64 l[k].f) ∧ (cellsL l)[k * 5 + 1]? = some (.int .i64 l[k].t) ∧ (cellsL l)[k * 5 + 2]? = some (.int .i64 l[k].s) ∧ (cellsL l)[k * 5 + 3]? = some (.int .i64 l[k].h) ∧ (cellsL l)[k * 5 + 4]? = some (.int .i64 l[k].d)
  | r :: l, 0, _ => ⟨rfl, rfl, rfl, rfl, rfl⟩
  | r :: l, k + 1, hk => by
    have := cellsL_at l k (by simpa using hk)
    rw [show (k + 1) * 5 = k * 5 + 5 from by omega]
    exact this
/-- A row of lines. -/
def LiAt (w : World) (A : Option Addr) (l : List L5) : Prop :=
  l = [] ∨ ∃ b off, A = some ⟨b, off, none⟩ ∧ b < w.heap.size ∧ ∀ k (hk : k < l.length), w.cell? ⟨b, off + k * 5, none⟩ = some (.int .i64 l[k].f) ∧ w.cell? ⟨b, off + k * 5 + 1, none⟩ = some (.int .i64 l[k].t) ∧ w.cell? ⟨b, off + k * 5 + 2, none⟩ = some (.int .i64 l[k].s) ∧ w.cell? ⟨b, off + k * 5 + 3, none⟩ = some (.int .i64 l[k].h) ∧ w.cell? ⟨b, off + k * 5 + 4, none⟩ = some (.int .i64 l[k].d)
theorem LiAt.below {w w' : World} {A : Option Addr} {l : List L5} (h : LiAt w A l) (hb : Below w.heap.size w w') : LiAt w' A l := by
  rcases h with h | ⟨b, off, hA, hlt, hc⟩
  · exact .inl h
  · refine .inr ⟨b, off, hA, Nat.lt_of_lt_of_le hlt hb.size, fun k hk => ?_⟩
    obtain ⟨h0, h1, h2, h3, h4⟩ := hc k hk
    exact ⟨(hb.cell (p := ⟨b, off + k * 5, none⟩) hlt).trans h0, (hb.cell (p := ⟨b, off + k * 5 + 1, none⟩) hlt).trans h1, (hb.cell (p := ⟨b, off + k * 5 + 2, none⟩) hlt).trans h2, (hb.cell (p := ⟨b, off + k * 5 + 3, none⟩) hlt).trans h3, (hb.cell (p := ⟨b, off + k * 5 + 4, none⟩) hlt).trans h4⟩
theorem LiAt.at_ {w : World} {A : Option Addr} {l : List L5} (h : LiAt w A l) {k : Nat} (hk : k < l.length) : ∃ b off, A = some ⟨b, off, none⟩ ∧ b < w.heap.size ∧ w.cell? ⟨b, off + k * 5, none⟩ = some (.int .i64 l[k].f) ∧ w.cell? ⟨b, off + k * 5 + 1, none⟩ = some (.int .i64 l[k].t) ∧ w.cell? ⟨b, off + k * 5 + 2, none⟩ = some (.int .i64 l[k].s) ∧ w.cell? ⟨b, off + k * 5 + 3, none⟩ = some (.int .i64 l[k].h) ∧ w.cell? ⟨b, off + k * 5 + 4, none⟩ = some (.int .i64 l[k].d) := by
  rcases h with rfl | ⟨b, off, hA, hlt, hc⟩
  · simp at hk
  · obtain ⟨h0, h1, h2, h3, h4⟩ := hc k hk
    exact ⟨b, off, hA, hlt, h0, h1, h2, h3, h4⟩
theorem liAt_own {w : World} {B : Nat} {t : TypeId} {v : Value} {l : List L5} (h : w.ownsRow B t 5 v l.length (cellsL l)) : ∃ A c, v = .slice A l.length c ∧ LiAt w A l := by
  have hc := @World.ownsRow.cells _ _ _ _ _ _ _ h
  rcases h.2 with ⟨rfl, hn⟩ | ⟨g, cap, cur, rfl, _, hg, _⟩
  · exact ⟨none, 0, by rw [hn], .inl (List.eq_nil_of_length_eq_zero hn)⟩
  · refine ⟨_, cap, rfl, .inr ⟨g, 0, rfl, (Array.getElem?_eq_some_iff.1 hg).1, fun k hk => ?_⟩⟩
    obtain ⟨h0, h1, h2, h3, h4⟩ := cellsL_at l k hk
    refine ⟨?_, ?_, ?_, ?_, ?_⟩
    · have := hc (g := g) rfl _ _ h0; rw [add_off] at this; exact this
    · have := hc (g := g) rfl _ _ h1; rw [add_off] at this; exact this
    · have := hc (g := g) rfl _ _ h2; rw [add_off] at this; exact this
    · have := hc (g := g) rfl _ _ h3; rw [add_off] at this; exact this
    · have := hc (g := g) rfl _ _ h4; rw [add_off] at this; exact this
theorem infoL : (Try.prog.info? 24).map (fun i => (i.zero, i.size, i.bytes)) = some (some (.agg #[.int .i64 0, .int .i64 0, .int .i64 0, .int .i64 0, .int .i64 0]), 5, 40) := by kernel_rfl

def lnV (x : L5) : Value := .agg #[.int .i64 x.f, .int .i64 x.t, .int .i64 x.s, .int .i64 x.h, .int .i64 x.d]
theorem infoLs : (Try.prog.info? 24).map (·.size) = some 5 := by kernel_rfl
theorem five_set {Z : World} {b : Nat} {t : TypeId} {a0 a1 a2 a3 a4 : Value} (x0 x1 x2 x3 x4 : Value) (h : Z.heap[b]? = some (.cells #[a0, a1, a2, a3, a4] t (0, 0))) :
    (((((Z.setCell ⟨b, 0, none⟩ x0).setCell ⟨b, 1, none⟩ x1).setCell ⟨b, 2, none⟩ x2).setCell ⟨b, 3, none⟩ x3).setCell ⟨b, 4, none⟩ x4).heap[b]? = some (.cells #[x0, x1, x2, x3, x4] t (0, 0)) :=
  heap_setCell_same _ b 4 _ _ _ (heap_setCell_same _ b 3 _ _ _ (heap_setCell_same _ b 2 _ _ _ (heap_setCell_same _ b 1 _ _ _ (heap_setCell_same Z b 0 _ _ _ h))))

theorem cell5 {U : World} {b : Nat} {t : TypeId} {a0 a1 a2 a3 a4 : Value} (h : U.heap[b]? = some (.cells #[a0, a1, a2, a3, a4] t (0, 0))) :
    (U.cell? ⟨b, 0, none⟩ = some a0 ∧ U.cell? ⟨b, 1, none⟩ = some a1 ∧ U.cell? ⟨b, 2, none⟩ = some a2 ∧ U.cell? ⟨b, 3, none⟩ = some a3 ∧ U.cell? ⟨b, 4, none⟩ = some a4) ∧
    U.frozen? ⟨b, 0, none⟩ = false ∧ U.frozen? ⟨b, 1, none⟩ = false ∧ U.frozen? ⟨b, 2, none⟩ = false ∧ U.frozen? ⟨b, 3, none⟩ = false ∧ U.frozen? ⟨b, 4, none⟩ = false :=
  ⟨⟨cell_of_row U b 0 _ _ _ h, cell_of_row U b 1 _ _ _ h, cell_of_row U b 2 _ _ _ h, cell_of_row U b 3 _ _ _ h, cell_of_row U b 4 _ _ _ h⟩, frozen_of_row U b 0 _ _ h, frozen_of_row U b 1 _ _ h, frozen_of_row U b 2 _ _ h, frozen_of_row U b 3 _ _ h, frozen_of_row U b 4 _ _ h⟩
theorem below_five {w U : World} {b : Nat} (h : Below w.heap.size w U) (hb : w.heap.size ≤ b) (x0 x1 x2 x3 x4 : Value) :
    Below w.heap.size w (((((U.setCell ⟨b, 0, none⟩ x0).setCell ⟨b, 1, none⟩ x1).setCell ⟨b, 2, none⟩ x2).setCell ⟨b, 3, none⟩ x3).setCell ⟨b, 4, none⟩ x4) :=
  ((((h.setCell (by exact hb) _).setCell (by exact hb) _).setCell (by exact hb) _).setCell (by exact hb) _).setCell (by exact hb) _
theorem two_newW (w : World) (o1 o2 : Obj) : ((w.alloc o1).alloc o2).heap[w.heap.size]? = some o1 ∧ ((w.alloc o1).alloc o2).heap[w.heap.size + 1]? = some o2 ∧ Below w.heap.size w ((w.alloc o1).alloc o2) ∧ ((w.alloc o1).alloc o2).heap.size = w.heap.size + 2 :=
  ⟨heap_alloc2_old w o1 o2, heap_alloc2_new w o1 o2, ((Below.refl _ _).alloc (Nat.le_refl _) _).alloc (by simp) _, by simp⟩
theorem line_news (w : World) (x : L5) (e : TypeId) : ∀ j u, ([.int .i64 x.f, .int .i64 x.t, .int .i64 x.s, .int .i64 x.h, .int .i64 x.d] : List Value)[j]? = some u → (w.alloc (.cells #[.int .i64 x.f, .int .i64 x.t, .int .i64 x.s, .int .i64 x.h, .int .i64 x.d] e)).cell? ((⟨w.heap.size, 0, none⟩ : Addr).add j) = some u := by
  intro j u hu
  rcases j with _ | _ | _ | _ | _ | j <;> simp at hu <;> subst hu <;> simp [Addr.add]
theorem line_news' {W : World} {B : Nat} (x : L5) (e : TypeId) (hB : W.heap.size = B) : ∀ j u, ([.int .i64 x.f, .int .i64 x.t, .int .i64 x.s, .int .i64 x.h, .int .i64 x.d] : List Value)[j]? = some u → (W.alloc (.cells #[.int .i64 x.f, .int .i64 x.t, .int .i64 x.s, .int .i64 x.h, .int .i64 x.d] e)).cell? ((⟨B, 0, none⟩ : Addr).add j) = some u := by
  subst hB
  exact line_news W x e
theorem line_one (x : L5) : ∀ u ∈ ([.int .i64 x.f, .int .i64 x.t, .int .i64 x.s, .int .i64 x.h, .int .i64 x.d] : List Value), u.oneCell' = true := by
  intro u hu
  simp at hu
  rcases hu with rfl | rfl | rfl | rfl | rfl <;> rfl
end Go.Proofs.Ytikjchebffohdaa.Wr
