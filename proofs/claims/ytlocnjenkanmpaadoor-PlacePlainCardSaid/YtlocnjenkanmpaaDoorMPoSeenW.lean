/-
  The words of the operations by which (place.laid).seen puts a cluster, and its level, on its two rows: what each slot holds, what each asks of memory, what each does to it. No program in it but its types.
-/
import Derived.Test.YtlocnjenkanmpaaDoorM22
import Derived.Test.YtlocnjenkanmpaaDoorM2
import Derived.Test.YtlocnjenkanmpaaDoorM20
set_option linter.unusedVariables false
namespace Go.Proofs.YtlocnjenkanmpaaDoor.Pl
open Go Go.RowKit Go.Lib Go.Proofs.YtlocnjenkanmpaaDoor.Ku Go.Proofs.YtlocnjenkanmpaaDoor.Wr Go.Proofs.YtlocnjenkanmpaaDoor.Arr Go.Proofs.YtlocnjenkanmpaaDoor.Cl
theorem own_kept {w w' : World} {row : Option Nat} {B n sz : Nat} {e : TypeId} {v : Value} {xs : List Value} (h : w.ownsRow B e sz v n xs) (hg : w.grownBy w' row) (hne : ∀ k, v.ownBlock = some k → row ≠ some k) : w'.ownsRow B e sz v n xs := by
  refine ⟨h.1, ?_⟩
  rcases h.2 with h0 | ⟨g, cap, cur, rfl, h2, h3, h4⟩
  · exact .inl h0
  · exact .inr ⟨g, cap, cur, rfl, h2, (hg.block g (Array.getElem?_eq_some_iff.1 h3).1 (fun e => hne g rfl e.symm)).trans h3, h4⟩
def rowS (v1 v2 : Value) (j : Nat) : Option Nat := if j = 3 then v1.ownBlock else if j = 13 then v2.ownBlock else none
def OneC (w0 : World) (x : C6) (v : Value) (w : World) : Prop := ∃ k, v = .slice (some ⟨k, 0, none⟩) 1 1 ∧ w0.heap.size ≤ k ∧ w.heap[k]? = some (.cells (c6 x) 40 (0, 0))
def OneI (w0 : World) (z : Int) (v : Value) (w : World) : Prop := ∃ k, v = .slice (some ⟨k, 0, none⟩) 1 1 ∧ w0.heap.size ≤ k ∧ w.heap[k]? = some (.cells #[.int .i64 z] 3 (0, 0))
def RowC (B n : Nat) (w0 : World) (v1 : Value) (Z : List C6) (x : C6) (v : Value) (w : World) : Prop := ∃ g cap, v = .slice (some ⟨g, 0, none⟩) (n + 1) cap ∧ w.ownsRow B 40 6 (.slice (some ⟨g, 0, none⟩) (n + 1) cap) (n + 1) (cellsC (Z ++ [x])) ∧ (v1.ownBlock = some g ∨ w0.heap.size ≤ g)
def RowI (B n : Nat) (w0 : World) (v2 : Value) (O : List Int) (z : Int) (v : Value) (w : World) : Prop := ∃ g cap, v = .slice (some ⟨g, 0, none⟩) (n + 1) cap ∧ w.ownsRow B 3 1 (.slice (some ⟨g, 0, none⟩) (n + 1) cap) (n + 1) (icl (O ++ [z])) ∧ (v2.ownBlock = some g ∨ w0.heap.size ≤ g)
def SeenF (B n : Nat) (w0 : World) (v1 v2 : Value) (Z : List C6) (O : List Int) (x : C6) (z : Int) (fa jj : Nat) (AL : Value) (gL oL bx : Nat) : Nat → Value → World → Prop
  | 0, v, w => v = v1
  | 1, v, w => v = .agg #[.int .i64 x.a, .int .i64 x.z, .int .i64 x.f, .int .i64 x.t, .int .i64 x.w, .int .i64 x.c]
  | 2, v, w => OneC w0 x v w
  | 3, v, w => RowC B n w0 v1 Z x v w
  | 4, v, w => v = v2
  | 5, v, w => v = AL
  | 6, v, w => v = .pointer (some ⟨bx, 2, none⟩)
  | 7, v, w => v = .int .i64 x.f
  | 8, v, w => v = .int .i64 fa
  | 9, v, w => v = .int .i64 jj
  | 10, v, w => v = .pointer (some ⟨gL, oL + jj, none⟩)
  | 11, v, w => v = .int .i64 z
  | 12, v, w => OneI w0 z v w
  | 13, v, w => RowI B n w0 v2 O z v w
  | 14, v, w => RowC B n w0 v1 Z x v w
  | 15, v, w => RowI B n w0 v2 O z v w
  | _, _, _ => True
def SeenP (B n : Nat) (v1 v2 : Value) (Z : List C6) (O : List Int) (i : Nat) (w : World) : Prop := (i = 3 → w.ownsRow B 40 6 v1 n (cellsC Z)) ∧ (i = 13 → w.ownsRow B 3 1 v2 n (icl O))
def SeenI (B : Nat) (w0 : World) (v1 v2 : Value) (w : World) : Prop := Below B w0 w ∧ w0.heap.size ≤ w.heap.size ∧ ∀ k, k < w0.heap.size → v1.ownBlock ≠ some k → v2.ownBlock ≠ some k → w.heap[k]? = w0.heap[k]?
/-- Where the rows lie. -/
def SeenV (B : Nat) (w0 : World) (v1 v2 : Value) : Prop := (∀ k, v1.ownBlock = some k → B ≤ k ∧ k < w0.heap.size) ∧ (∀ k, v2.ownBlock = some k → B ≤ k ∧ k < w0.heap.size) ∧ (∀ k, v1.ownBlock = some k → v2.ownBlock ≠ some k) ∧ B ≤ w0.heap.size
section
variable {B n : Nat} {w0 : World} {v1 v2 : Value} {Z : List C6} {O : List Int} {x : C6} {z : Int} {fa jj : Nat} {AL : Value} {gL oL bx : Nat}
theorem rowS_lt (hV : SeenV B w0 v1 v2) {j k : Nat} (h : rowS v1 v2 j = some k) : B ≤ k ∧ k < w0.heap.size := by
  unfold rowS at h
  split at h
  · exact hV.1 k h
  · split at h
    · exact hV.2.1 k h
    · cases h
theorem oneC_kept (hV : SeenV B w0 v1 v2) {j : Nat} {v : Value} {w w' : World} (h : OneC w0 x v w) (hg : w.grownBy w' (rowS v1 v2 j)) : OneC w0 x v w' := by
  obtain ⟨k, h1, h2, h3⟩ := h
  exact ⟨k, h1, h2, (hg.block k (Array.getElem?_eq_some_iff.1 h3).1 (fun e => by have := (rowS_lt hV e.symm).2; omega)).trans h3⟩
theorem oneI_kept (hV : SeenV B w0 v1 v2) {j : Nat} {v : Value} {w w' : World} (h : OneI w0 z v w) (hg : w.grownBy w' (rowS v1 v2 j)) : OneI w0 z v w' := by
  obtain ⟨k, h1, h2, h3⟩ := h
  exact ⟨k, h1, h2, (hg.block k (Array.getElem?_eq_some_iff.1 h3).1 (fun e => by have := (rowS_lt hV e.symm).2; omega)).trans h3⟩
theorem rowC_kept (hV : SeenV B w0 v1 v2) {j : Nat} {v : Value} {w w' : World} (hj : j ≠ 3) (h : RowC B n w0 v1 Z x v w) (hg : w.grownBy w' (rowS v1 v2 j)) : RowC B n w0 v1 Z x v w' := by
  obtain ⟨g, cap, h1, h2, h3⟩ := h
  refine ⟨g, cap, h1, own_kept h2 hg (fun k hk hr => ?_), h3⟩
  obtain rfl : g = k := by injection hk
  rcases h3 with h3 | h3
  · unfold rowS at hr
    rw [if_neg hj] at hr
    split at hr
    · exact hV.2.2.1 _ h3 hr
    · cases hr
  · have := (rowS_lt hV hr).2; omega
theorem rowI_kept (hV : SeenV B w0 v1 v2) {j : Nat} {v : Value} {w w' : World} (hj : j ≠ 13) (h : RowI B n w0 v2 O z v w) (hg : w.grownBy w' (rowS v1 v2 j)) : RowI B n w0 v2 O z v w' := by
  obtain ⟨g, cap, h1, h2, h3⟩ := h
  refine ⟨g, cap, h1, own_kept h2 hg (fun k hk hr => ?_), h3⟩
  obtain rfl : g = k := by injection hk
  rcases h3 with h3 | h3
  · unfold rowS at hr
    split at hr
    · exact hV.2.2.1 _ hr h3
    · first | (rw [if_neg hj] at hr; cases hr) | cases hr
  · have := (rowS_lt hV hr).2; omega
theorem seenF_kept (hV : SeenV B w0 v1 v2) : ∀ (i j : Nat) (v : Value) (w w' : World), i ≠ j → ¬ (i = 14 ∧ j = 3) → ¬ (i = 15 ∧ j = 13) → SeenF B n w0 v1 v2 Z O x z fa jj AL gL oL bx i v w → w.grownBy w' (rowS v1 v2 j) → SeenF B n w0 v1 v2 Z O x z fa jj AL gL oL bx i v w'
  | 0, _, _, _, _, _, _, _, h, _ => h
  | 1, _, _, _, _, _, _, _, h, _ => h
  | 2, _, _, _, _, _, _, _, h, hg => oneC_kept hV h hg
  | 3, j, _, _, _, hij, _, _, h, hg => rowC_kept hV (fun e => hij e.symm) h hg
  | 4, _, _, _, _, _, _, _, h, _ => h
  | 5, _, _, _, _, _, _, _, h, _ => h
  | 6, _, _, _, _, _, _, _, h, _ => h
  | 7, _, _, _, _, _, _, _, h, _ => h
  | 8, _, _, _, _, _, _, _, h, _ => h
  | 9, _, _, _, _, _, _, _, h, _ => h
  | 10, _, _, _, _, _, _, _, h, _ => h
  | 11, _, _, _, _, _, _, _, h, _ => h
  | 12, _, _, _, _, _, _, _, h, hg => oneI_kept hV h hg
  | 13, j, _, _, _, hij, _, _, h, hg => rowI_kept hV (fun e => hij e.symm) h hg
  | 14, j, _, _, _, _, h3, _, h, hg => rowC_kept hV (fun e => h3 ⟨rfl, e⟩) h hg
  | 15, j, _, _, _, _, _, h3, h, hg => rowI_kept hV (fun e => h3 ⟨rfl, e⟩) h hg
  | _ + 16, _, _, _, _, _, _, _, _, _ => trivial
theorem seenP_kept (hV : SeenV B w0 v1 v2) {i j : Nat} {w w' : World} (hij : i ≠ j) (h : SeenP B n v1 v2 Z O i w) (hg : w.grownBy w' (rowS v1 v2 j)) : SeenP B n v1 v2 Z O i w' := by
  refine ⟨fun e => own_kept (h.1 e) hg (fun k hk hr => ?_), fun e => own_kept (h.2 e) hg (fun k hk hr => ?_)⟩
  · unfold rowS at hr
    rw [if_neg (by omega)] at hr
    split at hr
    · exact hV.2.2.1 _ hk hr
    · cases hr
  · unfold rowS at hr
    split at hr
    · exact hV.2.2.1 _ hr hk
    · first | (rw [if_neg (by omega)] at hr; cases hr) | cases hr
theorem seenI_kept (hV : SeenV B w0 v1 v2) {j : Nat} {w w' : World} (h : SeenI B w0 v1 v2 w) (hg : w.grownBy w' (rowS v1 v2 j)) : SeenI B w0 v1 v2 w' := by
  obtain ⟨h1, h2, h3⟩ := h
  refine ⟨h1.grown hg (by have := hV.2.2.2; omega) (fun k hk => (rowS_lt hV hk).1), Nat.le_trans h2 hg.size, fun k hk n1 n2 => (hg.block k (by omega) (fun e => ?_)).trans (h3 k hk n1 n2)⟩
  unfold rowS at e
  split at e
  · exact n1 e.symm
  · split at e
    · exact n2 e.symm
    · cases e
end
theorem seen_apart {w : World} {B B' n n' : Nat} {v v' : Value} {xs xs' : List Value} (h : w.ownsRow B 40 6 v n xs) (h' : w.ownsRow B' 3 1 v' n' xs') {k : Nat} (hk : v.ownBlock = some k) : v'.ownBlock ≠ some k := by
  rcases h.2 with ⟨rfl, _⟩ | ⟨g, cap, cur, rfl, _, hg, _⟩
  · cases hk
  · injection hk with hk
    have hk' : g = k := hk
    subst hk'
    exact fun e => own_far h' hg (by decide) g e rfl
theorem one_at {w : World} {b : Nat} {z : Value} {e : TypeId} (h : w.heap[b]? = some (.cells #[z] e (0, 0))) : ∀ j v, [z][j]? = some v → w.cell? ((⟨b, 0, none⟩ : Addr).add j) = some v := by
  intro j v hj
  rw [add_off, Nat.zero_add, cell_of_row w b j _ _ _ h, ← hj]
  simp
theorem sc_at {w : World} {b : Nat} {e : TypeId} {x : C6} (h : w.heap[b]? = some (.cells (c6 x) e (0, 0))) : ∀ j v, (c6 x).toList[j]? = some v → w.cell? ((⟨b, 0, none⟩ : Addr).add j) = some v := by
  intro j v hj
  rw [add_off, Nat.zero_add, cell_of_row w b j _ _ _ h, ← hj]
  simp
theorem sc_one (x : C6) : ∀ u ∈ (c6 x).toList, u.oneCell' = true := by
  intro u hu
  simp [c6] at hu
  rcases hu with rfl | rfl | rfl | rfl | rfl | rfl <;> rfl
end Go.Proofs.YtlocnjenkanmpaaDoor.Pl
