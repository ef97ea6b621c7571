/-
  Rows of pairs of places in memory (a struct of two ints), of the call's own or as they are read: small facts. No program in it.
-/
import Derived.Test.YtapeebnbiappgaaDoorClInts
set_option linter.unusedVariables false
namespace Go.Proofs.YtapeebnbiappgaaDoor.Pr
open Go Go.RowKit Go.Lib

def cellsP (l : List (Nat × Nat)) : List Value := l.flatMap fun p => [.int .i64 p.1, .int .i64 p.2]
theorem cellsP_len (l : List (Nat × Nat)) : (cellsP l).length = l.length * 2 := by
  induction l with
  | nil => rfl
  | cons r l ih => simp [cellsP] at ih ⊢; omega
theorem cellsP_append (a b : List (Nat × Nat)) : cellsP (a ++ b) = cellsP a ++ cellsP b := by simp [cellsP]
theorem cellsP_snoc (l : List (Nat × Nat)) (p : Nat × Nat) : cellsP (l ++ [p]) = cellsP l ++ [.int .i64 p.1, .int .i64 p.2] := by simp [cellsP]
theorem cellsP_at : ∀ (l : List (Nat × Nat)) (k : Nat) (p : Nat × Nat), l[k]? = some p → (cellsP l)[k * 2]? = some (.int .i64 p.1) ∧ (cellsP l)[k * 2 + 1]? = some (.int .i64 p.2)
  | [], k, p, h => by simp at h
  | r :: l, 0, p, h => by
    obtain rfl : r = p := by simpa using h
    exact ⟨rfl, rfl⟩
  | r :: l, k + 1, p, h => by
    have := cellsP_at l k p (by simpa using h)
    rw [show (k + 1) * 2 = k * 2 + 2 from by omega]
    exact this
theorem cellsP_one (l : List (Nat × Nat)) : ∀ u ∈ cellsP l, u.oneCell' = true := by
  intro u hu
  simp only [cellsP, List.mem_flatMap] at hu
  obtain ⟨x, _, hu⟩ := hu
  simp at hu
  rcases hu with rfl | rfl <;> rfl
/-- A row of pairs: nothing, or cells below the heap's end. -/
def PaAt (w : World) (A : Option Addr) (l : List (Nat × Nat)) : Prop :=
  l = [] ∨ ∃ b off, A = some ⟨b, off, none⟩ ∧ b < w.heap.size ∧ ∀ k p, l[k]? = some p → w.cell? ⟨b, off + k * 2, none⟩ = some (.int .i64 p.1) ∧ w.cell? ⟨b, off + k * 2 + 1, none⟩ = some (.int .i64 p.2)
theorem PaAt.below {w w' : World} {A : Option Addr} {l : List (Nat × Nat)} (h : PaAt w A l) (hb : Below w.heap.size w w') : PaAt w' A l := by
  rcases h with h | ⟨b, off, hA, hlt, hc⟩
  · exact .inl h
  · refine .inr ⟨b, off, hA, Nat.lt_of_lt_of_le hlt hb.size, fun k p hk => ?_⟩
    obtain ⟨h0, h1⟩ := hc k p hk
    exact ⟨(hb.cell (p := ⟨b, off + k * 2, none⟩) hlt).trans h0, (hb.cell (p := ⟨b, off + k * 2 + 1, none⟩) hlt).trans h1⟩
theorem PaAt.heap {w w' : World} {A : Option Addr} {l : List (Nat × Nat)} (h : PaAt w A l) (e : w'.heap = w.heap) : PaAt w' A l := by
  unfold PaAt World.cell? at h ⊢
  rw [e]
  exact h
theorem PaAt.at_ {w : World} {A : Option Addr} {l : List (Nat × Nat)} (h : PaAt w A l) {k : Nat} {p : Nat × Nat} (hk : l[k]? = some p) :
    ∃ b off, A = some ⟨b, off, none⟩ ∧ b < w.heap.size ∧ w.cell? ⟨b, off + k * 2, none⟩ = some (.int .i64 p.1) ∧ w.cell? ⟨b, off + k * 2 + 1, none⟩ = some (.int .i64 p.2) := by
  rcases h with rfl | ⟨b, off, hA, hlt, hc⟩
  · simp at hk
  · obtain ⟨h0, h1⟩ := hc k p hk
    exact ⟨b, off, hA, hlt, h0, h1⟩
theorem add_offP (b off k : Nat) : (⟨b, off, none⟩ : Addr).add k = ⟨b, off + k, none⟩ := by unfold Addr.add; split <;> simp_all
theorem paAt_own {w : World} {B : Nat} {t : TypeId} {v : Value} {l : List (Nat × Nat)} {n : Nat} (h : w.ownsRow B t 2 v n (cellsP l)) (hn : l.length = n) : ∃ A c, v = .slice A n c ∧ PaAt w A l := by
  subst hn
  have hc := @World.ownsRow.cells _ _ _ _ _ _ _ h
  rcases h.2 with ⟨rfl, hn⟩ | ⟨g, cap, cur, rfl, _, hg, _⟩
  · exact ⟨none, 0, by rw [hn], .inl (List.eq_nil_of_length_eq_zero hn)⟩
  · refine ⟨_, cap, rfl, .inr ⟨g, 0, rfl, (Array.getElem?_eq_some_iff.1 hg).1, fun k p hk => ?_⟩⟩
    obtain ⟨h0, h1⟩ := cellsP_at l k p hk
    refine ⟨?_, ?_⟩
    · have := hc (g := g) rfl _ _ h0; rw [add_offP] at this; exact this
    · have := hc (g := g) rfl _ _ h1; rw [add_offP] at this; exact this
theorem PaAt.news {w : World} {ad : Addr} {l : List (Nat × Nat)} (h : PaAt w (some ad) l) : ∀ j u, (cellsP l)[j]? = some u → w.cell? (ad.add j) = some u := by
  intro j u hu
  rcases h with rfl | ⟨b, off, hA, hlt, hc⟩
  · simp [cellsP] at hu
  · injection hA with hA
    subst hA
    have hlen := cellsP_len l
    have hj : j < l.length * 2 := by
      have := (List.getElem?_eq_some_iff.1 hu).1
      omega
    have hk : j / 2 < l.length := by omega
    obtain ⟨h0, h1⟩ := hc (j / 2) _ (List.getElem?_eq_getElem hk)
    obtain ⟨g0, g1⟩ := cellsP_at l (j / 2) _ (List.getElem?_eq_getElem hk)
    rw [add_offP]
    have : j = j / 2 * 2 ∨ j = j / 2 * 2 + 1 := by omega
    rcases this with e | e
    · rw [e, g0] at hu; rw [e]; rw [← hu]; exact h0
    · rw [e, g1] at hu; rw [e]; rw [← hu]; exact h1
end Go.Proofs.YtapeebnbiappgaaDoor.Pr
