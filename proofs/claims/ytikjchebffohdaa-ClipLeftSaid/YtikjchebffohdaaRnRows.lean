/-
  Rows of runes in memory: their cells, as they are read. No program in it but its types.
-/
import Derived.Test.YtikjchebffohdaaRnRet
import Derived.Test.YtikjchebffohdaaRnDrop
import Derived.Laws.AppendOwn
import Derived.Laws.OwnMore
import Derived.OwnWalk
set_option linter.unusedVariables false
namespace Go.Proofs.Ytikjchebffohdaa.Rn
open Go.RowKit Go.Lib

/-- The cells of a row of runes. -/
def cells3 (l : List (Nat × Nat × Nat)) : List Value := l.flatMap fun r => [.int .i64 r.1, .int .i64 r.2.1, .int .i64 r.2.2]
theorem cells3_snoc (l : List (Nat × Nat × Nat)) (r : Nat × Nat × Nat) : cells3 (l ++ [r]) = cells3 l ++ [.int .i64 r.1, .int .i64 r.2.1, .int .i64 r.2.2] := by simp [cells3]

theorem own_base {w : World} {b b' : Nat} {e : TypeId} {size : Nat} {v : Value} {n : Nat} {xs : List Value} (h : w.ownsRow b e size v n xs) (hb : b' ≤ b) : w.ownsRow b' e size v n xs := by
  refine ⟨h.1, ?_⟩
  rcases h.2 with hn | ⟨g, cap, cur, hv, hg, rest⟩
  · exact .inl hn
  · exact .inr ⟨g, cap, cur, hv, by omega, rest⟩
theorem grown_iterAt (w : World) (k : Nat) (s : ByteArray) (pos : Nat) : w.grownBy (w.iterAt k s pos) (some k) :=
  ⟨rfl, rfl, rfl, by rw [Lib.iterAt_size]; exact Nat.le_refl _, fun i _ hne => Lib.iterAt_other w k i s pos (fun e => hne (by rw [e]))⟩
theorem own_iterAt {w : World} {k : Nat} {e : TypeId} {size : Nat} {v : Value} {n : Nat} {xs : List Value} (h : w.ownsRow (k + 1) e size v n xs) (s : ByteArray) (pos : Nat) : (w.iterAt k s pos).ownsRow (k + 1) e size v n xs := by
  refine h.kept (grown_iterAt w k s pos) ?_
  cases hv : v.ownBlock with
  | none => exact .inl rfl
  | some g =>
    right
    intro e1
    have := (h.lt g hv).1
    injection e1 with e1
    omega

theorem infoRune : (Try.prog.info? 59).map (fun i => (i.zero, i.size, i.bytes)) = some (some (.agg #[.int .i64 0, .int .i64 0, .int .i64 0]), 3, 24) := by kernel_rfl

theorem cells3_len (l : List (Nat × Nat × Nat)) : (cells3 l).length = l.length * 3 := by
  induction l with
  | nil => rfl
  | cons r l ih => simp [cells3] at ih ⊢; omega
theorem cells3_at : ∀ (l : List (Nat × Nat × Nat)) (k : Nat) (hk : k < l.length), (cells3 l)[k * 3]? = some (.int .i64 l[k].1) ∧ (cells3 l)[k * 3 + 1]? = some (.int .i64 l[k].2.1) ∧ (cells3 l)[k * 3 + 2]? = some (.int .i64 l[k].2.2)
  | r :: l, 0, _ => ⟨rfl, rfl, rfl⟩
  | r :: l, k + 1, hk => by
    have := cells3_at l k (by simpa using hk)
    rw [show (k + 1) * 3 = k * 3 + 3 from by omega]
    exact this

/-- A row of runes in memory: a slice's address and what its cells hold. -/
def RunesAt (w : World) (A : Option Addr) (l : List (Nat × Nat × Nat)) : Prop :=
  ∀ k (hk : k < l.length), ∃ g, A = some ⟨g, 0, none⟩ ∧ g < w.heap.size ∧ w.cell? ⟨g, k * 3, none⟩ = some (.int .i64 l[k].1) ∧ w.cell? ⟨g, k * 3 + 1, none⟩ = some (.int .i64 l[k].2.1) ∧ w.cell? ⟨g, k * 3 + 2, none⟩ = some (.int .i64 l[k].2.2)
theorem RunesAt.below {w w' : World} {A : Option Addr} {l : List (Nat × Nat × Nat)} (h : RunesAt w A l) (hb : Below w.heap.size w w') : RunesAt w' A l := by
  intro k hk
  obtain ⟨g, rfl, hg, h0, h1, h2⟩ := h k hk
  exact ⟨g, rfl, Nat.lt_of_lt_of_le hg hb.size, (hb.cell (p := ⟨g, k * 3, none⟩) hg).trans h0, (hb.cell (p := ⟨g, k * 3 + 1, none⟩) hg).trans h1, (hb.cell (p := ⟨g, k * 3 + 2, none⟩) hg).trans h2⟩
theorem runesAt_own {w : World} {B : Nat} {v : Value} {l : List (Nat × Nat × Nat)} (h : w.ownsRow B 59 3 v l.length (cells3 l)) : ∃ A c, v = .slice A l.length c ∧ RunesAt w A l := by
  have hc := @World.ownsRow.cells _ _ _ _ _ _ _ h
  rcases h.2 with ⟨rfl, hn⟩ | ⟨g, cap, cur, rfl, _, hg, _⟩
  · exact ⟨none, 0, by rw [hn], fun k hk => by omega⟩
  · refine ⟨_, cap, rfl, fun k hk => ⟨g, rfl, (Array.getElem?_eq_some_iff.1 hg).1, ?_, ?_, ?_⟩⟩
    · have := hc (g := g) rfl _ _ (cells3_at l k hk).1
      rw [Addr.add] at this
      split at this
      · rename_i h0; rw [h0] ; exact this
      · simpa using this
    · simpa [Addr.add] using hc (g := g) rfl _ _ (cells3_at l k hk).2.1
    · simpa [Addr.add] using hc (g := g) rfl _ _ (cells3_at l k hk).2.2
end Go.Proofs.Ytikjchebffohdaa.Rn
