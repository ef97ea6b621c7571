/-
  Rows of runes in memory, of the call's own or of what came in: small facts.
-/
import Derived.Test.YtikjchebffohdaaClInts
import Derived.Test.YtikjchebffohdaaRuPlain
set_option linter.unusedVariables false
namespace Go.Proofs.Ytikjchebffohdaa.Ku
open Go.RowKit Go.Lib

def cellsR (l : List R3) : List Value := l.flatMap fun r => [.int .i64 r.1, .int .i64 r.2.1, .int .i64 r.2.2]
theorem cellsR_len (l : List R3) : (cellsR l).length = l.length * 3 := by
  induction l with
  | nil => rfl
  | cons r l ih => simp [cellsR] at ih ⊢; omega
theorem cellsR_snoc (l : List R3) (r : R3) : cellsR (l ++ [r]) = cellsR l ++ [.int .i64 r.1, .int .i64 r.2.1, .int .i64 r.2.2] := by simp [cellsR]
theorem cellsR_at : ∀ (l : List R3) (k : Nat) (hk : k < l.length), (cellsR l)[k * 3]? = some (.int .i64 l[k].1) ∧ (cellsR l)[k * 3 + 1]? = some (.int .i64 l[k].2.1) ∧ (cellsR l)[k * 3 + 2]? = some (.int .i64 l[k].2.2)
  | r :: l, 0, _ => ⟨rfl, rfl, rfl⟩
  | r :: l, k + 1, hk => by
    have := cellsR_at l k (by simpa using hk)
    rw [show (k + 1) * 3 = k * 3 + 3 from by omega]
    exact this
theorem cellsR_one (l : List R3) : ∀ u ∈ cellsR l, u.oneCell' = true := by
  intro u hu
  simp only [cellsR, List.mem_flatMap] at hu
  obtain ⟨x, _, hu⟩ := hu
  simp at hu
  rcases hu with rfl | rfl | rfl <;> rfl
/-- A row of runes: nothing, or cells below the heap's end. -/
def RuAt (w : World) (A : Option Addr) (l : List R3) : Prop :=
  l = [] ∨ ∃ b off, A = some ⟨b, off, none⟩ ∧ b < w.heap.size ∧ ∀ k (hk : k < l.length), w.cell? ⟨b, off + k * 3, none⟩ = some (.int .i64 l[k].1) ∧ w.cell? ⟨b, off + k * 3 + 1, none⟩ = some (.int .i64 l[k].2.1) ∧ w.cell? ⟨b, off + k * 3 + 2, none⟩ = some (.int .i64 l[k].2.2)
theorem RuAt.below {w w' : World} {A : Option Addr} {l : List R3} (h : RuAt w A l) (hb : Below w.heap.size w w') : RuAt w' A l := by
  rcases h with h | ⟨b, off, hA, hlt, hc⟩
  · exact .inl h
  · refine .inr ⟨b, off, hA, Nat.lt_of_lt_of_le hlt hb.size, fun k hk => ?_⟩
    obtain ⟨h0, h1, h2⟩ := hc k hk
    exact ⟨(hb.cell (p := ⟨b, off + k * 3, none⟩) hlt).trans h0, (hb.cell (p := ⟨b, off + k * 3 + 1, none⟩) hlt).trans h1, (hb.cell (p := ⟨b, off + k * 3 + 2, none⟩) hlt).trans h2⟩
theorem RuAt.at_ {w : World} {A : Option Addr} {l : List R3} (h : RuAt w A l) {k : Nat} (hk : k < l.length) : ∃ b off, A = some ⟨b, off, none⟩ ∧ b < w.heap.size ∧ w.cell? ⟨b, off + k * 3, none⟩ = some (.int .i64 l[k].1) ∧ w.cell? ⟨b, off + k * 3 + 1, none⟩ = some (.int .i64 l[k].2.1) ∧ w.cell? ⟨b, off + k * 3 + 2, none⟩ = some (.int .i64 l[k].2.2) := by
  rcases h with rfl | ⟨b, off, hA, hlt, hc⟩
  · simp at hk
  · obtain ⟨h0, h1, h2⟩ := hc k hk
    exact ⟨b, off, hA, hlt, h0, h1, h2⟩
theorem RuAt.heap {w w' : World} {A : Option Addr} {l : List R3} (h : RuAt w A l) (e : w'.heap = w.heap) : RuAt w' A l := by
  unfold RuAt World.cell? at h ⊢
  rw [e]
  exact h
theorem add_off (b off k : Nat) : (⟨b, off, none⟩ : Addr).add k = ⟨b, off + k, none⟩ := by unfold Addr.add; split <;> simp_all
theorem ruAt_own {w : World} {B : Nat} {t : TypeId} {v : Value} {l : List R3} (h : w.ownsRow B t 3 v l.length (cellsR l)) : ∃ A c, v = .slice A l.length c ∧ RuAt w A l := by
  have hc := @World.ownsRow.cells _ _ _ _ _ _ _ h
  rcases h.2 with ⟨rfl, hn⟩ | ⟨g, cap, cur, rfl, _, hg, _⟩
  · exact ⟨none, 0, by rw [hn], .inl (List.eq_nil_of_length_eq_zero hn)⟩
  · refine ⟨_, cap, rfl, .inr ⟨g, 0, rfl, (Array.getElem?_eq_some_iff.1 hg).1, fun k hk => ?_⟩⟩
    obtain ⟨h0, h1, h2⟩ := cellsR_at l k hk
    refine ⟨?_, ?_, ?_⟩
    · have := hc (g := g) rfl _ _ h0; rw [add_off] at this; exact this
    · have := hc (g := g) rfl _ _ h1; rw [add_off] at this; exact this
    · have := hc (g := g) rfl _ _ h2; rw [add_off] at this; exact this
theorem RuAt.news {w : World} {ad : Addr} {l : List R3} (h : RuAt w (some ad) l) : ∀ j u, (cellsR l)[j]? = some u → w.cell? (ad.add j) = some u := by
  intro j u hu
  rcases h with rfl | ⟨b, off, hA, hlt, hc⟩
  · simp [cellsR] at hu
  · injection hA with hA
    subst hA
    have hlen := cellsR_len l
    have hj : j < l.length * 3 := by
      have := (List.getElem?_eq_some_iff.1 hu).1
      omega
    have hk : j / 3 < l.length := by omega
    obtain ⟨h0, h1, h2⟩ := hc (j / 3) hk
    obtain ⟨g0, g1, g2⟩ := cellsR_at l (j / 3) hk
    rw [add_off]
    have : j = j / 3 * 3 ∨ j = j / 3 * 3 + 1 ∨ j = j / 3 * 3 + 2 := by omega
    rcases this with e | e | e
    · rw [e, g0] at hu; rw [e]; rw [← hu]; exact h0
    · rw [e, g1] at hu; rw [e]; rw [← hu]; exact h1
    · rw [e, g2] at hu; rw [e]; rw [← hu]; exact h2
theorem infoR : (Try.prog.info? 59).map (fun i => (i.zero, i.size, i.bytes)) = some (some (.agg #[.int .i64 0, .int .i64 0, .int .i64 0]), 3, 24) := by kernel_rfl
end Go.Proofs.Ytikjchebffohdaa.Ku
