/-
  Rows of clusters in memory, of the call's own or of what came in: small facts.
-/
import Derived.Test.YtikjchebffohdaaClInts
import Derived.Test.YtikjchebffohdaaKuPlain
import Derived.Test.YtikjchebffohdaaRuRows
set_option linter.unusedVariables false
namespace Go.Proofs.Ytikjchebffohdaa.Ku
open Go.RowKit Go.Lib

def cellsC (l : List C6) : List Value := l.flatMap fun x => [.int .i64 x.a, .int .i64 x.z, .int .i64 x.f, .int .i64 x.t, .int .i64 x.w, .int .i64 x.c]
theorem cellsC_len (l : List C6) : (cellsC l).length = l.length * 6 := by
  induction l with
  | nil => rfl
  | cons r l ih => simp [cellsC] at ih ⊢; omega
theorem cellsC_snoc (l : List C6) (x : C6) : cellsC (l ++ [x]) = cellsC l ++ [.int .i64 x.a, .int .i64 x.z, .int .i64 x.f, .int .i64 x.t, .int .i64 x.w, .int .i64 x.c] := by simp [cellsC]
theorem cellsC_at : ∀ (l : List C6) (k : Nat) (hk : k < l.length), (cellsC l)[k * 6]? = some (.int .i64 l[k].a) ∧ (cellsC l)[k * 6 + 1]? = some (.int .i64 l[k].z) ∧ (cellsC l)[k * 6 + 2]? = some (.int .i64 l[k].f) ∧ (cellsC l)[k * 6 + 3]? = some (.int .i64 l[k].t) ∧ (cellsC l)[k * 6 + 4]? = some (.int .i64 l[k].w) ∧ (cellsC l)[k * 6 + 5]? = some (.int .i64 l[k].c)
  | r :: l, 0, _ => ⟨rfl, rfl, rfl, rfl, rfl, rfl⟩
  | r :: l, k + 1, hk => by
    have := cellsC_at l k (by simpa using hk)
    rw [show (k + 1) * 6 = k * 6 + 6 from by omega]
    exact this
/-- A row of clusters. -/
def CuAt (w : World) (A : Option Addr) (l : List C6) : Prop :=
  l = [] ∨ ∃ b off, A = some ⟨b, off, none⟩ ∧ b < w.heap.size ∧ ∀ k (hk : k < l.length), w.cell? ⟨b, off + k * 6, none⟩ = some (.int .i64 l[k].a) ∧ w.cell? ⟨b, off + k * 6 + 1, none⟩ = some (.int .i64 l[k].z) ∧ w.cell? ⟨b, off + k * 6 + 2, none⟩ = some (.int .i64 l[k].f) ∧ w.cell? ⟨b, off + k * 6 + 3, none⟩ = some (.int .i64 l[k].t) ∧ w.cell? ⟨b, off + k * 6 + 4, none⟩ = some (.int .i64 l[k].w) ∧ w.cell? ⟨b, off + k * 6 + 5, none⟩ = some (.int .i64 l[k].c)
theorem CuAt.below {w w' : World} {A : Option Addr} {l : List C6} (h : CuAt w A l) (hb : Below w.heap.size w w') : CuAt w' A l := by
  rcases h with h | ⟨b, off, hA, hlt, hc⟩
  · exact .inl h
  · refine .inr ⟨b, off, hA, Nat.lt_of_lt_of_le hlt hb.size, fun k hk => ?_⟩
    obtain ⟨h0, h1, h2, h3, h4, h5⟩ := hc k hk
    exact ⟨(hb.cell (p := ⟨b, off + k * 6, none⟩) hlt).trans h0, (hb.cell (p := ⟨b, off + k * 6 + 1, none⟩) hlt).trans h1, (hb.cell (p := ⟨b, off + k * 6 + 2, none⟩) hlt).trans h2, (hb.cell (p := ⟨b, off + k * 6 + 3, none⟩) hlt).trans h3, (hb.cell (p := ⟨b, off + k * 6 + 4, none⟩) hlt).trans h4, (hb.cell (p := ⟨b, off + k * 6 + 5, none⟩) hlt).trans h5⟩
theorem CuAt.at_ {w : World} {A : Option Addr} {l : List C6} (h : CuAt w A l) {k : Nat} (hk : k < l.length) : ∃ b off, A = some ⟨b, off, none⟩ ∧ b < w.heap.size ∧ w.cell? ⟨b, off + k * 6, none⟩ = some (.int .i64 l[k].a) ∧ w.cell? ⟨b, off + k * 6 + 1, none⟩ = some (.int .i64 l[k].z) ∧ w.cell? ⟨b, off + k * 6 + 2, none⟩ = some (.int .i64 l[k].f) ∧ w.cell? ⟨b, off + k * 6 + 3, none⟩ = some (.int .i64 l[k].t) ∧ w.cell? ⟨b, off + k * 6 + 4, none⟩ = some (.int .i64 l[k].w) ∧ w.cell? ⟨b, off + k * 6 + 5, none⟩ = some (.int .i64 l[k].c) := by
  rcases h with rfl | ⟨b, off, hA, hlt, hc⟩
  · simp at hk
  · obtain ⟨h0, h1, h2, h3, h4, h5⟩ := hc k hk
    exact ⟨b, off, hA, hlt, h0, h1, h2, h3, h4, h5⟩
theorem cuAt_own {w : World} {B : Nat} {t : TypeId} {v : Value} {l : List C6} (h : w.ownsRow B t 6 v l.length (cellsC l)) : ∃ A c, v = .slice A l.length c ∧ CuAt w A l := by
  have hc := @World.ownsRow.cells _ _ _ _ _ _ _ h
  rcases h.2 with ⟨rfl, hn⟩ | ⟨g, cap, cur, rfl, _, hg, _⟩
  · exact ⟨none, 0, by rw [hn], .inl (List.eq_nil_of_length_eq_zero hn)⟩
  · refine ⟨_, cap, rfl, .inr ⟨g, 0, rfl, (Array.getElem?_eq_some_iff.1 hg).1, fun k hk => ?_⟩⟩
    obtain ⟨h0, h1, h2, h3, h4, h5⟩ := cellsC_at l k hk
    refine ⟨?_, ?_, ?_, ?_, ?_, ?_⟩
    · have := hc (g := g) rfl _ _ h0; rw [add_off] at this; exact this
    · have := hc (g := g) rfl _ _ h1; rw [add_off] at this; exact this
    · have := hc (g := g) rfl _ _ h2; rw [add_off] at this; exact this
    · have := hc (g := g) rfl _ _ h3; rw [add_off] at this; exact this
    · have := hc (g := g) rfl _ _ h4; rw [add_off] at this; exact this
    · have := hc (g := g) rfl _ _ h5; rw [add_off] at this; exact this

theorem infoC : (Try.prog.info? 49).map (fun i => (i.zero, i.size, i.bytes)) = some (some (.agg #[.int .i64 0, .int .i64 0, .int .i64 0, .int .i64 0, .int .i64 0, .int .i64 0]), 6, 48) := by kernel_rfl
end Go.Proofs.Ytikjchebffohdaa.Ku
