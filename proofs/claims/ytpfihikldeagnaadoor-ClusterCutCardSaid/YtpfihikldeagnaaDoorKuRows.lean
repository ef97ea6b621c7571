/-
  Rows of runes and of clusters in memory, of the call's own or of what came in: small facts.
-/
import Derived.Test.YtpfihikldeagnaaDoorClInts
import Derived.Test.YtpfihikldeagnaaDoorRnSplit
import Derived.Test.YtpfihikldeagnaaDoorKuChain
set_option linter.unusedVariables false
namespace Go.Proofs.YtpfihikldeagnaaDoor.Ku
open Go.RowKit Go.Lib

def cellsR (l : List R3) : List Value := l.flatMap fun r => [.int .i64 r.1, .int .i64 r.2.1, .int .i64 r.2.2]
def cellsC (l : List C6) : List Value := l.flatMap fun x => [.int .i64 x.a, .int .i64 x.z, .int .i64 x.f, .int .i64 x.t, .int .i64 x.w, .int .i64 x.c]
theorem cellsR_len (l : List R3) : (cellsR l).length = l.length * 3 := by
  induction l with
  | nil => rfl
  | cons r l ih => simp [cellsR] at ih ⊢; omega
theorem cellsC_len (l : List C6) : (cellsC l).length = l.length * 6 := by
  induction l with
  | nil => rfl
  | cons r l ih => simp [cellsC] at ih ⊢; omega
theorem cellsR_snoc (l : List R3) (r : R3) : cellsR (l ++ [r]) = cellsR l ++ [.int .i64 r.1, .int .i64 r.2.1, .int .i64 r.2.2] := by simp [cellsR]
theorem cellsC_snoc (l : List C6) (x : C6) : cellsC (l ++ [x]) = cellsC l ++ [.int .i64 x.a, .int .i64 x.z, .int .i64 x.f, .int .i64 x.t, .int .i64 x.w, .int .i64 x.c] := by simp [cellsC]
theorem cellsR_at : ∀ (l : List R3) (k : Nat) (hk : k < l.length), (cellsR l)[k * 3]? = some (.int .i64 l[k].1) ∧ (cellsR l)[k * 3 + 1]? = some (.int .i64 l[k].2.1) ∧ (cellsR l)[k * 3 + 2]? = some (.int .i64 l[k].2.2)
  | r :: l, 0, _ => ⟨rfl, rfl, rfl⟩
  | r :: l, k + 1, hk => by
    have := cellsR_at l k (by simpa using hk)
    rw [show (k + 1) * 3 = k * 3 + 3 from by omega]
    exact this
theorem cellsC_at : ∀ (l : List C6) (k : Nat) (hk : k < l.length), (cellsC l)[k * 6]? = some (.int .i64 l[k].a) ∧ (cellsC l)[k * 6 + 1]? = some (.int .i64 l[k].z) ∧ (cellsC l)[k * 6 + 2]? = some (.int .i64 l[k].f) ∧ (cellsC l)[k * 6 + 3]? = some (.int .i64 l[k].t) ∧ (cellsC l)[k * 6 + 4]? = some (.int .i64 l[k].w) ∧ (cellsC l)[k * 6 + 5]? = some (.int .i64 l[k].c)
  | r :: l, 0, _ => ⟨rfl, rfl, rfl, rfl, rfl, rfl⟩
  | r :: l, k + 1, hk => by
    have := cellsC_at l k (by simpa using hk)
    rw [show (k + 1) * 6 = k * 6 + 6 from by omega]
    exact this
theorem cellsR_one (l : List R3) : ∀ u ∈ cellsR l, u.oneCell' = true := by
  intro u hu
  simp only [cellsR, List.mem_flatMap] at hu
  obtain ⟨x, _, hu⟩ := hu
  simp at hu
  rcases hu with rfl | rfl | rfl <;> rfl

/-- A row of runes: nothing, or cells below the heap's end. -/
def RuAt (w : World) (A : Option Addr) (l : List R3) : Prop :=
  l = [] ∨ ∃ b off, A = some ⟨b, off, none⟩ ∧ b < w.heap.size ∧ ∀ k (hk : k < l.length), w.cell? ⟨b, off + k * 3, none⟩ = some (.int .i64 l[k].1) ∧ w.cell? ⟨b, off + k * 3 + 1, none⟩ = some (.int .i64 l[k].2.1) ∧ w.cell? ⟨b, off + k * 3 + 2, none⟩ = some (.int .i64 l[k].2.2)
theorem RuAt.below {w w' : World} {A : Option Addr} {l : List R3} (h : RuAt w A l) (hb : Below w.heap.size w w') : RuAt w' A l := by
  rcases h with h | ⟨b, off, hA, hlt, hc⟩
  · exact .inl h
  · refine .inr ⟨b, off, hA, Nat.lt_of_lt_of_le hlt hb.size, fun k hk => ?_⟩
    obtain ⟨h0, h1, h2⟩ := hc k hk
    exact ⟨(hb.cell (p := ⟨b, off + k * 3, none⟩) hlt).trans h0, (hb.cell (p := ⟨b, off + k * 3 + 1, none⟩) hlt).trans h1, (hb.cell (p := ⟨b, off + k * 3 + 2, none⟩) hlt).trans h2⟩
theorem RuAt.at_ {w : World} {A : Option Addr} {l : List R3} (h : RuAt w A l) {k : Nat} (hk : k < l.length) : ∃ b off, A = some ⟨b, off, none⟩ ∧ b < w.heap.size ∧ w.cell? ⟨b, off + k * 3, none⟩ = some (.int .i64 l[k].1) ∧ w.cell? ⟨b, off + k * 3 + 1, none⟩ = some (.int .i64 l[k].2.1) ∧ w.cell? ⟨b, off + k * 3 + 2, none⟩ = some (.int .i64 l[k].2.2) := by
  rcases h with rfl | ⟨b, off, hA, hlt, hc⟩
  · simp at hk
  · obtain ⟨h0, h1, h2⟩ := hc k hk
    exact ⟨b, off, hA, hlt, h0, h1, h2⟩
theorem RuAt.heap {w w' : World} {A : Option Addr} {l : List R3} (h : RuAt w A l) (e : w'.heap = w.heap) : RuAt w' A l := by
  unfold RuAt World.cell? at h ⊢
  rw [e]
  exact h
theorem add_off (b off k : Nat) : (⟨b, off, none⟩ : Addr).add k = ⟨b, off + k, none⟩ := by unfold Addr.add; split <;> simp_all
theorem ruAt_own {w : World} {B : Nat} {t : TypeId} {v : Value} {l : List R3} (h : w.ownsRow B t 3 v l.length (cellsR l)) : ∃ A c, v = .slice A l.length c ∧ RuAt w A l := by
  have hc := @World.ownsRow.cells _ _ _ _ _ _ _ h
  rcases h.2 with ⟨rfl, hn⟩ | ⟨g, cap, cur, rfl, _, hg, _⟩
  · exact ⟨none, 0, by rw [hn], .inl (List.eq_nil_of_length_eq_zero hn)⟩
  · refine ⟨_, cap, rfl, .inr ⟨g, 0, rfl, (Array.getElem?_eq_some_iff.1 hg).1, fun k hk => ?_⟩⟩
    obtain ⟨h0, h1, h2⟩ := cellsR_at l k hk
    refine ⟨?_, ?_, ?_⟩
    · have := hc (g := g) rfl _ _ h0; rw [add_off] at this; exact this
    · have := hc (g := g) rfl _ _ h1; rw [add_off] at this; exact this
    · have := hc (g := g) rfl _ _ h2; rw [add_off] at this; exact this
theorem ruAt_runes {w : World} {A : Option Addr} {l : List (Nat × Nat × Nat)} (h : Rn.RunesAt w A l) : RuAt w A (ints3 l) := by
  by_cases h0 : l.length = 0
  · exact .inl (by rw [List.eq_nil_of_length_eq_zero h0]; rfl)
  · obtain ⟨g, rfl, hg, _⟩ := h 0 (by omega)
    refine .inr ⟨g, 0, rfl, hg, fun k hk => ?_⟩
    rw [ints3_len] at hk
    obtain ⟨g', hA, _, c0, c1, c2⟩ := h k hk
    injection hA with hA
    injection hA with hA
    subst hA
    simp only [ints3, List.getElem_map, Nat.zero_add]
    exact ⟨c0, c1, c2⟩
theorem RuAt.news {w : World} {ad : Addr} {l : List R3} (h : RuAt w (some ad) l) : ∀ j u, (cellsR l)[j]? = some u → w.cell? (ad.add j) = some u := by
  intro j u hu
  rcases h with rfl | ⟨b, off, hA, hlt, hc⟩
  · simp [cellsR] at hu
  · injection hA with hA
    subst hA
    have hlen := cellsR_len l
    have hj : j < l.length * 3 := by
      have := (List.getElem?_eq_some_iff.1 hu).1
      omega
    have hk : j / 3 < l.length := by omega
    obtain ⟨h0, h1, h2⟩ := hc (j / 3) hk
    obtain ⟨g0, g1, g2⟩ := cellsR_at l (j / 3) hk
    rw [add_off]
    have : j = j / 3 * 3 ∨ j = j / 3 * 3 + 1 ∨ j = j / 3 * 3 + 2 := by omega
    rcases this with e | e | e
    · rw [e, g0] at hu; rw [e]; rw [← hu]; exact h0
    · rw [e, g1] at hu; rw [e]; rw [← hu]; exact h1
    · rw [e, g2] at hu; rw [e]; rw [← hu]; exact h2

/-- A row of clusters. -/
def CuAt (w : World) (A : Option Addr) (l : List C6) : Prop :=
  l = [] ∨ ∃ b off, A = some ⟨b, off, none⟩ ∧ b < w.heap.size ∧ ∀ k (hk : k < l.length), w.cell? ⟨b, off + k * 6, none⟩ = some (.int .i64 l[k].a) ∧ w.cell? ⟨b, off + k * 6 + 1, none⟩ = some (.int .i64 l[k].z) ∧ w.cell? ⟨b, off + k * 6 + 2, none⟩ = some (.int .i64 l[k].f) ∧ w.cell? ⟨b, off + k * 6 + 3, none⟩ = some (.int .i64 l[k].t) ∧ w.cell? ⟨b, off + k * 6 + 4, none⟩ = some (.int .i64 l[k].w) ∧ w.cell? ⟨b, off + k * 6 + 5, none⟩ = some (.int .i64 l[k].c)
theorem CuAt.below {w w' : World} {A : Option Addr} {l : List C6} (h : CuAt w A l) (hb : Below w.heap.size w w') : CuAt w' A l := by
  rcases h with h | ⟨b, off, hA, hlt, hc⟩
  · exact .inl h
  · refine .inr ⟨b, off, hA, Nat.lt_of_lt_of_le hlt hb.size, fun k hk => ?_⟩
    obtain ⟨h0, h1, h2, h3, h4, h5⟩ := hc k hk
    exact ⟨(hb.cell (p := ⟨b, off + k * 6, none⟩) hlt).trans h0, (hb.cell (p := ⟨b, off + k * 6 + 1, none⟩) hlt).trans h1, (hb.cell (p := ⟨b, off + k * 6 + 2, none⟩) hlt).trans h2, (hb.cell (p := ⟨b, off + k * 6 + 3, none⟩) hlt).trans h3, (hb.cell (p := ⟨b, off + k * 6 + 4, none⟩) hlt).trans h4, (hb.cell (p := ⟨b, off + k * 6 + 5, none⟩) hlt).trans h5⟩
theorem CuAt.at_ {w : World} {A : Option Addr} {l : List C6} (h : CuAt w A l) {k : Nat} (hk : k < l.length) : ∃ b off, A = some ⟨b, off, none⟩ ∧ b < w.heap.size ∧ w.cell? ⟨b, off + k * 6, none⟩ = some (.int .i64 l[k].a) ∧ w.cell? ⟨b, off + k * 6 + 1, none⟩ = some (.int .i64 l[k].z) ∧ w.cell? ⟨b, off + k * 6 + 2, none⟩ = some (.int .i64 l[k].f) ∧ w.cell? ⟨b, off + k * 6 + 3, none⟩ = some (.int .i64 l[k].t) ∧ w.cell? ⟨b, off + k * 6 + 4, none⟩ = some (.int .i64 l[k].w) ∧ w.cell? ⟨b, off + k * 6 + 5, none⟩ = some (.int .i64 l[k].c) := by
  rcases h with rfl | ⟨b, off, hA, hlt, hc⟩
  · simp at hk
  · obtain ⟨h0, h1, h2, h3, h4, h5⟩ := hc k hk
    exact ⟨b, off, hA, hlt, h0, h1, h2, h3, h4, h5⟩
theorem cuAt_own {w : World} {B : Nat} {t : TypeId} {v : Value} {l : List C6} (h : w.ownsRow B t 6 v l.length (cellsC l)) : ∃ A c, v = .slice A l.length c ∧ CuAt w A l := by
  have hc := @World.ownsRow.cells _ _ _ _ _ _ _ h
  rcases h.2 with ⟨rfl, hn⟩ | ⟨g, cap, cur, rfl, _, hg, _⟩
  · exact ⟨none, 0, by rw [hn], .inl (List.eq_nil_of_length_eq_zero hn)⟩
  · refine ⟨_, cap, rfl, .inr ⟨g, 0, rfl, (Array.getElem?_eq_some_iff.1 hg).1, fun k hk => ?_⟩⟩
    obtain ⟨h0, h1, h2, h3, h4, h5⟩ := cellsC_at l k hk
    refine ⟨?_, ?_, ?_, ?_, ?_, ?_⟩
    · have := hc (g := g) rfl _ _ h0; rw [add_off] at this; exact this
    · have := hc (g := g) rfl _ _ h1; rw [add_off] at this; exact this
    · have := hc (g := g) rfl _ _ h2; rw [add_off] at this; exact this
    · have := hc (g := g) rfl _ _ h3; rw [add_off] at this; exact this
    · have := hc (g := g) rfl _ _ h4; rw [add_off] at this; exact this
    · have := hc (g := g) rfl _ _ h5; rw [add_off] at this; exact this

theorem infoR : (Tryd.prog.info? 40).map (fun i => (i.zero, i.size, i.bytes)) = some (some (.agg #[.int .i64 0, .int .i64 0, .int .i64 0]), 3, 24) := by kernel_rfl
theorem infoC : (Tryd.prog.info? 32).map (fun i => (i.zero, i.size, i.bytes)) = some (some (.agg #[.int .i64 0, .int .i64 0, .int .i64 0, .int .i64 0, .int .i64 0, .int .i64 0]), 6, 48) := by kernel_rfl
end Go.Proofs.YtpfihikldeagnaaDoor.Ku
