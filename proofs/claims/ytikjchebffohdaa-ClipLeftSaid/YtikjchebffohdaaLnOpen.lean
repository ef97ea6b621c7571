/-
  A line, a row of lines, that a statement's function is called with, as its walk reads it.
-/
import Derived.Test.YtikjchebffohdaaLnKit
import Derived.Test.YtikjchebffohdaaRuOpen
import Derived.Test.YtikjchebffohdaaLawKit
import Derived.Deep.Slices
set_option linter.unusedVariables false
set_option maxRecDepth 100000
namespace Go.Proofs.Ytikjchebffohdaa.Wr
open Go.ChangeShapes Go.WideShapes Go.ChangeAt Go.RowKit Go.Deep

instance : Inhabited L5 := ⟨⟨0, 0, 0, 0, 0⟩⟩
theorem array5 {α : Type} {cs : Array α} (h : cs.size = 5) : ∃ c0 c1 c2 c3 c4, cs = #[c0, c1, c2, c3, c4] := by
  obtain ⟨l⟩ := cs
  match l, h with
  | [c0, c1, c2, c3, c4], _ => exact ⟨c0, c1, c2, c3, c4, rfl⟩
theorem open_line {H : Type} {enc : TypeId × Value → H} {W : World} {r : Reach} {b0 base : Nat} {v : Value} {d : DataW H} {p : List MemPlace}
    (hv : Value.okWide Try.prog W r b0 24 v) (h : DataW.Trod enc Try.prog W base (fun _ => true) true 24 v d p) :
    ∃ q : L5, v = lnV q ∧ (Ku.okN q.f ∧ Ku.okN q.t ∧ Ku.okN q.s ∧ Ku.okN q.h ∧ Ku.okN q.d) := by
  obtain ⟨cs, rfl, hsz⟩ := okWide_struct Try.underlying24 hv
  have c5 : Try.prog.cellsOf 24 = 5 := by kernel_rfl
  have c1 : Try.prog.cellsOf 3 = 1 := by kernel_rfl
  obtain ⟨a0, a1, a2, a3, a4, rfl⟩ := array5 (hsz.trans c5)
  obtain ⟨fuel, h2⟩ := h
  obtain ⟨x0, e0, k0⟩ := field_int Try.underlying24 h2 0 _ rfl Try.underlying3 c1
  obtain ⟨x1, e1, k1⟩ := field_int Try.underlying24 h2 1 _ rfl Try.underlying3 c1
  obtain ⟨x2, e2, k2⟩ := field_int Try.underlying24 h2 2 _ rfl Try.underlying3 c1
  obtain ⟨x3, e3, k3⟩ := field_int Try.underlying24 h2 3 _ rfl Try.underlying3 c1
  obtain ⟨x4, e4, k4⟩ := field_int Try.underlying24 h2 4 _ rfl Try.underlying3 c1
  simp [Value.cells] at e0 e1 e2 e3 e4
  subst e0 e1 e2 e3 e4
  exact ⟨⟨x0, x1, x2, x3, x4⟩, rfl, k0, k1, k2, k3, k4⟩
theorem open_lines {H : Type} {enc : TypeId × Value → H} {W : World} {r : Reach} {b0 base : Nat} {v : Value} {d : DataW H} {p : List MemPlace}
    (hv : Value.okWide Try.prog W r b0 30 v) (h : DataW.Trod enc Try.prog W base (fun _ => true) true 30 v d p) :
    ∃ (A : Option Addr) (l : List L5) (c : Nat), v = .slice A l.length c ∧ LiAt W A l ∧ (A = none → l = [] ∧ c = 0) ∧ l.length ≤ c ∧ l.length ≤ 9223372036854775807 ∧ ∀ q ∈ l, Ku.okN q.f ∧ Ku.okN q.t ∧ Ku.okN q.s ∧ Ku.okN q.h ∧ Ku.okN q.d := by
  obtain ⟨fuel, hf⟩ := h
  rcases open_slice Try.underlying30 hf with ⟨hcs, hx⟩ | ⟨a, len, cap, m, n, D, Pl, hcs, hb, hl, hm, hmm, hx, hel⟩
  · obtain ⟨a, n, c, rfl⟩ := okWide_slice Try.underlying30 hv
    simp [Value.cells] at hcs
    obtain ⟨rfl, rfl, rfl⟩ := hcs
    exact ⟨none, [], 0, rfl, .inl rfl, fun _ => ⟨rfl, rfl⟩, by simp, by simp, by simp⟩
  · obtain ⟨a', n', c, rfl⟩ := okWide_slice Try.underlying30 hv
    simp [Value.cells] at hcs
    obtain ⟨rfl, rfl, rfl⟩ := hcs
    unfold maxLen at hm
    simp only [if_true] at hmm
    have c3 : Try.prog.cellsOf 24 = 5 := by kernel_rfl
    have c1 : Try.prog.cellsOf 3 = 1 := by kernel_rfl
    have each : ∀ i, i < n' → ∃ q : L5, W.cell? (a.add (i * 5)) = some (.int .i64 q.f) ∧ W.cell? (a.add (i * 5 + 1)) = some (.int .i64 q.t) ∧ W.cell? (a.add (i * 5 + 2)) = some (.int .i64 q.s) ∧ W.cell? (a.add (i * 5 + 3)) = some (.int .i64 q.h) ∧ W.cell? (a.add (i * 5 + 4)) = some (.int .i64 q.d) ∧ (Ku.okN q.f ∧ Ku.okN q.t ∧ Ku.okN q.s ∧ Ku.okN q.h ∧ Ku.okN q.d) := by
      intro i hi
      obtain ⟨cs', h1, h2⟩ := hel i (by omega)
      rw [c3] at h1
      obtain ⟨_, hlen, hcell⟩ := World.cells?_some h1
      obtain ⟨x0, e0, k0⟩ := field_int Try.underlying24 h2 0 _ rfl Try.underlying3 c1
      obtain ⟨x1, e1, k1⟩ := field_int Try.underlying24 h2 1 _ rfl Try.underlying3 c1
      obtain ⟨x2, e2, k2⟩ := field_int Try.underlying24 h2 2 _ rfl Try.underlying3 c1
      obtain ⟨x3, e3, k3⟩ := field_int Try.underlying24 h2 3 _ rfl Try.underlying3 c1
      obtain ⟨x4, e4, k4⟩ := field_int Try.underlying24 h2 4 _ rfl Try.underlying3 c1
      have g0 := (hcell 0 (by omega)).trans e0
      have g1 := (hcell 1 (by omega)).trans e1
      have g2 := (hcell 2 (by omega)).trans e2
      have g3 := (hcell 3 (by omega)).trans e3
      have g4 := (hcell 4 (by omega)).trans e4
      rw [Deep.add_add] at g0
      rw [Deep.add_add] at g1
      rw [Deep.add_add] at g2
      rw [Deep.add_add] at g3
      rw [Deep.add_add] at g4
      refine ⟨⟨x0, x1, x2, x3, x4⟩, by simpa using g0, by simpa using g1, by simpa using g2, by simpa using g3, by simpa using g4, k0, k1, k2, k3, k4⟩
    obtain ⟨q, hq⟩ := choose_lt each
    have hlen : ((List.range n').map q).length = n' := by simp
    refine ⟨some a, (List.range n').map q, c, by rw [hlen], ?_, (fun h => by cases h), by omega, by omega, fun y hy => ?_⟩
    · by_cases h0 : n' = 0
      · exact .inl (by subst h0; rfl)
      · right
        obtain ⟨b, off, spot⟩ := a
        have hspot : spot = none := by simpa [Addr.add] using World.cell?_spot (hq 0 (by omega)).1
        subst hspot
        refine ⟨b, off, rfl, ?_, fun k hk => ?_⟩
        · have := World.block_lt_of_cell? W _ (hq 0 (by omega)).1
          simpa [Addr.add] using this
        · have hk' : k < n' := by simpa using hk
          obtain ⟨g0, g1, g2, g3, g4, _⟩ := hq k hk'
          have hg : ((List.range n').map q)[k]'hk = q k := by simp
          rw [hg]
          rw [Ku.add_off] at g0 g1 g2 g3 g4
          exact ⟨g0, g1, g2, g3, g4⟩
    · simp only [List.mem_map, List.mem_range] at hy
      obtain ⟨k, hk, rfl⟩ := hy
      exact (hq k hk).2.2.2.2.2
end Go.Proofs.Ytikjchebffohdaa.Wr
