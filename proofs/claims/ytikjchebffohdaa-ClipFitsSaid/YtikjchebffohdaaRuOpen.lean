/-
  A row of runes that a statement's function is called with, as its walk reads it; a field of ints of a struct.
-/
import Derived.Test.YtikjchebffohdaaRuRows
import Derived.Test.YtikjchebffohdaaLawKit
import Derived.Deep.Slices
set_option linter.unusedVariables false
set_option maxRecDepth 100000
namespace Go.Proofs.Ytikjchebffohdaa
open Go.ChangeShapes Go.WideShapes Go.ChangeAt Go.RowKit Go.Deep

/-- A field of ints of a struct. -/
theorem field_int {H : Type} {enc : TypeId × Value → H} {P : Program} {w : World} {base : Nat} {spare : Nat → Bool} {held : Bool} {fuel : Nat} {t : TypeId} {fs : Array Field} {cs : List Value} {x : DataW H × List MemPlace} (ht : P.underlying t = some (.struct fs))
    (h : DataW.trod enc P w base spare held fuel t cs = some x) (i : Nat) (f : Field) (hf : fs[i]? = some f) (hty : P.underlying f.type = some (.int .i64)) (hc : P.cellsOf f.type = 1) : ∃ n, cs[f.offset]? = some (.int .i64 n) ∧ Ku.okN n := by
  obtain ⟨xs, m, _, _, _, hxl, hel⟩ := DataW.trod_struct ht h
  have hE := hel i f hf
  have hi : i < fs.size := (Array.getElem?_eq_some_iff.1 hf).1
  rw [hc, List.getElem?_eq_getElem (by omega)] at hE
  obtain ⟨n, e1, _, e3⟩ := DataW.trod_int hty hE
  refine ⟨n, ?_, ?_⟩
  · have h0 : ((cs.drop f.offset).take 1)[0]? = some (.int .i64 n) := by rw [e1]; rfl
    simpa using h0
  · have h1 : IntKind.i64.min = -9223372036854775808 := rfl
    have h2 : IntKind.i64.max = 9223372036854775807 := rfl
    simp only [Lit.wf, Bool.and_eq_true, decide_eq_true_eq] at e3
    unfold Ku.okN
    omega

theorem open_runes {H : Type} {enc : TypeId × Value → H} {W : World} {r : Reach} {b0 base : Nat} {v : Value} {d : DataW H} {p : List MemPlace}
    (hv : Value.okWide Try.prog W r b0 54 v) (h : DataW.Trod enc Try.prog W base (fun _ => true) true 54 v d p) :
    ∃ (A : Option Addr) (l : List Ku.R3) (c : Nat), v = .slice A l.length c ∧ Ku.RuAt W A l ∧ (A = none → l = [] ∧ c = 0) ∧ l.length ≤ c ∧ l.length ≤ 9223372036854775807 ∧ ∀ q ∈ l, Ku.okN q.1 ∧ Ku.okN q.2.1 ∧ Ku.okN q.2.2 := by
  obtain ⟨fuel, hf⟩ := h
  rcases open_slice Try.underlying54 hf with ⟨hcs, hx⟩ | ⟨a, len, cap, m, n, D, Pl, hcs, hb, hl, hm, hmm, hx, hel⟩
  · obtain ⟨a, n, c, rfl⟩ := okWide_slice Try.underlying54 hv
    simp [Value.cells] at hcs
    obtain ⟨rfl, rfl, rfl⟩ := hcs
    exact ⟨none, [], 0, rfl, .inl rfl, fun _ => ⟨rfl, rfl⟩, by simp, by simp, by simp⟩
  · obtain ⟨a', n', c, rfl⟩ := okWide_slice Try.underlying54 hv
    simp [Value.cells] at hcs
    obtain ⟨rfl, rfl, rfl⟩ := hcs
    unfold maxLen at hm
    simp only [if_true] at hmm
    have c3 : Try.prog.cellsOf 59 = 3 := by kernel_rfl
    have c1 : Try.prog.cellsOf 3 = 1 := by kernel_rfl
    have each : ∀ i, i < n' → ∃ q : Ku.R3, W.cell? (a.add (i * 3)) = some (.int .i64 q.1) ∧ W.cell? (a.add (i * 3 + 1)) = some (.int .i64 q.2.1) ∧ W.cell? (a.add (i * 3 + 2)) = some (.int .i64 q.2.2) ∧ (Ku.okN q.1 ∧ Ku.okN q.2.1 ∧ Ku.okN q.2.2) := by
      intro i hi
      obtain ⟨cs', h1, h2⟩ := hel i (by omega)
      rw [c3] at h1
      obtain ⟨_, hlen, hcell⟩ := World.cells?_some h1
      obtain ⟨x0, e0, k0⟩ := field_int Try.underlying59 h2 0 _ rfl Try.underlying3 c1
      obtain ⟨x1, e1, k1⟩ := field_int Try.underlying59 h2 1 _ rfl Try.underlying3 c1
      obtain ⟨x2, e2, k2⟩ := field_int Try.underlying59 h2 2 _ rfl Try.underlying3 c1
      have g0 := (hcell 0 (by omega)).trans e0
      have g1 := (hcell 1 (by omega)).trans e1
      have g2 := (hcell 2 (by omega)).trans e2
      rw [Deep.add_add] at g0
      rw [Deep.add_add] at g1
      rw [Deep.add_add] at g2
      refine ⟨(x0, x1, x2), by simpa using g0, by simpa using g1, by simpa using g2, k0, k1, k2⟩
    obtain ⟨q, hq⟩ := choose_lt each
    have hlen : ((List.range n').map q).length = n' := by simp
    refine ⟨some a, (List.range n').map q, c, by rw [hlen], ?_, (fun h => by cases h), by omega, by omega, fun y hy => ?_⟩
    · by_cases h0 : n' = 0
      · exact .inl (by subst h0; rfl)
      · right
        obtain ⟨b, off, spot⟩ := a
        have hspot : spot = none := by simpa [Addr.add] using World.cell?_spot (hq 0 (by omega)).1
        subst hspot
        refine ⟨b, off, rfl, ?_, fun k hk => ?_⟩
        · have := World.block_lt_of_cell? W _ (hq 0 (by omega)).1
          simpa [Addr.add] using this
        · have hk' : k < n' := by simpa using hk
          obtain ⟨g0, g1, g2, _⟩ := hq k hk'
          have hg : ((List.range n').map q)[k]'hk = q k := by simp
          rw [hg]
          rw [Ku.add_off] at g0 g1 g2
          exact ⟨g0, g1, g2⟩
    · simp only [List.mem_map, List.mem_range] at hy
      obtain ⟨k, hk, rfl⟩ := hy
      exact (hq k hk).2.2.2
end Go.Proofs.Ytikjchebffohdaa
