/-
  A row of ints that a statement's function is called with, as its walk reads it: nil, or cells of memory.
-/
import Derived.Test.YtikjchebffohdaaClInts
import Derived.Test.YtikjchebffohdaaLawKit
import Derived.ChangeSlices
import Derived.Laws.IdiomAt
import Derived.Laws.IdiomElems
namespace Go.Proofs.Ytikjchebffohdaa
open Go.ChangeShapes Go.WideShapes Go.ChangeAt Go.RowKit

set_option maxRecDepth 100000 in
theorem open_introwc {H : Type} {enc : TypeId × Value → H} {W : World} {r : Reach} {b0 base : Nat} {v : Value} {d : DataW H} {p : List MemPlace}
    (hv : Value.okWide Try.prog W r b0 57 v) (h : DataW.Trod enc Try.prog W base (fun _ => true) true 57 v d p) :
    ∃ (A : Option Addr) (zs : List Int) (c : Nat), v = .slice A zs.length c ∧ Cl.IntsAt W A zs ∧ (A = none → zs = [] ∧ c = 0) ∧ zs.length ≤ 9223372036854775807 ∧ (∀ z ∈ zs, -9223372036854775808 ≤ z ∧ z ≤ 9223372036854775807) ∧ zs.length ≤ c := by
  obtain ⟨fuel, hf⟩ := h
  rcases open_ints Try.underlying57 Try.underlying3 (by kernel_rfl) hf with ⟨hcs, hx⟩ | ⟨a, len, cap, zs, hcs, _, hl, hm, hz, hx, hcell, hwz⟩
  · obtain ⟨a, n, c, rfl⟩ := okWide_slice Try.underlying57 hv
    simp [Value.cells] at hcs
    obtain ⟨rfl, rfl, rfl⟩ := hcs
    exact ⟨none, [], 0, rfl, .inl rfl, fun _ => ⟨rfl, rfl⟩, by decide, by simp, by simp⟩
  · obtain ⟨a', n, c, rfl⟩ := okWide_slice Try.underlying57 hv
    simp [Value.cells] at hcs
    obtain ⟨rfl, rfl, rfl⟩ := hcs
    simp only [if_true] at hz
    unfold maxLen at hm
    have hlen : (zs.take n).length = n := by simp; omega
    refine ⟨some a, zs.take n, c, by rw [hlen], ?_, (fun h => by cases h), by omega, fun z hz' => ?_, by omega⟩
    · by_cases h0 : n = 0
      · exact .inl (by subst h0; simp)
      · right
        obtain ⟨b, off, spot⟩ := a
        have hspot : spot = none := by simpa [Addr.add] using World.cell?_spot (hcell 0 (by omega))
        subst hspot
        refine ⟨b, off, rfl, ?_, fun j z hj => ?_⟩
        · have := World.block_lt_of_cell? W _ (hcell 0 (by omega))
          simpa [Addr.add] using this
        · have hj' : j < n := by
            have := (List.getElem?_eq_some_iff.1 hj).1
            omega
          have hadd : (⟨b, off, none⟩ : Addr).add j = ⟨b, off + j, none⟩ := by unfold Addr.add; split <;> simp_all
          rw [← hadd, hcell j (by omega)]
          rw [List.getElem?_take, if_pos hj'] at hj
          simp [List.getD, hj]
    · have := hwz z (List.mem_of_mem_take hz')
      have h1 : IntKind.i64.min = -9223372036854775808 := rfl
      have h2 : IntKind.i64.max = 9223372036854775807 := rfl
      simp only [Lit.wf, Bool.and_eq_true, decide_eq_true_eq] at this
      omega
set_option maxRecDepth 100000 in
theorem open_introw {H : Type} {enc : TypeId × Value → H} {W : World} {r : Reach} {b0 base : Nat} {v : Value} {d : DataW H} {p : List MemPlace}
    (hv : Value.okWide Try.prog W r b0 57 v) (h : DataW.Trod enc Try.prog W base (fun _ => true) true 57 v d p) :
    ∃ (A : Option Addr) (zs : List Int) (c : Nat), v = .slice A zs.length c ∧ Cl.IntsAt W A zs ∧ (A = none → zs = [] ∧ c = 0) ∧ zs.length ≤ 9223372036854775807 ∧ ∀ z ∈ zs, -9223372036854775808 ≤ z ∧ z ≤ 9223372036854775807 := by
  obtain ⟨A, zs, c, h1, h2, h3, h4, h5, _⟩ := open_introwc hv h
  exact ⟨A, zs, c, h1, h2, h3, h4, h5⟩
end Go.Proofs.Ytikjchebffohdaa
