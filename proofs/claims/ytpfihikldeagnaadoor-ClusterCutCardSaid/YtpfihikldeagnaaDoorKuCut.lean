/-
  Plain facts on clusters: a text's runes, cut ahead of a cluster, have the clusters ahead of the cut, and those behind it; no program here.
-/
import Derived.Test.YtpfihikldeagnaaDoorKuChain
set_option linter.unusedVariables false
namespace Go.Proofs.YtpfihikldeagnaaDoor.Ku

theorem run_head : ∀ (l : List R3) (σ : Sg) (n : Nat) (x : C6), ∃ y t, run σ n x l = y :: t ∧ y.a = x.a
  | [], σ, n, x => ⟨x, [], rfl, rfl⟩
  | r :: l, σ, n, x => by
    cases hj : joins σ r.2.2 with
    | true =>
      rw [run_yes hj]
      obtain ⟨y, t, h1, h2⟩ := run_head l (step σ r.2.2) (n + 1) (ext σ x n r)
      exact ⟨y, t, h1, h2⟩
    | false =>
      rw [run_no hj]
      exact ⟨x, _, rfl, rfl⟩
theorem ofC_head (r : R3) (l : List R3) : ∃ y t, ofC (r :: l) = y :: t ∧ y.a = r.1 := by
  obtain ⟨y, t, h1, h2⟩ := run_head l (step none0 r.2.2) (0 + 1) (ext none0 (new 0 r) 0 r)
  exact ⟨y, t, h1, h2⟩
theorem run_ft : ∀ (l : List R3) (σ : Sg) (n : Nat) (x : C6), 0 ≤ x.f ∧ x.f ≤ n ∧ 0 ≤ x.t ∧ x.t ≤ n → ∀ y ∈ run σ n x l, 0 ≤ y.f ∧ y.f ≤ (n + l.length : Nat) ∧ 0 ≤ y.t ∧ y.t ≤ (n + l.length : Nat)
  | [], σ, n, x, h, y, hy => by
    rw [show run σ n x [] = [x] from rfl, List.mem_singleton] at hy
    rw [hy]
    simp only [List.length_nil]
    omega
  | r :: l, σ, n, x, h, y, hy => by
    simp only [List.length_cons]
    cases hj : joins σ r.2.2 with
    | true =>
      rw [run_yes hj] at hy
      have := run_ft l (step σ r.2.2) (n + 1) (ext σ x n r) (by unfold ext; simp only; omega) y hy
      omega
    | false =>
      rw [run_no hj, List.mem_cons] at hy
      rcases hy with rfl | hy
      · omega
      · have := run_ft l (step σ r.2.2) (n + 1) (ext σ (new n r) n r) (by unfold ext new; simp only; omega) y hy
        omega
theorem ofC_ft (l : List R3) : ∀ y ∈ ofC l, 0 ≤ y.f ∧ y.f ≤ l.length ∧ 0 ≤ y.t ∧ y.t ≤ l.length := by
  cases l with
  | nil => intro y hy; simp [ofC, runN] at hy
  | cons r l =>
    intro y hy
    have := run_ft l (step none0 r.2.2) (0 + 1) (ext none0 (new 0 r) 0 r) (by unfold ext new; simp only; omega) y hy
    simp only [List.length_cons]
    omega
theorem chain_ge : ∀ (rs : List (Nat × Nat × Nat)) (a b : Nat), Rn.Chain rs a b → ∀ j (hj : j < rs.length), a ≤ (rs[j]).1
  | r :: rs, a, b, h, 0, _ => by
    obtain ⟨h1, _⟩ := h
    simp only [List.getElem_cons_zero]
    omega
  | r :: rs, a, b, h, j + 1, hj => by
    obtain ⟨h1, h2, _, _, h3⟩ := h
    have := chain_ge rs _ _ h3 j (by simpa using hj)
    simp only [List.getElem_cons_succ]
    omega
theorem chain_lt : ∀ (rs : List (Nat × Nat × Nat)) (a b : Nat), Rn.Chain rs a b → ∀ i j (hij : i < j) (hj : j < rs.length), (rs[i]).1 < (rs[j]).1
  | r :: rs, a, b, h, 0, j + 1, _, hj => by
    obtain ⟨h1, h2, _, _, h3⟩ := h
    have := chain_ge rs _ _ h3 j (by simpa using hj)
    simp only [List.getElem_cons_succ, List.getElem_cons_zero]
    omega
  | r :: rs, a, b, h, i + 1, j + 1, hij, hj => by
    obtain ⟨h1, h2, _, _, h3⟩ := h
    simp only [List.getElem_cons_succ]
    exact chain_lt rs _ _ h3 i j (by omega) (by simpa using hj)
/-- What the law needs of a cut. -/
theorem cut_all (rs : List (Nat × Nat × Nat)) (e : Nat) (hc : Rn.Chain rs 0 e) (k : Nat) (hk : k < (ofC (ints3 rs)).length) :
    ∃ m, m < (ints3 rs).length ∧ (∀ i (hi : i < (ints3 rs).length), decide (((ints3 rs)[i]).1 < ((ofC (ints3 rs))[k]).a) = decide (i < m)) ∧
      (ofC ((ints3 rs).take m)).length = k ∧ (ofC ((ints3 rs).drop m)).length = (ofC (ints3 rs)).length - k ∧
      (∀ i (hi : i < k) (h2 : i < (ofC ((ints3 rs).take m)).length), (ofC ((ints3 rs).take m))[i] = (ofC (ints3 rs))[i]'(by omega)) ∧
      (∀ j (h2 : j < (ofC ((ints3 rs).drop m)).length) (h3 : k + j < (ofC (ints3 rs)).length), shift m ((ofC ((ints3 rs).drop m))[j]) = (ofC (ints3 rs))[k + j]) := by
  obtain ⟨m, hm, hf, ht, hd⟩ := ofC_cut (ints3 rs) k hk
  refine ⟨m, hm, fun i hi => ?_, ?_, ?_, fun i hi h2 => ?_, fun j h2 h3 => ?_⟩
  · have ha : ((ofC (ints3 rs))[k]).a = ((ints3 rs)[m]).1 := by
      have hg : (ofC (ints3 rs))[k] = ((ofC (ints3 rs)).drop k)[0]'(by simp; omega) := by simp
      rw [hg]
      simp only [hd]
      rw [List.getElem_map]
      have hcons := List.drop_eq_getElem_cons hm
      obtain ⟨y, t, e1, e2⟩ := ofC_head (ints3 rs)[m] ((ints3 rs).drop (m + 1))
      simp only [hcons, e1]
      exact e2
    rw [ha, decide_eq_decide]
    have hl := ints3_len rs
    have hi' : i < rs.length := by omega
    have hm' : m < rs.length := by omega
    have gi : ((ints3 rs)[i]).1 = ((rs[i]).1 : Int) := by simp [ints3]
    have gm : ((ints3 rs)[m]).1 = ((rs[m]).1 : Int) := by simp [ints3]
    rw [gi, gm]
    constructor
    · intro h
      by_cases h1 : i < m
      · exact h1
      · exfalso
        by_cases h2 : i = m
        · subst h2; omega
        · have := chain_lt rs 0 e hc m i (by omega) hi'
          omega
    · intro h
      have := chain_lt rs 0 e hc i m h hm'
      omega
  · rw [← ht, List.length_take]
    omega
  · have := congrArg List.length hd
    rw [List.length_drop, List.length_map] at this
    omega
  · simp only [← ht, List.getElem_take]
  · have hg : (ofC (ints3 rs))[k + j] = ((ofC (ints3 rs)).drop k)[j]'(by rw [List.length_drop]; omega) := by rw [List.getElem_drop]
    rw [hg]
    simp only [hd, List.getElem_map]
def CutOk (l : List R3) : Prop := ∀ k (hk : k < (ofC l).length), ∃ m, m < l.length ∧ (∀ i (hi : i < l.length), decide ((l[i]).1 < ((ofC l)[k]).a) = decide (i < m)) ∧
  (ofC (l.take m)).length = k ∧ (ofC (l.drop m)).length = (ofC l).length - k ∧
  (∀ i (hi : i < k) (h2 : i < (ofC (l.take m)).length), (ofC (l.take m))[i] = (ofC l)[i]'(by omega)) ∧
  (∀ j (h2 : j < (ofC (l.drop m)).length) (h3 : k + j < (ofC l).length), shift m ((ofC (l.drop m))[j]) = (ofC l)[k + j])
theorem cutOk (rs : List (Nat × Nat × Nat)) (e : Nat) (hc : Rn.Chain rs 0 e) : CutOk (ints3 rs) := fun k hk => cut_all rs e hc k hk
end Go.Proofs.YtpfihikldeagnaaDoor.Ku
