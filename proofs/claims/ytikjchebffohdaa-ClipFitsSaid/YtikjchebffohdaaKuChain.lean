/-
  Plain facts on clusters: runes that follow one another without a gap have clusters that do; which cluster has a byte; no program here.
-/
import Derived.Test.YtikjchebffohdaaKuParts
import Derived.Test.YtikjchebffohdaaRnPlain
set_option linter.unusedVariables false
namespace Go.Proofs.Ytikjchebffohdaa.Ku
open Go.Proofs.Ytikjchebffohdaa.Co Go.Proofs.Ytikjchebffohdaa.Gc

/-- Has a cluster a byte? -/
def hasT (x : C6) (p : Int) : Bool := decide (0 < x.z) && (decide (x.a ≤ p) && decide (p < x.a + x.z))
/-- The place of the first one that has it; as many as there are, if there is none. -/
def findN (l : List C6) (p : Int) : Nat := l.findIdx (fun x => hasT x p)
theorem findN_le (l : List C6) (p : Int) : findN l p ≤ l.length := List.findIdx_le_length
theorem findN_yes (l : List C6) (p : Int) (k : Nat) (hk : k < l.length) (h : hasT l[k] p = true) (ha : ∀ j (hj : j < k), hasT (l[j]'(by omega)) p = false) : findN l p = k := by
  unfold findN
  rw [List.findIdx_eq hk]
  exact ⟨h, fun j hj => by rw [ha j hj]⟩
theorem findN_no (l : List C6) (p : Int) (h : ∀ k (hk : k < l.length), hasT l[k] p = false) : findN l p = l.length := by
  unfold findN
  rw [List.findIdx_eq_length]
  intro x hx
  obtain ⟨k, hk, rfl⟩ := List.getElem_of_mem hx
  rw [h k hk]

/-- The runes of a text, as numbers. -/
def ints3 (l : List (Nat × Nat × Nat)) : List R3 := l.map fun r => ((r.1 : Int), (r.2.1 : Int), (r.2.2 : Int))
theorem ints3_len (l : List (Nat × Nat × Nat)) : (ints3 l).length = l.length := by simp [ints3]

/-- Clusters that follow one another without a gap, from a byte and a place to a byte. -/
def Chn : Nat → Nat → List C6 → Nat → Prop
  | p, q, [], e => p = e
  | p, q, x :: l, e => ∃ m k : Nat, 1 ≤ m ∧ 1 ≤ k ∧ x.a = p ∧ x.z = m ∧ x.f = q ∧ x.t = (q + k : Nat) ∧ Chn (p + m) (q + k) l e
theorem chn_mk {p q e : Nat} {x : C6} {l : List C6} (m k : Nat) (h1 : 1 ≤ m) (h2 : 1 ≤ k) (ha : x.a = p) (hz : x.z = m) (hf : x.f = q) (ht : x.t = (q + k : Nat)) (h : Chn (p + m) (q + k) l e) : Chn p q (x :: l) e := ⟨m, k, h1, h2, ha, hz, hf, ht, h⟩
theorem chn_le : ∀ (l : List C6) (p q e : Nat), Chn p q l e → p ≤ e
  | [], p, q, e, h => by unfold Chn at h; omega
  | x :: l, p, q, e, h => by
    obtain ⟨m, k, h1, h2, _, _, _, _, h3⟩ := h
    have := chn_le l _ _ _ h3
    omega
theorem run_chain : ∀ (l : List (Nat × Nat × Nat)) (σ : Sg) (n p e : Nat) (x : C6) (b m q : Nat), Rn.Chain l p e → e ≤ 1000000 → x.a = b → x.z = m → 1 ≤ m → b + m = p → x.f = q → x.t = n → q < n → Chn b q (run σ n x (ints3 l)) e
  | [], σ, n, p, e, x, b, m, q, hc, he, ha, hz, hm, hp, hf, ht, hq => by
    have : p = e := hc
    refine chn_mk (l := []) m (n - q) hm (by omega) ha hz hf (by rw [ht]; congr 1; omega) ?_
    show b + m = e
    omega
  | r :: l, σ, n, p, e, x, b, m, q, hc, he, ha, hz, hm, hp, hf, ht, hq => by
    have hl : ∃ s, r.1 = p ∧ r.2.1 = s ∧ 1 ≤ s ∧ Rn.Chain l (p + s) e := by
      obtain ⟨k0, k1, _, _, k4⟩ := hc
      exact ⟨r.2.1, k0, rfl, k1, k4⟩
    obtain ⟨s, h1, h2, h3, h4⟩ := hl
    have hle := Rn.chain_le _ _ _ h4
    show Chn b q (run σ n x (((r.1 : Int), (r.2.1 : Int), (r.2.2 : Int)) :: ints3 l)) e
    cases hj : joins σ (r.2.2 : Int) with
    | true =>
      rw [run_yes (r := ((r.1 : Int), (r.2.1 : Int), (r.2.2 : Int))) hj]
      refine run_chain l _ (n + 1) (p + s) e _ b (m + s) q h4 he ?_ ?_ (by omega) (by omega) ?_ ?_ (by omega)
      · exact ha
      · show IntKind.i64.wrap (x.z + (r.2.1 : Int)) = _
        rw [hz, h2, IntWalk.i64_in _ (by omega)]
        omega
      · exact hf
      · show (n : Int) + 1 = _
        omega
    | false =>
      rw [run_no (r := ((r.1 : Int), (r.2.1 : Int), (r.2.2 : Int))) hj]
      refine chn_mk m (n - q) hm (by omega) ha hz hf (by rw [ht]; congr 1; omega) ?_
      rw [show b + m = p from hp, show q + (n - q) = n from by omega]
      refine run_chain l _ (n + 1) (p + s) e _ p s n h4 he ?_ ?_ h3 rfl ?_ ?_ (by omega)
      · show (r.1 : Int) = p
        omega
      · show IntKind.i64.wrap ((0 : Int) + (r.2.1 : Int)) = _
        rw [h2, IntWalk.i64_in _ (by omega)]
        omega
      · rfl
      · show (n : Int) + 1 = _
        omega
theorem ofC_chain (l : List (Nat × Nat × Nat)) (e : Nat) (hc : Rn.Chain l 0 e) (he : e ≤ 1000000) : Chn 0 0 (ofC (ints3 l)) e := by
  cases l with
  | nil => exact hc
  | cons r l =>
    obtain ⟨h0, h1, _, _, h4⟩ := hc
    have hle := Rn.chain_le _ _ _ h4
    show Chn 0 0 (run (step none0 (r.2.2 : Int)) (0 + 1) (ext none0 (new 0 ((r.1 : Int), (r.2.1 : Int), (r.2.2 : Int))) 0 ((r.1 : Int), (r.2.1 : Int), (r.2.2 : Int))) (ints3 l)) e
    refine run_chain l _ (0 + 1) (0 + r.2.1) e _ 0 r.2.1 0 h4 he ?_ ?_ h1 (by omega) ?_ ?_ (by omega)
    · show (r.1 : Int) = _
      omega
    · show IntKind.i64.wrap ((0 : Int) + (r.2.1 : Int)) = _
      have hle' : 0 + r.2.1 ≤ e := hle
      rw [IntWalk.i64_in _ (by omega)]
      omega
    · rfl
    · show ((0 : Nat) : Int) + 1 = _
      omega
/-- Where each cluster begins. -/
theorem chn_at : ∀ (l : List C6) (p q e : Nat), Chn p q l e → ∀ i (hi : i < l.length), ∃ b f m k : Nat, p ≤ b ∧ 1 ≤ m ∧ 1 ≤ k ∧ b + m ≤ e ∧ (l[i]).a = b ∧ (l[i]).z = m ∧ (l[i]).f = f ∧ (l[i]).t = (f + k : Nat) ∧ (∀ j (hj : j < i), ((l[j]'(by omega)).a + (l[j]'(by omega)).z ≤ b)) ∧ (i = 0 → b = p ∧ f = q) ∧ (∀ h : 0 < i, (l[i - 1]).t = f ∧ (l[i - 1]).a + (l[i - 1]).z = b) ∧ Chn (b + m) (f + k) (l.drop (i + 1)) e
  | x :: l, p, q, e, h, 0, hi => by
    obtain ⟨m, k, h1, h2, ha, hz, hf, ht, hr⟩ := h
    have := chn_le _ _ _ _ hr
    exact ⟨p, q, m, k, Nat.le_refl _, h1, h2, this, ha, hz, hf, ht, fun j hj => by omega, fun _ => ⟨rfl, rfl⟩, fun h => by omega, hr⟩
  | x :: l, p, q, e, h, i + 1, hi => by
    obtain ⟨m, k, h1, h2, ha, hz, hf, ht, hr⟩ := h
    obtain ⟨b, f, m', k', g1, g2, g3, g4, ga, gz, gf, gt, gj, g0, gs, gr⟩ := chn_at l _ _ _ hr i (by simpa using hi)
    refine ⟨b, f, m', k', by omega, g2, g3, g4, ga, gz, gf, gt, fun j hj => ?_, fun h => by omega, fun _ => ?_, gr⟩
    · cases j with
      | zero =>
        simp only [List.getElem_cons_zero, ha, hz]
        omega
      | succ j =>
        simp only [List.getElem_cons_succ]
        exact gj j (by omega)
    · cases i with
      | zero =>
        obtain ⟨e1, e2⟩ := g0 rfl
        simp only [Nat.add_sub_cancel, List.getElem_cons_zero, ha, hz, ht]
        omega
      | succ i =>
        have := gs (by omega)
        simp only [Nat.add_sub_cancel, List.getElem_cons_succ] at this ⊢
        exact this
theorem chn_find {l : List C6} {q e : Nat} (h : Chn 0 q l e) (i : Nat) (hi : i < l.length) (p : Int) (h1 : (l[i]).a ≤ p) (h2 : p < (l[i]).a + (l[i]).z) : findN l p = i := by
  obtain ⟨b, f, m', k', g1, g2, g3, g4, ga, gz, gf, gt, gj, g0, gs, gr⟩ := chn_at l _ _ _ h i hi
  refine findN_yes l p i hi ?_ fun j hj => ?_
  · unfold hasT
    rw [decide_eq_true (by omega), decide_eq_true h1, decide_eq_true h2]
    rfl
  · have := gj j hj
    unfold hasT
    rw [decide_eq_false (by omega : ¬ p < (l[j]).a + (l[j]).z), Bool.and_false, Bool.and_false]
theorem chn_none {l : List C6} {q e : Nat} (h : Chn 0 q l e) (p : Int) (hp : p < 0 ∨ e ≤ p) : findN l p = l.length := by
  refine findN_no l p fun i hi => ?_
  obtain ⟨b, f, m', k', g1, g2, g3, g4, ga, gz, gf, gt, gj, g0, gs, gr⟩ := chn_at l _ _ _ h i hi
  unfold hasT
  rcases hp with hp | hp
  · rw [decide_eq_false (by omega : ¬ (l[i]).a ≤ p), Bool.false_and, Bool.and_false]
  · rw [decide_eq_false (by omega : ¬ p < (l[i]).a + (l[i]).z), Bool.and_false, Bool.and_false]
end Go.Proofs.Ytikjchebffohdaa.Ku
