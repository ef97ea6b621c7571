/-
  How what Match answers nests, plainly. No program in it.
-/
import Derived.Test.YtifaimoaaiikpaaBaPlain
set_option linter.unusedVariables false
namespace Go.Proofs.Ytifaimoaaiikpaa.Ba

theorem nest_I {l : List Int} {i : Nat} (h : i < l.length) (hi : isI l[i] = true) : mtK l l.length i = endAt l i ∧ i < endAt l i ∧ endAt l i ≤ l.length ∧ (∀ he : endAt l i < l.length, isP l[endAt l i] = true ∧ mtK l l.length (endAt l i) = i) := by
  refine ⟨mt_I h hi, endAt_gt l i, endAt_le l i h, fun he => ?_⟩
  have hp := endAt_P l i he
  obtain ⟨r, hs⟩ := ends_only he h hi rfl
  exact ⟨hp, by rw [mt_P he hp, hs]⟩
theorem nest_P {l : List Int} {i : Nat} (h : i < l.length) (hp : isP l[i] = true) : mtK l l.length i = -1 ∨ ∃ t : Nat, t < i ∧ mtK l l.length i = t ∧ mtK l l.length t = i := by
  rw [mt_P h hp]
  cases hs : stk l i with
  | nil => exact .inl rfl
  | cons t r =>
    obtain ⟨h1, h2, h3⟩ := ends_top h hp hs
    have ht : t < l.length := by omega
    rw [List.getElem?_eq_getElem ht] at h3
    exact .inr ⟨t, h2, rfl, by rw [mt_I ht (by simpa using h3), h1]⟩
theorem nest_in_I {l : List Int} {i k : Nat} (h : i < l.length) (hi : isI l[i] = true) (hik : i < k) (hke : k < endAt l i) (hk : k < l.length) (hkI : isI l[k] = true) : endAt l k ≤ endAt l i := by
  by_cases he : endAt l i < l.length
  · obtain ⟨r, hs⟩ := ends_only he h hi rfl
    by_cases hle : endAt l k ≤ endAt l i
    · exact hle
    · have hm := (stk_iff (l := l) (k := endAt l i) (t := k) (by omega) hke hk hkI).2 (by omega)
      have hf := stk_falls l (endAt l i) (by omega)
      rw [hs] at hm hf
      rcases List.mem_cons.1 hm with e | hm
      · omega
      · have := (List.pairwise_cons.1 hf).1 k hm
        omega
  · have := endAt_le l k hk
    omega
theorem nest_in_P {l : List Int} {i k : Nat} (h : i < l.length) (hi : isI l[i] = true) (hik : i < k) (hke : k < endAt l i) (hk : k < l.length) (hp : isP l[k] = true) : ∃ t : Nat, mtK l l.length k = t ∧ i < t := by
  have hm := (stk_iff (l := l) (k := k) (t := i) (by omega) hik h hi).2 (by omega)
  have hf := stk_falls l k (by omega)
  rw [mt_P hk hp]
  cases hs : stk l k with
  | nil => rw [hs] at hm; cases hm
  | cons t r =>
    obtain ⟨h1, h2, h3⟩ := ends_top hk hp hs
    rw [hs] at hm hf
    refine ⟨t, rfl, ?_⟩
    rcases List.mem_cons.1 hm with e | hm
    · subst e; omega
    · exact (List.pairwise_cons.1 hf).1 i hm
end Go.Proofs.Ytifaimoaaiikpaa.Ba
