/-
  Where paragraphs end, plainly: rising places, the last one behind the last rune; and what a rune 2029 ahead adds. No program in it but its table of classes.
-/
import Derived.Test.YtifaimoaaiikpaaBaPars
set_option linter.unusedVariables false
namespace Go.Proofs.Ytifaimoaaiikpaa.Ba
open Go.RowKit Go.Lib Go.Proofs.Ytifaimoaaiikpaa.Cl
open Go.Proofs.Ytifaimoaaiikpaa.Ku (R3 RuAt)

theorem parL_mem {l : List R3} {k : Nat} {z : Int} (h : z ∈ parL l k) : 1 ≤ z ∧ z ≤ k := by
  unfold parL at h
  simp only [List.mem_map, List.mem_filter, List.mem_range] at h
  obtain ⟨i, ⟨hi, _⟩, rfl⟩ := h
  omega
theorem parL_rises (l : List R3) (k : Nat) : (parL l k).Pairwise (· < ·) := by
  unfold parL
  refine List.Pairwise.map _ ?_ ((List.pairwise_lt_range).filter _)
  intro a b h
  omega
theorem parL_zero (l : List R3) : parL l 0 = [] := rfl
theorem parL_last {l : List R3} {k : Nat} (h : k + 1 = l.length) : parL l (k + 1) = parL l k ++ [(k : Int) + 1] := parL_yes (endB_last h)
/-- What was seen last, ahead of a place. -/
def lastv (ps : List Int) (i : Nat) : Int := if i = 0 then 0 else ps.getD (i - 1) 0
theorem lastv_next {ps : List Int} {i : Nat} (h : i < ps.length) : lastv ps (i + 1) = ps[i] := by simp [lastv, h]
theorem lastv_lt {l : List R3} {k i : Nat} (h : i < (parL l k).length) : lastv (parL l k) i < (parL l k)[i] := by
  unfold lastv
  have h1 := parL_mem (List.getElem_mem h)
  by_cases e : i = 0
  · rw [if_pos e]; omega
  · rw [if_neg e]
    have h2 : i - 1 < (parL l k).length := by omega
    have e2 : (parL l k).getD (i - 1) 0 = (parL l k)[i - 1] := by simp [h2]
    rw [e2]
    exact List.pairwise_iff_getElem.1 (parL_rises l k) (i - 1) i h2 h (by omega)
theorem lastv_bound (l : List R3) (k i : Nat) : 0 ≤ lastv (parL l k) i ∧ lastv (parL l k) i ≤ k := by
  unfold lastv
  by_cases e : i = 0
  · rw [if_pos e]; omega
  · rw [if_neg e]
    by_cases h2 : i - 1 < (parL l k).length
    · have e2 : (parL l k).getD (i - 1) 0 = (parL l k)[i - 1] := by simp [h2]
      rw [e2]
      have h1 := parL_mem (List.getElem_mem h2)
      omega
    · have e2 : (parL l k).getD (i - 1) 0 = 0 := by simp [Nat.not_lt.1 h2]
      rw [e2]
      omega
theorem lastv_end (l : List R3) (n : Nat) (hn : l.length = n) : lastv (parL l n) (parL l n).length = n := by
  cases n with
  | zero => rfl
  | succ k =>
    rw [parL_last hn.symm]
    simp [lastv]
theorem cls_2029 : cls 8233 = 10 := by kernel_rfl
theorem endB_zero (r : R3) (l : List R3) (h : r.2.2 = 8233) : endB (r :: l) 0 = true := by
  have h1 : cls (codeR (r :: l) 0) = 10 := by
    have : codeR (r :: l) 0 = 8233 := h
    rw [this]
    exact cls_2029
  have h2 : codeR (r :: l) 0 = 8233 := h
  unfold endB
  rw [h1, h2]
  simp [tog]
theorem endB_succ (r : R3) (l : List R3) (i : Nat) : endB (r :: l) (i + 1) = endB l i := by
  unfold endB codeR
  simp
theorem parL_cons (r : R3) (l : List R3) (h : r.2.2 = 8233) (k : Nat) : parL (r :: l) (k + 1) = 1 :: (parL l k).map (· + 1) := by
  unfold parL
  rw [List.range_succ_eq_map, List.filter_cons, if_pos (endB_zero r l h), List.map_cons, List.filter_map, List.map_map, List.map_map]
  have e : endB (r :: l) ∘ Nat.succ = endB l := by
    funext i
    exact endB_succ r l i
  rw [e]
  have e2 : (List.map ((fun (i : Nat) => (i : Int) + 1) ∘ Nat.succ) (List.filter (endB l) (List.range k))) = List.map ((· + 1) ∘ fun (i : Nat) => (i : Int) + 1) (List.filter (endB l) (List.range k)) := List.map_congr_left fun i _ => by
    simp only [Function.comp]
    omega
  rw [e2]
  rfl
end Go.Proofs.Ytifaimoaaiikpaa.Ba
