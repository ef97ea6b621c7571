/-
  Plain facts on rising spans: what a search by halves finds, and that it is the one span that has the number.
-/
import Derived.Test.YtifaimoaaiikpaaRows
set_option linter.unusedVariables false
namespace Go.Proofs.Ytifaimoaaiikpaa.Cl

abbrev Span := Int × Int × Int
/-- How many spans lie below a number. -/
def cnt (l : List Span) (c : Int) : Nat := (l.takeWhile fun s => decide (s.2.1 < c)).length
/-- Whether the first span that does not lie below has the number. -/
def hitB (l : List Span) (c : Int) : Bool := match l[cnt l c]? with
  | some s => decide (s.1 ≤ c)
  | none => false
/-- The class of a number by a rising list of spans. -/
def ofT (l : List Span) (c : Int) : Int := match l[cnt l c]? with
  | some s => if s.1 ≤ c then s.2.2 else 0
  | none => 0
/-- Spans rise, and are not empty. -/
def rises : List Span → Bool
  | [] => true
  | [s] => decide (s.1 ≤ s.2.1)
  | s :: t :: l => decide (s.1 ≤ s.2.1) && decide (s.2.1 < t.1) && rises (t :: l)

theorem rises_tail {s : Span} {l : List Span} (h : rises (s :: l) = true) : rises l = true := by
  cases l with
  | nil => rfl
  | cons t l => simp [rises] at h; exact h.2
theorem rises_head {s : Span} {l : List Span} (h : rises (s :: l) = true) : s.1 ≤ s.2.1 := by
  cases l with
  | nil => simpa [rises] using h
  | cons t l => simp [rises] at h; exact h.1.1
theorem rises_above {s : Span} : ∀ {l : List Span}, rises (s :: l) = true → ∀ t ∈ l, s.2.1 < t.1 ∧ t.1 ≤ t.2.1
  | [], _, t, ht => by cases ht
  | u :: l, h, t, ht => by
    have hu : s.2.1 < u.1 := by simp [rises] at h; exact h.1.2
    have hr := rises_tail h
    rcases List.mem_cons.1 ht with rfl | ht
    · exact ⟨hu, rises_head hr⟩
    · have := rises_above hr t ht
      have := rises_head hr
      omega
theorem rises_lt : ∀ {l : List Span}, rises l = true → ∀ (i j : Nat) (hi : i < l.length) (hj : j < l.length), i < j → l[i].2.1 < l[j].1 ∧ l[j].1 ≤ l[j].2.1
  | s :: l, h, 0, j + 1, hi, hj, _ => by
    simpa using rises_above h _ (List.getElem_mem (by simpa using hj))
  | s :: l, h, i + 1, j + 1, hi, hj, hij => by
    simpa using rises_lt (rises_tail h) i j (by simpa using hi) (by simpa using hj) (by omega)
theorem rises_at {l : List Span} (h : rises l = true) (i : Nat) (hi : i < l.length) : l[i].1 ≤ l[i].2.1 := by
  induction l generalizing i with
  | nil => simp at hi
  | cons s l ih =>
    cases i with
    | zero => exact rises_head h
    | succ i => simpa using ih (rises_tail h) i (by simpa using hi)

theorem cnt_le (l : List Span) (c : Int) : cnt l c ≤ l.length := by
  unfold cnt; exact (List.takeWhile_sublist _).length_le
theorem cnt_below : ∀ (l : List Span) (c : Int) (k : Nat) (hk : k < l.length), k < cnt l c → l[k].2.1 < c
  | s :: l, c, k, hk, h => by
    unfold cnt at h
    rw [List.takeWhile_cons] at h
    split at h
    · rename_i hs
      cases k with
      | zero => simpa using hs
      | succ k => simpa using cnt_below l c k (by simpa using hk) (by simpa [cnt] using h)
    · simp at h
theorem cnt_at : ∀ (l : List Span) (c : Int) (hk : cnt l c < l.length), ¬ l[cnt l c].2.1 < c
  | s :: l, c, hk => by
    unfold cnt at hk ⊢
    by_cases hs : s.2.1 < c
    · have e : ((s :: l).takeWhile fun s => decide (s.2.1 < c)).length = cnt l c + 1 := by simp [hs, cnt]
      have := cnt_at l c (by rw [e] at hk; simpa using hk)
      simp only [e]
      simpa using this
    · have e : ((s :: l).takeWhile fun s => decide (s.2.1 < c)).length = 0 := by simp [hs]
      simp only [e]
      simpa using hs
/-- What a search by halves ends with is that number. -/
theorem cnt_is {l : List Span} (h : rises l = true) {c : Int} {i : Nat} (hi : i ≤ l.length) (hlo : ∀ k (hk : k < l.length), k < i → l[k].2.1 < c) (hhi : ∀ k (hk : k < l.length), i ≤ k → ¬ l[k].2.1 < c) : i = cnt l c := by
  have hc := cnt_le l c
  rcases Nat.lt_trichotomy i (cnt l c) with h1 | h1 | h1
  · exact absurd (cnt_below l c i (by omega) h1) (hhi i (by omega) (Nat.le_refl _))
  · exact h1
  · exact absurd (hlo _ (by omega) h1) (cnt_at l c (by omega))
theorem rises_mono {l : List Span} (h : rises l = true) {c : Int} {i j : Nat} (hij : i ≤ j) (hj : j < l.length) (hlt : l[j].2.1 < c) : l[i].2.1 < c := by
  rcases Nat.lt_or_eq_of_le hij with h1 | rfl
  · have := rises_lt h i j (by omega) hj h1
    omega
  · exact hlt
theorem hitB_some {l : List Span} {c : Int} (hk : cnt l c < l.length) : hitB l c = decide (l[cnt l c].1 ≤ c) := by
  unfold hitB
  rw [List.getElem?_eq_getElem hk]
theorem hitB_none {l : List Span} {c : Int} (hk : ¬ cnt l c < l.length) : hitB l c = false := by
  unfold hitB
  rw [List.getElem?_eq_none (by omega)]
theorem ofT_hit {l : List Span} {c : Int} (h : hitB l c = true) : ∃ hk : cnt l c < l.length, ofT l c = l[cnt l c].2.2 := by
  by_cases hk : cnt l c < l.length
  · refine ⟨hk, ?_⟩
    rw [hitB_some hk] at h
    unfold ofT
    rw [List.getElem?_eq_getElem hk]
    simp only [decide_eq_true_eq] at h
    exact if_pos h
  · rw [hitB_none hk] at h
    cases h
theorem ofT_miss {l : List Span} {c : Int} (h : hitB l c = false) : ofT l c = 0 := by
  unfold ofT
  by_cases hk : cnt l c < l.length
  · rw [hitB_some hk] at h
    rw [List.getElem?_eq_getElem hk]
    exact if_neg (by simpa using h)
  · rw [List.getElem?_eq_none (by omega)]
/-- The span that has a number tells its class. -/
theorem ofT_in {l : List Span} (h : rises l = true) {c : Int} {s : Span} (hs : s ∈ l) (h1 : s.1 ≤ c) (h2 : c ≤ s.2.1) : ofT l c = s.2.2 := by
  obtain ⟨k, hk, rfl⟩ := List.getElem_of_mem hs
  have e : k = cnt l c := cnt_is h (by omega) (fun j hj hjk => by have := rises_lt h j k hj hk hjk; omega) (fun j hj hkj => by
    rcases Nat.lt_or_eq_of_le hkj with h3 | rfl
    · have := rises_lt h k j hk hj h3
      omega
    · omega)
  unfold ofT
  rw [← e, List.getElem?_eq_getElem hk]
  exact if_pos h1
theorem ofT_out {l : List Span} {c : Int} (hno : ∀ s ∈ l, ¬ (s.1 ≤ c ∧ c ≤ s.2.1)) : ofT l c = 0 := by
  unfold ofT
  by_cases hk : cnt l c < l.length
  · rw [List.getElem?_eq_getElem hk]
    have h1 := cnt_at l c hk
    have h2 := hno _ (List.getElem_mem hk)
    exact if_neg (by omega)
  · rw [List.getElem?_eq_none (by omega)]
theorem ofT_range {l : List Span} (h : ∀ s ∈ l, 0 ≤ s.2.2 ∧ s.2.2 ≤ 22) (c : Int) : 0 ≤ ofT l c ∧ ofT l c ≤ 22 := by
  unfold ofT
  by_cases hk : cnt l c < l.length
  · rw [List.getElem?_eq_getElem hk]
    have := h _ (List.getElem_mem hk)
    simp only
    split <;> omega
  · rw [List.getElem?_eq_none (by omega)]
    simp
end Go.Proofs.Ytifaimoaaiikpaa.Cl
