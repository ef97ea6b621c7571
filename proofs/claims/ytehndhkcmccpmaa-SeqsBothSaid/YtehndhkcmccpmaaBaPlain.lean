/-
  Isolates among classes, plainly: the end of an initiator, the stack of what is open, what Match answers, the level; and the facts about them that the statements ask. No program in it.
-/
import Derived.Test.YtehndhkcmccpmaaRows
set_option linter.unusedVariables false
namespace Go.Proofs.Ytehndhkcmccpmaa.Ba

def isI (c : Int) : Bool := c == 19 || (c == 20 || c == 21)
def isP (c : Int) : Bool := c == 22
theorem isI_not_isP {c : Int} (h : isI c = true) : isP c = false := by
  simp only [isI, Bool.or_eq_true, beq_iff_eq] at h
  simp only [isP, beq_eq_false_iff_ne, ne_eq]
  omega

/-- How far the PDI stands that ends what is open at this depth; the rest's length, if there is none. -/
def endL : List Int → Nat → Nat
  | [], _ => 0
  | c :: l, d => if isP c then (match d with | 0 => 0 | d + 1 => 1 + endL l d) else if isI c then 1 + endL l (d + 1) else 1 + endL l d
theorem endL_le : ∀ (l : List Int) (d : Nat), endL l d ≤ l.length
  | [], d => Nat.le_refl 0
  | c :: l, 0 => by
    simp only [endL, List.length_cons]
    split
    · omega
    · split
      · have := endL_le l (0 + 1); omega
      · have := endL_le l 0; omega
  | c :: l, d + 1 => by
    simp only [endL, List.length_cons]
    split
    · have := endL_le l d; omega
    · split
      · have := endL_le l (d + 1 + 1); omega
      · have := endL_le l (d + 1); omega
/-- What ends something is a PDI. -/
theorem endL_at : ∀ (l : List Int) (d : Nat) (h : endL l d < l.length), isP l[endL l d] = true
  | [], d, h => by simp [endL] at h
  | c :: l, d, h => by
    by_cases hp : isP c = true
    · cases d with
      | zero =>
        have e : endL (c :: l) 0 = 0 := by simp only [endL]; rw [if_pos hp]
        simp only [e]
        exact hp
      | succ d =>
        have e : endL (c :: l) (d + 1) = endL l d + 1 := by simp only [endL]; rw [if_pos hp, Nat.add_comm]
        simp only [e] at h ⊢
        exact endL_at l d (by simpa using h)
    · by_cases hi : isI c = true
      · have e : endL (c :: l) d = endL l (d + 1) + 1 := by simp only [endL]; rw [if_neg hp, if_pos hi, Nat.add_comm]
        simp only [e] at h ⊢
        exact endL_at l (d + 1) (by simpa using h)
      · have e : endL (c :: l) d = endL l d + 1 := by simp only [endL]; rw [if_neg hp, if_neg hi, Nat.add_comm]
        simp only [e] at h ⊢
        exact endL_at l d (by simpa using h)

/-- The place of the PDI of the initiator at a place; how many classes there are, if it has none. -/
def endAt (l : List Int) (i : Nat) : Nat := i + 1 + endL (l.drop (i + 1)) 0
theorem endAt_gt (l : List Int) (i : Nat) : i < endAt l i := by unfold endAt; omega
theorem endAt_le (l : List Int) (i : Nat) (h : i < l.length) : endAt l i ≤ l.length := by
  have := endL_le (l.drop (i + 1)) 0
  rw [List.length_drop] at this
  unfold endAt
  omega
theorem endAt_P (l : List Int) (i : Nat) (h : endAt l i < l.length) : isP l[endAt l i] = true := by
  have h1 := endL_at (l.drop (i + 1)) 0 (by rw [List.length_drop]; unfold endAt at h; omega)
  rw [List.getElem_drop] at h1
  exact h1
/-- One step on. -/
theorem endL_I (l : List Int) (k d : Nat) (h : k < l.length) (hi : isI l[k] = true) : k + endL (l.drop k) d = k + 1 + endL (l.drop (k + 1)) (d + 1) := by
  rw [List.drop_eq_getElem_cons h]
  simp only [endL]
  rw [if_neg (by rw [isI_not_isP hi]; decide), if_pos hi]
  omega
theorem endL_P (l : List Int) (k d : Nat) (h : k < l.length) (hp : isP l[k] = true) : k + endL (l.drop k) (d + 1) = k + 1 + endL (l.drop (k + 1)) d := by
  rw [List.drop_eq_getElem_cons h]
  simp only [endL]
  rw [if_pos hp]
  omega
theorem endL_P0 (l : List Int) (k : Nat) (h : k < l.length) (hp : isP l[k] = true) : k + endL (l.drop k) 0 = k := by
  rw [List.drop_eq_getElem_cons h]
  simp only [endL]
  rw [if_pos hp]
  omega
theorem endL_N (l : List Int) (k d : Nat) (h : k < l.length) (hp : isP l[k] = false) (hi : isI l[k] = false) : k + endL (l.drop k) d = k + 1 + endL (l.drop (k + 1)) d := by
  rw [List.drop_eq_getElem_cons h]
  simp only [endL]
  rw [if_neg (by rw [hp]; decide), if_neg (by rw [hi]; decide)]
  omega

/-- The initiators that are open behind so many classes, the last one first. -/
def stk (l : List Int) : Nat → List Nat
  | 0 => []
  | k + 1 => match l[k]? with
    | none => stk l k
    | some c => if isI c then k :: stk l k else if isP c then (stk l k).tail else stk l k
theorem stk_I {l : List Int} {k : Nat} (h : k < l.length) (hi : isI l[k] = true) : stk l (k + 1) = k :: stk l k := by
  simp only [stk, List.getElem?_eq_getElem h]
  rw [if_pos hi]
theorem stk_P {l : List Int} {k : Nat} (h : k < l.length) (hp : isP l[k] = true) : stk l (k + 1) = (stk l k).tail := by
  have hi : ¬ isI l[k] = true := fun h1 => by rw [isI_not_isP h1] at hp; cases hp
  simp only [stk, List.getElem?_eq_getElem h]
  rw [if_neg hi, if_pos hp]
theorem stk_N {l : List Int} {k : Nat} (h : k < l.length) (hp : isP l[k] = false) (hi : isI l[k] = false) : stk l (k + 1) = stk l k := by
  simp only [stk, List.getElem?_eq_getElem h]
  rw [if_neg (by rw [hi]; decide), if_neg (by rw [hp]; decide)]
theorem stk_len (l : List Int) : ∀ k, (stk l k).length ≤ k
  | 0 => Nat.le_refl 0
  | k + 1 => by
    have h := stk_len l k
    simp only [stk]
    split
    · omega
    · split
      · simp; omega
      · split
        · rw [List.length_tail]; omega
        · omega
/-- What is open at a depth is an initiator ahead, and ends where what is open at that depth does. -/
theorem stk_at (l : List Int) : ∀ (k : Nat), k ≤ l.length → ∀ (d t : Nat), (stk l k)[d]? = some t → t < k ∧ l[t]?.map isI = some true ∧ endAt l t = k + endL (l.drop k) d
  | 0, _, d, t, h => by simp [stk] at h
  | k + 1, hk, d, t, h => by
    have ih := stk_at l k (by omega)
    have hlt : k < l.length := by omega
    by_cases hi : isI l[k] = true
    · rw [stk_I hlt hi] at h
      cases d with
      | zero =>
        simp only [List.getElem?_cons_zero, Option.some.injEq] at h
        subst h
        exact ⟨by omega, by rw [List.getElem?_eq_getElem hlt]; simp [hi], rfl⟩
      | succ d =>
        simp only [List.getElem?_cons_succ] at h
        obtain ⟨h1, h2, h3⟩ := ih d t h
        exact ⟨by omega, h2, by rw [h3, endL_I l k d hlt hi]⟩
    · have hi : isI l[k] = false := by simpa using hi
      by_cases hp : isP l[k] = true
      · rw [stk_P hlt hp, List.getElem?_tail] at h
        obtain ⟨h1, h2, h3⟩ := ih (d + 1) t h
        exact ⟨by omega, h2, by rw [h3, endL_P l k d hlt hp]⟩
      · have hp : isP l[k] = false := by simpa using hp
        rw [stk_N hlt hp hi] at h
        obtain ⟨h1, h2, h3⟩ := ih d t h
        exact ⟨by omega, h2, by rw [h3, endL_N l k d hlt hp hi]⟩
/-- An initiator ahead that is not open has ended. -/
theorem stk_not (l : List Int) : ∀ (k : Nat), k ≤ l.length → ∀ (t : Nat) (ht : t < k) (hl : t < l.length), isI l[t] = true → t ∉ stk l k → endAt l t < k
  | 0, _, t, ht, _, _, _ => by omega
  | k + 1, hk, t, ht, hl, hit, hn => by
    have ih := stk_not l k (by omega) t
    have hlt : k < l.length := by omega
    by_cases e : t = k
    · subst e
      rw [stk_I hlt hit] at hn
      simp at hn
    · have htk : t < k := by omega
      by_cases hi : isI l[k] = true
      · rw [stk_I hlt hi] at hn
        have := ih htk hl hit (fun h => hn (List.mem_cons_of_mem _ h))
        omega
      · have hi : isI l[k] = false := by simpa using hi
        by_cases hp : isP l[k] = true
        · rw [stk_P hlt hp] at hn
          by_cases hm : t ∈ stk l k
          · cases hs : stk l k with
            | nil => rw [hs] at hm; cases hm
            | cons u r =>
              rw [hs] at hm hn
              rcases List.mem_cons.1 hm with rfl | hm
              · have h3 := (stk_at l k (by omega) 0 t (by rw [hs]; rfl)).2.2
                rw [endL_P0 l k hlt hp] at h3
                omega
              · exact absurd hm hn
          · have := ih htk hl hit hm
            omega
        · have hp : isP l[k] = false := by simpa using hp
          rw [stk_N hlt hp hi] at hn
          have := ih htk hl hit hn
          omega
/-- The stack falls. -/
theorem stk_falls (l : List Int) : ∀ (k : Nat), k ≤ l.length → (stk l k).Pairwise (· > ·)
  | 0, _ => List.Pairwise.nil
  | k + 1, hk => by
    have ih := stk_falls l k (by omega)
    have hlt : k < l.length := by omega
    by_cases hi : isI l[k] = true
    · rw [stk_I hlt hi]
      refine List.Pairwise.cons (fun t ht => ?_) ih
      obtain ⟨d, hd⟩ := List.getElem?_of_mem ht
      exact (stk_at l k (by omega) d t hd).1
    · have hi : isI l[k] = false := by simpa using hi
      by_cases hp : isP l[k] = true
      · rw [stk_P hlt hp]
        exact ih.tail
      · have hp : isP l[k] = false := by simpa using hp
        rw [stk_N hlt hp hi]
        exact ih
theorem stk_mem {l : List Int} {k : Nat} (hk : k ≤ l.length) {t : Nat} (ht : t ∈ stk l k) : ∃ d, (stk l k)[d]? = some t ∧ t < k ∧ endAt l t = k + endL (l.drop k) d := by
  obtain ⟨d, hd⟩ := List.getElem?_of_mem ht
  obtain ⟨h1, _, h3⟩ := stk_at l k hk d t hd
  exact ⟨d, hd, h1, h3⟩
/-- An initiator ahead is open just if it has not ended. -/
theorem stk_iff {l : List Int} {k t : Nat} (hk : k ≤ l.length) (ht : t < k) (hl : t < l.length) (hi : isI l[t] = true) : t ∈ stk l k ↔ k ≤ endAt l t := by
  constructor
  · intro h
    obtain ⟨d, _, _, h3⟩ := stk_mem hk h
    omega
  · intro h
    by_cases hm : t ∈ stk l k
    · exact hm
    · have := stk_not l k hk t ht hl hi hm
      omega

/-- What Match answers at a place, as far as so many classes tell it. -/
def mtK (l : List Int) (k i : Nat) : Int :=
  match l[i]? with
  | none => -1
  | some c => if isI c then (if endAt l i < k then (endAt l i : Int) else l.length) else if isP c then (match stk l i with | [] => -1 | t :: _ => (t : Int)) else -1
def matchL (l : List Int) : List Int := (List.range l.length).map (mtK l l.length)
theorem matchL_len (l : List Int) : (matchL l).length = l.length := by simp [matchL]
theorem matchL_at (l : List Int) (i : Nat) (h : i < l.length) : (matchL l)[i]'(by rw [matchL_len]; exact h) = mtK l l.length i := by simp [matchL]
theorem mt_I {l : List Int} {i : Nat} (h : i < l.length) (hi : isI l[i] = true) : mtK l l.length i = endAt l i := by
  have := endAt_le l i h
  simp only [mtK, List.getElem?_eq_getElem h]
  rw [if_pos hi]
  split
  · rfl
  · congr 1; omega
theorem mt_P {l : List Int} {k i : Nat} (h : i < l.length) (hp : isP l[i] = true) : mtK l k i = match stk l i with | [] => -1 | t :: _ => (t : Int) := by
  have hi : ¬ isI l[i] = true := fun h1 => by rw [isI_not_isP h1] at hp; cases hp
  simp only [mtK, List.getElem?_eq_getElem h]
  rw [if_neg hi, if_pos hp]
theorem mt_N {l : List Int} {k i : Nat} (h : i < l.length) (hp : isP l[i] = false) (hi : isI l[i] = false) : mtK l k i = -1 := by
  simp only [mtK, List.getElem?_eq_getElem h]
  rw [if_neg (by rw [hi]; decide), if_neg (by rw [hp]; decide)]
theorem mtK_I {l : List Int} {k i : Nat} (h : i < l.length) (hi : isI l[i] = true) (hlt : k ≤ endAt l i) : mtK l k i = l.length := by
  simp only [mtK, List.getElem?_eq_getElem h]
  rw [if_pos hi, if_neg (by omega)]
theorem mtK_Ilt {l : List Int} {k i : Nat} (h : i < l.length) (hi : isI l[i] = true) (hlt : endAt l i < k) : mtK l k i = endAt l i := by
  simp only [mtK, List.getElem?_eq_getElem h]
  rw [if_pos hi, if_pos hlt]
/-- One class on: nothing changes at other places than the one that it ends. -/
theorem mtK_step {l : List Int} {k i : Nat} (hi : ∀ h : i < l.length, isI l[i] = true → endAt l i ≠ k) : mtK l (k + 1) i = mtK l k i := by
  unfold mtK
  cases hg : l[i]? with
  | none => rfl
  | some c =>
    obtain ⟨hlt, hc⟩ := List.getElem?_eq_some_iff.1 hg
    subst hc
    simp only
    by_cases h : isI l[i] = true
    · rw [if_pos h, if_pos h]
      have := hi hlt h
      by_cases h2 : endAt l i < k
      · rw [if_pos (by omega), if_pos h2]
      · rw [if_neg (by omega), if_neg h2]
    · rw [if_neg h, if_neg h]
/-- The PDI at k ends what is open last, and nothing else. -/
theorem ends_top {l : List Int} {k t : Nat} {r : List Nat} (hk : k < l.length) (hp : isP l[k] = true) (hs : stk l k = t :: r) : endAt l t = k ∧ t < k ∧ l[t]?.map isI = some true := by
  obtain ⟨h1, h2, h3⟩ := stk_at l k (by omega) 0 t (by rw [hs]; rfl)
  rw [endL_P0 l k hk hp] at h3
  exact ⟨h3, h1, h2⟩
theorem ends_only {l : List Int} {k i : Nat} (hk : k < l.length) (h : i < l.length) (hi : isI l[i] = true) (he : endAt l i = k) : ∃ r, stk l k = i :: r := by
  have hlt := endAt_gt l i
  have hp : isP l[k] = true := by subst he; exact endAt_P l i hk
  have hm : i ∈ stk l k := (stk_iff (by omega) (by omega) h hi).2 (by omega)
  obtain ⟨d, hd, _, h3⟩ := stk_mem (by omega) hm
  cases d with
  | zero =>
    cases hs : stk l k with
    | nil => rw [hs] at hd; simp at hd
    | cons u r =>
      rw [hs] at hd
      simp at hd
      exact ⟨r, by rw [hd]⟩
  | succ d =>
    rw [endL_P l k d hk hp] at h3
    omega

end Go.Proofs.Ytehndhkcmccpmaa.Ba
