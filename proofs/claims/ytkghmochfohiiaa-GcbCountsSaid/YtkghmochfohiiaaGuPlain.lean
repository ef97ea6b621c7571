/-
  Plain facts on runs: how many of one kind stand side by side, run by run, told one number at a time; a row of kinds is its runs, one behind the other, neighbours unlike; no program here.
-/
namespace Go.Proofs.Ytkghmochfohiiaa.Gu

def bump (R : List Nat) : List Nat := R.set (R.length - 1) (R.getD (R.length - 1) 0 + 1)
def opened (s : List Nat × Int) (k : Int) : List Nat := if k = s.2 then s.1 else s.1 ++ [0]
def runStep (s : List Nat × Int) (k : Int) : List Nat × Int := (bump (opened s k), k)
def runsS (l : List Int) : List Nat × Int := l.foldl runStep ([], -1)
def runsT (l : List Int) : List Nat := (runsS l).1
theorem runsS_next (l : List Int) (k : Nat) (hk : k < l.length) : runsS (l.take (k + 1)) = runStep (runsS (l.take k)) l[k] := by
  unfold runsS
  rw [List.take_succ_eq_append_getElem hk, List.foldl_append]
  rfl
theorem runsS_snd (l : List Int) (k : Nat) (hk : k < l.length) : (runsS (l.take (k + 1))).2 = l[k] := by
  rw [runsS_next l k hk]
  rfl
theorem bump_snoc (R : List Nat) (m : Nat) : bump (R ++ [m]) = R ++ [m + 1] := by
  unfold bump
  have h1 : (R ++ [m]).length - 1 = R.length := by simp
  rw [h1, List.set_append_right _ _ (Nat.le_refl _)]
  simp
theorem bump_len (R : List Nat) : (bump R).length = R.length := by simp [bump]
theorem opened_len (s : List Nat × Int) (k : Int) : (opened s k).length ≤ s.1.length + 1 := by
  unfold opened
  split <;> simp

/-- Runs as pairs: how many, of which kind. -/
abbrev Run := Nat × Int
def spread (P : List Run) : List Int := P.flatMap fun p => List.replicate p.1 p.2
def unlike (P : List Run) : Prop := ∀ i a b, P[i]? = some a → P[i + 1]? = some b → a.2 ≠ b.2
def lastK (P : List Run) : Int := match P.getLast? with
  | none => -1
  | some p => p.2
def numsOf (P : List Run) : List Nat := P.map Prod.fst
theorem spread_snoc (P : List Run) (p : Run) : spread (P ++ [p]) = spread P ++ List.replicate p.1 p.2 := by simp [spread]
theorem lastK_snoc (P : List Run) (p : Run) : lastK (P ++ [p]) = p.2 := by simp [lastK]
theorem unlike_snoc {P : List Run} {p : Run} (h : unlike P) (hl : ∀ q, P.getLast? = some q → q.2 ≠ p.2) : unlike (P ++ [p]) := by
  intro i a b ha hb
  by_cases h1 : i + 1 < P.length
  · rw [List.getElem?_append_left (by omega)] at ha hb
    exact h i a b ha hb
  · by_cases h2 : i + 1 = P.length
    · rw [List.getElem?_append_left (by omega)] at ha
      rw [List.getElem?_append_right (by omega), show i + 1 - P.length = 0 from by omega] at hb
      simp only [List.getElem?_cons_zero, Option.some.injEq] at hb
      subst hb
      refine hl a ?_
      rw [List.getLast?_eq_getElem?, show P.length - 1 = i from by omega]
      exact ha
    · rw [List.getElem?_append_right (by omega)] at hb
      rw [List.getElem?_eq_none (by simp; omega)] at hb
      cases hb
theorem unlike_front {P : List Run} {p : Run} (h : unlike (P ++ [p])) : unlike P := by
  intro i a b ha hb
  have h1 : i + 1 < P.length := (List.getElem?_eq_some_iff.1 hb).1
  exact h i a b (by rw [List.getElem?_append_left (by omega)]; exact ha) (by rw [List.getElem?_append_left h1]; exact hb)
theorem unlike_last {P : List Run} {p : Run} (h : unlike (P ++ [p])) : ∀ q, P.getLast? = some q → q.2 ≠ p.2 := by
  intro q hq
  rw [List.getLast?_eq_getElem?] at hq
  have h1 := (List.getElem?_eq_some_iff.1 hq).1
  refine h (P.length - 1) q p (by rw [List.getElem?_append_left h1]; exact hq) ?_
  rw [List.getElem?_append_right (by omega), show P.length - 1 + 1 - P.length = 0 from by omega]
  rfl

/-- What is told of a row of kinds, none below 0. -/
def Told (L : List Int) (P : List Run) : Prop := L = spread P ∧ runsS L = (numsOf P, lastK P) ∧ (∀ p ∈ P, 1 ≤ p.1) ∧ unlike P
theorem told_snoc {L : List Int} {P : List Run} {x : Int} (h : Told L P) (hx : 0 ≤ x) : ∃ P', Told (L ++ [x]) P' := by
  obtain ⟨h1, h2, h3, h4⟩ := h
  have hs : runsS (L ++ [x]) = (bump (opened (numsOf P, lastK P) x), x) := by
    unfold runsS at h2 ⊢
    rw [List.foldl_append, h2]
    rfl
  by_cases hl : x = lastK P
  · rcases List.eq_nil_or_concat P with rfl | ⟨Q, p, rfl⟩
    · simp [lastK] at hl
      omega
    · rw [List.concat_eq_append] at *
      rw [lastK_snoc] at hl
      subst hl
      refine ⟨Q ++ [(p.1 + 1, p.2)], ?_, ?_, ?_, ?_⟩
      · rw [h1, spread_snoc, spread_snoc, List.append_assoc, List.replicate_succ']
      · rw [hs, lastK_snoc, lastK_snoc]
        unfold opened numsOf
        simp only [if_true, List.map_append, List.map_cons, List.map_nil, bump_snoc]
      · intro q hq
        rcases List.mem_append.1 hq with hq | hq
        · exact h3 q (List.mem_append_left _ hq)
        · rw [List.mem_singleton] at hq
          subst hq
          exact Nat.succ_le_succ (Nat.zero_le _)
      · exact unlike_snoc (unlike_front h4) (fun q hq => unlike_last h4 q hq)
  · refine ⟨P ++ [(1, x)], ?_, ?_, ?_, ?_⟩
    · rw [h1, spread_snoc]
      rfl
    · rw [hs, lastK_snoc]
      unfold opened numsOf
      simp only [if_neg hl, List.map_append, List.map_cons, List.map_nil, bump_snoc, Nat.zero_add]
    · intro q hq
      rcases List.mem_append.1 hq with hq | hq
      · exact h3 q hq
      · rw [List.mem_singleton] at hq
        subst hq
        exact Nat.le_refl _
    · refine unlike_snoc h4 fun q hq e => hl ?_
      unfold lastK
      rw [hq]
      exact e.symm
theorem told_of : ∀ (n : Nat) (L : List Int), L.length = n → (∀ x ∈ L, 0 ≤ x) → ∃ P, Told L P
  | 0, L, h, _ => by
    obtain rfl : L = [] := List.eq_nil_of_length_eq_zero h
    exact ⟨[], rfl, rfl, by simp, by intro i a b ha; simp at ha⟩
  | n + 1, L, h, hx => by
    rcases List.eq_nil_or_concat L with rfl | ⟨Q, x, rfl⟩
    · simp at h
    · rw [List.concat_eq_append] at *
      obtain ⟨P, hP⟩ := told_of n Q (by simpa using h) (fun y hy => hx y (List.mem_append_left _ hy))
      exact told_snoc hP (hx x (by simp))
theorem spread_len : ∀ (P : List Run), (spread P).length = (numsOf P).sum
  | [] => rfl
  | p :: P => by
    have := spread_len P
    unfold spread numsOf at this ⊢
    simp only [List.flatMap_cons, List.length_append, List.length_replicate, this, List.map_cons, List.sum_cons]
theorem spread_at : ∀ (P : List Run) (i : Nat) (p : Run) (k : Nat), P[i]? = some p → k < p.1 → (spread P)[((numsOf P).take i).sum + k]? = some p.2
  | q :: P, 0, p, k, h, hk => by
    simp only [List.getElem?_cons_zero, Option.some.injEq] at h
    subst h
    unfold spread numsOf
    simp only [List.take_zero, List.sum_nil, Nat.zero_add, List.flatMap_cons]
    rw [List.getElem?_append_left (by simpa using hk), List.getElem?_replicate, if_pos hk]
  | q :: P, i + 1, p, k, h, hk => by
    have := spread_at P i p k (by simpa using h) hk
    unfold spread numsOf at this ⊢
    simp only [List.map_cons, List.take_succ_cons, List.sum_cons, List.flatMap_cons]
    rw [List.getElem?_append_right (by simp; omega)]
    rw [List.length_replicate, show q.1 + ((P.map Prod.fst).take i).sum + k - q.1 = ((P.map Prod.fst).take i).sum + k from by omega]
    exact this
theorem sum_next (R : List Nat) (i : Nat) (h : i < R.length) : (R.take (i + 1)).sum = (R.take i).sum + R[i] := by
  rw [List.take_succ_eq_append_getElem h, List.sum_append]
  simp
theorem sum_le : ∀ (R : List Nat) (i : Nat), (R.take i).sum ≤ R.sum
  | [], i => by simp
  | r :: R, 0 => by simp
  | r :: R, i + 1 => by
    have := sum_le R i
    simp only [List.take_succ_cons, List.sum_cons]
    omega

/-- P5.5, of a row of kinds none of which is below 0: what the runs say. -/
theorem counts {L : List Int} (h : ∀ x ∈ L, 0 ≤ x) : (runsT L).sum = L.length ∧ (∀ i (hi : i < (runsT L).length), 1 ≤ (runsT L)[i]) ∧
    (∀ i (hi : i < (runsT L).length) k, k < (runsT L)[i] → L[((runsT L).take i).sum + k]? = L[((runsT L).take i).sum]?) ∧
    (∀ i, 0 < i → i < (runsT L).length → L[((runsT L).take i).sum - 1]? ≠ L[((runsT L).take i).sum]?) := by
  obtain ⟨P, h1, h2, h3, h4⟩ := told_of L.length L rfl h
  have e : runsT L = numsOf P := by unfold runsT; rw [h2]
  rw [e]
  have hl : (numsOf P).length = P.length := by simp [numsOf]
  have hat : ∀ i (hi : i < (numsOf P).length), (numsOf P)[i] = (P[i]'(by omega)).1 := fun i hi => by simp [numsOf]
  refine ⟨?_, ?_, ?_, ?_⟩
  · rw [h1, spread_len]
  · intro i hi
    rw [hat i hi]
    exact h3 _ (List.getElem_mem _)
  · intro i hi k hk
    rw [hat i hi] at hk
    rw [h1, spread_at P i (P[i]'(by omega)) k (List.getElem?_eq_getElem (by omega)) hk]
    have := spread_at P i (P[i]'(by omega)) 0 (List.getElem?_eq_getElem (by omega)) (by omega)
    rw [Nat.add_zero] at this
    exact this.symm
  · intro i h0 hi
    have hi' : i < P.length := by omega
    have hp : i - 1 < P.length := by omega
    have a1 := h3 _ (List.getElem_mem hp)
    have a2 := h3 _ (List.getElem_mem hi')
    have b1 := spread_at P (i - 1) P[i - 1] (P[i - 1].1 - 1) (List.getElem?_eq_getElem hp) (by omega)
    have b2 := spread_at P i P[i] 0 (List.getElem?_eq_getElem hi') (by omega)
    rw [Nat.add_zero] at b2
    have s := sum_next (numsOf P) (i - 1) (by omega)
    rw [hat (i - 1) (by omega), show i - 1 + 1 = i from by omega] at s
    rw [show ((numsOf P).take (i - 1)).sum + (P[i - 1].1 - 1) = ((numsOf P).take i).sum - 1 from by omega] at b1
    rw [h1, b1, b2]
    intro he
    injection he with he
    have := h4 (i - 1) P[i - 1] P[i] (List.getElem?_eq_getElem hp) (by rw [show i - 1 + 1 = i from by omega]; exact List.getElem?_eq_getElem hi')
    exact this he
theorem runs_bound {L : List Int} (h : ∀ x ∈ L, 0 ≤ x) : (runsT L).length ≤ L.length ∧ ∀ n ∈ runsT L, n ≤ L.length := by
  obtain ⟨h1, h2, -, -⟩ := counts h
  have h3 : ∀ (R : List Nat), (∀ i (hi : i < R.length), 1 ≤ R[i]) → R.length ≤ R.sum := by
    intro R
    induction R with
    | nil => intro _; simp
    | cons r R ih =>
      intro hR
      have a := hR 0 (by simp)
      have b := ih (fun i hi => by have := hR (i + 1) (by simpa using hi); simpa using this)
      simp only [List.getElem_cons_zero] at a
      simp only [List.length_cons, List.sum_cons]
      omega
  have h4 : ∀ (R : List Nat), ∀ n ∈ R, n ≤ R.sum := by
    intro R
    induction R with
    | nil => intro n hn; simp at hn
    | cons r R ih =>
      intro n hn
      simp only [List.sum_cons]
      rcases List.mem_cons.1 hn with rfl | hn
      · omega
      · have := ih n hn
        omega
  exact ⟨by have := h3 _ h2; omega, fun n hn => by have := h4 _ n hn; omega⟩
end Go.Proofs.Ytkghmochfohiiaa.Gu
