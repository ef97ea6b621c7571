/-
  What has no direction, settled, plainly: the direction of a class, of a level; what a gap lies between; the row settled, at once and place by place; that what is settled stays so; that it parts at an L or an R; that it turns round; the level of a class. No program in it.
-/
import Derived.Test.YtkhhfodbldemeaaDoorRows
set_option linter.unusedVariables false
namespace Go.Proofs.YtkhhfodbldemeaaDoor.Ne

def dirN (c : Int) : Int := if c = 0 then 0 else if c = 1 ∨ c = 3 ∨ c = 6 then 1 else -1
def lvN (l : Int) : Int := if l.tmod 2 = 0 then 0 else 1
/-- The direction behind: of the first that has one, else b. -/
def nextN (b : Int) : List Int → Int
  | [] => b
  | c :: r => if 0 ≤ dirN c then dirN c else nextN b r
/-- The direction ahead: of the last that has one, else a. -/
def lastN (a : Int) : List Int → Int
  | [] => a
  | c :: r => lastN (if 0 ≤ dirN c then dirN c else a) r
def fillN (l a b : Int) : Int := if a = b then a else lvN l
/-- A row settled, at the level l, between a and b. -/
def settleN (l b : Int) (a : Int) : List Int → List Int
  | [] => []
  | c :: r => if 0 ≤ dirN c then c :: settleN l b (dirN c) r else fillN l a (nextN b r) :: settleN l b a r
/-- The level of a class. -/
def levN (l c : Int) : Int :=
  if c = 0 then l + l % 2 else if c = 1 then l + (1 - l % 2) else if c = 3 ∨ c = 6 then l + (2 - l % 2) else l

theorem dirN_cases (c : Int) : dirN c = 0 ∨ dirN c = 1 ∨ dirN c = -1 := by
  unfold dirN; split
  · exact .inl rfl
  · split
    · exact .inr (.inl rfl)
    · exact .inr (.inr rfl)
theorem dirN_one {c : Int} (h : dirN c = 1) : c = 1 ∨ c = 3 ∨ c = 6 := by unfold dirN at h; split at h <;> (try split at h) <;> simp_all
theorem dirN_zero {c : Int} (h : dirN c = 0) : c = 0 := by unfold dirN at h; split at h <;> (try split at h) <;> simp_all
theorem dirN_no {c : Int} (h0 : c ≠ 0) (h1 : c ≠ 1) (h3 : c ≠ 3) (h6 : c ≠ 6) : dirN c = -1 := by unfold dirN; rw [if_neg h0, if_neg (by omega)]
theorem dirN_has {c : Int} : 0 ≤ dirN c ↔ c = 0 ∨ c = 1 ∨ c = 3 ∨ c = 6 := by
  unfold dirN; constructor
  · intro h; split at h <;> (try split at h) <;> omega
  · rintro (rfl | rfl | rfl | rfl) <;> decide
theorem dirN_self {c : Int} (h : c = 0 ∨ c = 1) : dirN c = c := by rcases h with rfl | rfl <;> decide

theorem settle_len (l b : Int) (T : List Int) : ∀ a, (settleN l b a T).length = T.length := by
  induction T with
  | nil => intro a; rfl
  | cons c r ih => intro a; unfold settleN; split <;> simp [ih]
theorem lastN_snoc (c : Int) (T : List Int) : ∀ a, lastN a (T ++ [c]) = if 0 ≤ dirN c then dirN c else lastN a T := by
  induction T with
  | nil => intro a; simp [lastN]
  | cons d r ih => intro a; simp only [List.cons_append, lastN]; exact ih _
theorem lastN_take {T : List Int} {a : Int} {k : Nat} (h : k < T.length) : lastN a (T.take (k + 1)) = if 0 ≤ dirN T[k] then dirN T[k] else lastN a (T.take k) := by
  rw [List.take_succ_eq_append_getElem h, lastN_snoc]
theorem nextN_drop {T : List Int} {b : Int} {k : Nat} (h : k < T.length) : nextN b (T.drop k) = if 0 ≤ dirN T[k] then dirN T[k] else nextN b (T.drop (k + 1)) := by
  rw [List.drop_eq_getElem_cons h]; rfl
theorem nextN_done {T : List Int} {b : Int} {k : Nat} (h : T.length ≤ k) : nextN b (T.drop k) = b := by rw [List.drop_eq_nil_of_le h]; rfl

/-- Place by place. -/
theorem settle_get (l b : Int) (T : List Int) : ∀ (a : Int) (i : Nat) (h : i < T.length), (settleN l b a T)[i]? = some (if 0 ≤ dirN T[i] then T[i] else fillN l (lastN a (T.take i)) (nextN b (T.drop (i + 1)))) := by
  induction T with
  | nil => intro a i h; simp at h
  | cons c r ih =>
    intro a i h
    cases i with
    | zero =>
      unfold settleN
      by_cases hc : 0 ≤ dirN c
      · simp [hc]
      · simp [hc, lastN]
    | succ i =>
      have h2 : i < r.length := by simpa using h
      unfold settleN
      by_cases hc : 0 ≤ dirN c
      · rw [if_pos hc]
        simpa [lastN, hc] using ih (dirN c) i h2
      · rw [if_neg hc]
        simpa [lastN, hc] using ih a i h2
theorem settle_snoc {l b a : Int} {T : List Int} {k : Nat} (h : k < T.length) : (settleN l b a T).take (k + 1) = (settleN l b a T).take k ++ [if 0 ≤ dirN T[k] then T[k] else fillN l (lastN a (T.take (k + 1))) (nextN b (T.drop k))] := by
  rw [List.take_add_one, settle_get l b T a k h, lastN_take h, nextN_drop h]
  by_cases hc : 0 ≤ dirN T[k]
  · simp [hc]
  · simp [hc]

theorem lvN_cases (l : Int) : lvN l = 0 ∨ lvN l = 1 := by unfold lvN; split <;> simp
theorem nextN_cases {b : Int} (hb : b = 0 ∨ b = 1) (T : List Int) : nextN b T = 0 ∨ nextN b T = 1 := by
  induction T with
  | nil => exact hb
  | cons c r ih =>
    unfold nextN; split
    · rcases dirN_cases c with h | h | h <;> omega
    · exact ih
theorem lastN_cases (T : List Int) : ∀ a, (a = 0 ∨ a = 1) → (lastN a T = 0 ∨ lastN a T = 1) := by
  induction T with
  | nil => intro a h; exact h
  | cons c r ih =>
    intro a h; unfold lastN; apply ih; split
    · rcases dirN_cases c with h2 | h2 | h2 <;> omega
    · exact h
theorem fillN_cases {l a b : Int} (ha : a = 0 ∨ a = 1) : fillN l a b = 0 ∨ fillN l a b = 1 := by
  unfold fillN; split
  · exact ha
  · exact lvN_cases l
theorem settle_has (l b : Int) (hb : b = 0 ∨ b = 1) (T : List Int) : ∀ a, (a = 0 ∨ a = 1) → ∀ c ∈ settleN l b a T, 0 ≤ dirN c := by
  induction T with
  | nil => intro a ha c hc; simp [settleN] at hc
  | cons d r ih =>
    intro a ha c hc
    unfold settleN at hc
    by_cases hd : 0 ≤ dirN d
    · rw [if_pos hd] at hc
      rcases List.mem_cons.1 hc with rfl | hc
      · exact hd
      · exact ih _ (by rcases dirN_cases d with h | h | h <;> omega) c hc
    · rw [if_neg hd] at hc
      rcases List.mem_cons.1 hc with rfl | hc
      · rw [dirN_self (fillN_cases ha)]
        rcases fillN_cases (l := l) (b := nextN b r) ha with h | h <;> omega
      · exact ih _ ha c hc
theorem settle_stays (l b : Int) (T : List Int) : ∀ a, (∀ c ∈ T, 0 ≤ dirN c) → settleN l b a T = T := by
  induction T with
  | nil => intro a _; rfl
  | cons d r ih =>
    intro a h
    unfold settleN
    rw [if_pos (h d (by simp)), ih _ (fun c hc => h c (by simp [hc]))]
/-- What is settled stays so. -/
theorem settle_again (l a b : Int) (ha : a = 0 ∨ a = 1) (hb : b = 0 ∨ b = 1) (T : List Int) : settleN l b a (settleN l b a T) = settleN l b a T :=
  settle_stays l b _ a (settle_has l b hb T a ha)
/-- What is left, place by place. -/
theorem settle_left {l a b : Int} (ha : a = 0 ∨ a = 1) (hb : b = 0 ∨ b = 1) {T : List Int} {i : Nat} (h : i < T.length) : ∃ y, (settleN l b a T)[i]? = some y ∧ (0 ≤ dirN T[i] → y = T[i]) ∧ (¬ 0 ≤ dirN T[i] → y = 0 ∨ y = 1) := by
  refine ⟨_, settle_get l b T a i h, fun hd => if_pos hd, fun hd => ?_⟩
  rw [if_neg hd]
  exact fillN_cases (lastN_cases _ _ ha)

theorem next_parted {b t : Int} (ht : t = 0 ∨ t = 1) (A B : List Int) : nextN b (A ++ t :: B) = nextN t A := by
  induction A with
  | nil => simp only [List.nil_append, nextN]; rw [dirN_self ht, if_pos (by omega)]
  | cons c r ih => simp only [List.cons_append, nextN, ih]
/-- It parts at an L or an R. -/
theorem settle_parted (l b t : Int) (ht : t = 0 ∨ t = 1) (A B : List Int) : ∀ a, settleN l b a (A ++ t :: B) = settleN l t a A ++ t :: settleN l b t B := by
  induction A with
  | nil => intro a; simp only [List.nil_append, settleN]; rw [dirN_self ht, if_pos (by omega)]
  | cons c r ih =>
    intro a
    simp only [List.cons_append, settleN, next_parted ht]
    split <;> simp [ih]

def turnN (c : Int) : Int := if c = 0 ∨ c = 1 then 1 - c else c
theorem dir_turn {c : Int} (h3 : c ≠ 3) (h6 : c ≠ 6) : dirN (turnN c) = if 0 ≤ dirN c then 1 - dirN c else dirN c := by
  by_cases h0 : c = 0
  · subst h0; decide
  · by_cases h1 : c = 1
    · subst h1; decide
    · unfold turnN; rw [if_neg (by omega), dirN_no h0 h1 h3 h6, if_neg (by omega)]
theorem turn_has {c : Int} (h3 : c ≠ 3) (h6 : c ≠ 6) : 0 ≤ dirN (turnN c) ↔ 0 ≤ dirN c := by
  rw [dir_turn h3 h6]
  rcases dirN_cases c with h | h | h <;> rw [h] <;> decide
theorem turn_dir {c : Int} (h3 : c ≠ 3) (h6 : c ≠ 6) (h : 0 ≤ dirN c) : dirN (turnN c) = 1 - dirN c := by rw [dir_turn h3 h6, if_pos h]
theorem next_turn (b : Int) (T : List Int) (h : ∀ c ∈ T, c ≠ 3 ∧ c ≠ 6) : nextN (1 - b) (T.map turnN) = 1 - nextN b T := by
  induction T with
  | nil => rfl
  | cons c r ih =>
    have hc := h c (by simp)
    simp only [List.map_cons, nextN, turn_has hc.1 hc.2]
    split
    · rename_i hd; exact turn_dir hc.1 hc.2 hd
    · exact ih (fun d hd => h d (by simp [hd]))
theorem fill_turn {l a b : Int} (hl : l = 0 ∨ l = 1) (ha : a = 0 ∨ a = 1) : fillN (1 - l) (1 - a) (1 - b) = turnN (fillN l a b) := by
  have he : (1 - a = 1 - b) ↔ (a = b) := by omega
  unfold fillN
  by_cases h : a = b
  · rw [if_pos (he.2 h), if_pos h]; unfold turnN; rw [if_pos ha]
  · rw [if_neg (fun x => h (he.1 x)), if_neg h]
    rcases hl with rfl | rfl <;> decide
/-- It turns round. -/
theorem settle_turn (l b : Int) (hl : l = 0 ∨ l = 1) (T : List Int) (h : ∀ c ∈ T, c ≠ 3 ∧ c ≠ 6) : ∀ a, (a = 0 ∨ a = 1) → settleN (1 - l) (1 - b) (1 - a) (T.map turnN) = (settleN l b a T).map turnN := by
  induction T with
  | nil => intro a _; rfl
  | cons c r ih =>
    intro a ha
    have hc := h c (by simp)
    have hr : ∀ d ∈ r, d ≠ 3 ∧ d ≠ 6 := fun d hd => h d (by simp [hd])
    simp only [List.map_cons, settleN, turn_has hc.1 hc.2]
    by_cases hd : 0 ≤ dirN c
    · rw [if_pos hd, if_pos hd, turn_dir hc.1 hc.2 hd, ih hr _ (by rcases dirN_cases c with h2 | h2 | h2 <;> omega)]
      rfl
    · rw [if_neg hd, if_neg hd, next_turn b r hr, fill_turn hl ha, ih hr _ ha]
      rfl

theorem lev_low {l : Int} (c : Int) (h : 0 ≤ l) : l ≤ levN l c ∧ levN l c ≤ l + 2 := by
  unfold levN; repeat' split <;> omega
theorem lev_L (l : Int) : levN l 0 % 2 = 0 ∧ levN l 0 ≤ l + 1 := by
  have e : levN l 0 = l + l % 2 := rfl
  rw [e]; omega
theorem lev_R (l : Int) : levN l 1 % 2 = 1 ∧ levN l 1 ≤ l + 1 := by
  have e : levN l 1 = l + (1 - l % 2) := rfl
  rw [e]; omega
theorem lev_N (l : Int) {c : Int} (hc : c = 3 ∨ c = 6) : levN l c % 2 = 0 ∧ levN l c ≠ l := by
  have e : levN l c = l + (2 - l % 2) := by rcases hc with rfl | rfl <;> rfl
  rw [e]; omega
theorem lev_else {l c : Int} (h0 : c ≠ 0) (h1 : c ≠ 1) (h3 : c ≠ 3) (h6 : c ≠ 6) : levN l c = l := by
  unfold levN; rw [if_neg h0, if_neg h1, if_neg (by omega)]
theorem lev_snoc {l : Int} {T : List Int} {k : Nat} (h : k < T.length) : (T.map (levN l)).take (k + 1) = (T.map (levN l)).take k ++ [levN l T[k]] := by
  rw [List.take_succ_eq_append_getElem (by simpa using h)]; simp
end Go.Proofs.YtkhhfodbldemeaaDoor.Ne
