/-
  Lines, plainly, by two functions of the place (how wide, 0 or more; whether blank): what fits, the first line from a place on, the lines: there is just one row of them; they follow one another; what is not shown are blanks; a line takes no more than fits, or is one cluster; with what stands first behind it it would take more. No program in it.
-/
import Derived.Test.YtikjchebffohdaaRows
set_option linter.unusedVariables false
namespace Go.Proofs.Ytikjchebffohdaa.Wr

/-- Of k clusters from f on, how many fit into w slots. -/
def fitK (W : Nat → Int) : Nat → Nat → Int → Nat
  | 0, _, _ => 0
  | k + 1, f, w => if w < W f then 0 else fitK W k (f + 1) (w - W f) + 1
theorem fitK_le (W : Nat → Int) : ∀ (k f : Nat) (w : Int), fitK W k f w ≤ k
  | 0, _, _ => Nat.le_refl _
  | k + 1, f, w => by
    unfold fitK
    split
    · omega
    · have := fitK_le W k (f + 1) (w - W f)
      omega
theorem fitK_min (W : Nat → Int) : ∀ (k j f : Nat) (w : Int), j ≤ k → fitK W j f w = min j (fitK W k f w)
  | _, 0, _, _, _ => by simp [fitK]
  | 0, j + 1, _, _, h => by omega
  | k + 1, j + 1, f, w, h => by
    unfold fitK
    split
    · simp
    · rw [fitK_min W k j (f + 1) (w - W f) (by omega)]
      omega
/-- Do k clusters from f on take more than w? -/
def moreK (W : Nat → Int) (k f : Nat) (w : Int) : Bool := decide (fitK W k f w < k)
theorem moreK_nil (W : Nat → Int) (f : Nat) (w : Int) : moreK W 0 f w = false := by simp [moreK]
theorem moreK_cons (W : Nat → Int) (k f : Nat) (w : Int) : moreK W (k + 1) f w = if w < W f then true else moreK W k (f + 1) (w - W f) := by
  unfold moreK
  by_cases h : w < W f
  · rw [if_pos h]
    simp [fitK, h]
  · rw [if_neg h]
    simp [fitK, h]
theorem moreK_at (W : Nat → Int) {k j f : Nat} {w : Int} (h : j ≤ k) : moreK W j f w = decide (fitK W k f w < j) := by
  unfold moreK
  rw [fitK_min W k j f w h, decide_eq_decide]
  omega
theorem fitK_alike {W V : Nat → Int} : ∀ (k f : Nat) (w : Int), (∀ i, f ≤ i → i < f + k → W i = V i) → fitK W k f w = fitK V k f w
  | 0, _, _, _ => rfl
  | k + 1, f, w, h => by
    unfold fitK
    rw [h f (Nat.le_refl _) (by omega), fitK_alike k (f + 1) _ (fun i h1 h2 => h i (by omega) (by omega))]

/-- Where what fits from f on ends. -/
def endF (W : Nat → Int) (n f : Nat) (w : Int) : Nat := f + fitK W (n - f) f w
theorem endF_le (W : Nat → Int) {n f : Nat} (w : Int) (h : f ≤ n) : f ≤ endF W n f w ∧ endF W n f w ≤ n := by
  unfold endF
  have := fitK_le W (n - f) f w
  omega
/-- A blank that a line may end ahead of: of the places from f up to e one that is blank, with one that is none ahead of it. -/
def Gap (B : Nat → Bool) (f e b : Nat) : Prop := f ≤ b ∧ b ≤ e ∧ B b = true ∧ ∃ j, f ≤ j ∧ j < b ∧ B j = false
/-- The first line from f on: up to t, shown up to s. -/
inductive First (W : Nat → Int) (B : Nat → Bool) (n f : Nat) (w : Int) : Nat → Nat → Prop
  | all : endF W n f w = n → First W B n f w n n
  | gap (b t s : Nat) : endF W n f w < n → Gap B f (endF W n f w) b → (∀ i, b < i → ¬ Gap B f (endF W n f w) i) → s ≤ b → (∀ k, s ≤ k → k < t → B k = true) → 0 < s → B (s - 1) = false → b < t → t ≤ n → (t < n → B t = false) → First W B n f w t s
  | cut : endF W n f w < n → (∀ i, ¬ Gap B f (endF W n f w) i) → First W B n f w (max (endF W n f w) (f + 1)) (max (endF W n f w) (f + 1))

theorem Gap.shown {B : Nat → Bool} {f e b s t : Nat} (h : Gap B f e b) (hb : b < t) (ha : ∀ k, s ≤ k → k < t → B k = true) : f < s := by
  obtain ⟨_, _, _, j, h1, h2, h3⟩ := h
  by_cases hj : s ≤ j
  · have := ha j hj (by omega)
    rw [h3] at this
    cases this
  · omega
theorem First.unique {W : Nat → Int} {B : Nat → Bool} {n f : Nat} {w : Int} {t s t' s' : Nat} (h : First W B n f w t s) (h' : First W B n f w t' s') : t = t' ∧ s = s' := by
  cases h with
  | all e =>
    cases h' with
    | all _ => exact ⟨rfl, rfl⟩
    | gap b _ _ e' => omega
    | cut e' => omega
  | cut e hn =>
    cases h' with
    | all e' => omega
    | gap b _ _ _ hg => exact absurd hg (hn b)
    | cut _ _ => exact ⟨rfl, rfl⟩
  | gap b _ _ e hg hl hsb ha h0 hz hbt htn hte =>
    cases h' with
    | all e' => omega
    | cut _ hn => exact absurd hg (hn b)
    | gap b' _ _ e' hg' hl' hsb' ha' h0' hz' hbt' htn' hte' =>
      have hb : b = b' := by
        rcases Nat.lt_trichotomy b b' with h | h | h
        · exact absurd hg' (hl b' h)
        · exact h
        · exact absurd hg (hl' b h)
      subst hb
      constructor
      · rcases Nat.lt_trichotomy t t' with h | h | h
        · have h1 := hte (by omega)
          have h2 := ha' t (by omega) h
          rw [h1] at h2; cases h2
        · exact h
        · have h1 := hte' (by omega)
          have h2 := ha t' (by omega) h
          rw [h1] at h2; cases h2
      · rcases Nat.lt_trichotomy s s' with h | h | h
        · have h2 := ha (s' - 1) (by omega) (by omega)
          rw [hz'] at h2; cases h2
        · exact h
        · have h2 := ha' (s - 1) (by omega) (by omega)
          rw [hz] at h2; cases h2
/-- It goes on, within what there is. -/
theorem First.goes {W : Nat → Int} {B : Nat → Bool} {n f : Nat} {w : Int} {t s : Nat} (h : First W B n f w t s) (hf : f < n) : f < t ∧ t ≤ n ∧ f ≤ s ∧ s ≤ t ∧ f < s := by
  have he := endF_le W w (Nat.le_of_lt hf)
  cases h with
  | all e => omega
  | gap b _ _ e hg hl hsb ha h0 hz hbt htn hte =>
    have := hg.shown hbt ha
    omega
  | cut e hn => omega
/-- What is not shown of it are blanks. -/
theorem First.blanks {W : Nat → Int} {B : Nat → Bool} {n f : Nat} {w : Int} {t s : Nat} (h : First W B n f w t s) : ∀ k, s ≤ k → k < t → B k = true := by
  cases h with
  | all e => intro k h1 h2; omega
  | gap b _ _ e hg hl hsb ha => exact ha
  | cut e hn => intro k h1 h2; omega
/-- It takes no more than fits, or is one cluster. -/
theorem First.fits {W : Nat → Int} {B : Nat → Bool} {n f : Nat} {w : Int} {t s : Nat} (h : First W B n f w t s) (hf : f < n) : moreK W (s - f) f w = false ∨ s = f + 1 := by
  have he := endF_le W w (Nat.le_of_lt hf)
  have hg := h.goes hf
  have key : s ≤ endF W n f w → moreK W (s - f) f w = false := fun h1 => by
    rw [moreK_at W (k := n - f) (by omega)]
    unfold endF at h1
    exact decide_eq_false (by omega)
  cases h with
  | all e => exact .inl (key (by omega))
  | gap b _ _ e hgp hl hsb => exact .inl (key (by have := hgp.2.1; omega))
  | cut e hn =>
    by_cases h1 : endF W n f w = f
    · right; omega
    · left; exact key (by omega)
/-- With the word, or the cluster, that stands first behind it, it would take more. -/
theorem First.wide {W : Nat → Int} {B : Nat → Bool} {n f : Nat} {w : Int} {t s : Nat} (h : First W B n f w t s) (hf : f < n) (ht : t < n) {e : Nat} (h1 : t < e) (h2 : e ≤ n) (h3 : ∀ k, t < k → k < e → B k = false) (h4 : e < n → B e = true) : moreK W (e - f) f w = true := by
  have he := endF_le W w (Nat.le_of_lt hf)
  have hg := h.goes hf
  rw [moreK_at W (k := n - f) (by omega)]
  refine decide_eq_true ?_
  cases h with
  | all e' => omega
  | cut e' hn => unfold endF at *; omega
  | gap b _ _ e' hgp hl hsb ha h0 hz hbt htn hte =>
    have ht' := hte ht
    unfold endF at *
    by_cases hh : fitK W (n - f) f w < e - f
    · exact hh
    · exfalso
      have hen : e < n := by omega
      obtain ⟨g1, g2, g3, j, g4, g5, g6⟩ := hgp
      exact hl e (by omega) ⟨by omega, by omega, h4 hen, t, by omega, h1, ht'⟩
theorem First.one {W : Nat → Int} {B : Nat → Bool} {n f : Nat} {w : Int} {t s : Nat} (h : First W B n f w t s) (hf : f < n) (hm : moreK W (n - f) f w = false) : t = n ∧ s = n := by
  have he := endF_le W w (Nat.le_of_lt hf)
  have h1 : ¬ fitK W (n - f) f w < n - f := of_decide_eq_false hm
  cases h with
  | all e => exact ⟨rfl, rfl⟩
  | gap b _ _ e => unfold endF at e; omega
  | cut e => unfold endF at e; omega

/-- The lines from f on: from, to, show of each. -/
inductive Lns (W : Nat → Int) (B : Nat → Bool) (n : Nat) (w : Int) : Nat → List (Nat × Nat × Nat) → Prop
  | last (f s : Nat) : First W B n f w n s → Lns W B n w f [(f, n, s)]
  | more (f t s : Nat) (r : List (Nat × Nat × Nat)) : First W B n f w t s → t < n → Lns W B n w t r → Lns W B n w f ((f, t, s) :: r)
theorem Lns.unique {W : Nat → Int} {B : Nat → Bool} {n : Nat} {w : Int} {f : Nat} {L L' : List (Nat × Nat × Nat)} (h : Lns W B n w f L) : Lns W B n w f L' → L = L' := by
  induction h generalizing L' with
  | last f s h1 =>
    intro h'
    cases h' with
    | last _ s' h2 => rw [(h1.unique h2).2]
    | more _ t' s' r h2 h3 => have := (h1.unique h2).1; omega
  | more f t s r h1 h2 h3 ih =>
    intro h'
    cases h' with
    | last _ s' h4 => have := (h1.unique h4).1; omega
    | more _ t' s' r' h4 h5 h6 =>
      obtain ⟨rfl, rfl⟩ := h1.unique h4
      rw [ih h6]
/-- What is so of each line, by where it stands. -/
theorem Lns.at_ {W : Nat → Int} {B : Nat → Bool} {n : Nat} {w : Int} {f : Nat} {L : List (Nat × Nat × Nat)} (h : Lns W B n w f L) (hf : f < n) : ∀ {i : Nat} {x : Nat × Nat × Nat}, L[i]? = some x → x.1 < n ∧ First W B n x.1 w x.2.1 x.2.2 ∧ (i = 0 → x.1 = f) ∧ (x.2.1 = n ↔ i + 1 = L.length) ∧ (∀ y, L[i + 1]? = some y → y.1 = x.2.1) := by
  induction h with
  | last f s h1 =>
    intro i x hx
    cases i with
    | zero => simp at hx; subst hx; exact ⟨hf, h1, fun _ => rfl, by simp, by simp⟩
    | succ i => simp at hx
  | more f t s r h1 h2 h3 ih =>
    intro i x hx
    have hr : 0 < r.length := by cases h3 <;> simp
    cases i with
    | zero =>
      simp at hx; subst hx
      refine ⟨hf, h1, fun _ => rfl, ⟨fun e => by dsimp only at e; omega, fun e => by simp only [List.length_cons] at e; omega⟩, ?_⟩
      · intro y hy
        exact (ih h2 (i := 0) (x := y) (by simpa using hy)).2.2.1 rfl
    | succ i =>
      obtain ⟨a, b, c, d, e⟩ := ih h2 (i := i) (x := x) (by simpa using hx)
      refine ⟨a, b, fun h0 => by omega, by simp [d], fun y hy => e y (by simpa using hy)⟩
end Go.Proofs.Ytikjchebffohdaa.Wr
