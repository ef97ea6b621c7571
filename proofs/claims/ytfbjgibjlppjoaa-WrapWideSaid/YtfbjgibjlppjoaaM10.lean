/-
  Several texts in one, each with its own remark: KrSplit, WrPlain, WrCalc.
-/
import Derived.Test.YtfbjgibjlppjoaaMKrOf
import Derived.Test.YtfbjgibjlppjoaaM8
import Derived.Test.YtfbjgibjlppjoaaRows

/-
  Proved here: what parquetryref06.Split returns, for every text of at most 100000 bytes: a new row of its clusters. It leaves what was in memory.
-/
set_option linter.unusedVariables false
namespace Go.Proofs.Ytfbjgibjlppjoaa.Ku
open Go.RowKit Go.Lib Go.Proofs.Ytfbjgibjlppjoaa.Arr Go.Proofs.Ytfbjgibjlppjoaa.Gc
open Go.Proofs.Ytfbjgibjlppjoaa.Cl (IntsAt)

set_option maxHeartbeats 1000000 in
set_option maxRecDepth 100000 in
theorem rsplit_any (s : ByteArray) (w : World) (hs : s.size ≤ 100000) :
    Calls Try.prog 28 #[.string s] w fun e w' => ∃ v, e = .returned v ∧ w'.ownsRow w.heap.size 26 6 v (ofS s).length (cellsC (ofS s)) ∧ Below w.heap.size w w' := by
  have hln := Rn.splitA_len s.data.toList.length s.data.toList 0 (Nat.le_refl _)
  rw [← Lib.size_eq] at hln
  unfold ofS
  have HSP := Lib.hid (fun W => Rn.refsplit_reads s W (by omega))
  have hil := ints3_len (Rn.splitA s.data.toList 0)
  generalize Rn.splitA s.data.toList 0 = rs at *
  have HOF := Lib.hid (fun A c W hR => rof_any A (ints3 rs) c W hR (by omega))
  rw [hil] at HOF
  clear hil
  go_enter Try.func28, Try.ntmps28
  go_wp2_with fail
  refine (HSP.out _).mono ?_
  rintro e w1 ⟨A, c, rfl, hr, hb1⟩
  have HR := Lib.hid (ruAt_runes hr)
  have HB1 := Lib.hid hb1
  clear hr hb1
  go_wp2_with fail
  refine (HOF.out A c _ HR.out).mono ?_
  rintro e w2 ⟨v, rfl, hown, hb2⟩
  have HO := Lib.hid hown
  clear hown
  go_wp2
  go_ret
  exact ⟨_, rfl, Cl.ownsRow_mono HO.out HB1.out.size, HB1.out.trans (hb2.mono HB1.out.size)⟩
end Go.Proofs.Ytfbjgibjlppjoaa.Ku

/-
  Lines, plainly, by two functions of the place (how wide, 0 or more; whether blank): what fits, the first line from a place on, the lines: there is just one row of them; they follow one another; what is not shown are blanks; a line takes no more than fits, or is one cluster; with what stands first behind it it would take more. No program in it.
-/
set_option linter.unusedVariables false
namespace Go.Proofs.Ytfbjgibjlppjoaa.Wr

/-- Of k clusters from f on, how many fit into w slots. -/
def fitK (W : Nat → Int) : Nat → Nat → Int → Nat
  | 0, _, _ => 0
  | k + 1, f, w => if w < W f then 0 else fitK W k (f + 1) (w - W f) + 1
theorem fitK_le (W : Nat → Int) : ∀ (k f : Nat) (w : Int), fitK W k f w ≤ k
  | 0, _, _ => Nat.le_refl _
  | k + 1, f, w => by
    unfold fitK
    split
    · omega
    · have := fitK_le W k (f + 1) (w - W f)
      omega
theorem fitK_min (W : Nat → Int) : ∀ (k j f : Nat) (w : Int), j ≤ k → fitK W j f w = min j (fitK W k f w)
  | _, 0, _, _, _ => by simp [fitK]
  | 0, j + 1, _, _, h => by omega
  | k + 1, j + 1, f, w, h => by
    unfold fitK
    split
    · simp
    · rw [fitK_min W k j (f + 1) (w - W f) (by omega)]
      omega
/-- Do k clusters from f on take more than w? -/
def moreK (W : Nat → Int) (k f : Nat) (w : Int) : Bool := decide (fitK W k f w < k)
theorem moreK_nil (W : Nat → Int) (f : Nat) (w : Int) : moreK W 0 f w = false := by simp [moreK]
theorem moreK_cons (W : Nat → Int) (k f : Nat) (w : Int) : moreK W (k + 1) f w = if w < W f then true else moreK W k (f + 1) (w - W f) := by
  unfold moreK
  by_cases h : w < W f
  · rw [if_pos h]
    simp [fitK, h]
  · rw [if_neg h]
    simp [fitK, h]
theorem moreK_at (W : Nat → Int) {k j f : Nat} {w : Int} (h : j ≤ k) : moreK W j f w = decide (fitK W k f w < j) := by
  unfold moreK
  rw [fitK_min W k j f w h, decide_eq_decide]
  omega
theorem fitK_alike {W V : Nat → Int} : ∀ (k f : Nat) (w : Int), (∀ i, f ≤ i → i < f + k → W i = V i) → fitK W k f w = fitK V k f w
  | 0, _, _, _ => rfl
  | k + 1, f, w, h => by
    unfold fitK
    rw [h f (Nat.le_refl _) (by omega), fitK_alike k (f + 1) _ (fun i h1 h2 => h i (by omega) (by omega))]

/-- Where what fits from f on ends. -/
def endF (W : Nat → Int) (n f : Nat) (w : Int) : Nat := f + fitK W (n - f) f w
theorem endF_le (W : Nat → Int) {n f : Nat} (w : Int) (h : f ≤ n) : f ≤ endF W n f w ∧ endF W n f w ≤ n := by
  unfold endF
  have := fitK_le W (n - f) f w
  omega
/-- A blank that a line may end ahead of: of the places from f up to e one that is blank, with one that is none ahead of it. -/
def Gap (B : Nat → Bool) (f e b : Nat) : Prop := f ≤ b ∧ b ≤ e ∧ B b = true ∧ ∃ j, f ≤ j ∧ j < b ∧ B j = false
/-- The first line from f on: up to t, shown up to s. -/
inductive First (W : Nat → Int) (B : Nat → Bool) (n f : Nat) (w : Int) : Nat → Nat → Prop
  | all : endF W n f w = n → First W B n f w n n
  | gap (b t s : Nat) : endF W n f w < n → Gap B f (endF W n f w) b → (∀ i, b < i → ¬ Gap B f (endF W n f w) i) → s ≤ b → (∀ k, s ≤ k → k < t → B k = true) → 0 < s → B (s - 1) = false → b < t → t ≤ n → (t < n → B t = false) → First W B n f w t s
  | cut : endF W n f w < n → (∀ i, ¬ Gap B f (endF W n f w) i) → First W B n f w (max (endF W n f w) (f + 1)) (max (endF W n f w) (f + 1))

theorem Gap.shown {B : Nat → Bool} {f e b s t : Nat} (h : Gap B f e b) (hb : b < t) (ha : ∀ k, s ≤ k → k < t → B k = true) : f < s := by
  obtain ⟨_, _, _, j, h1, h2, h3⟩ := h
  by_cases hj : s ≤ j
  · have := ha j hj (by omega)
    rw [h3] at this
    cases this
  · omega
theorem First.unique {W : Nat → Int} {B : Nat → Bool} {n f : Nat} {w : Int} {t s t' s' : Nat} (h : First W B n f w t s) (h' : First W B n f w t' s') : t = t' ∧ s = s' := by
  cases h with
  | all e =>
    cases h' with
    | all _ => exact ⟨rfl, rfl⟩
    | gap b _ _ e' => omega
    | cut e' => omega
  | cut e hn =>
    cases h' with
    | all e' => omega
    | gap b _ _ _ hg => exact absurd hg (hn b)
    | cut _ _ => exact ⟨rfl, rfl⟩
  | gap b _ _ e hg hl hsb ha h0 hz hbt htn hte =>
    cases h' with
    | all e' => omega
    | cut _ hn => exact absurd hg (hn b)
    | gap b' _ _ e' hg' hl' hsb' ha' h0' hz' hbt' htn' hte' =>
      have hb : b = b' := by
        rcases Nat.lt_trichotomy b b' with h | h | h
        · exact absurd hg' (hl b' h)
        · exact h
        · exact absurd hg (hl' b h)
      subst hb
      constructor
      · rcases Nat.lt_trichotomy t t' with h | h | h
        · have h1 := hte (by omega)
          have h2 := ha' t (by omega) h
          rw [h1] at h2; cases h2
        · exact h
        · have h1 := hte' (by omega)
          have h2 := ha t' (by omega) h
          rw [h1] at h2; cases h2
      · rcases Nat.lt_trichotomy s s' with h | h | h
        · have h2 := ha (s' - 1) (by omega) (by omega)
          rw [hz'] at h2; cases h2
        · exact h
        · have h2 := ha' (s - 1) (by omega) (by omega)
          rw [hz] at h2; cases h2
/-- It goes on, within what there is. -/
theorem First.goes {W : Nat → Int} {B : Nat → Bool} {n f : Nat} {w : Int} {t s : Nat} (h : First W B n f w t s) (hf : f < n) : f < t ∧ t ≤ n ∧ f ≤ s ∧ s ≤ t ∧ f < s := by
  have he := endF_le W w (Nat.le_of_lt hf)
  cases h with
  | all e => omega
  | gap b _ _ e hg hl hsb ha h0 hz hbt htn hte =>
    have := hg.shown hbt ha
    omega
  | cut e hn => omega
/-- What is not shown of it are blanks. -/
theorem First.blanks {W : Nat → Int} {B : Nat → Bool} {n f : Nat} {w : Int} {t s : Nat} (h : First W B n f w t s) : ∀ k, s ≤ k → k < t → B k = true := by
  cases h with
  | all e => intro k h1 h2; omega
  | gap b _ _ e hg hl hsb ha => exact ha
  | cut e hn => intro k h1 h2; omega
/-- It takes no more than fits, or is one cluster. -/
theorem First.fits {W : Nat → Int} {B : Nat → Bool} {n f : Nat} {w : Int} {t s : Nat} (h : First W B n f w t s) (hf : f < n) : moreK W (s - f) f w = false ∨ s = f + 1 := by
  have he := endF_le W w (Nat.le_of_lt hf)
  have hg := h.goes hf
  have key : s ≤ endF W n f w → moreK W (s - f) f w = false := fun h1 => by
    rw [moreK_at W (k := n - f) (by omega)]
    unfold endF at h1
    exact decide_eq_false (by omega)
  cases h with
  | all e => exact .inl (key (by omega))
  | gap b _ _ e hgp hl hsb => exact .inl (key (by have := hgp.2.1; omega))
  | cut e hn =>
    by_cases h1 : endF W n f w = f
    · right; omega
    · left; exact key (by omega)
/-- With the word, or the cluster, that stands first behind it, it would take more. -/
theorem First.wide {W : Nat → Int} {B : Nat → Bool} {n f : Nat} {w : Int} {t s : Nat} (h : First W B n f w t s) (hf : f < n) (ht : t < n) {e : Nat} (h1 : t < e) (h2 : e ≤ n) (h3 : ∀ k, t < k → k < e → B k = false) (h4 : e < n → B e = true) : moreK W (e - f) f w = true := by
  have he := endF_le W w (Nat.le_of_lt hf)
  have hg := h.goes hf
  rw [moreK_at W (k := n - f) (by omega)]
  refine decide_eq_true ?_
  cases h with
  | all e' => omega
  | cut e' hn => unfold endF at *; omega
  | gap b _ _ e' hgp hl hsb ha h0 hz hbt htn hte =>
    have ht' := hte ht
    unfold endF at *
    by_cases hh : fitK W (n - f) f w < e - f
    · exact hh
    · exfalso
      have hen : e < n := by omega
      obtain ⟨g1, g2, g3, j, g4, g5, g6⟩ := hgp
      exact hl e (by omega) ⟨by omega, by omega, h4 hen, t, by omega, h1, ht'⟩
theorem First.one {W : Nat → Int} {B : Nat → Bool} {n f : Nat} {w : Int} {t s : Nat} (h : First W B n f w t s) (hf : f < n) (hm : moreK W (n - f) f w = false) : t = n ∧ s = n := by
  have he := endF_le W w (Nat.le_of_lt hf)
  have h1 : ¬ fitK W (n - f) f w < n - f := of_decide_eq_false hm
  cases h with
  | all e => exact ⟨rfl, rfl⟩
  | gap b _ _ e => unfold endF at e; omega
  | cut e => unfold endF at e; omega

/-- The lines from f on: from, to, show of each. -/
inductive Lns (W : Nat → Int) (B : Nat → Bool) (n : Nat) (w : Int) : Nat → List (Nat × Nat × Nat) → Prop
  | last (f s : Nat) : First W B n f w n s → Lns W B n w f [(f, n, s)]
  | more (f t s : Nat) (r : List (Nat × Nat × Nat)) : First W B n f w t s → t < n → Lns W B n w t r → Lns W B n w f ((f, t, s) :: r)
theorem Lns.unique {W : Nat → Int} {B : Nat → Bool} {n : Nat} {w : Int} {f : Nat} {L L' : List (Nat × Nat × Nat)} (h : Lns W B n w f L) : Lns W B n w f L' → L = L' := by
  induction h generalizing L' with
  | last f s h1 =>
    intro h'
    cases h' with
    | last _ s' h2 => rw [(h1.unique h2).2]
    | more _ t' s' r h2 h3 => have := (h1.unique h2).1; omega
  | more f t s r h1 h2 h3 ih =>
    intro h'
    cases h' with
    | last _ s' h4 => have := (h1.unique h4).1; omega
    | more _ t' s' r' h4 h5 h6 =>
      obtain ⟨rfl, rfl⟩ := h1.unique h4
      rw [ih h6]
/-- What is so of each line, by where it stands. -/
theorem Lns.at_ {W : Nat → Int} {B : Nat → Bool} {n : Nat} {w : Int} {f : Nat} {L : List (Nat × Nat × Nat)} (h : Lns W B n w f L) (hf : f < n) : ∀ {i : Nat} {x : Nat × Nat × Nat}, L[i]? = some x → x.1 < n ∧ First W B n x.1 w x.2.1 x.2.2 ∧ (i = 0 → x.1 = f) ∧ (x.2.1 = n ↔ i + 1 = L.length) ∧ (∀ y, L[i + 1]? = some y → y.1 = x.2.1) := by
  induction h with
  | last f s h1 =>
    intro i x hx
    cases i with
    | zero => simp at hx; subst hx; exact ⟨hf, h1, fun _ => rfl, by simp, by simp⟩
    | succ i => simp at hx
  | more f t s r h1 h2 h3 ih =>
    intro i x hx
    have hr : 0 < r.length := by cases h3 <;> simp
    cases i with
    | zero =>
      simp at hx; subst hx
      refine ⟨hf, h1, fun _ => rfl, ⟨fun e => by dsimp only at e; omega, fun e => by simp only [List.length_cons] at e; omega⟩, ?_⟩
      · intro y hy
        exact (ih h2 (i := 0) (x := y) (by simpa using hy)).2.2.1 rfl
    | succ i =>
      obtain ⟨a, b, c, d, e⟩ := ih h2 (i := i) (x := x) (by simpa using hx)
      refine ⟨a, b, fun h0 => by omega, by simp [d], fun y hy => e y (by simpa using hy)⟩
end Go.Proofs.Ytfbjgibjlppjoaa.Wr

/-
  The first line from a place on, and the lines, computed. No program in it.
-/
set_option linter.unusedVariables false
namespace Go.Proofs.Ytfbjgibjlppjoaa.Wr

def gapB (B : Nat → Bool) (f b : Nat) : Bool := decide (f ≤ b) && (B b && (List.range b).any fun j => decide (f ≤ j) && !(B j))
theorem gapB_is {B : Nat → Bool} {f e b : Nat} (h : b ≤ e) : gapB B f b = true ↔ Gap B f e b := by
  unfold gapB Gap
  simp only [Bool.and_eq_true, decide_eq_true_eq, List.any_eq_true, List.mem_range, Bool.not_eq_true']
  constructor
  · rintro ⟨h1, h2, j, h3, h4, h5⟩
    exact ⟨h1, h, h2, j, h4, h3, h5⟩
  · rintro ⟨h1, _, h2, j, h4, h3, h5⟩
    exact ⟨h1, h2, j, h3, h4, h5⟩
/-- The last such blank up to e. -/
def lastG (B : Nat → Bool) (f : Nat) : Nat → Option Nat
  | 0 => if gapB B f 0 = true then some 0 else none
  | e + 1 => if gapB B f (e + 1) = true then some (e + 1) else lastG B f e
theorem lastG_some {B : Nat → Bool} {f b : Nat} : ∀ {e : Nat}, lastG B f e = some b → b ≤ e ∧ gapB B f b = true ∧ ∀ i, b < i → i ≤ e → gapB B f i = false
  | 0, h => by
    unfold lastG at h
    split at h
    · injection h with h; subst h
      exact ⟨Nat.le_refl _, by assumption, fun i h1 h2 => by omega⟩
    · cases h
  | e + 1, h => by
    unfold lastG at h
    split at h
    · injection h with h; subst h
      exact ⟨Nat.le_refl _, by assumption, fun i h1 h2 => by omega⟩
    · rename_i hn
      obtain ⟨h1, h2, h3⟩ := lastG_some h
      refine ⟨by omega, h2, fun i h4 h5 => ?_⟩
      by_cases hi : i = e + 1
      · subst hi
        simpa using hn
      · exact h3 i h4 (by omega)
theorem lastG_none {B : Nat → Bool} {f : Nat} : ∀ {e : Nat}, lastG B f e = none → ∀ i, i ≤ e → gapB B f i = false
  | 0, h => by
    unfold lastG at h
    split at h
    · cases h
    · rename_i hn
      intro i hi
      obtain rfl : i = 0 := by omega
      simpa using hn
  | e + 1, h => by
    unfold lastG at h
    split at h
    · cases h
    · rename_i hn
      intro i hi
      by_cases hi2 : i = e + 1
      · subst hi2
        simpa using hn
      · exact lastG_none h i (by omega)
/-- From there back over blanks. -/
def backB (B : Nat → Bool) : Nat → Nat
  | 0 => 0
  | s + 1 => if B s = true then backB B s else s + 1
theorem backB_is (B : Nat → Bool) : ∀ b, backB B b ≤ b ∧ (∀ k, backB B b ≤ k → k < b → B k = true) ∧ (0 < backB B b → B (backB B b - 1) = false)
  | 0 => ⟨Nat.le_refl _, fun k _ h => by omega, fun h => by simp [backB] at h⟩
  | s + 1 => by
    unfold backB
    by_cases h : B s = true
    · rw [if_pos h]
      obtain ⟨h1, h2, h3⟩ := backB_is B s
      refine ⟨by omega, fun k hk hk2 => ?_, h3⟩
      by_cases e : k = s
      · subst e; exact h
      · exact h2 k hk (by omega)
    · rw [if_neg h]
      exact ⟨Nat.le_refl _, fun k h1 h2 => by omega, fun _ => by simpa using h⟩
/-- From there on over blanks. -/
def fwdB (B : Nat → Bool) : Nat → Nat → Nat
  | 0, t => t
  | k + 1, t => if B t = true then fwdB B k (t + 1) else t
theorem fwdB_is (B : Nat → Bool) : ∀ k t, t ≤ fwdB B k t ∧ fwdB B k t ≤ t + k ∧ (∀ i, t ≤ i → i < fwdB B k t → B i = true) ∧ (fwdB B k t < t + k → B (fwdB B k t) = false)
  | 0, t => ⟨Nat.le_refl _, Nat.le_refl _, fun i h1 h2 => by simp only [fwdB] at h2; omega, fun h => by simp [fwdB] at h⟩
  | k + 1, t => by
    unfold fwdB
    by_cases h : B t = true
    · rw [if_pos h]
      obtain ⟨h1, h2, h3, h4⟩ := fwdB_is B k (t + 1)
      refine ⟨by omega, by omega, fun i hi hi2 => ?_, fun hh => h4 (by omega)⟩
      by_cases e : i = t
      · subst e; exact h
      · exact h3 i (by omega) hi2
    · rw [if_neg h]
      exact ⟨Nat.le_refl _, by omega, fun i h1 h2 => by omega, fun _ => by simpa using h⟩
def firstF (W : Nat → Int) (B : Nat → Bool) (n f : Nat) (w : Int) : Nat × Nat :=
  if endF W n f w = n then (n, n) else
    match lastG B f (endF W n f w) with
    | some b => (fwdB B (n - (b + 1)) (b + 1), backB B b)
    | none => (max (endF W n f w) (f + 1), max (endF W n f w) (f + 1))
theorem firstF_is (W : Nat → Int) (B : Nat → Bool) {n f : Nat} (w : Int) (hf : f < n) : First W B n f w (firstF W B n f w).1 (firstF W B n f w).2 := by
  have he := endF_le W w (Nat.le_of_lt hf)
  unfold firstF
  by_cases h : endF W n f w = n
  · rw [if_pos h]
    exact .all h
  · rw [if_neg h]
    have hlt : endF W n f w < n := by omega
    cases hg : lastG B f (endF W n f w) with
    | some b =>
      obtain ⟨h1, h2, h3⟩ := lastG_some hg
      have hG := (gapB_is h1).1 h2
      obtain ⟨k1, k2, k3⟩ := backB_is B b
      obtain ⟨m1, m2, m3, m4⟩ := fwdB_is B (n - (b + 1)) (b + 1)
      have hb := hG.2.2.1
      have ha : ∀ k, backB B b ≤ k → k < fwdB B (n - (b + 1)) (b + 1) → B k = true := fun k x1 x2 => by
        rcases Nat.lt_trichotomy k b with h | h | h
        · exact k2 k x1 h
        · rw [h]; exact hb
        · exact m3 k (by omega) x2
      have hs := hG.shown (by omega) ha
      have hgn : b + 1 + (n - (b + 1)) = n := by omega
      rw [hgn] at m2 m4
      show First W B n f w (fwdB B (n - (b + 1)) (b + 1)) (backB B b)
      exact .gap b _ _ hlt hG (fun i h5 h6 => by
        have := h3 i h5 h6.2.1
        rw [(gapB_is h6.2.1).2 h6] at this
        cases this) k1 ha (by omega) (k3 (by omega)) (by omega) (by omega) (fun h7 => m4 (by omega))
    | none =>
      have h3 := lastG_none hg
      exact .cut hlt (fun i h6 => by
        have := h3 i h6.2.1
        rw [(gapB_is h6.2.1).2 h6] at this
        cases this)
def linesF (W : Nat → Int) (B : Nat → Bool) (n : Nat) (w : Int) : Nat → Nat → List (Nat × Nat × Nat)
  | 0, _ => []
  | k + 1, f => if (firstF W B n f w).1 = n then [(f, n, (firstF W B n f w).2)] else (f, firstF W B n f w) :: linesF W B n w k (firstF W B n f w).1
theorem linesF_is (W : Nat → Int) (B : Nat → Bool) (n : Nat) (w : Int) : ∀ (k f : Nat), f < n → n - f ≤ k → Lns W B n w f (linesF W B n w k f)
  | 0, f, h1, h2 => by omega
  | k + 1, f, h1, h2 => by
    have hF := firstF_is W B w h1
    have hg := hF.goes h1
    unfold linesF
    by_cases h : (firstF W B n f w).1 = n
    · rw [if_pos h]
      rw [h] at hF
      exact .last _ _ hF
    · rw [if_neg h]
      have hlt : (firstF W B n f w).1 < n := by omega
      have hk : n - (firstF W B n f w).1 ≤ k := by omega
      exact .more _ _ _ _ hF hlt (linesF_is W B n w k _ hlt hk)
end Go.Proofs.Ytfbjgibjlppjoaa.Wr
