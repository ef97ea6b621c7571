/-
  Numbers, signs and marks, plainly: the seven rules as functions of a row of classes, one behind the other; that they settle, that they part at an L or an R; that rules which look at what has become ahead and at what stands behind come to the same. No program in it.
-/
import Derived.Test.YtmhnhklkomboaaaDoorRows
set_option linter.unusedVariables false
namespace Go.Proofs.YtmhnhklkomboaaaDoor.Wk

def iso (c : Int) : Bool := decide (c = 19) || decide (c = 20) || decide (c = 21) || decide (c = 22)
def nx (c : Int) : Int := if iso c then 13 else c
def let3 (c : Int) : Bool := decide (c = 0) || decide (c = 1) || decide (c = 2)

/-- Marks: a is what a mark at the first place becomes. -/
def marks (a : Int) : List Int → List Int
  | [] => []
  | c :: r => if c = 8 then a :: marks (nx a) r else c :: marks (nx c) r
/-- Numbers whose letter ahead is x become o. -/
def nums (x o : Int) (a : Int) : List Int → List Int
  | [] => []
  | c :: r => if let3 c then c :: nums x o c r else if c = 3 ∧ a = x then o :: nums x o a r else c :: nums x o a r
def bec (o : Int) (p : List Int) (l : List Int) : List Int := l.map fun c => if c ∈ p then o else c
/-- What stands between two n, and is of p, becomes n: a is what stands ahead. -/
def btw (n : Int) (p : List Int) (a : Int) : List Int → List Int
  | [] => []
  | c :: r => if a = n ∧ r.head? = some n ∧ c ∈ p then n :: btw n p n r else c :: btw n p c r
/-- Signs behind a number: a is what stands ahead. -/
def sbeh (a : Int) : List Int → List Int
  | [] => []
  | c :: r => if c = 5 ∧ a = 3 then 3 :: sbeh 3 r else c :: sbeh c r
/-- Signs ahead of a number. -/
def sah : List Int → List Int
  | [] => []
  | c :: r => if c = 5 ∧ (sah r).head? = some 3 then 3 :: sah r else c :: sah r

/-- What classes become, with s ahead. -/
def weak (s : Int) (l : List Int) : List Int :=
  nums 0 0 s (bec 13 [4, 5, 7] (sah (sbeh (-1) (btw 6 [7] (-1) (btw 3 [4, 7] (-1) (bec 1 [2] (nums 2 6 s (marks s l))))))))

theorem marks_len (l : List Int) : ∀ a, (marks a l).length = l.length := by
  induction l with
  | nil => intro a; rfl
  | cons c r ih => intro a; unfold marks; split <;> simp [ih]
theorem nums_len (x o : Int) (l : List Int) : ∀ a, (nums x o a l).length = l.length := by
  induction l with
  | nil => intro a; rfl
  | cons c r ih => intro a; unfold nums; split <;> (try split) <;> simp [ih]
theorem bec_len (o : Int) (p l : List Int) : (bec o p l).length = l.length := by simp [bec]
theorem btw_len (n : Int) (p l : List Int) : ∀ a, (btw n p a l).length = l.length := by
  induction l with
  | nil => intro a; rfl
  | cons c r ih => intro a; unfold btw; split <;> simp [ih]
theorem sbeh_len (l : List Int) : ∀ a, (sbeh a l).length = l.length := by
  induction l with
  | nil => intro a; rfl
  | cons c r ih => intro a; unfold sbeh; split <;> simp [ih]
theorem sah_len (l : List Int) : (sah l).length = l.length := by
  induction l with
  | nil => rfl
  | cons c r ih => unfold sah; split <;> simp [ih]
theorem weak_len (s : Int) (l : List Int) : (weak s l).length = l.length := by
  simp [weak, nums_len, bec_len, sah_len, sbeh_len, btw_len, marks_len]

/-! What is in an answer. -/
theorem marks_mem (l : List Int) : ∀ a y, y ∈ marks a l → y = a ∨ y = 13 ∨ (y ∈ l ∧ y ≠ 8) := by
  induction l with
  | nil => intro a y h; simp [marks] at h
  | cons c r ih =>
    intro a y h
    have hn : ∀ d, y ∈ marks (nx d) r → y = d ∨ y = 13 ∨ (y ∈ r ∧ y ≠ 8) := by
      intro d hd
      rcases ih (nx d) y hd with e | e | e
      · unfold nx at e; split at e <;> simp [e]
      · exact .inr (.inl e)
      · exact .inr (.inr e)
    unfold marks at h
    split at h
    · rcases List.mem_cons.1 h with e | e
      · exact .inl e
      · rcases hn a e with e | e | e
        · exact .inl e
        · exact .inr (.inl e)
        · exact .inr (.inr ⟨List.mem_cons_of_mem _ e.1, e.2⟩)
    · rename_i h8
      rcases List.mem_cons.1 h with e | e
      · exact .inr (.inr ⟨by simp [e], by rw [e]; exact h8⟩)
      · rcases hn c e with e | e | e
        · exact .inr (.inr ⟨by simp [e], by rw [e]; exact h8⟩)
        · exact .inr (.inl e)
        · exact .inr (.inr ⟨List.mem_cons_of_mem _ e.1, e.2⟩)
theorem nums_mem (x o : Int) (l : List Int) : ∀ a y, y ∈ nums x o a l → y = o ∨ y ∈ l := by
  induction l with
  | nil => intro a y h; simp [nums] at h
  | cons c r ih =>
    intro a y h
    unfold nums at h
    split at h
    · rcases List.mem_cons.1 h with e | e
      · exact .inr (by simp [e])
      · rcases ih _ _ e with e | e
        · exact .inl e
        · exact .inr (List.mem_cons_of_mem _ e)
    · split at h
      · rcases List.mem_cons.1 h with e | e
        · exact .inl e
        · rcases ih _ _ e with e | e
          · exact .inl e
          · exact .inr (List.mem_cons_of_mem _ e)
      · rcases List.mem_cons.1 h with e | e
        · exact .inr (by simp [e])
        · rcases ih _ _ e with e | e
          · exact .inl e
          · exact .inr (List.mem_cons_of_mem _ e)
theorem bec_mem (o : Int) (p l : List Int) (y : Int) (h : y ∈ bec o p l) : y = o ∨ (y ∈ l ∧ y ∉ p) := by
  unfold bec at h
  obtain ⟨c, hc, rfl⟩ := List.mem_map.1 h
  split
  · exact .inl rfl
  · exact .inr ⟨hc, by assumption⟩
theorem btw_mem (n : Int) (p l : List Int) : ∀ a y, y ∈ btw n p a l → y = n ∨ y ∈ l := by
  induction l with
  | nil => intro a y h; simp [btw] at h
  | cons c r ih =>
    intro a y h
    unfold btw at h
    split at h
    · rcases List.mem_cons.1 h with e | e
      · exact .inl e
      · rcases ih _ _ e with e | e
        · exact .inl e
        · exact .inr (List.mem_cons_of_mem _ e)
    · rcases List.mem_cons.1 h with e | e
      · exact .inr (by simp [e])
      · rcases ih _ _ e with e | e
        · exact .inl e
        · exact .inr (List.mem_cons_of_mem _ e)
theorem sbeh_mem (l : List Int) : ∀ a y, y ∈ sbeh a l → y = 3 ∨ y ∈ l := by
  induction l with
  | nil => intro a y h; simp [sbeh] at h
  | cons c r ih =>
    intro a y h
    unfold sbeh at h
    split at h
    · rcases List.mem_cons.1 h with e | e
      · exact .inl e
      · rcases ih _ _ e with e | e
        · exact .inl e
        · exact .inr (List.mem_cons_of_mem _ e)
    · rcases List.mem_cons.1 h with e | e
      · exact .inr (by simp [e])
      · rcases ih _ _ e with e | e
        · exact .inl e
        · exact .inr (List.mem_cons_of_mem _ e)
theorem sah_mem (l : List Int) : ∀ y, y ∈ sah l → y = 3 ∨ y ∈ l := by
  induction l with
  | nil => intro y h; simp [sah] at h
  | cons c r ih =>
    intro y h
    unfold sah at h
    split at h
    · rcases List.mem_cons.1 h with e | e
      · exact .inl e
      · rcases ih _ e with e | e
        · exact .inl e
        · exact .inr (List.mem_cons_of_mem _ e)
    · rcases List.mem_cons.1 h with e | e
      · exact .inr (by simp [e])
      · rcases ih _ e with e | e
        · exact .inl e
        · exact .inr (List.mem_cons_of_mem _ e)

/-- Behind L or R no NSM, AL, ES, ET or CS is left. -/
theorem weak_none {s : Int} (hs : s = 0 ∨ s = 1) (l : List Int) (y : Int) (h : y ∈ weak s l) : y ≠ 8 ∧ y ≠ 2 ∧ y ≠ 4 ∧ y ≠ 5 ∧ y ≠ 7 := by
  unfold weak at h
  rcases nums_mem _ _ _ _ _ h with e | h
  · omega
  rcases bec_mem _ _ _ _ h with e | ⟨h, hp⟩
  · omega
  simp at hp
  rcases sah_mem _ _ h with e | h
  · omega
  rcases sbeh_mem _ _ _ h with e | h
  · omega
  rcases btw_mem _ _ _ _ _ h with e | h
  · omega
  rcases btw_mem _ _ _ _ _ h with e | h
  · omega
  rcases bec_mem _ _ _ _ h with e | ⟨h, hp2⟩
  · omega
  simp at hp2
  rcases nums_mem _ _ _ _ _ h with e | h
  · omega
  rcases marks_mem _ _ _ h with e | e | e <;> omega

/-! What stays. -/
def Kp : List Int → List Int → Prop
  | [], [] => True
  | c :: r, d :: t => (d = c ∨ (2 ≤ c ∧ c ≤ 8 ∧ c ≠ 6)) ∧ Kp r t
  | _, _ => False
theorem Kp.trans : ∀ {a b c : List Int}, Kp a b → Kp b c → Kp a c
  | [], [], [], _, _ => trivial
  | _ :: _, _ :: _, _ :: _, h, g => ⟨by rcases h.1 with e | e <;> rcases g.1 with f | f <;> omega, Kp.trans h.2 g.2⟩
  | [], [], _ :: _, _, g => g.elim
  | [], _ :: _, _, h, _ => h.elim
  | _ :: _, [], _, h, _ => h.elim
  | _ :: _, _ :: _, [], _, g => g.elim
theorem Kp.at_ : ∀ {a b : List Int}, Kp a b → ∀ k (h : k < a.length) (h' : k < b.length), b[k] = a[k] ∨ (2 ≤ a[k] ∧ a[k] ≤ 8 ∧ a[k] ≠ 6)
  | [], _, _, k, h, _ => by simp at h
  | _ :: _, [], h, _, _, _ => h.elim
  | _ :: _, _ :: _, h, 0, _, _ => h.1
  | _ :: a, _ :: b, h, k + 1, h1, h2 => Kp.at_ (a := a) (b := b) h.2 k (by simpa using h1) (by simpa using h2)
theorem marks_kp (l : List Int) : ∀ a, Kp l (marks a l) := by
  induction l with
  | nil => intro a; trivial
  | cons c r ih => intro a; unfold marks; split <;> exact ⟨by omega, ih _⟩
theorem nums_kp (x o : Int) (l : List Int) : ∀ a, Kp l (nums x o a l) := by
  induction l with
  | nil => intro a; trivial
  | cons c r ih => intro a; unfold nums; split <;> (try split) <;> exact ⟨by omega, ih _⟩
theorem bec_kp (o : Int) (p : List Int) (hp : ∀ c ∈ p, 2 ≤ c ∧ c ≤ 8 ∧ c ≠ 6) (l : List Int) : Kp l (bec o p l) := by
  induction l with
  | nil => trivial
  | cons c r ih =>
    unfold bec
    rw [List.map_cons]
    refine ⟨?_, ih⟩
    split
    · exact .inr (hp c (by assumption))
    · exact .inl rfl
theorem btw_kp (n : Int) (p : List Int) (hp : ∀ c ∈ p, 2 ≤ c ∧ c ≤ 8 ∧ c ≠ 6) (l : List Int) : ∀ a, Kp l (btw n p a l) := by
  induction l with
  | nil => intro a; trivial
  | cons c r ih =>
    intro a; unfold btw; split
    · rename_i h; exact ⟨.inr (hp c h.2.2), ih _⟩
    · exact ⟨.inl rfl, ih _⟩
theorem sbeh_kp (l : List Int) : ∀ a, Kp l (sbeh a l) := by
  induction l with
  | nil => intro a; trivial
  | cons c r ih => intro a; unfold sbeh; split <;> exact ⟨by omega, ih _⟩
theorem sah_kp (l : List Int) : Kp l (sah l) := by
  induction l with
  | nil => trivial
  | cons c r ih => unfold sah; split <;> exact ⟨by omega, ih⟩
theorem weak_kp (s : Int) (l : List Int) : Kp l (weak s l) := by
  unfold weak
  exact (marks_kp l s).trans ((nums_kp _ _ _ _).trans ((bec_kp _ _ (by simp) _).trans ((btw_kp _ _ (by simp) _ _).trans ((btw_kp _ _ (by simp) _ _).trans ((sbeh_kp _ _).trans ((sah_kp _).trans ((bec_kp _ _ (by simp) _).trans (nums_kp _ _ _ _))))))))

/-! Done again. -/
theorem marks_id (l : List Int) : ∀ a, (∀ y ∈ l, y ≠ 8) → marks a l = l := by
  induction l with
  | nil => intro a _; rfl
  | cons c r ih =>
    intro a h
    unfold marks
    rw [if_neg (h c (by simp)), ih _ (fun y hy => h y (List.mem_cons_of_mem _ hy))]
theorem nums_id (l : List Int) : ∀ a, a ≠ 2 → (∀ y ∈ l, y ≠ 2) → nums 2 6 a l = l := by
  induction l with
  | nil => intro a _ _; rfl
  | cons c r ih =>
    intro a ha h
    have hr := fun y hy => h y (List.mem_cons_of_mem _ hy)
    unfold nums
    split
    · rw [ih c (h c (by simp)) hr]
    · rw [if_neg (by omega), ih a ha hr]
theorem bec_id (o : Int) (p l : List Int) (h : ∀ y ∈ l, y ∉ p) : bec o p l = l := by
  induction l with
  | nil => rfl
  | cons c r ih =>
    have := ih (fun y hy => h y (List.mem_cons_of_mem _ hy))
    unfold bec at this ⊢
    rw [List.map_cons, if_neg (h c (by simp)), this]
theorem btw_id (n : Int) (p l : List Int) : ∀ a, (∀ y ∈ l, y ∉ p) → btw n p a l = l := by
  induction l with
  | nil => intro a _; rfl
  | cons c r ih =>
    intro a h
    unfold btw
    rw [if_neg (fun g => h c (by simp) g.2.2), ih _ (fun y hy => h y (List.mem_cons_of_mem _ hy))]
theorem sbeh_id (l : List Int) : ∀ a, (∀ y ∈ l, y ≠ 5) → sbeh a l = l := by
  induction l with
  | nil => intro a _; rfl
  | cons c r ih =>
    intro a h
    unfold sbeh
    rw [if_neg (fun g => h c (by simp) g.1), ih _ (fun y hy => h y (List.mem_cons_of_mem _ hy))]
theorem sah_id (l : List Int) : (∀ y ∈ l, y ≠ 5) → sah l = l := by
  induction l with
  | nil => intro _; rfl
  | cons c r ih =>
    intro h
    unfold sah
    rw [if_neg (fun g => h c (by simp) g.1), ih (fun y hy => h y (List.mem_cons_of_mem _ hy))]
theorem nums_again (l : List Int) : ∀ a, nums 0 0 a (nums 0 0 a l) = nums 0 0 a l := by
  induction l with
  | nil => intro a; rfl
  | cons c r ih =>
    intro a
    by_cases h : let3 c = true
    · have e : nums 0 0 a (c :: r) = c :: nums 0 0 c r := by rw [nums, if_pos h]
      rw [e, nums, if_pos h, ih c]
    · by_cases h2 : c = 3 ∧ a = 0
      · have e : nums 0 0 a (c :: r) = 0 :: nums 0 0 a r := by rw [nums, if_neg h, if_pos h2]
        rw [e, nums, if_pos (by rfl), h2.2, ih 0]
      · have e : nums 0 0 a (c :: r) = c :: nums 0 0 a r := by rw [nums, if_neg h, if_neg h2]
        rw [e, nums, if_neg h, if_neg h2, ih a]
theorem weak_again {s : Int} (hs : s = 0 ∨ s = 1) (l : List Int) : weak s (weak s l) = weak s l := by
  have hn := weak_none hs l
  obtain ⟨m, hm⟩ : ∃ m, weak s l = nums 0 0 s m := ⟨_, rfl⟩
  generalize weak s l = y at hn hm ⊢
  unfold weak
  rw [marks_id y s (fun x hx => (hn x hx).1), nums_id y s (by omega) (fun x hx => (hn x hx).2.1), bec_id 1 [2] y (fun x hx => by have := hn x hx; simp; omega), btw_id 3 _ y _ (fun x hx => by have := hn x hx; simp; omega), btw_id 6 _ y _ (fun x hx => by have := hn x hx; simp; omega), sbeh_id y _ (fun x hx => (hn x hx).2.2.2.1), sah_id y (fun x hx => (hn x hx).2.2.2.1), bec_id 13 _ y (fun x hx => by have := hn x hx; simp; omega), hm, nums_again]

/-! Parted. -/
def Parts (f : Int → List Int → List Int) : Prop := ∀ s w x b, (w = 0 ∨ w = 1) → ∃ y, f s (x ++ [w]) = y ++ [w] ∧ f s (x ++ w :: b) = y ++ w :: f w b
theorem Parts.comp {f g : Int → List Int → List Int} (hf : Parts f) (hg : Parts g) : Parts fun s l => g s (f s l) := by
  intro s w x b hw
  obtain ⟨y, h1, h2⟩ := hf s w x b hw
  obtain ⟨z, h3, h4⟩ := hg s w y (f w b) hw
  exact ⟨z, by show g s (f s (x ++ [w])) = _; rw [h1, h3], by show g s (f s (x ++ w :: b)) = _; rw [h2, h4]⟩
theorem marks_parts : Parts marks := by
  intro s w x b hw
  induction x generalizing s with
  | nil =>
    refine ⟨[], ?_, ?_⟩ <;> simp only [List.nil_append, marks] <;> rw [if_neg (by omega)]
    rw [show nx w = w by rcases hw with rfl | rfl <;> rfl]
  | cons c r ih =>
    simp only [List.cons_append, marks]
    split
    · obtain ⟨y, h1, h2⟩ := ih (nx s)
      exact ⟨s :: y, by rw [h1]; rfl, by rw [h2]; rfl⟩
    · obtain ⟨y, h1, h2⟩ := ih (nx c)
      exact ⟨c :: y, by rw [h1]; rfl, by rw [h2]; rfl⟩
theorem nums_parts (x o : Int) : Parts (nums x o) := by
  intro s w l b hw
  have hl : let3 w = true := by rcases hw with rfl | rfl <;> rfl
  induction l generalizing s with
  | nil => exact ⟨[], by simp only [List.nil_append, nums]; rw [if_pos hl], by simp only [List.nil_append, nums]; rw [if_pos hl]⟩
  | cons c r ih =>
    simp only [List.cons_append, nums]
    split
    · obtain ⟨y, h1, h2⟩ := ih c
      exact ⟨c :: y, by rw [h1]; rfl, by rw [h2]; rfl⟩
    · obtain ⟨y, h1, h2⟩ := ih s
      split
      · exact ⟨o :: y, by rw [h1]; rfl, by rw [h2]; rfl⟩
      · exact ⟨c :: y, by rw [h1]; rfl, by rw [h2]; rfl⟩
theorem bec_parts (o : Int) (p : List Int) (h0 : (0 : Int) ∉ p) (h1 : (1 : Int) ∉ p) : Parts fun _ => bec o p := by
  intro s w x b hw
  have hw' : w ∉ p := by rcases hw with rfl | rfl <;> assumption
  exact ⟨bec o p x, by simp [bec, hw'], by simp [bec, hw']⟩
theorem btw_first (n : Int) (p : List Int) (l : List Int) (a b : Int) (ha : a ≠ n) (hb : b ≠ n) : btw n p a l = btw n p b l := by
  cases l with
  | nil => rfl
  | cons c r => rw [btw, btw, if_neg (fun h => ha h.1), if_neg (fun h => hb h.1)]
theorem btw_parts' (n : Int) (p : List Int) (h0 : n ≠ 0) (h1 : n ≠ 1) (hm : n ≠ -1) (hp0 : (0 : Int) ∉ p) (hp1 : (1 : Int) ∉ p) (w : Int) (hw : w = 0 ∨ w = 1) (x b : List Int) : ∀ a, ∃ y, btw n p a (x ++ [w]) = y ++ [w] ∧ btw n p a (x ++ w :: b) = y ++ w :: btw n p (-1) b := by
  have hw' : w ∉ p := by rcases hw with rfl | rfl <;> assumption
  induction x with
  | nil =>
    intro a
    refine ⟨[], ?_, ?_⟩ <;> simp only [List.nil_append, btw] <;> rw [if_neg (fun h => hw' h.2.2)]
    rw [btw_first n p b w (-1) (by omega) (by omega)]
  | cons c r ih =>
    intro a
    have hh : ∀ t : List Int, (r ++ w :: t).head? = (r ++ [w]).head? := by intro t; cases r <;> rfl
    simp only [List.cons_append, btw]
    rw [hh b]
    split
    · obtain ⟨y, h1, h2⟩ := ih n
      exact ⟨n :: y, by rw [h1]; rfl, by rw [h2]; rfl⟩
    · obtain ⟨y, h1, h2⟩ := ih c
      exact ⟨c :: y, by rw [h1]; rfl, by rw [h2]; rfl⟩
theorem btw_parts (n : Int) (p : List Int) (h0 : n ≠ 0) (h1 : n ≠ 1) (hm : n ≠ -1) (hp0 : (0 : Int) ∉ p) (hp1 : (1 : Int) ∉ p) : Parts fun _ => btw n p (-1) :=
  fun s w x b hw => btw_parts' n p h0 h1 hm hp0 hp1 w hw x b (-1)
theorem sbeh_first (l : List Int) (a b : Int) (ha : a ≠ 3) (hb : b ≠ 3) : sbeh a l = sbeh b l := by
  cases l with
  | nil => rfl
  | cons c r => rw [sbeh, sbeh, if_neg (fun h => ha h.2), if_neg (fun h => hb h.2)]
theorem sbeh_parts' (w : Int) (hw : w = 0 ∨ w = 1) (x b : List Int) : ∀ a, ∃ y, sbeh a (x ++ [w]) = y ++ [w] ∧ sbeh a (x ++ w :: b) = y ++ w :: sbeh (-1) b := by
  induction x with
  | nil =>
    intro a
    refine ⟨[], ?_, ?_⟩ <;> simp only [List.nil_append, sbeh] <;> rw [if_neg (by omega)]
    rw [sbeh_first b w (-1) (by omega) (by omega)]
  | cons c r ih =>
    intro a
    simp only [List.cons_append, sbeh]
    split
    · obtain ⟨y, h1, h2⟩ := ih 3
      exact ⟨3 :: y, by rw [h1]; rfl, by rw [h2]; rfl⟩
    · obtain ⟨y, h1, h2⟩ := ih c
      exact ⟨c :: y, by rw [h1]; rfl, by rw [h2]; rfl⟩
theorem sbeh_parts : Parts fun _ => sbeh (-1) := fun s w x b hw => sbeh_parts' w hw x b (-1)
theorem sah_parts : Parts fun _ => sah := by
  intro s w x b hw
  induction x with
  | nil =>
    have hw5 : w ≠ 5 := by omega
    have e : ∀ t : List Int, sah (w :: t) = w :: sah t := by
      intro t
      rw [sah, if_neg (fun h => hw5 h.1)]
    exact ⟨[], e [], e b⟩
  | cons c r ih =>
    obtain ⟨y, h1, h2⟩ := ih
    simp only at h1 h2
    have hh : (y ++ w :: sah b).head? = (y ++ [w]).head? := by cases y <;> rfl
    simp only [List.cons_append, sah]
    rw [h1, h2, hh]
    split
    · exact ⟨3 :: y, rfl, rfl⟩
    · exact ⟨c :: y, rfl, rfl⟩
theorem weak_parts : Parts weak := by
  have h := marks_parts.comp ((nums_parts 2 6).comp ((bec_parts 1 [2] (by decide) (by decide)).comp ((btw_parts 3 [4, 7] (by decide) (by decide) (by decide) (by decide) (by decide)).comp ((btw_parts 6 [7] (by decide) (by decide) (by decide) (by decide) (by decide)).comp (sbeh_parts.comp (sah_parts.comp ((bec_parts 13 [4, 5, 7] (by decide) (by decide)).comp (nums_parts 0 0))))))))
  exact h
theorem weak_parted (s w : Int) (hw : w = 0 ∨ w = 1) (a b : List Int) : weak s (a ++ [w] ++ b) = weak s (a ++ [w]) ++ weak w b := by
  obtain ⟨y, h1, h2⟩ := weak_parts s w a b hw
  rw [h1, List.append_assoc, List.append_assoc]
  exact h2
end Go.Proofs.YtmhnhklkomboaaaDoor.Wk
