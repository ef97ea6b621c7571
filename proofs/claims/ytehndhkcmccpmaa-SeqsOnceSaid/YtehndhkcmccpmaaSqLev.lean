/-
  What the sequences ask of explicit levels, plainly: an initiator's PDI stands at its level; what stands between stands above it, or at it. No program in it.
-/
import Derived.Test.YtehndhkcmccpmaaLvLaws
import Derived.Test.YtehndhkcmccpmaaSqFold
set_option linter.unusedVariables false
namespace Go.Proofs.Ytehndhkcmccpmaa.Lv
open Go Go.Proofs.Ytehndhkcmccpmaa.Ba

/-- In an isolate that fitted; in one that was lost. -/
def InF (s : St) (d : Nat) (s1 : St) : Prop := s.li = 0 ∧ s.ld = 0 ∧ ∃ X e, e.iso = true ∧ s1.es = X ++ e :: s.es ∧ s1.op = s.op + 1 + isos X ∧ isos X + s1.li = d
def InL (s : St) (d : Nat) (s1 : St) : Prop := s1.es = s.es ∧ s1.ld = s.ld ∧ s1.op = s.op ∧ s1.li = s.li + 1 + d
theorem In.begin2 (o : Nat) (s : St) : InF s 0 (beginS o s) ∨ InL s 0 (beginS o s) := by
  unfold beginS
  split
  · rename_i hf
    obtain ⟨-, h2, h3⟩ := fits_iff.1 hf
    exact .inl ⟨h2, h3, [], _, rfl, rfl, rfl, by simp [isos, h2]⟩
  · exact .inr ⟨rfl, rfl, rfl, rfl⟩
theorem InF.open_ {s s1 : St} {d : Nat} (h : InF s d s1) (o : Nat) : InF s (d + 1) (beginS o s1) := by
  obtain ⟨h1, h2, X, e, h3, h4, h5, h6⟩ := h
  unfold beginS
  split
  · refine ⟨h1, h2, _ :: X, e, h3, by simp [h4]; rfl, ?_, ?_⟩
    · simp [isos, h5]; omega
    · simp [isos]; omega
  · exact ⟨h1, h2, X, e, h3, h4, h5, by simp; omega⟩
theorem InL.open_ {s s1 : St} {d : Nat} (h : InL s d s1) (o : Nat) : InL s (d + 1) (beginS o s1) := by
  obtain ⟨h1, h2, h3, h4⟩ := h
  unfold beginS
  split
  · rename_i hf
    have := (fits_iff.1 hf).2.1
    omega
  · exact ⟨h1, h2, h3, by simp; omega⟩
theorem InF.embed {s s1 : St} {d : Nat} (h : InF s d s1) (o : Nat) (v : Int) : InF s d (embedS o v s1) := by
  obtain ⟨h1, h2, X, e, h3, h4, h5, h6⟩ := h
  unfold embedS
  split
  · exact ⟨h1, h2, ⟨nxt o (top s1.es).lev, v, false⟩ :: X, e, h3, by simp [push, h4], by simp [push, isos, h5], by simp [push, isos]; omega⟩
  · split
    · exact ⟨h1, h2, X, e, h3, h4, h5, h6⟩
    · exact ⟨h1, h2, X, e, h3, h4, h5, h6⟩
theorem InL.embed {s s1 : St} {d : Nat} (h : InL s d s1) (o : Nat) (v : Int) : InL s d (embedS o v s1) := by
  obtain ⟨h1, h2, h3, h4⟩ := h
  unfold embedS
  split
  · rename_i hf
    have := (fits_iff.1 hf).2.1
    omega
  · split
    · omega
    · exact ⟨h1, h2, h3, h4⟩
theorem InF.pop {s s1 : St} {d : Nat} (h : InF s d s1) : InF s d (popS s1) := by
  obtain ⟨h1, h2, X, e, h3, h4, h5, h6⟩ := h
  unfold popS
  split
  · exact ⟨h1, h2, X, e, h3, h4, h5, h6⟩
  · split
    · exact ⟨h1, h2, X, e, h3, h4, h5, h6⟩
    · split
      · exact ⟨h1, h2, X, e, h3, h4, h5, h6⟩
      · rename_i hn
        cases X with
        | nil =>
          rw [h4] at hn
          exact absurd (.inl h3) hn
        | cons x X =>
          rw [h4] at hn
          have hx : ¬ x.iso = true := fun e => hn (.inl e)
          refine ⟨h1, h2, X, e, h3, by simp [h4], ?_, ?_⟩
          · unfold isos at h5
            rw [if_neg hx] at h5
            exact h5
          · unfold isos at h6
            rw [if_neg hx] at h6
            exact h6
theorem InL.pop {s s1 : St} {d : Nat} (h : InL s d s1) : InL s d (popS s1) := by
  obtain ⟨h1, h2, h3, h4⟩ := h
  unfold popS
  rw [if_pos (by omega)]
  exact ⟨h1, h2, h3, h4⟩
theorem InF.close {s s1 : St} {d : Nat} (h : InF s (d + 1) s1) : InF s d (endS s1) := by
  obtain ⟨h1, h2, X, e, h3, h4, h5, h6⟩ := h
  unfold endS
  split
  · exact ⟨h1, h2, X, e, h3, h4, h5, by simp; omega⟩
  · split
    · omega
    · obtain ⟨c1, c2⟩ := cut_in X (e :: s.es) (by omega)
      exact ⟨h1, h2, cutI X, e, h3, by simp [h4, c1], by simp [h5]; omega, by simp; omega⟩
theorem InL.close {s s1 : St} {d : Nat} (h : InL s (d + 1) s1) : InL s d (endS s1) := by
  obtain ⟨h1, h2, h3, h4⟩ := h
  unfold endS
  split
  · exact ⟨h1, h2, h3, by simp; omega⟩
  · omega
theorem InF.other {s s1 : St} {d : Nat} (h : InF s d s1) {c : Int} (hi : isI c = false) (hp : isP c = false) (l : List Int) : InF s d (closeS c s1) ∧ InF s d (openS c l (closeS c s1)) := by
  have h1 : c ≠ 19 ∧ c ≠ 20 ∧ c ≠ 21 := by simp [isI] at hi; omega
  have h2 : c ≠ 22 := by simpa [isP] using hp
  have hcl : InF s d (closeS c s1) := by
    unfold closeS
    by_cases h3 : c = 18
    · rw [if_pos h3]
      exact h.pop
    · rw [if_neg h3, if_neg h2]
      exact h
  refine ⟨hcl, ?_⟩
  unfold openS
  rw [if_neg h1.2.1, if_neg h1.1, if_neg h1.2.2]
  repeat' split
  all_goals first
    | exact hcl.embed _ _
    | exact hcl
theorem InL.other {s s1 : St} {d : Nat} (h : InL s d s1) {c : Int} (hi : isI c = false) (hp : isP c = false) (l : List Int) : InL s d (closeS c s1) ∧ InL s d (openS c l (closeS c s1)) := by
  have h1 : c ≠ 19 ∧ c ≠ 20 ∧ c ≠ 21 := by simp [isI] at hi; omega
  have h2 : c ≠ 22 := by simpa [isP] using hp
  have hcl : InL s d (closeS c s1) := by
    unfold closeS
    by_cases h3 : c = 18
    · rw [if_pos h3]
      exact h.pop
    · rw [if_neg h3, if_neg h2]
      exact h
  refine ⟨hcl, ?_⟩
  unfold openS
  rw [if_neg h1.2.1, if_neg h1.1, if_neg h1.2.2]
  repeat' split
  all_goals first
    | exact hcl.embed _ _
    | exact hcl
theorem chain_above {b : Nat} : ∀ (X r : List E) (e : E), r ≠ [] → Chain b (X ++ e :: r) → (top r).lev < (top (X ++ e :: r)).lev
  | [], t :: r, e, _, h => by
    have := h.1
    simpa [top] using this
  | [], [], e, h, _ => absurd rfl h
  | x :: X, r, e, hr, h => by
    have ih := chain_above (b := b) X r e hr
    cases hX : X ++ e :: r with
    | nil => simp at hX
    | cons y Y =>
      rw [List.cons_append, hX] at h
      rw [hX] at ih
      have h1 := ih h.2.2.2
      have h2 := h.1
      rw [List.cons_append, hX]
      simp only [top, List.headD_cons] at h1 ⊢
      omega
theorem InF.above {b : Nat} {s s1 : St} {d : Nat} (h : InF s d s1) (hs : Ok b s) (h1 : Ok b s1) : (top s.es).lev < (top s1.es).lev := by
  obtain ⟨_, _, X, e, _, h4, _, _⟩ := h
  have hc := h1.chain
  rw [h4] at hc ⊢
  exact chain_above X s.es e (by have := hs.chain.pos; intro e; rw [e] at this; simp at this) hc
theorem InL.same {s s1 : St} {d : Nat} (h : InL s d s1) : (top s1.es).lev = (top s.es).lev := by rw [h.1]

/-- The level that is told. -/
theorem out_lev {b : Nat} {s : St} {c : Int} (h10 : c ≠ 10) : (outS b s c).1 = -1 ∨ (outS b s c).1 = ((top s.es).lev : Int) := by
  unfold outS
  by_cases h : remB c = true
  · rw [if_pos h]
    exact .inl rfl
  · rw [if_neg h, if_neg h10]
    right
    by_cases h2 : (top s.es).ov = -1
    · rw [if_pos h2]
    · rw [if_neg h2]
theorem out_kept {b : Nat} {s : St} {c : Int} (h10 : c ≠ 10) (hr : remB c = false) : (outS b s c).1 = ((top s.es).lev : Int) := by
  unfold outS
  rw [if_neg (by rw [hr]; decide), if_neg h10]
  by_cases h2 : (top s.es).ov = -1
  · rw [if_pos h2]
  · rw [if_neg h2]
theorem out_any (b : Nat) (s : St) (c : Int) : (outS b s c).1 = -1 ∨ 0 ≤ (outS b s c).1 := by
  unfold outS
  by_cases h : remB c = true
  · rw [if_pos h]
    exact .inl rfl
  · rw [if_neg h]
    right
    by_cases h1 : c = 10
    · rw [if_pos h1]; simp
    · rw [if_neg h1]
      by_cases h2 : (top s.es).ov = -1
      · rw [if_pos h2]; simp
      · rw [if_neg h2]; simp
theorem out_rem (b : Nat) (s : St) (c : Int) : (outS b s c).1 = -1 ↔ remB c = true := by
  unfold outS
  by_cases h : remB c = true
  · rw [if_pos h]; simp [h]
  · refine ⟨fun h2 => ?_, fun h2 => absurd h2 h⟩
    rw [if_neg h] at h2
    by_cases h1 : c = 10
    · rw [if_pos h1] at h2
      dsimp only at h2
      omega
    · rw [if_neg h1] at h2
      by_cases h3 : (top s.es).ov = -1
      · rw [if_pos h3] at h2
        dsimp only at h2
        omega
      · rw [if_neg h3] at h2
        dsimp only at h2
        omega

/-- What stands in an isolate stands above its initiator, or, where it was lost, at its level. -/
theorem walk_levF (b : Nat) (s : St) (hs : Ok b s) : ∀ (zs r : List Int) (d : Nat) (s1 : St), InF s d s1 → Ok b s1 → closedL zs d = true → (∀ c ∈ zs, c ≠ 10) → ∃ Z s2, Z.length = zs.length ∧ walkL b (zs ++ 22 :: r) s1 = Z ++ walkL b (22 :: r) s2 ∧ ∀ y ∈ Z, y.1 = -1 ∨ ((top s.es).lev : Int) < y.1
  | [], r, d, s1, h, h1, hc, hB => ⟨[], s1, rfl, rfl, fun y hy => by cases hy⟩
  | c :: zs, r, d, s1, h, h1, hc, hB => by
    simp only [closedL] at hc
    simp only [List.cons_append, walkL]
    have hBs : ∀ x ∈ zs, x ≠ 10 := fun x hx => hB x (List.mem_cons_of_mem _ hx)
    have hc10 : c ≠ 10 := hB c List.mem_cons_self
    have hk1 := (h1.close c)
    have hk2 := (h1.close c).open_ c (zs ++ 22 :: r)
    have hout : ∀ {d'}, InF s d' (closeS c s1) → (outS b (closeS c s1) c).1 = -1 ∨ ((top s.es).lev : Int) < (outS b (closeS c s1) c).1 := fun hin => by
      rcases out_lev (b := b) (s := closeS c s1) hc10 with h2 | h2
      · exact .inl h2
      · right
        rw [h2]
        have := hin.above hs hk1
        omega
    by_cases hi : isI c = true
    · rw [if_pos hi] at hc
      obtain ⟨o, ho⟩ := initI hi (zs ++ 22 :: r) s1
      have hcl : closeS c s1 = s1 := closeI hi s1
      have hin : InF s (d + 1) (openS c (zs ++ 22 :: r) (closeS c s1)) := by rw [ho]; exact h.open_ o
      obtain ⟨Z, s2, e1, e2, e3⟩ := walk_levF b s hs zs r (d + 1) _ hin hk2 hc hBs
      refine ⟨_ :: Z, s2, by simp [e1], by rw [e2]; rfl, fun y hy => ?_⟩
      rcases List.mem_cons.1 hy with rfl | hy
      · exact hout (d' := d) (by rw [hcl]; exact h)
      · exact e3 y hy
    · rw [if_neg hi] at hc
      by_cases hp : isP c = true
      · rw [if_pos hp] at hc
        cases d with
        | zero => cases hc
        | succ d =>
          have hc22 : c = 22 := by simpa [isP] using hp
          subst hc22
          have hin : InF s d (closeS 22 s1) := h.close
          obtain ⟨Z, s2, e1, e2, e3⟩ := walk_levF b s hs zs r d (openS 22 (zs ++ 22 :: r) (closeS 22 s1)) hin hk2 hc hBs
          refine ⟨_ :: Z, s2, by simp [e1], by rw [e2]; rfl, fun y hy => ?_⟩
          rcases List.mem_cons.1 hy with rfl | hy
          · exact hout hin
          · exact e3 y hy
      · rw [if_neg hp] at hc
        obtain ⟨hin1, hin2⟩ := h.other (by simpa using hi) (by simpa using hp) (zs ++ 22 :: r)
        obtain ⟨Z, s2, e1, e2, e3⟩ := walk_levF b s hs zs r d _ hin2 hk2 hc hBs
        refine ⟨_ :: Z, s2, by simp [e1], by rw [e2]; rfl, fun y hy => ?_⟩
        rcases List.mem_cons.1 hy with rfl | hy
        · exact hout hin1
        · exact e3 y hy
theorem walk_levL (b : Nat) (s : St) : ∀ (zs r : List Int) (d : Nat) (s1 : St), InL s d s1 → closedL zs d = true → (∀ c ∈ zs, c ≠ 10) → ∃ Z s2, Z.length = zs.length ∧ walkL b (zs ++ 22 :: r) s1 = Z ++ walkL b (22 :: r) s2 ∧ ∀ y ∈ Z, y.1 = -1 ∨ y.1 = ((top s.es).lev : Int)
  | [], r, d, s1, h, hc, hB => ⟨[], s1, rfl, rfl, fun y hy => by cases hy⟩
  | c :: zs, r, d, s1, h, hc, hB => by
    simp only [closedL] at hc
    simp only [List.cons_append, walkL]
    have hBs : ∀ x ∈ zs, x ≠ 10 := fun x hx => hB x (List.mem_cons_of_mem _ hx)
    have hc10 : c ≠ 10 := hB c List.mem_cons_self
    have hout : ∀ {d'}, InL s d' (closeS c s1) → (outS b (closeS c s1) c).1 = -1 ∨ (outS b (closeS c s1) c).1 = ((top s.es).lev : Int) := fun hin => by
      rcases out_lev (b := b) (s := closeS c s1) hc10 with h2 | h2
      · exact .inl h2
      · right
        rw [h2, hin.same]
    by_cases hi : isI c = true
    · rw [if_pos hi] at hc
      obtain ⟨o, ho⟩ := initI hi (zs ++ 22 :: r) s1
      have hcl : closeS c s1 = s1 := closeI hi s1
      have hin : InL s (d + 1) (openS c (zs ++ 22 :: r) (closeS c s1)) := by rw [ho]; exact h.open_ o
      obtain ⟨Z, s2, e1, e2, e3⟩ := walk_levL b s zs r (d + 1) _ hin hc hBs
      refine ⟨_ :: Z, s2, by simp [e1], by rw [e2]; rfl, fun y hy => ?_⟩
      rcases List.mem_cons.1 hy with rfl | hy
      · exact hout (d' := d) (by rw [hcl]; exact h)
      · exact e3 y hy
    · rw [if_neg hi] at hc
      by_cases hp : isP c = true
      · rw [if_pos hp] at hc
        cases d with
        | zero => cases hc
        | succ d =>
          have hc22 : c = 22 := by simpa [isP] using hp
          subst hc22
          have hin : InL s d (closeS 22 s1) := h.close
          obtain ⟨Z, s2, e1, e2, e3⟩ := walk_levL b s zs r d (openS 22 (zs ++ 22 :: r) (closeS 22 s1)) hin hc hBs
          refine ⟨_ :: Z, s2, by simp [e1], by rw [e2]; rfl, fun y hy => ?_⟩
          rcases List.mem_cons.1 hy with rfl | hy
          · exact hout hin
          · exact e3 y hy
      · rw [if_neg hp] at hc
        obtain ⟨hin1, hin2⟩ := h.other (by simpa using hi) (by simpa using hp) (zs ++ 22 :: r)
        obtain ⟨Z, s2, e1, e2, e3⟩ := walk_levL b s zs r d _ hin2 hc hBs
        refine ⟨_ :: Z, s2, by simp [e1], by rw [e2]; rfl, fun y hy => ?_⟩
        rcases List.mem_cons.1 hy with rfl | hy
        · exact hout hin1
        · exact e3 y hy
theorem end_closed : ∀ (l : List Int) (d : Nat), endL l d < l.length → closedL (l.take (endL l d)) d = true
  | [], d, h => by simp [endL] at h
  | c :: l, d, h => by
    by_cases hp : isP c = true
    · have hi : ¬ isI c = true := fun h1 => by rw [isI_not_isP h1] at hp; cases hp
      cases d with
      | zero =>
        have e : endL (c :: l) 0 = 0 := by simp only [endL]; rw [if_pos hp]
        rw [e]
        rfl
      | succ d =>
        have e : endL (c :: l) (d + 1) = endL l d + 1 := by simp only [endL]; rw [if_pos hp, Nat.add_comm]
        rw [e] at h ⊢
        rw [List.take_succ_cons]
        simp only [closedL]
        rw [if_neg hi, if_pos hp]
        exact end_closed l d (by simpa using h)
    · by_cases hi : isI c = true
      · have e : endL (c :: l) d = endL l (d + 1) + 1 := by simp only [endL]; rw [if_neg hp, if_pos hi, Nat.add_comm]
        rw [e] at h ⊢
        rw [List.take_succ_cons]
        simp only [closedL]
        rw [if_pos hi]
        exact end_closed l (d + 1) (by simpa using h)
      · have e : endL (c :: l) d = endL l d + 1 := by simp only [endL]; rw [if_neg hp, if_neg hi, Nat.add_comm]
        rw [e] at h ⊢
        rw [List.take_succ_cons]
        simp only [closedL]
        rw [if_neg hi, if_neg hp]
        exact end_closed l d (by simpa using h)
theorem walk_split (b : Nat) (r : List Int) : ∀ (a : List Int) (s : St), Ok b s → ∃ P s', P.length = a.length ∧ walkL b (a ++ r) s = P ++ walkL b r s' ∧ Ok b s'
  | [], s, h => ⟨[], s, rfl, rfl, h⟩
  | c :: a, s, h => by
    simp only [List.cons_append, walkL]
    obtain ⟨P, s', h1, h2, h3⟩ := walk_split b r a (openS c (a ++ r) (closeS c s)) ((h.close c).open_ c (a ++ r))
    exact ⟨_ :: P, s', by simp [h1], by rw [h2]; rfl, h3⟩
end Go.Proofs.Ytehndhkcmccpmaa.Lv
