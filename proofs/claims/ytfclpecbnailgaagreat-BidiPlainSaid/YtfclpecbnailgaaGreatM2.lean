/-
  Several texts in one, each with its own remark: SqLev, SqIso, BaNest, BiIns.
-/
import Derived.Test.YtfclpecbnailgaaGreatM0
import Derived.Test.YtfclpecbnailgaaGreatM1

/-
  What the sequences ask of explicit levels, plainly: an initiator's PDI stands at its level; what stands between stands above it, or at it. No program in it.
-/
set_option linter.unusedVariables false
namespace Go.Proofs.YtfclpecbnailgaaGreat.Lv
open Go Go.Proofs.YtfclpecbnailgaaGreat.Ba
/-- In an isolate that fitted; in one that was lost. -/
def InF (s : St) (d : Nat) (s1 : St) : Prop := s.li = 0 ∧ s.ld = 0 ∧ ∃ X e, e.iso = true ∧ s1.es = X ++ e :: s.es ∧ s1.op = s.op + 1 + isos X ∧ isos X + s1.li = d
def InL (s : St) (d : Nat) (s1 : St) : Prop := s1.es = s.es ∧ s1.ld = s.ld ∧ s1.op = s.op ∧ s1.li = s.li + 1 + d
theorem In.begin2 (o : Nat) (s : St) : InF s 0 (beginS o s) ∨ InL s 0 (beginS o s) := by
  unfold beginS
  split
  · rename_i hf
    obtain ⟨-, h2, h3⟩ := fits_iff.1 hf
    exact .inl ⟨h2, h3, [], _, rfl, rfl, rfl, by simp [isos, h2]⟩
  · exact .inr ⟨rfl, rfl, rfl, rfl⟩
theorem InF.open_ {s s1 : St} {d : Nat} (h : InF s d s1) (o : Nat) : InF s (d + 1) (beginS o s1) := by
  obtain ⟨h1, h2, X, e, h3, h4, h5, h6⟩ := h
  unfold beginS
  split
  · refine ⟨h1, h2, _ :: X, e, h3, by simp [h4]; rfl, ?_, ?_⟩
    · simp [isos, h5]; omega
    · simp [isos]; omega
  · exact ⟨h1, h2, X, e, h3, h4, h5, by simp; omega⟩
theorem InL.open_ {s s1 : St} {d : Nat} (h : InL s d s1) (o : Nat) : InL s (d + 1) (beginS o s1) := by
  obtain ⟨h1, h2, h3, h4⟩ := h
  unfold beginS
  split
  · rename_i hf
    have := (fits_iff.1 hf).2.1
    omega
  · exact ⟨h1, h2, h3, by simp; omega⟩
theorem InF.embed {s s1 : St} {d : Nat} (h : InF s d s1) (o : Nat) (v : Int) : InF s d (embedS o v s1) := by
  obtain ⟨h1, h2, X, e, h3, h4, h5, h6⟩ := h
  unfold embedS
  split
  · exact ⟨h1, h2, ⟨nxt o (top s1.es).lev, v, false⟩ :: X, e, h3, by simp [push, h4], by simp [push, isos, h5], by simp [push, isos]; omega⟩
  · split
    · exact ⟨h1, h2, X, e, h3, h4, h5, h6⟩
    · exact ⟨h1, h2, X, e, h3, h4, h5, h6⟩
theorem InL.embed {s s1 : St} {d : Nat} (h : InL s d s1) (o : Nat) (v : Int) : InL s d (embedS o v s1) := by
  obtain ⟨h1, h2, h3, h4⟩ := h
  unfold embedS
  split
  · rename_i hf
    have := (fits_iff.1 hf).2.1
    omega
  · split
    · omega
    · exact ⟨h1, h2, h3, h4⟩
theorem InF.pop {s s1 : St} {d : Nat} (h : InF s d s1) : InF s d (popS s1) := by
  obtain ⟨h1, h2, X, e, h3, h4, h5, h6⟩ := h
  unfold popS
  split
  · exact ⟨h1, h2, X, e, h3, h4, h5, h6⟩
  · split
    · exact ⟨h1, h2, X, e, h3, h4, h5, h6⟩
    · split
      · exact ⟨h1, h2, X, e, h3, h4, h5, h6⟩
      · rename_i hn
        cases X with
        | nil =>
          rw [h4] at hn
          exact absurd (.inl h3) hn
        | cons x X =>
          rw [h4] at hn
          have hx : ¬ x.iso = true := fun e => hn (.inl e)
          refine ⟨h1, h2, X, e, h3, by simp [h4], ?_, ?_⟩
          · unfold isos at h5
            rw [if_neg hx] at h5
            exact h5
          · unfold isos at h6
            rw [if_neg hx] at h6
            exact h6
theorem InL.pop {s s1 : St} {d : Nat} (h : InL s d s1) : InL s d (popS s1) := by
  obtain ⟨h1, h2, h3, h4⟩ := h
  unfold popS
  rw [if_pos (by omega)]
  exact ⟨h1, h2, h3, h4⟩
theorem InF.close {s s1 : St} {d : Nat} (h : InF s (d + 1) s1) : InF s d (endS s1) := by
  obtain ⟨h1, h2, X, e, h3, h4, h5, h6⟩ := h
  unfold endS
  split
  · exact ⟨h1, h2, X, e, h3, h4, h5, by simp; omega⟩
  · split
    · omega
    · obtain ⟨c1, c2⟩ := cut_in X (e :: s.es) (by omega)
      exact ⟨h1, h2, cutI X, e, h3, by simp [h4, c1], by simp [h5]; omega, by simp; omega⟩
theorem InL.close {s s1 : St} {d : Nat} (h : InL s (d + 1) s1) : InL s d (endS s1) := by
  obtain ⟨h1, h2, h3, h4⟩ := h
  unfold endS
  split
  · exact ⟨h1, h2, h3, by simp; omega⟩
  · omega
theorem InF.other {s s1 : St} {d : Nat} (h : InF s d s1) {c : Int} (hi : isI c = false) (hp : isP c = false) (l : List Int) : InF s d (closeS c s1) ∧ InF s d (openS c l (closeS c s1)) := by
  have h1 : c ≠ 19 ∧ c ≠ 20 ∧ c ≠ 21 := by simp [isI] at hi; omega
  have h2 : c ≠ 22 := by simpa [isP] using hp
  have hcl : InF s d (closeS c s1) := by
    unfold closeS
    by_cases h3 : c = 18
    · rw [if_pos h3]
      exact h.pop
    · rw [if_neg h3, if_neg h2]
      exact h
  refine ⟨hcl, ?_⟩
  unfold openS
  rw [if_neg h1.2.1, if_neg h1.1, if_neg h1.2.2]
  repeat' split
  all_goals first
    | exact hcl.embed _ _
    | exact hcl
theorem InL.other {s s1 : St} {d : Nat} (h : InL s d s1) {c : Int} (hi : isI c = false) (hp : isP c = false) (l : List Int) : InL s d (closeS c s1) ∧ InL s d (openS c l (closeS c s1)) := by
  have h1 : c ≠ 19 ∧ c ≠ 20 ∧ c ≠ 21 := by simp [isI] at hi; omega
  have h2 : c ≠ 22 := by simpa [isP] using hp
  have hcl : InL s d (closeS c s1) := by
    unfold closeS
    by_cases h3 : c = 18
    · rw [if_pos h3]
      exact h.pop
    · rw [if_neg h3, if_neg h2]
      exact h
  refine ⟨hcl, ?_⟩
  unfold openS
  rw [if_neg h1.2.1, if_neg h1.1, if_neg h1.2.2]
  repeat' split
  all_goals first
    | exact hcl.embed _ _
    | exact hcl
theorem chain_above {b : Nat} : ∀ (X r : List E) (e : E), r ≠ [] → Chain b (X ++ e :: r) → (top r).lev < (top (X ++ e :: r)).lev
  | [], t :: r, e, _, h => by
    have := h.1
    simpa [top] using this
  | [], [], e, h, _ => absurd rfl h
  | x :: X, r, e, hr, h => by
    have ih := chain_above (b := b) X r e hr
    cases hX : X ++ e :: r with
    | nil => simp at hX
    | cons y Y =>
      rw [List.cons_append, hX] at h
      rw [hX] at ih
      have h1 := ih h.2.2.2
      have h2 := h.1
      rw [List.cons_append, hX]
      simp only [top, List.headD_cons] at h1 ⊢
      omega
theorem InF.above {b : Nat} {s s1 : St} {d : Nat} (h : InF s d s1) (hs : Ok b s) (h1 : Ok b s1) : (top s.es).lev < (top s1.es).lev := by
  obtain ⟨_, _, X, e, _, h4, _, _⟩ := h
  have hc := h1.chain
  rw [h4] at hc ⊢
  exact chain_above X s.es e (by have := hs.chain.pos; intro e; rw [e] at this; simp at this) hc
theorem InL.same {s s1 : St} {d : Nat} (h : InL s d s1) : (top s1.es).lev = (top s.es).lev := by rw [h.1]
/-- The level that is told. -/
theorem out_lev {b : Nat} {s : St} {c : Int} (h10 : c ≠ 10) : (outS b s c).1 = -1 ∨ (outS b s c).1 = ((top s.es).lev : Int) := by
  unfold outS
  by_cases h : remB c = true
  · rw [if_pos h]
    exact .inl rfl
  · rw [if_neg h, if_neg h10]
    right
    by_cases h2 : (top s.es).ov = -1
    · rw [if_pos h2]
    · rw [if_neg h2]
theorem out_kept {b : Nat} {s : St} {c : Int} (h10 : c ≠ 10) (hr : remB c = false) : (outS b s c).1 = ((top s.es).lev : Int) := by
  unfold outS
  rw [if_neg (by rw [hr]; decide), if_neg h10]
  by_cases h2 : (top s.es).ov = -1
  · rw [if_pos h2]
  · rw [if_neg h2]
theorem out_any (b : Nat) (s : St) (c : Int) : (outS b s c).1 = -1 ∨ 0 ≤ (outS b s c).1 := by
  unfold outS
  by_cases h : remB c = true
  · rw [if_pos h]
    exact .inl rfl
  · rw [if_neg h]
    right
    by_cases h1 : c = 10
    · rw [if_pos h1]; simp
    · rw [if_neg h1]
      by_cases h2 : (top s.es).ov = -1
      · rw [if_pos h2]; simp
      · rw [if_neg h2]; simp
theorem out_rem (b : Nat) (s : St) (c : Int) : (outS b s c).1 = -1 ↔ remB c = true := by
  unfold outS
  by_cases h : remB c = true
  · rw [if_pos h]; simp [h]
  · refine ⟨fun h2 => ?_, fun h2 => absurd h2 h⟩
    rw [if_neg h] at h2
    by_cases h1 : c = 10
    · rw [if_pos h1] at h2
      dsimp only at h2
      omega
    · rw [if_neg h1] at h2
      by_cases h3 : (top s.es).ov = -1
      · rw [if_pos h3] at h2
        dsimp only at h2
        omega
      · rw [if_neg h3] at h2
        dsimp only at h2
        omega
/-- What stands in an isolate stands above its initiator, or, where it was lost, at its level. -/
theorem walk_levF (b : Nat) (s : St) (hs : Ok b s) : ∀ (zs r : List Int) (d : Nat) (s1 : St), InF s d s1 → Ok b s1 → closedL zs d = true → (∀ c ∈ zs, c ≠ 10) → ∃ Z s2, Z.length = zs.length ∧ walkL b (zs ++ 22 :: r) s1 = Z ++ walkL b (22 :: r) s2 ∧ ∀ y ∈ Z, y.1 = -1 ∨ ((top s.es).lev : Int) < y.1
  | [], r, d, s1, h, h1, hc, hB => ⟨[], s1, rfl, rfl, fun y hy => by cases hy⟩
  | c :: zs, r, d, s1, h, h1, hc, hB => by
    simp only [closedL] at hc
    simp only [List.cons_append, walkL]
    have hBs : ∀ x ∈ zs, x ≠ 10 := fun x hx => hB x (List.mem_cons_of_mem _ hx)
    have hc10 : c ≠ 10 := hB c List.mem_cons_self
    have hk1 := (h1.close c)
    have hk2 := (h1.close c).open_ c (zs ++ 22 :: r)
    have hout : ∀ {d'}, InF s d' (closeS c s1) → (outS b (closeS c s1) c).1 = -1 ∨ ((top s.es).lev : Int) < (outS b (closeS c s1) c).1 := fun hin => by
      rcases out_lev (b := b) (s := closeS c s1) hc10 with h2 | h2
      · exact .inl h2
      · right
        rw [h2]
        have := hin.above hs hk1
        omega
    by_cases hi : isI c = true
    · rw [if_pos hi] at hc
      obtain ⟨o, ho⟩ := initI hi (zs ++ 22 :: r) s1
      have hcl : closeS c s1 = s1 := closeI hi s1
      have hin : InF s (d + 1) (openS c (zs ++ 22 :: r) (closeS c s1)) := by rw [ho]; exact h.open_ o
      obtain ⟨Z, s2, e1, e2, e3⟩ := walk_levF b s hs zs r (d + 1) _ hin hk2 hc hBs
      refine ⟨_ :: Z, s2, by simp [e1], by rw [e2]; rfl, fun y hy => ?_⟩
      rcases List.mem_cons.1 hy with rfl | hy
      · exact hout (d' := d) (by rw [hcl]; exact h)
      · exact e3 y hy
    · rw [if_neg hi] at hc
      by_cases hp : isP c = true
      · rw [if_pos hp] at hc
        cases d with
        | zero => cases hc
        | succ d =>
          have hc22 : c = 22 := by simpa [isP] using hp
          subst hc22
          have hin : InF s d (closeS 22 s1) := h.close
          obtain ⟨Z, s2, e1, e2, e3⟩ := walk_levF b s hs zs r d (openS 22 (zs ++ 22 :: r) (closeS 22 s1)) hin hk2 hc hBs
          refine ⟨_ :: Z, s2, by simp [e1], by rw [e2]; rfl, fun y hy => ?_⟩
          rcases List.mem_cons.1 hy with rfl | hy
          · exact hout hin
          · exact e3 y hy
      · rw [if_neg hp] at hc
        obtain ⟨hin1, hin2⟩ := h.other (by simpa using hi) (by simpa using hp) (zs ++ 22 :: r)
        obtain ⟨Z, s2, e1, e2, e3⟩ := walk_levF b s hs zs r d _ hin2 hk2 hc hBs
        refine ⟨_ :: Z, s2, by simp [e1], by rw [e2]; rfl, fun y hy => ?_⟩
        rcases List.mem_cons.1 hy with rfl | hy
        · exact hout hin1
        · exact e3 y hy
theorem walk_levL (b : Nat) (s : St) : ∀ (zs r : List Int) (d : Nat) (s1 : St), InL s d s1 → closedL zs d = true → (∀ c ∈ zs, c ≠ 10) → ∃ Z s2, Z.length = zs.length ∧ walkL b (zs ++ 22 :: r) s1 = Z ++ walkL b (22 :: r) s2 ∧ ∀ y ∈ Z, y.1 = -1 ∨ y.1 = ((top s.es).lev : Int)
  | [], r, d, s1, h, hc, hB => ⟨[], s1, rfl, rfl, fun y hy => by cases hy⟩
  | c :: zs, r, d, s1, h, hc, hB => by
    simp only [closedL] at hc
    simp only [List.cons_append, walkL]
    have hBs : ∀ x ∈ zs, x ≠ 10 := fun x hx => hB x (List.mem_cons_of_mem _ hx)
    have hc10 : c ≠ 10 := hB c List.mem_cons_self
    have hout : ∀ {d'}, InL s d' (closeS c s1) → (outS b (closeS c s1) c).1 = -1 ∨ (outS b (closeS c s1) c).1 = ((top s.es).lev : Int) := fun hin => by
      rcases out_lev (b := b) (s := closeS c s1) hc10 with h2 | h2
      · exact .inl h2
      · right
        rw [h2, hin.same]
    by_cases hi : isI c = true
    · rw [if_pos hi] at hc
      obtain ⟨o, ho⟩ := initI hi (zs ++ 22 :: r) s1
      have hcl : closeS c s1 = s1 := closeI hi s1
      have hin : InL s (d + 1) (openS c (zs ++ 22 :: r) (closeS c s1)) := by rw [ho]; exact h.open_ o
      obtain ⟨Z, s2, e1, e2, e3⟩ := walk_levL b s zs r (d + 1) _ hin hc hBs
      refine ⟨_ :: Z, s2, by simp [e1], by rw [e2]; rfl, fun y hy => ?_⟩
      rcases List.mem_cons.1 hy with rfl | hy
      · exact hout (d' := d) (by rw [hcl]; exact h)
      · exact e3 y hy
    · rw [if_neg hi] at hc
      by_cases hp : isP c = true
      · rw [if_pos hp] at hc
        cases d with
        | zero => cases hc
        | succ d =>
          have hc22 : c = 22 := by simpa [isP] using hp
          subst hc22
          have hin : InL s d (closeS 22 s1) := h.close
          obtain ⟨Z, s2, e1, e2, e3⟩ := walk_levL b s zs r d (openS 22 (zs ++ 22 :: r) (closeS 22 s1)) hin hc hBs
          refine ⟨_ :: Z, s2, by simp [e1], by rw [e2]; rfl, fun y hy => ?_⟩
          rcases List.mem_cons.1 hy with rfl | hy
          · exact hout hin
          · exact e3 y hy
      · rw [if_neg hp] at hc
        obtain ⟨hin1, hin2⟩ := h.other (by simpa using hi) (by simpa using hp) (zs ++ 22 :: r)
        obtain ⟨Z, s2, e1, e2, e3⟩ := walk_levL b s zs r d _ hin2 hc hBs
        refine ⟨_ :: Z, s2, by simp [e1], by rw [e2]; rfl, fun y hy => ?_⟩
        rcases List.mem_cons.1 hy with rfl | hy
        · exact hout hin1
        · exact e3 y hy
theorem end_closed : ∀ (l : List Int) (d : Nat), endL l d < l.length → closedL (l.take (endL l d)) d = true
  | [], d, h => by simp [endL] at h
  | c :: l, d, h => by
    by_cases hp : isP c = true
    · have hi : ¬ isI c = true := fun h1 => by rw [isI_not_isP h1] at hp; cases hp
      cases d with
      | zero =>
        have e : endL (c :: l) 0 = 0 := by simp only [endL]; rw [if_pos hp]
        rw [e]
        rfl
      | succ d =>
        have e : endL (c :: l) (d + 1) = endL l d + 1 := by simp only [endL]; rw [if_pos hp, Nat.add_comm]
        rw [e] at h ⊢
        rw [List.take_succ_cons]
        simp only [closedL]
        rw [if_neg hi, if_pos hp]
        exact end_closed l d (by simpa using h)
    · by_cases hi : isI c = true
      · have e : endL (c :: l) d = endL l (d + 1) + 1 := by simp only [endL]; rw [if_neg hp, if_pos hi, Nat.add_comm]
        rw [e] at h ⊢
        rw [List.take_succ_cons]
        simp only [closedL]
        rw [if_pos hi]
        exact end_closed l (d + 1) (by simpa using h)
      · have e : endL (c :: l) d = endL l d + 1 := by simp only [endL]; rw [if_neg hp, if_neg hi, Nat.add_comm]
        rw [e] at h ⊢
        rw [List.take_succ_cons]
        simp only [closedL]
        rw [if_neg hi, if_neg hp]
        exact end_closed l d (by simpa using h)
theorem walk_split (b : Nat) (r : List Int) : ∀ (a : List Int) (s : St), Ok b s → ∃ P s', P.length = a.length ∧ walkL b (a ++ r) s = P ++ walkL b r s' ∧ Ok b s'
  | [], s, h => ⟨[], s, rfl, rfl, h⟩
  | c :: a, s, h => by
    simp only [List.cons_append, walkL]
    obtain ⟨P, s', h1, h2, h3⟩ := walk_split b r a (openS c (a ++ r) (closeS c s)) ((h.close c).open_ c (a ++ r))
    exact ⟨_ :: P, s', by simp [h1], by rw [h2]; rfl, h3⟩
end Go.Proofs.YtfclpecbnailgaaGreat.Lv

/-
  What the levels of a paragraph are for its sequences, plainly: an initiator's PDI stands at its level; where there is no B, an initiator and its PDI stand in one sequence; where nothing embeds, overrides or isolates there is one sequence. No program in it.
-/
set_option linter.unusedVariables false
namespace Go.Proofs.YtfclpecbnailgaaGreat.Sq
open Go Go.Proofs.YtfclpecbnailgaaGreat.Ba Go.Proofs.YtfclpecbnailgaaGreat.Lv
def zB (c : List Int) (b : Nat) : List Int := (explL c b).map (·.1)
theorem zB_len (c : List Int) (b : Nat) : (zB c b).length = c.length := by simp [zB, explL_len]
theorem L_zB {c : List Int} {b i : Nat} {y : Int × Int} (h : (explL c b)[i]? = some y) : L (zB c b) i = y.1 := by
  unfold L zB
  rw [List.getD_eq_getElem?_getD, List.getElem?_map, h]
  rfl
theorem walk_at (b : Nat) : ∀ (l : List Int) (s : St) (i : Nat) (y : Int × Int), (walkL b l s)[i]? = some y → ∃ s' c, l[i]? = some c ∧ y = outS b s' c
  | [], s, i, y, h => by simp [walkL] at h
  | c :: l, s, 0, y, h => by
    simp [walkL] at h
    exact ⟨_, c, rfl, h.symm⟩
  | c :: l, s, i + 1, y, h => by
    simp only [walkL, List.getElem?_cons_succ] at h
    obtain ⟨s', c', h1, h2⟩ := walk_at b l _ i y h
    exact ⟨s', c', by simpa using h1, h2⟩
theorem zB_at {c : List Int} {b i : Nat} (h : i < c.length) : ∃ s', L (zB c b) i = (outS b s' c[i]).1 := by
  have hl : i < (explL c b).length := by rw [explL_len]; exact h
  have hy : (explL c b)[i]? = some (explL c b)[i] := List.getElem?_eq_getElem hl
  obtain ⟨s', c', h1, h2⟩ := walk_at b c (startS b) i _ hy
  rw [List.getElem?_eq_getElem h] at h1
  injection h1 with h1
  exact ⟨s', by rw [L_zB hy, h2, ← h1]⟩
theorem zB_ok (c : List Int) (b : Nat) (i : Nat) : L (zB c b) i = -1 ∨ 0 ≤ L (zB c b) i := by
  rcases Nat.lt_or_ge i c.length with h | h
  · obtain ⟨s', hs⟩ := zB_at (b := b) h
    rw [hs]
    exact out_any b s' _
  · left
    exact Classical.byContradiction fun hn => by have := L_lt hn; rw [zB_len] at this; omega
theorem remB_I {x : Int} (h : isI x = true) : remB x = false ∧ x ≠ 10 := by
  have hcs : x = 19 ∨ x = 20 ∨ x = 21 := by simpa [isI] using h
  rcases hcs with rfl | rfl | rfl <;> exact ⟨rfl, by omega⟩
theorem isolate_at {c : List Int} {b j : Nat} (hj : j < c.length) (hi : isI c[j] = true) (he : endAt c j < c.length) :
    ∃ s', Ok b s' ∧ (explL c b)[j]? = some (outS b s' c[j]) ∧ (explL c b)[endAt c j]? = some (outS b s' 22) ∧
      ((∀ x ∈ c, x ≠ 10) → (∀ k y, j < k → k < endAt c j → (explL c b)[k]? = some y → y.1 = -1 ∨ ((top s'.es).lev : Int) < y.1) ∨ (∀ k y, j < k → k < endAt c j → (explL c b)[k]? = some y → y.1 = -1 ∨ y.1 = ((top s'.es).lev : Int))) := by
  obtain ⟨e, hee⟩ : ∃ e, endL (c.drop (j + 1)) 0 = e := ⟨_, rfl⟩
  have hend : endAt c j = j + 1 + e := by unfold endAt; rw [hee]
  have hel : e < (c.drop (j + 1)).length := by rw [List.length_drop]; omega
  have hcl := end_closed (c.drop (j + 1)) 0 (by rw [hee]; exact hel)
  have hP := endL_at (c.drop (j + 1)) 0 (by rw [hee]; exact hel)
  simp only [hee] at hcl hP
  obtain ⟨zs, hzs⟩ : ∃ zs, (c.drop (j + 1)).take e = zs := ⟨_, rfl⟩
  have hzl : zs.length = e := by rw [← hzs, List.length_take]; omega
  have h22 : (c.drop (j + 1))[e] = 22 := by simpa [isP] using hP
  obtain ⟨r, hr⟩ : ∃ r, (c.drop (j + 1)).drop (e + 1) = r := ⟨_, rfl⟩
  have hsplit : c.drop (j + 1) = zs ++ 22 :: r := by
    rw [← hzs, ← hr, ← h22, ← List.drop_eq_getElem_cons hel, List.take_append_drop]
  have hc : c = c.take j ++ (c[j] :: (zs ++ 22 :: r)) := by
    rw [← hsplit, ← List.drop_eq_getElem_cons hj, List.take_append_drop]
  rw [hzs] at hcl
  have hex : explL c b = walkL b (c.take j ++ (c[j] :: (zs ++ 22 :: r))) (startS b) := by
    unfold explL
    exact congrArg (fun l => walkL b l (startS b)) hc
  obtain ⟨P, s', p1, p2, p3⟩ := walk_split b (c[j] :: (zs ++ 22 :: r)) (c.take j) (startS b) (Ok.start b)
  have hPl : P.length = j := by rw [p1, List.length_take]; omega
  obtain ⟨Z, z1, z2⟩ := walk_isolate b s' c[j] hi zs r hcl
  have hex1 : explL c b = P ++ (outS b s' c[j] :: (Z ++ outS b s' 22 :: walkL b r s')) := by rw [hex, p2, z2]
  refine ⟨s', p3, ?_, ?_, fun hB => ?_⟩
  · rw [hex1, List.getElem?_append_right (by omega), hPl, Nat.sub_self]
    rfl
  · rw [hex1, hend, List.getElem?_append_right (by omega), hPl, show j + 1 + e - j = e + 1 from by omega, List.getElem?_cons_succ, List.getElem?_append_right (by omega), z1, hzl, Nat.sub_self]
    rfl
  · have hBz : ∀ x ∈ zs, x ≠ 10 := fun x hx => hB x (by rw [hc]; simp [hx])
    obtain ⟨o, ho⟩ := initI hi (zs ++ 22 :: r) s'
    have hw : walkL b (c[j] :: (zs ++ 22 :: r)) s' = outS b s' c[j] :: walkL b (zs ++ 22 :: r) (beginS o s') := by
      simp only [walkL]
      rw [ho, closeI hi]
    have hkey : ∀ (Z' : List (Int × Int)) (s2 : St) (Q : Int → Prop), Z'.length = zs.length → walkL b (zs ++ 22 :: r) (beginS o s') = Z' ++ walkL b (22 :: r) s2 → (∀ y ∈ Z', Q y.1) → ∀ k y, j < k → k < endAt c j → (explL c b)[k]? = some y → Q y.1 := by
      intro Z' s2 Q l1 l2 l3 k y hk1 hk2 hy
      rw [hex, p2, hw, l2, List.getElem?_append_right (by omega), hPl] at hy
      obtain ⟨q, rfl⟩ : ∃ q, k = j + 1 + q := ⟨k - (j + 1), by omega⟩
      rw [show j + 1 + q - j = q + 1 from by omega, List.getElem?_cons_succ, List.getElem?_append_left (by omega)] at hy
      exact l3 y (List.mem_of_getElem? hy)
    rcases In.begin2 o s' with hin | hin
    · left
      obtain ⟨Z', s2, l1, l2, l3⟩ := walk_levF b s' p3 zs r 0 _ hin (p3.begin_ o) hcl hBz
      exact hkey Z' s2 (fun y => y = -1 ∨ ((top s'.es).lev : Int) < y) l1 l2 l3
    · right
      obtain ⟨Z', s2, l1, l2, l3⟩ := walk_levL b s' zs r 0 _ hin hcl hBz
      exact hkey Z' s2 (fun y => y = -1 ∨ y = ((top s'.es).lev : Int)) l1 l2 l3
theorem getD_at {c : List Int} {j : Nat} (h : j < c.length) : c.getD j 0 = c[j] := by simp [List.getD, List.getElem?_eq_getElem h]
theorem iso_zB (c : List Int) (b : Nat) : Iso c (zB c b) := by
  intro j hk hi he
  have hj : j < c.length := by have := L_lt hk; rw [zB_len] at this; exact this
  rw [getD_at hj] at hi
  obtain ⟨s', h1, h2, h3, _⟩ := isolate_at (b := b) hj hi he
  obtain ⟨r1, r2⟩ := remB_I hi
  rw [L_zB h2, L_zB h3, out_kept r2 r1, out_kept (by decide) rfl]
/-- Where nothing embeds, overrides or isolates. -/
theorem plain_walk (b : Nat) : ∀ (l : List Int), (∀ x ∈ l, plainB x = true) → ∀ (i : Nat) (y : Int × Int), (walkL b l (startS b))[i]? = some y → y.1 = -1 ∨ y.1 = (b : Int)
  | [], _, i, y, h => by simp [walkL] at h
  | x :: l, hp, i, y, h => by
    obtain ⟨p1, p2⟩ := plain_same (b := b) (hp x List.mem_cons_self) l
    simp only [walkL] at h
    rw [p1, p2] at h
    cases i with
    | zero =>
      simp at h
      subst h
      by_cases hr : remB x = true
      · exact .inl ((out_rem b _ x).2 hr)
      · right
        exact (plain_out (by simpa using hr) (z1 := (outS b (startS b) x).1) (z2 := (outS b (startS b) x).2) rfl).1
    | succ i => exact plain_walk b l (fun q hq => hp q (List.mem_cons_of_mem _ hq)) i y (by simpa using h)
theorem plain_lev {c : List Int} {b : Nat} (h : ∀ x ∈ c, plainB x = true) {i : Nat} (hk : L (zB c b) i ≠ -1) : L (zB c b) i = (b : Int) := by
  have hi : i < (explL c b).length := by have := L_lt hk; rw [zB_len] at this; rw [explL_len]; exact this
  have hy : (explL c b)[i]? = some (explL c b)[i] := List.getElem?_eq_getElem hi
  rw [L_zB hy] at hk ⊢
  rcases plain_walk b c h i _ hy with h1 | h1
  · exact absurd h1 hk
  · exact h1
theorem kf_from {z : List Int} {f : Nat} (hu : up z 0 = some f) : ∀ d, kf z 0 (f + d) = kf z f (f + d)
  | 0 => by
    rw [Nat.add_zero, kf_same]
    have : ∀ d, d ≤ f → kf z 0 d = [] := by
      intro d
      induction d with
      | zero => intro _; exact kf_same z 0
      | succ d ih =>
        intro hd
        rw [kf_step (Nat.zero_le _), ih (by omega), if_pos ((upS hu).2.2 d (Nat.zero_le _) (by omega))]
        rfl
    exact this f (Nat.le_refl _)
  | d + 1 => by
    rw [show f + (d + 1) = (f + d) + 1 from by omega, kf_step (Nat.zero_le _), kf_step (by omega), kf_from hu d]
theorem kf_upto {z : List Int} {f t : Nat} (hft : f ≤ t) : ∀ d, (∀ k, t ≤ k → k < t + d → L z k = -1) → kf z f (t + d) = kf z f t
  | 0, _ => rfl
  | d + 1, h => by
    rw [show t + (d + 1) = (t + d) + 1 from by omega, kf_step (by omega), if_pos (h _ (by omega) (by omega)), List.append_nil]
    exact kf_upto hft d (fun k h1 h2 => h k h1 (by omega))
theorem one_seq {c : List Int} {b : Nat} {T : List S4} (h : SeqsAll c (zB c b) (b : Int) T) (hp : ∀ x ∈ c, plainB x = true) : (kept (zB c b) = [] ∧ T = []) ∨ (kept (zB c b) ≠ [] ∧ T = [⟨b, way b b, way b b, kept (zB c b)⟩]) := by
  obtain ⟨z, hz⟩ : ∃ z, zB c b = z := ⟨_, rfl⟩
  have hlev : ∀ {i}, L z i ≠ -1 → L z i = (b : Int) := fun {i} hk => by rw [← hz] at hk ⊢; exact plain_lev hp hk
  have hiso : Iso c z := by rw [← hz]; exact iso_zB c b
  have hnoI : ∀ i, ¬ isI (c.getD i 0) = true := fun i hi => by
    have hl := isI_lt hi
    rw [getD_at hl] at hi
    have := hp _ (List.getElem_mem hl)
    have hcs : c[i] = 19 ∨ c[i] = 20 ∨ c[i] = 21 := by simpa [isI] using hi
    have hpb : c[i] < 14 ∨ 22 < c[i] := by simpa [plainB] using this
    omega
  rw [hz] at h ⊢
  cases hu : up z 0 with
  | none =>
    have hall := upN hu
    left
    have hk : kept z = [] := by
      cases hkk : kept z with
      | nil => rfl
      | cons p l =>
        have : p ∈ kept z := by rw [hkk]; exact List.mem_cons_self
        exact absurd (hall p (Nat.zero_le _)) (kf_mem.1 this).2.2
    refine ⟨hk, ?_⟩
    have h2 := (SInv.start c z (b : Int)).all hiso hu
    exact h.ok.unique h2.ok
  | some f =>
    obtain ⟨u1, u2, u3⟩ := upS hu
    have hfl := L_lt u2
    right
    cases hd : dn z z.length with
    | none => exact absurd (dn_none hd f hfl) u2
    | some t =>
      obtain ⟨t1, t2, t3⟩ := dn_some hd
      have hft : f ≤ t := by
        rcases Nat.lt_or_ge t f with h1 | h1
        · exact absurd (u3 t (Nat.zero_le _) h1) t2
        · exact h1
      have hN : up z (t + 1) = none := by
        cases hx : up z (t + 1) with
        | none => rfl
        | some q =>
          obtain ⟨a1, a2, a3⟩ := upS hx
          exact absurd (t3 q (by omega) (L_lt a2)) a2
      have hkept : kept z = kf z f (t + 1) := by
        have e1 := kf_from hu (z.length - f)
        rw [show f + (z.length - f) = z.length from by omega] at e1
        have e2 := kf_upto (z := z) (f := f) (t := t + 1) (by omega) (z.length - (t + 1)) (fun k h1 h2 => t3 k (by omega) (by omega))
        rw [show t + 1 + (z.length - (t + 1)) = z.length from by omega] at e2
        unfold kept
        rw [e1, e2]
      have hdf : dn z f = none := by
        cases hx : dn z f with
        | none => rfl
        | some q => obtain ⟨a1, a2, _⟩ := dn_some hx; exact absurd (u3 q (Nat.zero_le _) a1) a2
      have hrun : RunOk c z (b : Int) f t ⟨b, b, b, kf z f (t + 1)⟩ := by
        refine ⟨hft, u2, t2, rfl, fun k _ _ hk => hlev hk, by unfold begins; rw [hdf], fun q hq => (by rw [hN] at hq; cases hq), by unfold ahead; rw [hdf], ?_⟩
        unfold behind
        rw [if_neg (fun h => hnoI t h.1), hN]
      have h2 := ((SInv.start c z (b : Int)).fresh hiso hu hrun rfl).all hiso hN
      refine ⟨by rw [hkept]; exact kf_ne (by omega) u2, ?_⟩
      rw [hkept]
      exact h.ok.unique h2.ok
end Go.Proofs.YtfclpecbnailgaaGreat.Sq

/-
  How what Match answers nests, plainly. No program in it.
-/
set_option linter.unusedVariables false
namespace Go.Proofs.YtfclpecbnailgaaGreat.Ba
theorem nest_in_I {l : List Int} {i k : Nat} (h : i < l.length) (hi : isI l[i] = true) (hik : i < k) (hke : k < endAt l i) (hk : k < l.length) (hkI : isI l[k] = true) : endAt l k ≤ endAt l i := by
  by_cases he : endAt l i < l.length
  · obtain ⟨r, hs⟩ := ends_only he h hi rfl
    by_cases hle : endAt l k ≤ endAt l i
    · exact hle
    · have hm := (stk_iff (l := l) (k := endAt l i) (t := k) (by omega) hke hk hkI).2 (by omega)
      have hf := stk_falls l (endAt l i) (by omega)
      rw [hs] at hm hf
      rcases List.mem_cons.1 hm with e | hm
      · omega
      · have := (List.pairwise_cons.1 hf).1 k hm
        omega
  · have := endAt_le l k hk
    omega
end Go.Proofs.YtfclpecbnailgaaGreat.Ba

/-
  What stands in an isolate, plainly: its places are put in behind the initiator; each sequence of the paragraph without them is one of the paragraph with them, its places moved. No program in it.
-/
set_option linter.unusedVariables false
namespace Go.Proofs.YtfclpecbnailgaaGreat.Bi
open Go Go.Proofs.YtfclpecbnailgaaGreat.Ba Go.Proofs.YtfclpecbnailgaaGreat.Lv Go.Proofs.YtfclpecbnailgaaGreat.Sq
/-- Where a place stands, when n places have been put in behind the place a. -/
def sh (a n i : Nat) : Nat := if i ≤ a then i else i + n
theorem sh_le {a n i : Nat} (h : i ≤ a) : sh a n i = i := if_pos h
theorem sh_gt {a n i : Nat} (h : a < i) : sh a n i = i + n := if_neg (by omega)
theorem sh_lt {a n i j : Nat} : sh a n i < sh a n j ↔ i < j := by unfold sh; split <;> split <;> omega
theorem sh_inj {a n i j : Nat} (h : sh a n i = sh a n j) : i = j := by unfold sh at h; split at h <;> split at h <;> omega
theorem sh_succ {a n i : Nat} (h : i ≠ a) : sh a n i + 1 = sh a n (i + 1) := by unfold sh; split <;> split <;> omega
theorem sh_cases (a n k : Nat) : (∃ k', sh a n k' = k) ∨ (a < k ∧ k ≤ a + n) := by
  by_cases h1 : k ≤ a
  · exact .inl ⟨k, sh_le h1⟩
  · by_cases h2 : k ≤ a + n
    · exact .inr ⟨by omega, h2⟩
    · exact .inl ⟨k - n, by rw [sh_gt (by omega)]; omega⟩
theorem sh_not {a n i : Nat} : ¬ (a < sh a n i ∧ sh a n i ≤ a + n) := by unfold sh; split <;> omega
theorem ins_at {α : Type} {P Z Q : List α} {a n : Nat} (hP : P.length = a + 1) (hZ : Z.length = n) (i : Nat) : (P ++ (Z ++ Q))[sh a n i]? = (P ++ Q)[i]? := by
  unfold sh; split
  · rw [List.getElem?_append_left (by omega), List.getElem?_append_left (by omega)]
  · rw [List.getElem?_append_right (by omega), List.getElem?_append_right (by omega), List.getElem?_append_right (by omega)]
    congr 1
    omega
theorem ins_getD {P Z Q : List Int} {a n : Nat} (hP : P.length = a + 1) (hZ : Z.length = n) (i : Nat) (d : Int) : (P ++ (Z ++ Q)).getD (sh a n i) d = (P ++ Q).getD i d := by
  rw [List.getD_eq_getElem?_getD, List.getD_eq_getElem?_getD, ins_at hP hZ]
theorem endL_p0 {c : Int} (l : List Int) (h : isP c = true) : endL (c :: l) 0 = 0 := by simp only [endL]; rw [if_pos h]
theorem endL_p {c : Int} (l : List Int) (d : Nat) (h : isP c = true) : endL (c :: l) (d + 1) = 1 + endL l d := by simp only [endL]; rw [if_pos h]
theorem endL_i {c : Int} (l : List Int) (d : Nat) (h : isI c = true) : endL (c :: l) d = 1 + endL l (d + 1) := by
  have hp := isI_not_isP h
  simp only [endL]; rw [if_neg (by rw [hp]; decide), if_pos h]
theorem endL_n {c : Int} (l : List Int) (d : Nat) (h : ¬ isI c = true) (hp : ¬ isP c = true) : endL (c :: l) d = 1 + endL l d := by
  simp only [endL]; rw [if_neg hp, if_neg h]
theorem endL_closed (r : List Int) (d : Nat) : ∀ (zs : List Int) (e : Nat), closedL zs e = true → endL (zs ++ r) (e + d) = zs.length + endL r d
  | [], e, h => by
    have he : e = 0 := by simpa [closedL] using h
    subst he
    simp
  | c :: zs, e, h => by
    simp only [closedL] at h
    rw [List.cons_append, List.length_cons]
    by_cases hi : isI c = true
    · rw [if_pos hi] at h
      have ih := endL_closed r d zs (e + 1) h
      rw [endL_i _ _ hi, show e + d + 1 = e + 1 + d from by omega, ih]
      omega
    · rw [if_neg hi] at h
      by_cases hp : isP c = true
      · rw [if_pos hp] at h
        cases e with
        | zero => cases h
        | succ e =>
          have ih := endL_closed r d zs e h
          rw [show e + 1 + d = (e + d) + 1 from by omega, endL_p _ _ hp, ih]
          omega
      · rw [if_neg hp] at h
        rw [endL_n _ _ hi hp, endL_closed r d zs e h]
        omega
theorem endL_ins {I : Int} {zs B : List Int} (hI : isI I = true) (hc : closedL zs 0 = true) : ∀ (X : List Int) (d : Nat),
    (endL (X ++ I :: (22 :: B)) d ≤ X.length ∧ endL (X ++ I :: (zs ++ 22 :: B)) d = endL (X ++ I :: (22 :: B)) d) ∨ (X.length < endL (X ++ I :: (22 :: B)) d ∧ endL (X ++ I :: (zs ++ 22 :: B)) d = endL (X ++ I :: (22 :: B)) d + zs.length)
  | [], d => by
    have h := endL_closed (22 :: B) (d + 1) zs 0 hc
    rw [Nat.zero_add] at h
    simp only [List.nil_append, List.length_nil]
    rw [endL_i _ _ hI, endL_i _ _ hI, h, endL_p _ _ rfl]
    exact .inr ⟨by omega, by omega⟩
  | c :: X, d => by
    simp only [List.cons_append, List.length_cons]
    by_cases hp : isP c = true
    · cases d with
      | zero => rw [endL_p0 _ hp, endL_p0 _ hp]; exact .inl ⟨by omega, rfl⟩
      | succ d =>
        rw [endL_p _ _ hp, endL_p _ _ hp]
        rcases endL_ins (B := B) hI hc X d with ⟨h1, h2⟩ | ⟨h1, h2⟩
        · exact .inl ⟨by omega, by omega⟩
        · exact .inr ⟨by omega, by omega⟩
    · by_cases hi : isI c = true
      · rw [endL_i _ _ hi, endL_i _ _ hi]
        rcases endL_ins (B := B) hI hc X (d + 1) with ⟨h1, h2⟩ | ⟨h1, h2⟩
        · exact .inl ⟨by omega, by omega⟩
        · exact .inr ⟨by omega, by omega⟩
      · rw [endL_n _ _ hi hp, endL_n _ _ hi hp]
        rcases endL_ins (B := B) hI hc X d with ⟨h1, h2⟩ | ⟨h1, h2⟩
        · exact .inl ⟨by omega, by omega⟩
        · exact .inr ⟨by omega, by omega⟩
/-- A paragraph's classes and levels without what stands in an isolate, and with it: n places behind the initiator, which stands at a. -/
structure Ins (cL cM zL zM : List Int) (a n : Nat) : Prop where
  c : ∀ i, cM.getD (sh a n i) 0 = cL.getD i 0
  z : ∀ i, L zM (sh a n i) = L zL i
  len : cM.length = cL.length + n
  zl : zL.length = cL.length
  zm : zM.length = cM.length
  al : a + 1 < cL.length
  ai : isI (cL.getD a 0) = true
  ea : endAt cL a = a + 1
  v : L zL a ≠ -1
  v1 : L zL (a + 1) = L zL a
  inn : ∀ k, a < k → k ≤ a + n → L zM k = -1 ∨ L zL a < L zM k
  e : ∀ i, i < cL.length → endAt cM (sh a n i) = sh a n (endAt cL i)
section
variable {cL cM zL zM : List Int} {a n : Nat}
theorem up_no {z : List Int} {j : Nat} (h : ∀ k, j ≤ k → L z k = -1) : up z j = none := by
  cases hu : up z j with
  | none => rfl
  | some q => obtain ⟨a, b, _⟩ := upS hu; exact absurd (h q a) b
theorem dn_no {z : List Int} {j : Nat} (h : ∀ k, k < j → L z k = -1) : dn z j = none := by
  cases hu : dn z j with
  | none => rfl
  | some q => obtain ⟨a, b, _⟩ := dn_some hu; exact absurd (h q a) b
theorem Ins.lo (h : Ins cL cM zL zM a n) {i : Nat} (hi : i ≤ a) : L zM i = L zL i := by have := h.z i; rwa [sh_le hi] at this
theorem Ins.hi (h : Ins cL cM zL zM a n) {i : Nat} (hi : a < i) : L zM (i + n) = L zL i := by have := h.z i; rwa [sh_gt hi] at this
theorem Ins.v2 (h : Ins cL cM zL zM a n) : L zM (a + 1 + n) = L zL a := by rw [h.hi (Nat.lt_succ_self a), h.v1]
theorem Ins.up_lo (h : Ins cL cM zL zM a n) {j : Nat} (hj : j ≤ a) : up zM j = (up zL j).map (sh a n) := by
  cases hu : up zL j with
  | none => exact absurd (upN hu a hj) h.v
  | some q =>
    obtain ⟨h1, h2, h3⟩ := upS hu
    have hq : q ≤ a := by
      apply Classical.byContradiction
      intro hn
      exact h.v (h3 a hj (by omega))
    show _ = some (sh a n q)
    rw [sh_le hq]
    exact up_eq h1 (by rw [h.lo hq]; exact h2) fun k hk1 hk2 => by rw [h.lo (by omega)]; exact h3 k hk1 hk2
theorem Ins.up_hi (h : Ins cL cM zL zM a n) {j : Nat} (hj : a < j) : up zM (j + n) = (up zL j).map (sh a n) := by
  cases hu : up zL j with
  | none =>
    refine up_no fun k hk => ?_
    have := h.hi (i := k - n) (by omega)
    rw [show k - n + n = k from by omega] at this
    rw [this]
    exact upN hu _ (by omega)
  | some q =>
    obtain ⟨h1, h2, h3⟩ := upS hu
    show _ = some (sh a n q)
    rw [sh_gt (by omega)]
    refine up_eq (by omega) (by rw [h.hi (by omega)]; exact h2) fun k hk1 hk2 => ?_
    have := h.hi (i := k - n) (by omega)
    rw [show k - n + n = k from by omega] at this
    rw [this]
    exact h3 _ (by omega) (by omega)
theorem Ins.up_ (h : Ins cL cM zL zM a n) {i : Nat} (hi : i ≠ a) : up zM (sh a n i + 1) = (up zL (i + 1)).map (sh a n) := by
  rw [sh_succ hi]
  by_cases h1 : i + 1 ≤ a
  · rw [sh_le h1]; exact h.up_lo h1
  · rw [sh_gt (by omega)]; exact h.up_hi (by omega)
theorem Ins.dn_ (h : Ins cL cM zL zM a n) {q : Nat} (hq : q ≠ a + 1) : dn zM (sh a n q) = (dn zL q).map (sh a n) := by
  by_cases h1 : q ≤ a
  · rw [sh_le h1]
    cases hu : dn zL q with
    | none => exact dn_no fun k hk => by rw [h.lo (by omega)]; exact dn_none hu k hk
    | some t =>
      obtain ⟨h2, h3, h4⟩ := dn_some hu
      show _ = some (sh a n t)
      rw [sh_le (by omega)]
      exact dn_eq h2 (by rw [h.lo (by omega)]; exact h3) fun k hk1 hk2 => by rw [h.lo (by omega)]; exact h4 k hk1 hk2
  · rw [sh_gt (by omega)]
    cases hu : dn zL q with
    | none => exact absurd (dn_none hu a (by omega)) h.v
    | some t =>
      obtain ⟨h2, h3, h4⟩ := dn_some hu
      have ht : a + 1 ≤ t := by
        apply Classical.byContradiction
        intro hn
        exact h.v (h.v1 ▸ h4 (a + 1) (by omega) (by omega))
      show _ = some (sh a n t)
      rw [sh_gt (by omega)]
      refine dn_eq (by omega) (by rw [h.hi (by omega)]; exact h3) fun k hk1 hk2 => ?_
      have := h.hi (i := k - n) (by omega)
      rw [show k - n + n = k from by omega] at this
      rw [this]
      exact h4 _ (by omega) (by omega)
theorem Ins.begins_ (h : Ins cL cM zL zM a n) {q : Nat} (hq : q ≠ a + 1) : begins zM (sh a n q) = begins zL q := by
  unfold Sq.begins
  rw [h.dn_ hq]
  cases dn zL q with
  | none => rfl
  | some t =>
    show decide (L zM (sh a n t) ≠ L zM (sh a n q)) = _
    rw [h.z, h.z]
theorem Ins.jump_ (h : Ins cL cM zL zM a n) {i : Nat} (hi : i ≠ a) : jump cM zM (sh a n i) = (jump cL zL i).map (sh a n) := by
  unfold Sq.jump
  rw [h.c]
  by_cases h1 : isI (cL.getD i 0) = true
  · have hl := isI_lt h1
    rw [h.e i hl]
    have hlen : sh a n (endAt cL i) < cM.length ↔ endAt cL i < cL.length := by
      have := sh_lt (a := a) (n := n) (i := endAt cL i) (j := cL.length)
      rw [sh_gt (i := cL.length) (by have := h.al; omega), ← h.len] at this
      exact this
    by_cases h2 : endAt cL i < cL.length
    · have hne : endAt cL i ≠ a + 1 := fun e => hi (end_inj h1 h.ai h2 (by rw [h.ea, e]))
      rw [h.begins_ hne]
      by_cases h3 : Sq.begins zL (endAt cL i) = true
      · rw [if_pos ⟨h1, hlen.2 h2, h3⟩, if_pos ⟨h1, h2, h3⟩]; rfl
      · rw [if_neg (fun x => h3 x.2.2), if_neg (fun x => h3 x.2.2)]; rfl
    · rw [if_neg (fun x => h2 (hlen.1 x.2.1)), if_neg (fun x => h2 x.2.1)]; rfl
  · rw [if_neg (fun x => h1 x.1), if_neg (fun x => h1 x.1)]; rfl
theorem Ins.next_a (h : Ins cL cM zL zM a n) : nextS cL zL a = some (a + 1) :=
  nextS_same (up_eq (Nat.le_refl _) (by rw [h.v1]; exact h.v) fun k h1 h2 => by omega) h.v1
theorem Ins.next_ (h : Ins cL cM zL zM a n) (i : Nat) : nextS cM zM (sh a n i) = (nextS cL zL i).map (sh a n) := by
  by_cases hi : i = a
  · subst hi
    rw [h.next_a, sh_le (Nat.le_refl _)]
    show _ = some (sh i n (i + 1))
    rw [sh_gt (Nat.lt_succ_self i)]
    have hvi := h.lo (Nat.le_refl i)
    have hv2 := h.v2
    have hva := h.v
    cases hu : Sq.up zM (i + 1) with
    | none => exact absurd (upN hu (i + 1 + n) (by omega)) (by rw [hv2]; exact hva)
    | some q =>
      obtain ⟨h1, h2, h3⟩ := upS hu
      have hq : q ≤ i + 1 + n := by
        apply Classical.byContradiction
        intro hn
        exact hva (hv2 ▸ h3 (i + 1 + n) (by omega) (by omega))
      by_cases hqe : q = i + 1 + n
      · rw [hqe] at hu
        exact nextS_same hu (by rw [hv2, hvi])
      · have hin := h.inn q (by omega) (by omega)
        have hgt : L zL i < L zM q := by
          rcases hin with e | e
          · exact absurd e h2
          · exact e
        rw [nextS_jump (fun q' hq' => by rw [hu] at hq'; injection hq' with hq'; subst hq'; rw [hvi]; omega)]
        have he := h.e i (by have := h.al; omega)
        rw [sh_le (Nat.le_refl _), h.ea, sh_gt (Nat.lt_succ_self i)] at he
        have hci := h.c i
        rw [sh_le (Nat.le_refl _)] at hci
        have hbg : Sq.begins zM (i + 1 + n) = true := by
          unfold Sq.begins
          cases hd : Sq.dn zM (i + 1 + n) with
          | none => rfl
          | some t =>
            obtain ⟨d1, d2, d3⟩ := dn_some hd
            have ht : i < t := by
              apply Classical.byContradiction
              intro hn
              exact h2 (d3 q (by omega) (by omega))
            rcases h.inn t ht (by omega) with e | e
            · exact absurd e d2
            · show decide (L zM t ≠ L zM (i + 1 + n)) = true
              rw [hv2]
              exact decide_eq_true (by omega)
        unfold Sq.jump
        rw [he, if_pos ⟨by rw [hci]; exact h.ai, by have := h.al; have := h.len; omega, hbg⟩]
  · unfold nextS
    rw [h.up_ hi]
    cases hu : Sq.up zL (i + 1) with
    | none => exact h.jump_ hi
    | some q =>
      show (if L zM (sh a n q) = L zM (sh a n i) then some (sh a n q) else Sq.jump cM zM (sh a n i)) = Option.map (sh a n) (if L zL q = L zL i then some q else Sq.jump cL zL i)
      rw [h.z, h.z]
      by_cases h1 : L zL q = L zL i
      · rw [if_pos h1, if_pos h1]; rfl
      · rw [if_neg h1, if_neg h1]; exact h.jump_ hi
/-- What comes behind a place in the isolate is there too. -/
theorem Ins.inner_ (h : Ins cL cM zL zM a n) {k q : Nat} (h1 : a < k) (h2 : k ≤ a + n) (hk : L zM k ≠ -1) (hq : nextS cM zM k = some q) : k < q ∧ q ≤ a + n := by
  have hgt := nextS_gt hq
  refine ⟨hgt, ?_⟩
  have hv : L zL a < L zM k := by
    rcases h.inn k h1 h2 with e | e
    · exact absurd e hk
    · exact e
  rcases nextS_cases hq with ⟨hu, he⟩ | ⟨hj, _⟩
  · obtain ⟨u1, u2, u3⟩ := upS hu
    have hle : q ≤ a + 1 + n := by
      apply Classical.byContradiction
      intro hn
      exact h.v (h.v2 ▸ u3 (a + 1 + n) (by omega) (by omega))
    by_cases e : q = a + 1 + n
    · rw [e, h.v2] at he; omega
    · omega
  · obtain ⟨j1, j2, j3, _⟩ := jump_some hj
    have hl := isI_lt j1
    have ha : a < cM.length := by omega
    have hci := h.c a
    rw [sh_le (Nat.le_refl _)] at hci
    have hai : isI (cM.getD a 0) = true := by rw [hci]; exact h.ai
    have hea : endAt cM a = a + 1 + n := by
      have := h.e a (by have := h.al; omega)
      rwa [sh_le (Nat.le_refl _), h.ea, sh_gt (Nat.lt_succ_self a)] at this
    have hn := nest_in_I ha (by rw [← getD_at ha]; exact hai) h1 (by omega) hl (by rw [← getD_at hl]; exact j1)
    have hne : endAt cM k ≠ a + 1 + n := fun e => by
      have := end_inj j1 hai (by rw [j2]; exact j3) (by rw [hea, e])
      omega
    omega
theorem Ins.first_ (h : Ins cL cM zL zM a n) (i : Nat) : firstB cM zM (sh a n i) = firstB cL zL i := by
  rw [Bool.eq_iff_iff, firstB_iff, firstB_iff]
  constructor
  · intro hf k hk hkl he
    refine hf (sh a n k) (sh_lt.2 hk) (by rw [h.z]; exact hkl) ?_
    rw [h.next_, he]; rfl
  · intro hf k hk hkl he
    rcases sh_cases a n k with ⟨k', rfl⟩ | ⟨h1, h2⟩
    · rw [h.next_] at he
      cases hn : nextS cL zL k' with
      | none => rw [hn] at he; cases he
      | some q =>
        rw [hn] at he
        injection he with he
        have hqi := sh_inj he
        subst hqi
        exact hf k' (sh_lt.1 hk) (by rw [← h.z]; exact hkl) hn
    · obtain ⟨h3, h4⟩ := h.inner_ h1 h2 hkl he
      exact sh_not ⟨by omega, h4⟩
theorem Ins.isHd_ (h : Ins cL cM zL zM a n) (i : Nat) : isHd cM zM (sh a n i) = isHd cL zL i := by
  unfold Sq.isHd
  rw [h.z, h.first_]
theorem Ins.hd_ne (h : Ins cL cM zL zM a n) : Sq.isHd cL zL (a + 1) = false := by
  have : firstB cL zL (a + 1) = false := by
    rw [← Bool.not_eq_true, firstB_iff]
    intro hf
    exact hf a (Nat.lt_succ_self a) h.v h.next_a
  unfold Sq.isHd
  rw [this, Bool.and_false]
def shS (a n : Nat) (s : S4) : S4 := ⟨s.a, s.b, s.c, s.p.map (sh a n)⟩
theorem hd_map (f : Nat → Nat) {l : List Nat} (h : l ≠ []) : hd (l.map f) = f (hd l) := by
  cases l with
  | nil => exact absurd rfl h
  | cons x l => rfl
theorem lst_map (f : Nat → Nat) {l : List Nat} (h : l ≠ []) : lst (l.map f) = f (lst l) := by
  unfold lst
  rw [List.getLastD_eq_getLast?, List.getLastD_eq_getLast?, List.getLast?_map]
  cases hl : l.getLast? with
  | none => exact absurd (List.getLast?_eq_none_iff.1 hl) h
  | some x => rfl
theorem Ins.chn_ (h : Ins cL cM zL zM a n) : ∀ {l : List Nat}, Chn cL zL l → Chn cM zM (l.map (sh a n))
  | [], _ => trivial
  | [_], _ => trivial
  | x :: y :: l, hc => ⟨by rw [h.next_, hc.1]; rfl, h.chn_ hc.2⟩
theorem Ins.one_ (h : Ins cL cM zL zM a n) {lv : Int} {s : S4} (hs : One cL zL lv s) (hh : Sq.isHd cL zL (hd s.p) = true) : One cM zM lv (shS a n s) := by
  have hne1 : hd s.p ≠ a + 1 := fun e => by rw [e, h.hd_ne] at hh; cases hh
  have hne2 : lst s.p ≠ a := fun e => by have := hs.fin; rw [e, h.next_a] at this; cases this
  have e1 : hd (shS a n s).p = sh a n (hd s.p) := hd_map _ hs.ne
  have e2 : lst (shS a n s).p = sh a n (lst s.p) := lst_map _ hs.ne
  refine ⟨by simpa [shS] using hs.ne, h.chn_ hs.chn, ?_, ?_, ?_, ?_⟩
  · rw [e2, h.next_, hs.fin]; rfl
  · rw [e1, h.z]; exact hs.ea
  · rw [e1, h.z]
    have ea : Sq.ahead lv zM (sh a n (hd s.p)) = Sq.ahead lv zL (hd s.p) := by
      unfold Sq.ahead
      rw [h.dn_ hne1]
      cases Sq.dn zL (hd s.p) with
      | none => rfl
      | some t => exact h.z t
    rw [ea]
    exact hs.eb
  · rw [e1, e2, h.z]
    have eb : behind cM lv zM (sh a n (lst s.p)) = behind cL lv zL (lst s.p) := by
      unfold behind
      rw [h.c]
      by_cases h1 : isI (cL.getD (lst s.p) 0) = true
      · have hl := isI_lt h1
        rw [h.e _ hl]
        have hlen : sh a n (endAt cL (lst s.p)) = cM.length ↔ endAt cL (lst s.p) = cL.length := by
          have hx : sh a n cL.length = cM.length := by rw [sh_gt (by have := h.al; omega), h.len]
          rw [← hx]
          exact ⟨fun e => sh_inj e, fun e => by rw [e]⟩
        by_cases h2 : endAt cL (lst s.p) = cL.length
        · rw [if_pos ⟨h1, hlen.2 h2⟩, if_pos ⟨h1, h2⟩]
        · rw [if_neg (fun x => h2 (hlen.1 x.2)), if_neg (fun x => h2 x.2), h.up_ hne2]
          cases Sq.up zL (lst s.p + 1) with
          | none => rfl
          | some t => exact h.z t
      · rw [if_neg (fun x => h1 x.1), if_neg (fun x => h1 x.1), h.up_ hne2]
        cases Sq.up zL (lst s.p + 1) with
        | none => rfl
        | some t => exact h.z t
    rw [eb]
    exact hs.ec
theorem head_in {c z : List Int} {lv : Int} {T : List S4} (h : SeqsOk c z lv T) {s : S4} (hs : s ∈ T) : Sq.isHd c z (hd s.p) = true := by
  have hm : hd s.p ∈ T.map (fun s => hd s.p) := List.mem_map_of_mem hs
  rw [h.heads] at hm
  exact (List.mem_filter.1 hm).2
theorem in_head {c z : List Int} {lv : Int} {T : List S4} (h : SeqsOk c z lv T) {i : Nat} (hi : Sq.isHd c z i = true) : ∃ s ∈ T, hd s.p = i := by
  have hl : L z i ≠ -1 := by
    unfold Sq.isHd at hi
    have := (Bool.and_eq_true _ _ ▸ hi).1
    simpa using this
  have hm : i ∈ headsTo c z z.length := List.mem_filter.2 ⟨List.mem_range.2 (L_lt hl), hi⟩
  rw [← h.heads] at hm
  obtain ⟨s, h1, h2⟩ := List.mem_map.1 hm
  exact ⟨s, h1, h2⟩
/-- Each sequence is one of the other paragraph's, moved. -/
theorem Ins.seq_ (h : Ins cL cM zL zM a n) {lv : Int} {TL TM : List S4} (hL : SeqsOk cL zL lv TL) (hM : SeqsOk cM zM lv TM) {s : S4} (hs : s ∈ TL) : shS a n s ∈ TM := by
  have hh := head_in hL hs
  have ho := h.one_ (hL.each s hs) hh
  have e1 : hd (shS a n s).p = sh a n (hd s.p) := hd_map _ (hL.each s hs).ne
  obtain ⟨t, ht, he⟩ := in_head hM (i := sh a n (hd s.p)) (by rw [h.isHd_]; exact hh)
  have := (hM.each t ht).unique ho (by rw [he, e1])
  rw [← this]
  exact ht
end
end Go.Proofs.YtfclpecbnailgaaGreat.Bi
