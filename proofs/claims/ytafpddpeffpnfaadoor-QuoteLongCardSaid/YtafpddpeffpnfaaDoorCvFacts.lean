/-
  Plain mathematics, no program in it: what the laws on records need: how many fields and records there are; where a text is spoilt, and what stands ahead of that; two texts one behind the other.
-/
import Derived.Test.YtafpddpeffpnfaaDoorCvPlain
set_option linter.unusedVariables false
namespace Go.Proofs.YtafpddpeffpnfaaDoor.Cv
open Go.Lib

theorem stepQ_le {q n q' : Nat} (h : stepQ q n = some q') : q' ≤ 5 := by
  unfold stepQ at h
  repeat' split at h
  all_goals first | (injection h with h; omega) | (cases h)

def sumLen (R : List (List Bs)) : Nat := (R.map List.length).sum
theorem sumLen_snoc (R : List (List Bs)) (r : List Bs) : sumLen (R ++ [r]) = sumLen R + r.length := by simp [sumLen]

theorem putE_counts (R : List (List Bs) × List Bs) (e : Ev) : (putE R e).1.length = R.1.length + (if e.2 then 1 else 0) ∧ sumLen (putE R e).1 + (putE R e).2.length = sumLen R.1 + R.2.length + 1 := by
  unfold putE
  cases he : e.2
  · simp
    omega
  · simp [sumLen_snoc]
    omega
theorem grp_counts : ∀ (es : List Ev) (R : List (List Bs) × List Bs), (grp R es).1.length = R.1.length + (es.filter fun e => e.2).length ∧ sumLen (grp R es).1 + (grp R es).2.length = sumLen R.1 + R.2.length + es.length
  | [], R => ⟨rfl, rfl⟩
  | e :: es, R => by
    have h := grp_counts es (putE R e)
    have hp := putE_counts R e
    have e1 : grp R (e :: es) = grp (putE R e) es := rfl
    rw [e1, h.1, h.2, hp.1, hp.2]
    constructor
    · cases he : e.2 <;> simp [he]
      omega
    · simp
      omega

/-- A text of records ends with a record. -/
theorem ends : ∀ (l : Bs) (q p : Nat) (acc : Bs) (R : List (List Bs) × List Bs), q ≤ 5 → place q p l = none → (q = 5 → R.2 = [] ∧ R.1 ≠ []) → (grp R (evs q acc l)).2 = [] ∧ (grp R (evs q acc l)).1 ≠ []
  | [], q, p, acc, R, hq, hp, h5 => by
    rw [place] at hp
    split at hp
    · cases hp
    · rename_i hn
      rw [evs]
      split
      · simp [grp, putE]
      · rename_i h
        exact h5 (by omega)
  | b :: l, q, p, acc, R, hq, hp, h5 => by
    rw [place] at hp
    rw [evs]
    cases hs : stepQ q b.toNat with
    | none => rw [hs] at hp; cases hp
    | some q' =>
      rw [hs] at hp
      simp only at hp ⊢
      have hle := stepQ_le hs
      split
      · rename_i h0
        subst h0
        exact ends l 0 (p + 1) [] (putE R (acc, false)) (by omega) hp (by omega)
      · split
        · rename_i h5'
          subst h5'
          exact ends l 5 (p + 1) [] (putE R (acc, true)) (by omega) hp (fun _ => by simp [putE])
        · split
          · rename_i h4
            subst h4
            exact ends l 4 (p + 1) acc R (by omega) hp (by omega)
          · rename_i h5' _
            exact ends l q' (p + 1) (acc ++ [b]) R hle hp (fun e => absurd e h5')

theorem place_first : ∀ (l : Bs) (q p k : Nat), q ≤ 5 → place q p l = some k → p ≤ k ∧ k ≤ p + l.length ∧
    (place q p (l.take (k - p)) = none ∨ place q p (l.take (k - p) ++ [34]) = none ∨ place q p (l.take (k - p) ++ [10]) = none) ∧
    (k < p + l.length → ∀ m, place q p (l.take (k - p + 1) ++ m) = some k)
  | [], q, p, k, hq, h => by
    rw [place] at h
    split at h
    · rename_i hqq
      injection h with h
      subst h
      refine ⟨Nat.le_refl _, Nat.le_refl _, ?_, fun h => by simp at h⟩
      rcases hqq with rfl | rfl
      · exact .inr (.inl (by simp [place, stepQ]))
      · exact .inr (.inr (by simp [place, stepQ]))
    · cases h
  | b :: l, q, p, k, hq, h => by
    rw [place] at h
    cases hs : stepQ q b.toNat with
    | none =>
      rw [hs] at h
      injection h with h
      subst h
      refine ⟨Nat.le_refl _, Nat.le_add_right _ _, ?_, fun _ m => ?_⟩
      · rw [Nat.sub_self, List.take_zero]
        by_cases h4 : q = 4
        · subst h4
          exact .inr (.inr (by simp [place, stepQ]))
        · left
          have h2 : q ≠ 2 := by
            rintro rfl
            simp [stepQ] at hs
            split at hs <;> cases hs
          rw [place, if_neg (by omega)]
      · rw [Nat.sub_self]
        simp [place, hs]
    | some q' =>
      rw [hs] at h
      simp only at h
      have hle := stepQ_le hs
      obtain ⟨h1, h2, h3, h4⟩ := place_first l q' (p + 1) k hle h
      obtain ⟨d, hd⟩ : ∃ d, k = p + 1 + d := ⟨k - (p + 1), by omega⟩
      subst hd
      have e1 : p + 1 + d - p = d + 1 := by omega
      have e2 : p + 1 + d - (p + 1) = d := by omega
      rw [e2] at h3 h4
      rw [e1]
      refine ⟨by omega, by simp; omega, ?_, fun hlt m => ?_⟩
      · simp only [List.take_succ_cons, List.cons_append]
        rw [place, hs, place, hs, place, hs]
        exact h3
      · rw [List.take_succ_cons, List.cons_append, place, hs]
        exact h4 (by simp at hlt; omega) m

def endQ : Nat → Bs → Nat
  | q, [] => q
  | q, b :: l => match stepQ q b.toNat with | none => 9 | some q' => endQ q' l
theorem endQ_of : ∀ (l : Bs) (q p : Nat), q ≤ 5 → place q p l = none → endQ q l = 0 ∨ endQ q l = 1 ∨ endQ q l = 3 ∨ endQ q l = 5
  | [], q, p, hq, h => by
    rw [place] at h
    split at h
    · cases h
    · rw [endQ]; omega
  | b :: l, q, p, hq, h => by
    rw [place] at h
    rw [endQ]
    cases hs : stepQ q b.toNat with
    | none => rw [hs] at h; cases h
    | some q' => rw [hs] at h; exact endQ_of l q' (p + 1) (stepQ_le hs) h
theorem stepQ_to5 {q n : Nat} (h : stepQ q n = some 5) : q = 4 ∧ n = 10 := by
  unfold stepQ at h
  repeat' split at h
  all_goals first | (injection h with h; omega) | (cases h) | (constructor <;> assumption)
theorem stepQ_to4 {q n : Nat} (h : stepQ q n = some 4) : n = 13 := by
  unfold stepQ at h
  repeat' split at h
  all_goals first | assumption | (injection h with h; omega) | (cases h)
theorem u8_13 {b : UInt8} (h : b.toNat = 13) : b = 13 := UInt8.toNat_inj.1 (by rw [h]; rfl)
theorem u8_10 {b : UInt8} (h : b.toNat = 10) : b = 10 := UInt8.toNat_inj.1 (by rw [h]; rfl)
theorem endQ_five : ∀ (l : Bs) (q : Nat), endQ q l = 5 → (l = [] ∧ q = 5) ∨ (l = [10] ∧ q = 4) ∨ ∃ pre, l = pre ++ [13, 10]
  | [], q, h => .inl ⟨rfl, h⟩
  | b :: l, q, h => by
    rw [endQ] at h
    cases hs : stepQ q b.toNat with
    | none => rw [hs] at h; simp at h
    | some q' =>
      rw [hs] at h
      simp only at h
      rcases endQ_five l q' h with ⟨rfl, rfl⟩ | ⟨rfl, rfl⟩ | ⟨pre, rfl⟩
      · obtain ⟨h1, h2⟩ := stepQ_to5 hs
        exact .inr (.inl ⟨by rw [u8_10 h2], h1⟩)
      · exact .inr (.inr ⟨[], by rw [u8_13 (stepQ_to4 hs)]; rfl⟩)
      · exact .inr (.inr ⟨b :: pre, rfl⟩)
theorem behind : ∀ (l : Bs) (q p : Nat) (acc t : Bs), (endQ q l = 0 ∨ endQ q l = 1 ∨ endQ q l = 3) → place q p (l ++ 13 :: 10 :: t) = place 5 (p + l.length + 2) t ∧ evs q acc (l ++ 13 :: 10 :: t) = evs q acc l ++ evs 5 [] t
  | [], q, p, acc, t, h => by
    rw [endQ] at h
    rcases h with rfl | rfl | rfl <;> simp [place, evs, stepQ]
  | b :: l, q, p, acc, t, h => by
    rw [endQ] at h
    cases hs : stepQ q b.toNat with
    | none => rw [hs] at h; simp at h
    | some q' =>
      rw [hs] at h
      simp only at h
      have hp := (behind l q' (p + 1) [] t h).1
      refine ⟨?_, ?_⟩
      · rw [List.cons_append, place, hs]
        simp only
        rw [hp]
        congr 1
        simp
        omega
      · rw [List.cons_append, evs, evs, hs]
        simp only
        split
        · rename_i h0
          subst h0
          rw [(behind l 0 (p + 1) [] t h).2]
          rfl
        · split
          · rename_i h5
            subst h5
            rw [(behind l 5 (p + 1) [] t h).2]
            rfl
          · split
            · rename_i h4
              subst h4
              exact (behind l 4 (p + 1) acc t h).2
            · exact (behind l q' (p + 1) (acc ++ [b]) t h).2
theorem place_shift : ∀ (l : Bs) (q p p' : Nat), place q p l = none → place q p' l = none
  | [], q, p, p', h => by
    rw [place] at h ⊢
    split at h
    · cases h
    · rename_i hn
      rw [if_neg hn]
  | b :: l, q, p, p', h => by
    rw [place] at h ⊢
    cases hs : stepQ q b.toNat with
    | none => rw [hs] at h; cases h
    | some q' => rw [hs] at h; exact place_shift l q' (p + 1) (p' + 1) h
theorem five_zero {t : Bs} (ht : t ≠ []) (p : Nat) (acc : Bs) : place 5 p t = place 0 p t ∧ evs 5 acc t = evs 0 acc t := by
  cases t with
  | nil => exact absurd rfl ht
  | cons b t => rw [place, place, evs, evs, stepQ_five]; exact ⟨rfl, rfl⟩
theorem grp_pre : ∀ (es : List Ev) (R R0 : List (List Bs)) (r : List Bs), grp (R ++ R0, r) es = (R ++ (grp (R0, r) es).1, (grp (R0, r) es).2)
  | [], R, R0, r => rfl
  | e :: es, R, R0, r => by
    have e1 : grp (R ++ R0, r) (e :: es) = grp (putE (R ++ R0, r) e) es := rfl
    have e2 : grp (R0, r) (e :: es) = grp (putE (R0, r) e) es := rfl
    rw [e1, e2]
    unfold putE
    cases he : e.2
    · simp only [Bool.false_eq_true, if_false]
      exact grp_pre es R R0 _
    · simp only [if_true]
      rw [List.append_assoc]
      exact grp_pre es R _ _
/-- Two texts of records, with CR LF between. -/
theorem joined {a b : Bs} (ha : place 0 0 a = none) (hb : place 0 0 b = none) (hne : b ≠ []) (hcr : ∀ pre, a ≠ pre ++ [13, 10]) :
    place 0 0 (a ++ 13 :: 10 :: b) = none ∧ (g0 (evs 0 [] (a ++ 13 :: 10 :: b))).1 = (g0 (evs 0 [] a)).1 ++ (g0 (evs 0 [] b)).1 ∧
    place 0 0 (a ++ [13, 10]) = none ∧ (g0 (evs 0 [] (a ++ [13, 10]))).1 = (g0 (evs 0 [] a)).1 := by
  have hq : endQ 0 a = 0 ∨ endQ 0 a = 1 ∨ endQ 0 a = 3 := by
    rcases endQ_of a 0 0 (by decide) ha with h | h | h | h
    · exact .inl h
    · exact .inr (.inl h)
    · exact .inr (.inr h)
    · rcases endQ_five a 0 h with ⟨_, h⟩ | ⟨_, h⟩ | ⟨pre, h⟩
      · cases h
      · cases h
      · exact absurd h (hcr pre)
  have h2 : (g0 (evs 0 [] a)).2 = [] := (ends a 0 0 [] ([], []) (by decide) ha (by decide)).1
  obtain ⟨p1, e1⟩ := behind a 0 0 [] b hq
  obtain ⟨p2, e2⟩ := behind a 0 0 [] [] hq
  refine ⟨?_, ?_, ?_, ?_⟩
  · rw [p1, (five_zero hne _ []).1]
    exact place_shift b 0 0 _ hb
  · rw [e1, (five_zero hne 0 []).2]
    obtain ⟨R, hR⟩ : ∃ R, g0 (evs 0 [] a) = (R, []) := ⟨_, Prod.ext rfl h2⟩
    have hs : g0 (evs 0 [] a ++ evs 0 [] b) = grp (g0 (evs 0 [] a)) (evs 0 [] b) := grp_append _ _ _
    rw [hs, hR]
    have hp := grp_pre (evs 0 [] b) R [] []
    rw [List.append_nil] at hp
    rw [hp]
    rfl
  · rw [p2]; rfl
  · rw [e2]
    have : evs 5 [] [] = [] := rfl
    rw [this, List.append_nil]
end Go.Proofs.YtafpddpeffpnfaaDoor.Cv
