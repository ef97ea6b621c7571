/-
  Several texts in one, each with its own remark: BaPlain, BaLevPlain, BaClPlain, LvPlain, LvLaws, SqPlain.
-/
import Derived.Laws.Bits128
import Derived.Test.YtfclpecbnailgaaGreatRows

/-
 Isolates among classes, plainly: the end of an initiator, the stack of what is open, what Match answers, the level; and the facts about them that the statements ask. No program in it.
-/
set_option linter.unusedVariables false
namespace Go.Proofs.YtfclpecbnailgaaGreat.Ba
def isI (c : Int) : Bool := c == 19 || (c == 20 || c == 21)
def isP (c : Int) : Bool := c == 22
theorem isI_not_isP {c : Int} (h : isI c = true) : isP c = false := by
 simp only [isI, Bool.or_eq_true, beq_iff_eq] at h
 simp only [isP, beq_eq_false_iff_ne, ne_eq]
 omega
/-- How far the PDI stands that ends what is open at this depth; the rest's length, if there is none. -/
def endL : List Int → Nat → Nat
 | [], _ => 0
 | c :: l, d => if isP c then (match d with | 0 => 0 | d + 1 => 1 + endL l d) else if isI c then 1 + endL l (d + 1) else 1 + endL l d
theorem endL_le : ∀ (l : List Int) (d : Nat), endL l d ≤ l.length
 | [], d => Nat.le_refl 0
 | c :: l, 0 => by
  simp only [endL, List.length_cons]
  split
  ·omega
  ·split
   ·have := endL_le l (0 + 1); omega
   ·have := endL_le l 0; omega
 | c :: l, d + 1 => by
  simp only [endL, List.length_cons]
  split
  ·have := endL_le l d; omega
  ·split
   ·have := endL_le l (d + 1 + 1); omega
   ·have := endL_le l (d + 1); omega
/-- What ends something is a PDI. -/
theorem endL_at : ∀ (l : List Int) (d : Nat) (h : endL l d < l.length), isP l[endL l d] = true
 | [], d, h => by simp [endL] at h
 | c :: l, d, h => by
  by_cases hp : isP c = true
  ·cases d with
   | zero =>
    have e : endL (c :: l) 0 = 0 := by simp only [endL]; rw [if_pos hp]
    simp only [e]
    exact hp
   | succ d =>
    have e : endL (c :: l) (d + 1) = endL l d + 1 := by simp only [endL]; rw [if_pos hp, Nat.add_comm]
    simp only [e] at h ⊢
    exact endL_at l d (by simpa using h)
  ·by_cases hi : isI c = true
   ·have e : endL (c :: l) d = endL l (d + 1) + 1 := by simp only [endL]; rw [if_neg hp, if_pos hi, Nat.add_comm]
    simp only [e] at h ⊢
    exact endL_at l (d + 1) (by simpa using h)
   ·have e : endL (c :: l) d = endL l d + 1 := by simp only [endL]; rw [if_neg hp, if_neg hi, Nat.add_comm]
    simp only [e] at h ⊢
    exact endL_at l d (by simpa using h)
/-- The place of the PDI of the initiator at a place; how many classes there are, if it has none. -/
def endAt (l : List Int) (i : Nat) : Nat := i + 1 + endL (l.drop (i + 1)) 0
theorem endAt_gt (l : List Int) (i : Nat) : i < endAt l i := by unfold endAt; omega
theorem endAt_le (l : List Int) (i : Nat) (h : i < l.length) : endAt l i ≤ l.length := by
 have := endL_le (l.drop (i + 1)) 0
 rw [List.length_drop] at this
 unfold endAt
 omega
theorem endAt_P (l : List Int) (i : Nat) (h : endAt l i < l.length) : isP l[endAt l i] = true := by
 have h1 := endL_at (l.drop (i + 1)) 0 (by rw [List.length_drop]; unfold endAt at h; omega)
 rw [List.getElem_drop] at h1
 exact h1
/-- One step on. -/
theorem endL_I (l : List Int) (k d : Nat) (h : k < l.length) (hi : isI l[k] = true) : k + endL (l.drop k) d = k + 1 + endL (l.drop (k + 1)) (d + 1) := by
 rw [List.drop_eq_getElem_cons h]
 simp only [endL]
 rw [if_neg (by rw [isI_not_isP hi]; decide), if_pos hi]
 omega
theorem endL_P (l : List Int) (k d : Nat) (h : k < l.length) (hp : isP l[k] = true) : k + endL (l.drop k) (d + 1) = k + 1 + endL (l.drop (k + 1)) d := by
 rw [List.drop_eq_getElem_cons h]
 simp only [endL]
 rw [if_pos hp]
 omega
theorem endL_P0 (l : List Int) (k : Nat) (h : k < l.length) (hp : isP l[k] = true) : k + endL (l.drop k) 0 = k := by
 rw [List.drop_eq_getElem_cons h]
 simp only [endL]
 rw [if_pos hp]
 omega
theorem endL_N (l : List Int) (k d : Nat) (h : k < l.length) (hp : isP l[k] = false) (hi : isI l[k] = false) : k + endL (l.drop k) d = k + 1 + endL (l.drop (k + 1)) d := by
 rw [List.drop_eq_getElem_cons h]
 simp only [endL]
 rw [if_neg (by rw [hp]; decide), if_neg (by rw [hi]; decide)]
 omega
/-- The initiators that are open behind so many classes, the last one first. -/
def stk (l : List Int) : Nat → List Nat
 | 0 => []
 | k + 1 => match l[k]? with
  | none => stk l k
  | some c => if isI c then k :: stk l k else if isP c then (stk l k).tail else stk l k
theorem stk_I {l : List Int} {k : Nat} (h : k < l.length) (hi : isI l[k] = true) : stk l (k + 1) = k :: stk l k := by
 simp only [stk, List.getElem?_eq_getElem h]
 rw [if_pos hi]
theorem stk_P {l : List Int} {k : Nat} (h : k < l.length) (hp : isP l[k] = true) : stk l (k + 1) = (stk l k).tail := by
 have hi : ¬ isI l[k] = true := fun h1 => by rw [isI_not_isP h1] at hp; cases hp
 simp only [stk, List.getElem?_eq_getElem h]
 rw [if_neg hi, if_pos hp]
theorem stk_N {l : List Int} {k : Nat} (h : k < l.length) (hp : isP l[k] = false) (hi : isI l[k] = false) : stk l (k + 1) = stk l k := by
 simp only [stk, List.getElem?_eq_getElem h]
 rw [if_neg (by rw [hi]; decide), if_neg (by rw [hp]; decide)]
theorem stk_len (l : List Int) : ∀ k, (stk l k).length ≤ k
 | 0 => Nat.le_refl 0
 | k + 1 => by
  have h := stk_len l k
  simp only [stk]
  split
  ·omega
  ·split
   ·simp; omega
   ·split
    ·rw [List.length_tail]; omega
    ·omega
/-- What is open at a depth is an initiator ahead, and ends where what is open at that depth does. -/
theorem stk_at (l : List Int) : ∀ (k : Nat), k ≤ l.length → ∀ (d t : Nat), (stk l k)[d]? = some t → t < k ∧ l[t]?.map isI = some true ∧ endAt l t = k + endL (l.drop k) d
 | 0, _, d, t, h => by simp [stk] at h
 | k + 1, hk, d, t, h => by
  have ih := stk_at l k (by omega)
  have hlt : k < l.length := by omega
  by_cases hi : isI l[k] = true
  ·rw [stk_I hlt hi] at h
   cases d with
   | zero =>
    simp only [List.getElem?_cons_zero, Option.some.injEq] at h
    subst h
    exact ⟨by omega, by rw [List.getElem?_eq_getElem hlt]; simp [hi], rfl⟩
   | succ d =>
    simp only [List.getElem?_cons_succ] at h
    obtain ⟨h1, h2, h3⟩ := ih d t h
    exact ⟨by omega, h2, by rw [h3, endL_I l k d hlt hi]⟩
  ·have hi : isI l[k] = false := by simpa using hi
   by_cases hp : isP l[k] = true
   ·rw [stk_P hlt hp, List.getElem?_tail] at h
    obtain ⟨h1, h2, h3⟩ := ih (d + 1) t h
    exact ⟨by omega, h2, by rw [h3, endL_P l k d hlt hp]⟩
   ·have hp : isP l[k] = false := by simpa using hp
    rw [stk_N hlt hp hi] at h
    obtain ⟨h1, h2, h3⟩ := ih d t h
    exact ⟨by omega, h2, by rw [h3, endL_N l k d hlt hp hi]⟩
/-- An initiator ahead that is not open has ended. -/
theorem stk_not (l : List Int) : ∀ (k : Nat), k ≤ l.length → ∀ (t : Nat) (ht : t < k) (hl : t < l.length), isI l[t] = true → t ∉ stk l k → endAt l t < k
 | 0, _, t, ht, _, _, _ => by omega
 | k + 1, hk, t, ht, hl, hit, hn => by
  have ih := stk_not l k (by omega) t
  have hlt : k < l.length := by omega
  by_cases e : t = k
  ·subst e
   rw [stk_I hlt hit] at hn
   simp at hn
  ·have htk : t < k := by omega
   by_cases hi : isI l[k] = true
   ·rw [stk_I hlt hi] at hn
    have := ih htk hl hit (fun h => hn (List.mem_cons_of_mem _ h))
    omega
   ·have hi : isI l[k] = false := by simpa using hi
    by_cases hp : isP l[k] = true
    ·rw [stk_P hlt hp] at hn
     by_cases hm : t ∈ stk l k
     ·cases hs : stk l k with
      | nil => rw [hs] at hm; cases hm
      | cons u r =>
       rw [hs] at hm hn
       rcases List.mem_cons.1 hm with rfl | hm
       ·have h3 := (stk_at l k (by omega) 0 t (by rw [hs]; rfl)).2.2
        rw [endL_P0 l k hlt hp] at h3
        omega
       ·exact absurd hm hn
     ·have := ih htk hl hit hm
      omega
    ·have hp : isP l[k] = false := by simpa using hp
     rw [stk_N hlt hp hi] at hn
     have := ih htk hl hit hn
     omega
theorem stk_mem {l : List Int} {k : Nat} (hk : k ≤ l.length) {t : Nat} (ht : t ∈ stk l k) : ∃ d, (stk l k)[d]? = some t ∧ t < k ∧ endAt l t = k + endL (l.drop k) d := by
 obtain ⟨d, hd⟩ := List.getElem?_of_mem ht
 obtain ⟨h1, _, h3⟩ := stk_at l k hk d t hd
 exact ⟨d, hd, h1, h3⟩
/-- An initiator ahead is open just if it has not ended. -/
theorem stk_iff {l : List Int} {k t : Nat} (hk : k ≤ l.length) (ht : t < k) (hl : t < l.length) (hi : isI l[t] = true) : t ∈ stk l k ↔ k ≤ endAt l t := by
 constructor
 ·intro h
  obtain ⟨d, _, _, h3⟩ := stk_mem hk h
  omega
 ·intro h
  by_cases hm : t ∈ stk l k
  ·exact hm
  ·have := stk_not l k hk t ht hl hi hm
   omega
/-- What Match answers at a place, as far as so many classes tell it. -/
def mtK (l : List Int) (k i : Nat) : Int :=
 match l[i]? with
 | none => -1
 | some c => if isI c then (if endAt l i < k then (endAt l i : Int) else l.length) else if isP c then (match stk l i with | [] => -1 | t :: _ => (t : Int)) else -1
def matchL (l : List Int) : List Int := (List.range l.length).map (mtK l l.length)
theorem matchL_len (l : List Int) : (matchL l).length = l.length := by simp [matchL]
theorem matchL_at (l : List Int) (i : Nat) (h : i < l.length) : (matchL l)[i]'(by rw [matchL_len]; exact h) = mtK l l.length i := by simp [matchL]
theorem mt_I {l : List Int} {i : Nat} (h : i < l.length) (hi : isI l[i] = true) : mtK l l.length i = endAt l i := by
 have := endAt_le l i h
 simp only [mtK, List.getElem?_eq_getElem h]
 rw [if_pos hi]
 split
 ·rfl
 ·congr 1; omega
theorem mt_P {l : List Int} {k i : Nat} (h : i < l.length) (hp : isP l[i] = true) : mtK l k i = match stk l i with | [] => -1 | t :: _ => (t : Int) := by
 have hi : ¬ isI l[i] = true := fun h1 => by rw [isI_not_isP h1] at hp; cases hp
 simp only [mtK, List.getElem?_eq_getElem h]
 rw [if_neg hi, if_pos hp]
theorem mt_N {l : List Int} {k i : Nat} (h : i < l.length) (hp : isP l[i] = false) (hi : isI l[i] = false) : mtK l k i = -1 := by
 simp only [mtK, List.getElem?_eq_getElem h]
 rw [if_neg (by rw [hi]; decide), if_neg (by rw [hp]; decide)]
theorem mtK_I {l : List Int} {k i : Nat} (h : i < l.length) (hi : isI l[i] = true) (hlt : k ≤ endAt l i) : mtK l k i = l.length := by
 simp only [mtK, List.getElem?_eq_getElem h]
 rw [if_pos hi, if_neg (by omega)]
theorem mtK_Ilt {l : List Int} {k i : Nat} (h : i < l.length) (hi : isI l[i] = true) (hlt : endAt l i < k) : mtK l k i = endAt l i := by
 simp only [mtK, List.getElem?_eq_getElem h]
 rw [if_pos hi, if_pos hlt]
/-- One class on: nothing changes at other places than the one that it ends. -/
theorem mtK_step {l : List Int} {k i : Nat} (hi : ∀ h : i < l.length, isI l[i] = true → endAt l i ≠ k) : mtK l (k + 1) i = mtK l k i := by
 unfold mtK
 cases hg : l[i]? with
 | none => rfl
 | some c =>
  obtain ⟨hlt, hc⟩ := List.getElem?_eq_some_iff.1 hg
  subst hc
  simp only
  by_cases h : isI l[i] = true
  ·rw [if_pos h, if_pos h]
   have := hi hlt h
   by_cases h2 : endAt l i < k
   ·rw [if_pos (by omega), if_pos h2]
   ·rw [if_neg (by omega), if_neg h2]
  ·rw [if_neg h, if_neg h]
/-- The PDI at k ends what is open last, and nothing else. -/
theorem ends_top {l : List Int} {k t : Nat} {r : List Nat} (hk : k < l.length) (hp : isP l[k] = true) (hs : stk l k = t :: r) : endAt l t = k ∧ t < k ∧ l[t]?.map isI = some true := by
 obtain ⟨h1, h2, h3⟩ := stk_at l k (by omega) 0 t (by rw [hs]; rfl)
 rw [endL_P0 l k hk hp] at h3
 exact ⟨h3, h1, h2⟩
theorem ends_only {l : List Int} {k i : Nat} (hk : k < l.length) (h : i < l.length) (hi : isI l[i] = true) (he : endAt l i = k) : ∃ r, stk l k = i :: r := by
 have hlt := endAt_gt l i
 have hp : isP l[k] = true := by subst he; exact endAt_P l i hk
 have hm : i ∈ stk l k := (stk_iff (by omega) (by omega) h hi).2 (by omega)
 obtain ⟨d, hd, _, h3⟩ := stk_mem (by omega) hm
 cases d with
 | zero =>
  cases hs : stk l k with
  | nil => rw [hs] at hd; simp at hd
  | cons u r =>
   rw [hs] at hd
   simp at hd
   exact ⟨r, by rw [hd]⟩
 | succ d =>
  rw [endL_P l k d hk hp] at h3
  omega
end Go.Proofs.YtfclpecbnailgaaGreat.Ba

/-
 The level of classes, plainly. No program in it.
-/
set_option linter.unusedVariables false
namespace Go.Proofs.YtfclpecbnailgaaGreat.Ba
/-- The level of classes, behind so many open isolates; whether there is a letter. -/
def levL : List Int → Nat → Int × Bool
 | [], _ => (0, false)
 | c :: l, d => if isI c then levL l (d + 1) else if isP c then levL l (d - 1) else if d = 0 ∧ c = 0 then (0, true) else if d = 0 ∧ (c = 1 ∨ c = 2) then (1, true) else levL l d
theorem levL_I {l : List Int} {k d : Nat} (h : k < l.length) (hi : isI l[k] = true) : levL (l.drop k) d = levL (l.drop (k + 1)) (d + 1) := by
 rw [List.drop_eq_getElem_cons h]
 simp only [levL]
 rw [if_pos hi]
theorem levL_P {l : List Int} {k d : Nat} (h : k < l.length) (hp : isP l[k] = true) : levL (l.drop k) d = levL (l.drop (k + 1)) (d - 1) := by
 have hi : ¬ isI l[k] = true := fun h1 => by rw [isI_not_isP h1] at hp; cases hp
 rw [List.drop_eq_getElem_cons h]
 simp only [levL]
 rw [if_neg hi, if_pos hp]
theorem levL_N {l : List Int} {k d : Nat} (h : k < l.length) (hp : isP l[k] = false) (hi : isI l[k] = false) : levL (l.drop k) d = if d = 0 ∧ l[k] = 0 then (0, true) else if d = 0 ∧ (l[k] = 1 ∨ l[k] = 2) then (1, true) else levL (l.drop (k + 1)) d := by
 rw [List.drop_eq_getElem_cons h]
 simp only [levL]
 rw [if_neg (by rw [hi]; decide), if_neg (by rw [hp]; decide)]
end Go.Proofs.YtfclpecbnailgaaGreat.Ba

/-
 What is closed among classes, plainly; what stands between an initiator and a PDI, closed, changes nothing of the level around. No program in it.
-/
set_option linter.unusedVariables false
namespace Go.Proofs.YtfclpecbnailgaaGreat.Ba
def closedL : List Int → Nat → Bool
 | [], d => d == 0
 | c :: l, d => if isI c then closedL l (d + 1) else if isP c then (match d with | 0 => false | d + 1 => closedL l d) else closedL l d
end Go.Proofs.YtfclpecbnailgaaGreat.Ba

/-
 Explicit levels, plainly: the direction of an initiator, what is open, what each class does to it, the levels; and the facts about them that the statements ask. No program in it.
-/
set_option linter.unusedVariables false
namespace Go.Proofs.YtfclpecbnailgaaGreat.Lv
open Go.Proofs.YtfclpecbnailgaaGreat.Ba
/-- The level of what stands ahead of the PDI that ends what is open, behind so many more that are open. -/
def levE : List Int → Nat → Int × Bool
 | [], _ => (0, false)
 | c :: l, d => if isI c then levE l (d + 1) else if isP c then (match d with | 0 => (0, false) | d + 1 => levE l d) else if d = 0 ∧ c = 0 then (0, true) else if d = 0 ∧ (c = 1 ∨ c = 2) then (1, true) else levE l d
theorem levE_take : ∀ (l : List Int) (d : Nat), levL (l.take (endL l d)) d = levE l d
 | [], d => rfl
 | c :: l, d => by
  have e1 : ∀ x, (c :: l).take (1 + x) = c :: l.take x := fun x => by rw [Nat.add_comm]; rfl
  by_cases hi : isI c = true
  ·have hp : ¬ isP c = true := fun h => by rw [isI_not_isP hi] at h; cases h
   have e2 : endL (c :: l) d = 1 + endL l (d + 1) := by simp only [endL]; rw [if_neg hp, if_pos hi]
   rw [e2, e1]
   simp only [levL, levE]
   rw [if_pos hi, if_pos hi]
   exact levE_take l (d + 1)
  ·by_cases hp : isP c = true
   ·cases d with
    | zero =>
     have e2 : endL (c :: l) 0 = 0 := by simp only [endL]; rw [if_pos hp]
     rw [e2]
     simp only [List.take_zero, levL, levE]
     rw [if_neg hi, if_pos hp]
    | succ d =>
     have e2 : endL (c :: l) (d + 1) = 1 + endL l d := by simp only [endL]; rw [if_pos hp]
     rw [e2, e1]
     simp only [levL, levE]
     rw [if_neg hi, if_pos hp, if_neg hi, if_pos hp]
     exact levE_take l d
   ·have e2 : endL (c :: l) d = 1 + endL l d := by simp only [endL]; rw [if_neg hp, if_neg hi]
    rw [e2, e1]
    simp only [levL, levE]
    rw [if_neg hi, if_neg hp, if_neg hi, if_neg hp, levE_take l d]
theorem levE_skip : ∀ (l : List Int) (d : Nat), levE l (d + 1) = levE (l.drop (endL l d + 1)) 0
 | [], d => by simp [levE]
 | c :: l, d => by
  by_cases hi : isI c = true
  ·have hp : ¬ isP c = true := fun h => by rw [isI_not_isP hi] at h; cases h
   have e2 : endL (c :: l) d = endL l (d + 1) + 1 := by simp only [endL]; rw [if_neg hp, if_pos hi, Nat.add_comm]
   rw [e2]
   simp only [List.drop_succ_cons]
   conv => lhs; simp only [levE]
   rw [if_pos hi]
   exact levE_skip l (d + 1)
  ·by_cases hp : isP c = true
   ·conv => lhs; simp only [levE]
    rw [if_neg hi, if_pos hp]
    cases d with
    | zero =>
     have e2 : endL (c :: l) 0 = 0 := by simp only [endL]; rw [if_pos hp]
     rw [e2]
     rfl
    | succ d =>
     have e2 : endL (c :: l) (d + 1) = endL l d + 1 := by simp only [endL]; rw [if_pos hp, Nat.add_comm]
     rw [e2]
     simp only [List.drop_succ_cons]
     exact levE_skip l d
   ·have e2 : endL (c :: l) d = endL l d + 1 := by simp only [endL]; rw [if_neg hp, if_neg hi, Nat.add_comm]
    rw [e2]
    simp only [List.drop_succ_cons]
    conv => lhs; simp only [levE]
    rw [if_neg hi, if_neg hp, if_neg (by omega), if_neg (by omega)]
    exact levE_skip l d
theorem endL_succ : ∀ (l : List Int) (d : Nat), endL l d < l.length → endL l (d + 1) = endL l d + 1 + endL (l.drop (endL l d + 1)) 0
 | [], d, h => by simp [endL] at h
 | c :: l, d, h => by
  by_cases hi : isI c = true
  ·have hp : ¬ isP c = true := fun h => by rw [isI_not_isP hi] at h; cases h
   have e2 : ∀ d, endL (c :: l) d = endL l (d + 1) + 1 := fun d => by simp only [endL]; rw [if_neg hp, if_pos hi, Nat.add_comm]
   rw [e2] at h ⊢
   rw [e2]
   simp only [List.drop_succ_cons]
   have := endL_succ l (d + 1) (by simpa using h)
   omega
  ·by_cases hp : isP c = true
   ·have e3 : endL (c :: l) (d + 1) = endL l d + 1 := by simp only [endL]; rw [if_pos hp, Nat.add_comm]
    rw [e3]
    cases d with
    | zero =>
     have e2 : endL (c :: l) 0 = 0 := by simp only [endL]; rw [if_pos hp]
     rw [e2]
     simp only [List.drop_succ_cons, List.drop_zero]
     omega
    | succ d =>
     have e2 : endL (c :: l) (d + 1) = endL l d + 1 := by simp only [endL]; rw [if_pos hp, Nat.add_comm]
     rw [e2] at h ⊢
     simp only [List.drop_succ_cons]
     have := endL_succ l d (by simpa using h)
     omega
   ·have e2 : ∀ d, endL (c :: l) d = endL l d + 1 := fun d => by simp only [endL]; rw [if_neg hp, if_neg hi, Nat.add_comm]
    rw [e2] at h ⊢
    rw [e2]
    simp only [List.drop_succ_cons]
    have := endL_succ l d (by simpa using h)
    omega
theorem levE_ended : ∀ (l : List Int), endL l 0 = 0 → levE l 0 = (0, false)
 | [], _ => rfl
 | c :: l, h => by
  by_cases hp : isP c = true
  ·have hi : ¬ isI c = true := fun h1 => by rw [isI_not_isP h1] at hp; cases hp
   simp only [levE]
   rw [if_neg hi, if_pos hp]
  ·simp only [endL] at h
   rw [if_neg hp] at h
   split at h <;> omega
theorem levE_bit : ∀ (l : List Int) (d : Nat), (levE l d).1 = 0 ∨ (levE l d).1 = 1
 | [], d => .inl rfl
 | c :: l, d => by
  simp only [levE]
  split
  ·exact levE_bit l (d + 1)
  ·split
   ·cases d with
    | zero => exact .inl rfl
    | succ d => exact levE_bit l d
   ·split
    ·exact .inl rfl
    ·split
     ·exact .inr rfl
     ·exact levE_bit l d
/-- One that is open. -/
structure E where
 lev : Nat
 ov : Int
 iso : Bool
/-- What is open, the last one first; the isolates, the embeddings that are lost; the isolates that are open. -/
structure St where
 es : List E
 li : Nat
 ld : Nat
 op : Nat
def nxt (o l : Nat) : Nat := if (l + 1) % 2 = o then l + 1 else l + 2
theorem nxt_gt (o l : Nat) : l < nxt o l := by unfold nxt; split <;> omega
def top (es : List E) : E := es.headD ⟨0, -1, false⟩
def fits (o : Nat) (s : St) : Bool := decide (nxt o (top s.es).lev ≤ 125) && (decide (s.li = 0) && decide (s.ld = 0))
def push (e : E) (s : St) : St := ⟨e :: s.es, s.li, s.ld, s.op⟩
def embedS (o : Nat) (v : Int) (s : St) : St := if fits o s = true then push ⟨nxt o (top s.es).lev, v, false⟩ s else if s.li = 0 then ⟨s.es, s.li, s.ld + 1, s.op⟩ else s
def beginS (o : Nat) (s : St) : St := if fits o s = true then ⟨⟨nxt o (top s.es).lev, -1, true⟩ :: s.es, s.li, s.ld, s.op + 1⟩ else ⟨s.es, s.li + 1, s.ld, s.op⟩
def cutI : List E → List E
 | [] => []
 | e :: r => if e.iso = true then r else cutI r
def endS (s : St) : St := if 0 < s.li then ⟨s.es, s.li - 1, s.ld, s.op⟩ else if s.op = 0 then s else ⟨cutI s.es, s.li, 0, s.op - 1⟩
def popS (s : St) : St := if 0 < s.li then s else if 0 < s.ld then ⟨s.es, s.li, s.ld - 1, s.op⟩ else if (top s.es).iso = true ∨ s.es.length = 1 then s else ⟨s.es.tail, s.li, s.ld, s.op⟩
def dirE (l : List Int) : Nat := if (levE l 0).1 = 1 then 1 else 0
theorem dirE_eq (l : List Int) : (levE l 0).1 = (dirE l : Int) := by
 unfold dirE
 rcases levE_bit l 0 with h | h
 ·rw [h]; rfl
 ·rw [h]; rfl
theorem dirE_le (l : List Int) : dirE l ≤ 1 := by unfold dirE; split <;> omega
def closeS (c : Int) (s : St) : St := if c = 18 then popS s else if c = 22 then endS s else s
def openS (c : Int) (l : List Int) (s : St) : St :=
 if c = 16 then embedS 1 (-1) s else if c = 14 then embedS 0 (-1) s else if c = 17 then embedS 1 1 s else if c = 15 then embedS 0 0 s else if c = 20 then beginS 1 s else if c = 19 then beginS 0 s else if c = 21 then beginS (dirE l) s else s
def remB (c : Int) : Bool := c == 16 || (c == 14 || (c == 17 || (c == 15 || (c == 18 || c == 9))))
def outS (b : Nat) (s : St) (c : Int) : Int × Int :=
 if remB c = true then (-1, c) else if c = 10 then ((b : Int), c) else if (top s.es).ov = -1 then (((top s.es).lev : Int), c) else (((top s.es).lev : Int), (top s.es).ov)
def walkL (b : Nat) : List Int → St → List (Int × Int)
 | [], _ => []
 | c :: l, s => outS b (closeS c s) c :: walkL b l (openS c l (closeS c s))
def startS (b : Nat) : St := ⟨[⟨b, -1, false⟩], 0, 0, 0⟩
def explL (l : List Int) (b : Nat) : List (Int × Int) := walkL b l (startS b)
theorem walkL_len (b : Nat) : ∀ (l : List Int) (s : St), (walkL b l s).length = l.length
 | [], _ => rfl
 | c :: l, s => by simp [walkL, walkL_len b l]
theorem explL_len (l : List Int) (b : Nat) : (explL l b).length = l.length := walkL_len b l _
/-- How many isolates are open. -/
def isos : List E → Nat
 | [] => 0
 | e :: r => if e.iso = true then isos r + 1 else isos r
theorem isos_le : ∀ (es : List E), isos es ≤ es.length
 | [] => Nat.le_refl 0
 | e :: r => by
  have := isos_le r
  simp only [isos, List.length_cons]
  split <;> omega
/-- From the paragraph's on levels rise. -/
def Chain (b : Nat) : List E → Prop
 | [] => False
 | [e] => e = ⟨b, -1, false⟩
 | e :: t :: r => t.lev < e.lev ∧ e.lev ≤ 125 ∧ (e.ov = -1 ∨ e.ov = 0 ∨ e.ov = 1) ∧ Chain b (t :: r)
theorem Chain.len {b : Nat} : ∀ {es : List E}, Chain b es → es.length + b ≤ (top es).lev + 1
 | [], h => h.elim
 | [e], h => by
  have h : e = ⟨b, -1, false⟩ := h
  subst h
  simp [top]
  omega
 | e :: t :: r, h => by
  have h1 := Chain.len h.2.2.2
  have h2 := h.1
  simp [top] at h1 ⊢
  omega
theorem Chain.pos {b : Nat} : ∀ {es : List E}, Chain b es → 0 < es.length
 | [], h => h.elim
 | _ :: _, _ => by simp
theorem Chain.most {b : Nat} (hb : b ≤ 1) : ∀ {es : List E}, Chain b es → (top es).lev ≤ 125
 | [], h => h.elim
 | [e], h => by
  have h : e = ⟨b, -1, false⟩ := h
  subst h
  simp [top]
  omega
 | e :: t :: r, h => h.2.1
theorem Chain.least {b : Nat} {es : List E} (h : Chain b es) : b ≤ (top es).lev := by
 have h1 := h.len
 have h2 := h.pos
 omega
theorem Chain.small {b : Nat} (hb : b ≤ 1) {es : List E} (h : Chain b es) : es.length ≤ 126 := by
 have h1 := h.len
 have h2 := h.most hb
 omega
theorem Chain.ov {b : Nat} : ∀ {es : List E}, Chain b es → (top es).ov = -1 ∨ (top es).ov = 0 ∨ (top es).ov = 1
 | [], h => h.elim
 | [e], h => by
  have h : e = ⟨b, -1, false⟩ := h
  subst h
  exact .inl rfl
 | e :: t :: r, h => h.2.2.1
theorem Chain.push {b : Nat} : ∀ {es : List E} {e : E}, Chain b es → (top es).lev < e.lev → e.lev ≤ 125 → (e.ov = -1 ∨ e.ov = 0 ∨ e.ov = 1) → Chain b (e :: es)
 | [], _, h, _, _, _ => h.elim
 | _ :: _, _, h, h1, h2, h3 => ⟨h1, h2, h3, h⟩
theorem Chain.cut {b : Nat} : ∀ {es : List E}, Chain b es → 0 < isos es → Chain b (cutI es) ∧ isos (cutI es) + 1 = isos es
 | [], h, _ => h.elim
 | [e], h, hp => by
  have h : e = ⟨b, -1, false⟩ := h
  subst h
  simp [isos] at hp
 | e :: t :: r, h, hp => by
  by_cases hi : e.iso = true
  ·have e1 : cutI (e :: t :: r) = t :: r := by simp only [cutI]; rw [if_pos hi]
   rw [e1]
   refine ⟨h.2.2.2, ?_⟩
   conv => rhs; unfold isos
   rw [if_pos hi]
  ·have e1 : cutI (e :: t :: r) = cutI (t :: r) := by
    conv => lhs; unfold cutI
    rw [if_neg hi]
   have e2 : isos (e :: t :: r) = isos (t :: r) := by
    conv => lhs; unfold isos
    rw [if_neg hi]
   rw [e2] at hp
   rw [e1, e2]
   exact Chain.cut h.2.2.2 hp
theorem Chain.off {b : Nat} : ∀ {es : List E}, Chain b es → es.length ≠ 1 → Chain b es.tail
 | [], h, _ => h.elim
 | [e], h, hn => by simp at hn
 | e :: t :: r, h, _ => h.2.2.2
/-- What is open is as it may be. -/
structure Ok (b : Nat) (s : St) : Prop where
 chain : Chain b s.es
 count : s.op = isos s.es
theorem Ok.start (b : Nat) : Ok b (startS b) := ⟨rfl, rfl⟩
theorem fits_iff {o : Nat} {s : St} : fits o s = true ↔ nxt o (top s.es).lev ≤ 125 ∧ s.li = 0 ∧ s.ld = 0 := by simp [fits]
theorem Ok.embed {b : Nat} {s : St} (h : Ok b s) (o : Nat) {v : Int} (hv : v = -1 ∨ v = 0 ∨ v = 1) : Ok b (embedS o v s) := by
 unfold embedS
 split
 ·rename_i hf
  refine ⟨h.chain.push (nxt_gt _ _) (fits_iff.1 hf).1 hv, ?_⟩
  have := h.count
  simp [Lv.push, isos]
  exact this
 ·split
  ·exact ⟨h.chain, h.count⟩
  ·exact h
theorem Ok.begin_ {b : Nat} {s : St} (h : Ok b s) (o : Nat) : Ok b (beginS o s) := by
 unfold beginS
 split
 ·rename_i hf
  refine ⟨h.chain.push (nxt_gt _ _) (fits_iff.1 hf).1 (.inl rfl), ?_⟩
  have := h.count
  simp [isos]
  exact this
 ·exact ⟨h.chain, h.count⟩
theorem Ok.end_ {b : Nat} {s : St} (h : Ok b s) : Ok b (endS s) := by
 unfold endS
 split
 ·exact ⟨h.chain, h.count⟩
 ·split
  ·exact h
  ·have h1 := h.count
   obtain ⟨h2, h3⟩ := h.chain.cut (by omega)
   refine ⟨h2, ?_⟩
   show s.op - 1 = isos (cutI s.es)
   omega
theorem Ok.pop {b : Nat} {s : St} (h : Ok b s) : Ok b (popS s) := by
 unfold popS
 split
 ·exact h
 ·split
  ·exact ⟨h.chain, h.count⟩
  ·split
   ·exact h
   ·rename_i hn
    refine ⟨h.chain.off (fun e => hn (.inr e)), ?_⟩
    have h1 := h.count
    obtain ⟨es, li, ld, op⟩ := s
    cases es with
    | nil => exact h1
    | cons e r =>
     simp only [top, List.headD_cons] at hn
     simp only [List.tail_cons]
     simp only [isos] at h1
     rw [if_neg (fun e => hn (.inl e))] at h1
     exact h1
theorem Ok.close {b : Nat} {s : St} (h : Ok b s) (c : Int) : Ok b (closeS c s) := by
 unfold closeS
 split
 ·exact h.pop
 ·split
  ·exact h.end_
  ·exact h
theorem Ok.open_ {b : Nat} {s : St} (h : Ok b s) (c : Int) (l : List Int) : Ok b (openS c l s) := by
 unfold openS
 repeat' split
 all_goals first
  | exact h
  | exact h.begin_ _
  | exact h.embed _ (.inl rfl)
  | exact h.embed _ (.inr (.inl rfl))
  | exact h.embed _ (.inr (.inr rfl))
/-- Counts grow by one at most. -/
def Few (k : Nat) (s : St) : Prop := s.li ≤ k ∧ s.ld ≤ k
theorem Few.close {k : Nat} {s : St} (h : Few k s) (c : Int) : Few k (closeS c s) := by
 obtain ⟨h1, h2⟩ := h
 unfold closeS popS endS Few
 repeat' split
 all_goals (constructor <;> (try dsimp only) <;> omega)
theorem Few.open_ {k : Nat} {s : St} (h : Few k s) (c : Int) (l : List Int) : Few (k + 1) (openS c l s) := by
 obtain ⟨h1, h2⟩ := h
 unfold openS embedS beginS push Few
 repeat' split
 all_goals (constructor <;> (try dsimp only) <;> omega)
end Go.Proofs.YtfclpecbnailgaaGreat.Lv

/-
 What the statements of layer 11 ask of explicit levels, plainly: how deep they are; that an isolate's inside changes nothing around it; that what comes behind changes nothing ahead, as long as there is no FSI. No program in it.
-/
set_option linter.unusedVariables false
namespace Go.Proofs.YtfclpecbnailgaaGreat.Lv
open Go Go.Proofs.YtfclpecbnailgaaGreat.Ba
theorem deep_cases {b : Nat} (hb : b ≤ 1) {s : St} (h : Ok b s) {c z1 z2 : Int} (ho : outS b s c = (z1, z2)) :
  (remB c = true ∧ c ≠ 10 ∧ z1 = -1 ∧ z2 = c) ∨ (remB c = false ∧ c = 10 ∧ z1 = b ∧ z2 = 10) ∨ (remB c = false ∧ c ≠ 10 ∧ (b : Int) ≤ z1 ∧ z1 ≤ 125 ∧ z2 = c) ∨ (remB c = false ∧ c ≠ 10 ∧ (b : Int) ≤ z1 ∧ z1 ≤ 125 ∧ z2 ≠ c ∧ (z2 = 0 ∨ z2 = 1)) := by
 unfold outS at ho
 cases hr : remB c with
 | true =>
  rw [if_pos hr] at ho
  injection ho with h1 h2
  exact .inl ⟨rfl, (fun e => by rw [e] at hr; cases hr), h1.symm, h2.symm⟩
 | false =>
  rw [if_neg (by rw [hr]; decide)] at ho
  by_cases h10 : c = 10
  ·rw [if_pos h10] at ho
   injection ho with h1 h2
   exact .inr (.inl ⟨rfl, h10, h1.symm, by rw [← h2, h10]⟩)
  ·rw [if_neg h10] at ho
   have hl := h.chain.least
   have hm := h.chain.most hb
   have hov := h.chain.ov
   by_cases ho1 : (top s.es).ov = -1
   ·rw [if_pos ho1] at ho
    injection ho with h1 h2
    exact .inr (.inr (.inl ⟨rfl, h10, by omega, by omega, h2.symm⟩))
   ·rw [if_neg ho1] at ho
    injection ho with h1 h2
    by_cases hc : z2 = c
    ·exact .inr (.inr (.inl ⟨rfl, h10, by omega, by omega, hc⟩))
    ·exact .inr (.inr (.inr ⟨rfl, h10, by omega, by omega, hc, by omega⟩))
/-- What is open in an isolate, by what was open ahead of it, and how many isolates are open in it. -/
def In (s : St) (d : Nat) (s1 : St) : Prop :=
 (s.li = 0 ∧ s.ld = 0 ∧ ∃ X e, e.iso = true ∧ s1.es = X ++ e :: s.es ∧ s1.op = s.op + 1 + isos X ∧ isos X + s1.li = d) ∨ (s1.es = s.es ∧ s1.ld = s.ld ∧ s1.op = s.op ∧ s1.li = s.li + 1 + d)
theorem In.begin_ (o : Nat) (s : St) : In s 0 (beginS o s) := by
 unfold beginS
 split
 ·rename_i hf
  obtain ⟨-, h2, h3⟩ := fits_iff.1 hf
  exact .inl ⟨h2, h3, [], _, rfl, rfl, rfl, by simp [isos, h2]⟩
 ·exact .inr ⟨rfl, rfl, rfl, rfl⟩
theorem In.open_ {s s1 : St} {d : Nat} (h : In s d s1) (o : Nat) : In s (d + 1) (beginS o s1) := by
 unfold beginS
 rcases h with ⟨h1, h2, X, e, h3, h4, h5, h6⟩ | ⟨h1, h2, h3, h4⟩
 ·split
  ·refine .inl ⟨h1, h2, _ :: X, e, h3, by simp [h4]; rfl, ?_, ?_⟩
   ·simp [isos, h5]; omega
   ·simp [isos]; omega
  ·exact .inl ⟨h1, h2, X, e, h3, h4, h5, by simp; omega⟩
 ·split
  ·rename_i hf
   have := (fits_iff.1 hf).2.1
   omega
  ·exact .inr ⟨h1, h2, h3, by simp; omega⟩
theorem In.embed {s s1 : St} {d : Nat} (h : In s d s1) (o : Nat) (v : Int) : In s d (embedS o v s1) := by
 unfold embedS
 rcases h with ⟨h1, h2, X, e, h3, h4, h5, h6⟩ | ⟨h1, h2, h3, h4⟩
 ·split
  ·exact .inl ⟨h1, h2, ⟨nxt o (top s1.es).lev, v, false⟩ :: X, e, h3, by simp [push, h4], by simp [push, isos, h5], by simp [push, isos]; omega⟩
  ·split
   ·exact .inl ⟨h1, h2, X, e, h3, h4, h5, h6⟩
   ·exact .inl ⟨h1, h2, X, e, h3, h4, h5, h6⟩
 ·split
  ·rename_i hf
   have := (fits_iff.1 hf).2.1
   omega
  ·split
   ·omega
   ·exact .inr ⟨h1, h2, h3, h4⟩
theorem In.pop {s s1 : St} {d : Nat} (h : In s d s1) : In s d (popS s1) := by
 unfold popS
 rcases h with ⟨h1, h2, X, e, h3, h4, h5, h6⟩ | ⟨h1, h2, h3, h4⟩
 ·split
  ·exact .inl ⟨h1, h2, X, e, h3, h4, h5, h6⟩
  ·split
   ·exact .inl ⟨h1, h2, X, e, h3, h4, h5, h6⟩
   ·split
    ·exact .inl ⟨h1, h2, X, e, h3, h4, h5, h6⟩
    ·rename_i hn
     cases X with
     | nil =>
      rw [h4] at hn
      exact absurd (.inl h3) hn
     | cons x X =>
      rw [h4] at hn
      have hx : ¬ x.iso = true := fun e => hn (.inl e)
      refine .inl ⟨h1, h2, X, e, h3, by simp [h4], ?_, ?_⟩
      ·unfold isos at h5
       rw [if_neg hx] at h5
       exact h5
      ·unfold isos at h6
       rw [if_neg hx] at h6
       exact h6
 ·rw [if_pos (by omega)]
  exact .inr ⟨h1, h2, h3, h4⟩
theorem cut_in : ∀ (X r : List E), 0 < isos X → cutI (X ++ r) = cutI X ++ r ∧ isos (cutI X) + 1 = isos X
 | [], r, h => by simp [isos] at h
 | x :: X, r, h => by
  by_cases hx : x.iso = true
  ·simp only [List.cons_append, cutI, isos]
   rw [if_pos hx, if_pos hx, if_pos hx]
   exact ⟨rfl, rfl⟩
  ·simp only [isos] at h
   rw [if_neg hx] at h
   obtain ⟨h1, h2⟩ := cut_in X r h
   simp only [List.cons_append, cutI, isos]
   rw [if_neg hx, if_neg hx, if_neg hx]
   exact ⟨h1, h2⟩
theorem cut_off : ∀ (X r : List E) (e : E), e.iso = true → isos X = 0 → cutI (X ++ e :: r) = r
 | [], r, e, he, _ => by simp only [List.nil_append, cutI]; rw [if_pos he]
 | x :: X, r, e, he, h => by
  simp only [isos] at h
  split at h
  ·omega
  ·rename_i hx
   simp only [List.cons_append, cutI]
   rw [if_neg hx]
   exact cut_off X r e he h
theorem In.close {s s1 : St} {d : Nat} (h : In s (d + 1) s1) : In s d (endS s1) := by
 unfold endS
 rcases h with ⟨h1, h2, X, e, h3, h4, h5, h6⟩ | ⟨h1, h2, h3, h4⟩
 ·split
  ·exact .inl ⟨h1, h2, X, e, h3, h4, h5, by simp; omega⟩
  ·split
   ·omega
   ·obtain ⟨c1, c2⟩ := cut_in X (e :: s.es) (by omega)
    exact .inl ⟨h1, h2, cutI X, e, h3, by simp [h4, c1], by simp [h5]; omega, by simp; omega⟩
 ·split
  ·exact .inr ⟨h1, h2, h3, by simp; omega⟩
  ·omega
theorem In.end_ {s s1 : St} (h : In s 0 s1) : endS s1 = s := by
 unfold endS
 obtain ⟨es, li, ld, op⟩ := s
 obtain ⟨es1, li1, ld1, op1⟩ := s1
 rcases h with ⟨h1, h2, X, e, h3, h4, h5, h6⟩ | ⟨h1, h2, h3, h4⟩
 ·simp only at h1 h2 h4 h5 h6 ⊢
  have hX : isos X = 0 := by omega
  have hl : li1 = 0 := by omega
  rw [if_neg (by omega), if_neg (by omega), h4, cut_off X es e h3 hX]
  simp [h1, h2, hl, h5, hX]
 ·simp only at h1 h2 h3 h4 ⊢
  rw [if_pos (by omega)]
  simp [h1, h2, h3, h4]
theorem In.other {s s1 : St} {d : Nat} (h : In s d s1) {c : Int} (hi : isI c = false) (hp : isP c = false) (l : List Int) : In s d (openS c l (closeS c s1)) := by
 have h1 : c ≠ 19 ∧ c ≠ 20 ∧ c ≠ 21 := by simp [isI] at hi; omega
 have h2 : c ≠ 22 := by simpa [isP] using hp
 have hcl : In s d (closeS c s1) := by
  unfold closeS
  by_cases h3 : c = 18
  ·rw [if_pos h3]
   exact h.pop
  ·rw [if_neg h3, if_neg h2]
   exact h
 unfold openS
 rw [if_neg h1.2.1, if_neg h1.1, if_neg h1.2.2]
 repeat' split
 all_goals first
  | exact hcl.embed _ _
  | exact hcl
theorem initI {c : Int} (hi : isI c = true) (l : List Int) (s : St) : ∃ o, openS c l (closeS c s) = beginS o s := by
 have hcs : c = 19 ∨ c = 20 ∨ c = 21 := by simpa [isI] using hi
 rcases hcs with rfl | rfl | rfl
 ·exact ⟨_, rfl⟩
 ·exact ⟨_, rfl⟩
 ·exact ⟨_, rfl⟩
theorem closeI {c : Int} (hi : isI c = true) (s : St) : closeS c s = s := by
 have hcs : c = 19 ∨ c = 20 ∨ c = 21 := by simpa [isI] using hi
 rcases hcs with rfl | rfl | rfl <;> rfl
/-- What is open behind an isolate is what was. -/
theorem walk_inner (b : Nat) (s : St) : ∀ (zs r : List Int) (d : Nat) (s1 : St), In s d s1 → closedL zs d = true → ∃ Z, Z.length = zs.length ∧ walkL b (zs ++ 22 :: r) s1 = Z ++ outS b s 22 :: walkL b r s
 | [], r, d, s1, h, hc => by
  have hd : d = 0 := by simpa [closedL] using hc
  subst hd
  refine ⟨[], rfl, ?_⟩
  simp only [List.nil_append, walkL]
  have e1 : closeS 22 s1 = s := h.end_
  have e2 : openS 22 r s = s := rfl
  rw [e1, e2]
 | c :: zs, r, d, s1, h, hc => by
  simp only [closedL] at hc
  simp only [List.cons_append, walkL]
  by_cases hi : isI c = true
  ·rw [if_pos hi] at hc
   obtain ⟨o, ho⟩ := initI hi (zs ++ 22 :: r) s1
   rw [ho]
   obtain ⟨Z, h1, h2⟩ := walk_inner b s zs r (d + 1) _ (h.open_ o) hc
   exact ⟨_ :: Z, by simp [h1], by rw [h2]; rfl⟩
  ·rw [if_neg hi] at hc
   by_cases hp : isP c = true
   ·rw [if_pos hp] at hc
    cases d with
    | zero => cases hc
    | succ d =>
     have hc22 : c = 22 := by simpa [isP] using hp
     subst hc22
     obtain ⟨Z, h1, h2⟩ := walk_inner b s zs r d (openS 22 (zs ++ 22 :: r) (closeS 22 s1)) h.close hc
     exact ⟨_ :: Z, by simp [h1], by rw [h2]; rfl⟩
   ·rw [if_neg hp] at hc
    obtain ⟨Z, h1, h2⟩ := walk_inner b s zs r d _ (h.other (by simpa using hi) (by simpa using hp) (zs ++ 22 :: r)) hc
    exact ⟨_ :: Z, by simp [h1], by rw [h2]; rfl⟩
/-- An isolate, with something in it and without. -/
theorem walk_isolate (b : Nat) (s : St) (z : Int) (hz : isI z = true) (zs r : List Int) (hc : closedL zs 0 = true) : ∃ Z, Z.length = zs.length ∧ walkL b (z :: (zs ++ 22 :: r)) s = outS b s z :: (Z ++ outS b s 22 :: walkL b r s) := by
 simp only [walkL]
 obtain ⟨o, ho⟩ := initI hz (zs ++ 22 :: r) s
 rw [ho, closeI hz]
 obtain ⟨Z, h1, h2⟩ := walk_inner b s zs r 0 _ (In.begin_ o s) hc
 exact ⟨Z, h1, by rw [h2]⟩
end Go.Proofs.YtfclpecbnailgaaGreat.Lv

/-
 Sequences, plainly: kept places, what comes next in a sequence, runs, what is told of sequences; one answer alone is told so; how runs are made place by place. No program in it.
-/
set_option linter.unusedVariables false
namespace Go.Proofs.YtfclpecbnailgaaGreat.Sq
open Go.Proofs.YtfclpecbnailgaaGreat.Ba
/-- A run, or a sequence: three numbers, and places. -/
structure S4 where
 a : Int
 b : Int
 c : Int
 p : List Nat
/-- The level of a place; -1: it has none. -/
def L (z : List Int) (i : Nat) : Int := z.getD i (-1)
theorem L_lt {z : List Int} {i : Nat} (h : L z i ≠ -1) : i < z.length := by
 apply Classical.byContradiction
 intro hn
 exact h (by simp [L, List.getD, List.getElem?_eq_none (Nat.le_of_not_lt hn)])
theorem L_at {z : List Int} {i : Nat} (h : i < z.length) : L z i = z[i] := by simp [L, List.getD, List.getElem?_eq_getElem h]
/-- The kept place ahead of a place. -/
def dn (z : List Int) : Nat → Option Nat
 | 0 => none
 | i + 1 => if L z i = -1 then dn z i else some i
/-- The first kept place from a place on. -/
def up (z : List Int) (i : Nat) : Option Nat :=
 if i < z.length then (if L z i = -1 then up z (i + 1) else some i) else none
termination_by z.length - i
theorem dn_some {z : List Int} : ∀ {i j : Nat}, dn z i = some j → j < i ∧ L z j ≠ -1 ∧ ∀ k, j < k → k < i → L z k = -1
 | 0, j, h => by simp [dn] at h
 | i + 1, j, h => by
  unfold dn at h
  split at h
  ·rename_i h0
   obtain ⟨h1, h2, h3⟩ := dn_some h
   refine ⟨by omega, h2, fun k hk hki => ?_⟩
   by_cases e : k = i
   ·rw [e]; exact h0
   ·exact h3 k hk (by omega)
  ·rename_i h0
   injection h with h
   subst h
   exact ⟨by omega, h0, fun k hk hki => by omega⟩
theorem dn_none {z : List Int} : ∀ {i : Nat}, dn z i = none → ∀ k, k < i → L z k = -1
 | 0, h, k, hk => by omega
 | i + 1, h, k, hk => by
  unfold dn at h
  split at h
  ·rename_i h0
   by_cases e : k = i
   ·rw [e]; exact h0
   ·exact dn_none h k (by omega)
  ·cases h
theorem up_some {z : List Int} : ∀ (d : Nat) {i j : Nat}, z.length - i ≤ d → up z i = some j → i ≤ j ∧ L z j ≠ -1 ∧ ∀ k, i ≤ k → k < j → L z k = -1
 | d, i, j, hd, h => by
  rw [up] at h
  split at h
  ·rename_i hi
   split at h
   ·rename_i h0
    cases d with
    | zero => omega
    | succ d =>
     obtain ⟨h1, h2, h3⟩ := up_some d (by omega) h
     refine ⟨by omega, h2, fun k hk hkj => ?_⟩
     by_cases e : k = i
     ·rw [e]; exact h0
     ·exact h3 k (by omega) hkj
   ·rename_i h0
    injection h with h
    subst h
    exact ⟨Nat.le_refl _, h0, fun k hk hkj => by omega⟩
  ·cases h
theorem up_none {z : List Int} : ∀ (d : Nat) {i : Nat}, z.length - i ≤ d → up z i = none → ∀ k, i ≤ k → L z k = -1
 | d, i, hd, h, k, hk => by
  rw [up] at h
  split at h
  ·rename_i hi
   split at h
   ·rename_i h0
    cases d with
    | zero => omega
    | succ d =>
     by_cases e : k = i
     ·rw [e]; exact h0
     ·exact up_none d (by omega) h k (by omega)
   ·cases h
  ·exact Classical.byContradiction fun hn => by have := L_lt hn; omega
theorem upS {z : List Int} {i j : Nat} (h : up z i = some j) : i ≤ j ∧ L z j ≠ -1 ∧ ∀ k, i ≤ k → k < j → L z k = -1 := up_some _ (Nat.le_refl _) h
theorem upN {z : List Int} {i : Nat} (h : up z i = none) : ∀ k, i ≤ k → L z k = -1 := up_none _ (Nat.le_refl _) h
theorem up_eq {z : List Int} {i j : Nat} (h1 : i ≤ j) (h2 : L z j ≠ -1) (h3 : ∀ k, i ≤ k → k < j → L z k = -1) : up z i = some j := by
 cases h : up z i with
 | none => exact absurd (upN h j h1) h2
 | some q =>
  obtain ⟨a, b, c⟩ := upS h
  have : q = j := by
   rcases Nat.lt_trichotomy q j with hq | hq | hq
   ·exact absurd (h3 q a hq) b
   ·exact hq
   ·exact absurd (c j h1 hq) h2
  rw [this]
theorem dn_eq {z : List Int} {i j : Nat} (h1 : j < i) (h2 : L z j ≠ -1) (h3 : ∀ k, j < k → k < i → L z k = -1) : dn z i = some j := by
 cases h : dn z i with
 | none => exact absurd (dn_none h j h1) h2
 | some q =>
  obtain ⟨a, b, c⟩ := dn_some h
  have : q = j := by
   rcases Nat.lt_trichotomy q j with hq | hq | hq
   ·exact absurd (c j hq h1) h2
   ·exact hq
   ·exact absurd (h3 q hq a) b
  rw [this]
theorem dn_up {z : List Int} {i j : Nat} (h : up z (i + 1) = some j) (hi : L z i ≠ -1) : dn z j = some i := by
 obtain ⟨a, b, c⟩ := upS h
 exact dn_eq (by omega) hi fun k h1 h2 => c k (by omega) h2
theorem up_dn {z : List Int} {i j : Nat} (h : dn z j = some i) (hj : L z j ≠ -1) : up z (i + 1) = some j := by
 obtain ⟨a, b, c⟩ := dn_some h
 exact up_eq (by omega) hj fun k h1 h2 => c k (by omega) h2
/-- Does a place begin a run? -/
def begins (z : List Int) (q : Nat) : Bool := match dn z q with
 | none => true
 | some t => decide (L z t ≠ L z q)
def jump (c z : List Int) (i : Nat) : Option Nat := if isI (c.getD i 0) = true ∧ endAt c i < c.length ∧ begins z (endAt c i) = true then some (endAt c i) else none
/-- What comes behind a place in its sequence. -/
def nextS (c z : List Int) (i : Nat) : Option Nat := match up z (i + 1) with
 | some q => if L z q = L z i then some q else jump c z i
 | none => jump c z i
theorem jump_some {c z : List Int} {i q : Nat} (h : jump c z i = some q) : isI (c.getD i 0) = true ∧ endAt c i = q ∧ q < c.length ∧ begins z q = true := by
 unfold jump at h
 split at h
 ·rename_i h0
  injection h with h
  subst h
  exact ⟨h0.1, rfl, h0.2⟩
 ·cases h
theorem nextS_cases {c z : List Int} {i q : Nat} (h : nextS c z i = some q) : (up z (i + 1) = some q ∧ L z q = L z i) ∨ (jump c z i = some q ∧ ∀ r, up z (i + 1) = some r → L z r ≠ L z i) := by
 unfold nextS at h
 cases hu : up z (i + 1) with
 | none => rw [hu] at h; exact .inr ⟨h, fun r hr => by cases hr⟩
 | some r =>
  rw [hu] at h
  dsimp only at h
  split at h
  ·rename_i h0
   injection h with h
   subst h
   exact .inl ⟨rfl, h0⟩
  ·rename_i h0
   exact .inr ⟨h, fun r' hr => by injection hr with hr; subst hr; exact h0⟩
theorem nextS_gt {c z : List Int} {i q : Nat} (h : nextS c z i = some q) : i < q := by
 rcases nextS_cases h with ⟨h1, _⟩ | ⟨h1, _⟩
 ·have := (upS h1).1; omega
 ·obtain ⟨_, h2, _, _⟩ := jump_some h1
  have := endAt_gt c i
  omega
theorem nextS_same {c z : List Int} {i q : Nat} (h : up z (i + 1) = some q) (he : L z q = L z i) : nextS c z i = some q := by
 unfold nextS
 rw [h]
 dsimp only
 rw [if_pos he]
theorem nextS_jump {c z : List Int} {i : Nat} (h : ∀ q, up z (i + 1) = some q → L z q ≠ L z i) : nextS c z i = jump c z i := by
 unfold nextS
 cases hu : up z (i + 1) with
 | none => rfl
 | some q =>
  dsimp only
  rw [if_neg (h q hu)]
def firstB (c z : List Int) (i : Nat) : Bool := (List.range i).all fun k => L z k == -1 || nextS c z k != some i
theorem firstB_iff {c z : List Int} {i : Nat} : firstB c z i = true ↔ ∀ k, k < i → L z k ≠ -1 → nextS c z k ≠ some i := by
 simp only [firstB, List.all_eq_true, List.mem_range, Bool.or_eq_true, beq_iff_eq, bne_iff_ne, ne_eq]
 constructor
 ·intro h k hk h1 h2
  rcases h k hk with h3 | h3
  ·exact h1 h3
  ·exact h3 h2
 ·intro h k hk
  by_cases h1 : L z k = -1
  ·exact .inl h1
  ·exact .inr (h k hk h1)
/-- The direction of the greater one of two levels. -/
def way (a b : Int) : Int := if (max a b).tmod 2 = 0 then 0 else 1
def ahead (lv : Int) (z : List Int) (i : Nat) : Int := match dn z i with
 | none => lv
 | some q => L z q
def behind (c : List Int) (lv : Int) (z : List Int) (i : Nat) : Int :=
 if isI (c.getD i 0) = true ∧ endAt c i = c.length then lv else match up z (i + 1) with
 | none => lv
 | some q => L z q
def isHd (c z : List Int) (i : Nat) : Bool := L z i != -1 && firstB c z i
def headsTo (c z : List Int) (k : Nat) : List Nat := (List.range k).filter (isHd c z)
def hd (l : List Nat) : Nat := l.headD 0
def lst (l : List Nat) : Nat := l.getLastD 0
theorem lst_snoc (l : List Nat) (x : Nat) : lst (l ++ [x]) = x := by simp [lst]
theorem hd_append {l : List Nat} (r : List Nat) (h : l ≠ []) : hd (l ++ r) = hd l := by cases l <;> simp_all [hd]
theorem lst_append (l : List Nat) {r : List Nat} (h : r ≠ []) : lst (l ++ r) = lst r := by
 unfold lst
 rw [List.getLastD_eq_getLast?, List.getLastD_eq_getLast?, List.getLast?_append]
 cases hr : r.getLast? with
 | none => exact absurd (List.getLast?_eq_none_iff.1 hr) h
 | some x => rfl
theorem lst_mem {l : List Nat} (h : l ≠ []) : lst l ∈ l := by
 unfold lst
 rw [List.getLastD_eq_getLast?]
 cases hr : l.getLast? with
 | none => exact absurd (List.getLast?_eq_none_iff.1 hr) h
 | some x => exact List.mem_of_getLast? hr
/-- Each comes behind the one ahead of it. -/
def Chn (c z : List Int) : List Nat → Prop
 | [] => True
 | [_] => True
 | x :: y :: l => nextS c z x = some y ∧ Chn c z (y :: l)
structure One (c z : List Int) (lv : Int) (s : S4) : Prop where
 ne : s.p ≠ []
 chn : Chn c z s.p
 fin : nextS c z (lst s.p) = none
 ea : s.a = L z (hd s.p)
 eb : s.b = way (L z (hd s.p)) (ahead lv z (hd s.p))
 ec : s.c = way (L z (hd s.p)) (behind c lv z (lst s.p))
/-- These are the sequences. -/
structure SeqsOk (c z : List Int) (lv : Int) (T : List S4) : Prop where
 heads : T.map (fun s => hd s.p) = headsTo c z z.length
 each : ∀ s ∈ T, One c z lv s
theorem chn_unique {c z : List Int} : ∀ {l l' : List Nat}, l ≠ [] → l' ≠ [] → Chn c z l → Chn c z l' → hd l = hd l' → nextS c z (lst l) = none → nextS c z (lst l') = none → l = l'
 | [], _, h, _, _, _, _, _, _ => absurd rfl h
 | _, [], _, h, _, _, _, _, _ => absurd rfl h
 | [x], [y], _, _, _, _, h, _, _ => by simp [hd] at h; rw [h]
 | [x], y :: y2 :: l', _, _, _, h2, h, h3, _ => by
  simp [hd] at h
  subst h
  simp [lst] at h3
  rw [h2.1] at h3
  cases h3
 | x :: x2 :: l, [y], _, _, h1, _, h, _, h4 => by
  simp [hd] at h
  subst h
  simp [lst] at h4
  rw [h1.1] at h4
  cases h4
 | x :: x2 :: l, y :: y2 :: l', _, _, h1, h2, h, h3, h4 => by
  simp [hd] at h
  subst h
  have e : x2 = y2 := by
   have := h1.1.symm.trans h2.1
   injection this
  have := chn_unique (l := x2 :: l) (l' := y2 :: l') (by simp) (by simp) h1.2 h2.2 (by simp [hd, e]) (by simpa [lst] using h3) (by simpa [lst] using h4)
  rw [this]
theorem One.unique {c z : List Int} {lv : Int} {s s' : S4} (h : One c z lv s) (h' : One c z lv s') (e : hd s.p = hd s'.p) : s = s' := by
 have hp := chn_unique h.ne h'.ne h.chn h'.chn e h.fin h'.fin
 have ha := h.ea
 have ha' := h'.ea
 have hb := h.eb
 have hb' := h'.eb
 have hc := h.ec
 have hc' := h'.ec
 rw [← hp] at ha' hb' hc'
 cases s
 cases s'
 simp_all
theorem SeqsOk.unique {c z : List Int} {lv : Int} {T T' : List S4} (h : SeqsOk c z lv T) (h' : SeqsOk c z lv T') : T = T' := by
 have e := h.heads.trans h'.heads.symm
 have h1 := h.each
 have h2 := h'.each
 clear h h'
 induction T generalizing T' with
 | nil => cases T' <;> simp_all
 | cons s T ih =>
  cases T' with
  | nil => simp at e
  | cons s' T' =>
   simp only [List.map_cons, List.cons.injEq] at e
   have e1 := (h1 s List.mem_cons_self).unique (h2 s' List.mem_cons_self) e.1
   rw [e1, ih e.2 (fun x hx => h1 x (List.mem_cons_of_mem _ hx)) (fun x hx => h2 x (List.mem_cons_of_mem _ hx))]
/-- The kept places from one on, below another. -/
def kf (z : List Int) (f t : Nat) : List Nat := (List.range' f (t - f)).filter fun i => L z i != -1
theorem kf_same (z : List Int) (f : Nat) : kf z f f = [] := by simp [kf]
theorem kf_step {z : List Int} {f t : Nat} (h : f ≤ t) : kf z f (t + 1) = kf z f t ++ (if L z t = -1 then [] else [t]) := by
 unfold kf
 rw [show t + 1 - f = (t - f) + 1 from by omega, List.range'_concat, List.filter_append]
 congr 1
 rw [show f + 1 * (t - f) = t from by omega]
 by_cases h0 : L z t = -1
 ·simp [h0]
 ·simp [h0]
theorem kf_mem {z : List Int} {f t k : Nat} : k ∈ kf z f t ↔ f ≤ k ∧ k < t ∧ L z k ≠ -1 := by
 simp only [kf, List.mem_filter, List.mem_range'_1, bne_iff_ne, ne_eq]
 omega
theorem kf_ne {z : List Int} {f t : Nat} (h : f < t) (hf : L z f ≠ -1) : kf z f t ≠ [] := by
 intro e
 have : f ∈ kf z f t := kf_mem.2 ⟨Nat.le_refl _, h, hf⟩
 rw [e] at this
 cases this
theorem kf_lst {z : List Int} {f t : Nat} (h : f ≤ t) (ht : L z t ≠ -1) : lst (kf z f (t + 1)) = t := by
 rw [kf_step h, if_neg ht, lst_snoc]
theorem kf_hd {z : List Int} : ∀ {d f : Nat}, L z f ≠ -1 → hd (kf z f (f + 1 + d)) = f
 | 0, f, hf => by
  rw [Nat.add_zero, kf_step (Nat.le_refl _), kf_same, if_neg hf]
  rfl
 | d + 1, f, hf => by
  rw [show f + 1 + (d + 1) = (f + 1 + d) + 1 from by omega, kf_step (by omega), hd_append _ (kf_ne (by omega) hf)]
  exact kf_hd hf
structure RunOk (c z : List Int) (lv : Int) (f t : Nat) (r : S4) : Prop where
 le : f ≤ t
 kfi : L z f ≠ -1
 kt : L z t ≠ -1
 ep : r.p = kf z f (t + 1)
 same : ∀ k, f ≤ k → k ≤ t → L z k ≠ -1 → L z k = r.a
 beg : begins z f = true
 fin : ∀ q, up z (t + 1) = some q → L z q ≠ r.a
 eb : r.b = ahead lv z f
 ec : r.c = behind c lv z t
/-- Runs, one behind the other, from a place on, to another. -/
inductive Runs (c z : List Int) (lv : Int) : Nat → Nat → List S4 → Prop
 | nil (i : Nat) : Runs c z lv i i []
 | cons {i j f t : Nat} {r : S4} {R : List S4} : up z i = some f → RunOk c z lv f t r → Runs c z lv (t + 1) j R → Runs c z lv i j (r :: R)
theorem Runs.snoc {c z : List Int} {lv : Int} {i j f t : Nat} {r : S4} {R : List S4} (h : Runs c z lv i j R) (hu : up z j = some f) (hr : RunOk c z lv f t r) : Runs c z lv i (t + 1) (R ++ [r]) := by
 induction h with
 | nil i => exact .cons hu hr (.nil _)
 | cons h1 h2 h3 ih => exact .cons h1 h2 (ih hu)
/-- Is a place one of an initiator without a PDI? -/
def opn (c : List Int) (i : Nat) : Bool := decide (isI (c.getD i 0) = true ∧ endAt c i = c.length)
/-- One place more: a run for it, if it begins one; then the place. -/
def room (c z : List Int) (lv : Int) (R : List S4) (i : Nat) : List S4 := match R.getLast? with
 | none => [⟨L z i, lv, lv, []⟩]
 | some r => if r.a = L z i then R else (if opn c (lst r.p) = true then R else R.set (R.length - 1) ⟨r.a, r.b, L z i, r.p⟩) ++ [⟨L z i, r.a, lv, []⟩]
def putIn (R : List S4) (i : Nat) : List S4 := match R.getLast? with
 | none => []
 | some r => R.set (R.length - 1) ⟨r.a, r.b, r.c, r.p ++ [i]⟩
def stepR (c z : List Int) (lv : Int) (R : List S4) (i : Nat) : List S4 := putIn (room c z lv R i) i
def runsTo (c z : List Int) (lv : Int) (l : List Nat) : List S4 := l.foldl (stepR c z lv) []
theorem putIn_snoc (R : List S4) (r : S4) (i : Nat) : putIn (R ++ [r]) i = R ++ [⟨r.a, r.b, r.c, r.p ++ [i]⟩] := by
 unfold putIn
 rw [List.getLast?_concat]
 simp
theorem room_snoc (c z : List Int) (lv : Int) (R : List S4) (r : S4) (i : Nat) : room c z lv (R ++ [r]) i = if r.a = L z i then R ++ [r] else R ++ [⟨r.a, r.b, if opn c (lst r.p) = true then r.c else L z i, r.p⟩] ++ [⟨L z i, r.a, lv, []⟩] := by
 unfold room
 rw [List.getLast?_concat]
 dsimp only
 split
 ·rfl
 ·split
  ·rfl
  ·simp
/-- How runs are behind so many places. -/
def RSt (c z : List Int) (lv : Int) (i : Nat) (R : List S4) : Prop :=
 (R = [] ∧ ∀ k, k < i → L z k = -1) ∨ ∃ done r f j t, R = done ++ [r] ∧ Runs c z lv 0 j done ∧ up z j = some f ∧ f ≤ t ∧ t < i ∧ (∀ k, t < k → k < i → L z k = -1) ∧ L z f ≠ -1 ∧ L z t ≠ -1 ∧ r.p = kf z f (t + 1) ∧ (∀ k, f ≤ k → k ≤ t → L z k ≠ -1 → L z k = r.a) ∧ begins z f = true ∧ r.b = ahead lv z f ∧ r.c = lv
theorem RSt.step {c z : List Int} {lv : Int} {i : Nat} {R : List S4} (h : RSt c z lv i R) : RSt c z lv (i + 1) (if L z i = -1 then R else stepR c z lv R i) := by
 by_cases h0 : L z i = -1
 ·rw [if_pos h0]
  rcases h with ⟨h1, h2⟩ | ⟨done, r, f, j, t, h1, h2, h3, h4, h5, h6, h7⟩
  ·refine .inl ⟨h1, fun k hk => ?_⟩
   by_cases e : k = i
   ·rw [e]; exact h0
   ·exact h2 k (by omega)
  ·refine .inr ⟨done, r, f, j, t, h1, h2, h3, h4, by omega, fun k h8 h9 => ?_, h7⟩
   by_cases e : k = i
   ·rw [e]; exact h0
   ·exact h6 k h8 (by omega)
 ·rw [if_neg h0]
  rcases h with ⟨h1, h2⟩ | ⟨done, r, f, j, t, h1, h2, h3, h4, h5, h6, h7, h8, h9, h10, h11, h12, h13⟩
  ·subst h1
   have hd : dn z i = none := by
    cases hd : dn z i with
    | none => rfl
    | some q => obtain ⟨a, b, _⟩ := dn_some hd; exact absurd (h2 q a) b
   refine .inr ⟨[], ⟨L z i, lv, lv, [i]⟩, i, 0, i, rfl, .nil _, up_eq (by omega) h0 fun k _ hk => h2 k hk, Nat.le_refl _, by omega, fun k _ _ => by omega, h0, h0, ?_, fun k hk1 hk2 _ => ?_, ?_, ?_, rfl⟩
   ·rw [kf_step (Nat.le_refl _), kf_same, if_neg h0]; rfl
   ·rw [show k = i from by omega]
   ·unfold begins; rw [hd]
   ·unfold ahead; rw [hd]
  ·subst h1
   have hdn : dn z i = some t := dn_eq h5 h8 h6
   have hup : up z (t + 1) = some i := up_dn hdn h0
   unfold stepR
   rw [room_snoc]
   by_cases he : r.a = L z i
   ·rw [if_pos he, putIn_snoc]
    refine .inr ⟨done, _, f, j, i, rfl, h2, h3, by omega, by omega, fun k _ _ => by omega, h7, h0, ?_, fun k hk1 hk2 hk3 => ?_, h11, h12, h13⟩
    ·show r.p ++ [i] = _
     have hk : ∀ d, t + 1 + d ≤ i → kf z f (t + 1 + d) = kf z f (t + 1) := by
      intro d
      induction d with
      | zero => intro _; rfl
      | succ d ih =>
       intro hd
       rw [show t + 1 + (d + 1) = (t + 1 + d) + 1 from by omega, kf_step (by omega), if_pos (h6 _ (by omega) (by omega)), List.append_nil]
       exact ih (by omega)
     have hk' := hk (i - (t + 1)) (by omega)
     rw [show t + 1 + (i - (t + 1)) = i from by omega] at hk'
     rw [kf_step (by omega), if_neg h0, hk', h9]
    ·show L z k = r.a
     by_cases hkt : k ≤ t
     ·exact h10 k hk1 hkt hk3
     ·by_cases e : k = i
      ·rw [e, he]
      ·exact absurd (h6 k (by omega) (by omega)) hk3
   ·rw [if_neg he, putIn_snoc]
    have hrt : L z t = r.a := h10 t h4 (Nat.le_refl _) h8
    have hl : lst r.p = t := by rw [h9]; exact kf_lst h4 h8
    refine .inr ⟨_, _, i, t + 1, i, rfl, h2.snoc h3 (t := t) (r := ⟨r.a, r.b, if opn c (lst r.p) = true then r.c else L z i, r.p⟩) ⟨h4, h7, h8, h9, h10, h11, fun q hq => ?_, h12, ?_⟩, hup, Nat.le_refl _, by omega, fun k _ _ => by omega, h0, h0, ?_, fun k hk1 hk2 _ => ?_, ?_, ?_, rfl⟩
    ·rw [hup] at hq
     injection hq with hq
     subst hq
     exact fun e => he e.symm
    ·show (if opn c (lst r.p) = true then r.c else L z i) = _
     rw [hl]
     unfold behind opn
     by_cases ho : isI (c.getD t 0) = true ∧ endAt c t = c.length
     ·rw [if_pos (by simpa using ho), if_pos ho, h13]
     ·rw [if_neg (by simpa using ho), if_neg ho, hup]
    ·show [] ++ [i] = _
     rw [kf_step (Nat.le_refl _), kf_same, if_neg h0]
    ·show L z k = L z i
     rw [show k = i from by omega]
    ·unfold begins
     rw [hdn]
     simp only [decide_eq_true_eq, ne_eq]
     rw [hrt]
     exact he
    ·show r.a = _
     unfold ahead
     rw [hdn]
     exact hrt.symm
theorem runsTo_st (c z : List Int) (lv : Int) : ∀ (i : Nat), RSt c z lv i (runsTo c z lv (kf z 0 i))
 | 0 => .inl ⟨by simp [kf_same, runsTo], fun k hk => by omega⟩
 | i + 1 => by
  have h := (runsTo_st c z lv i).step
  have e : runsTo c z lv (kf z 0 (i + 1)) = (if L z i = -1 then runsTo c z lv (kf z 0 i) else stepR c z lv (runsTo c z lv (kf z 0 i)) i) := by
   rw [kf_step (Nat.zero_le _)]
   split
   ·rw [List.append_nil]
   ·unfold runsTo; rw [List.foldl_append]; rfl
  rw [e]
  exact h
/-- The kept places. -/
def kept (z : List Int) : List Nat := kf z 0 z.length
/-- All runs, in order. -/
def runsL (c z : List Int) (lv : Int) : List S4 := runsTo c z lv (kept z)
theorem runsL_ok (c z : List Int) (lv : Int) : ∃ j, Runs c z lv 0 j (runsL c z lv) ∧ up z j = none := by
 have hN : ∀ {j}, (∀ k, j ≤ k → L z k = -1) → up z j = none := fun {j} h => by
  cases hu : up z j with
  | none => rfl
  | some q => obtain ⟨a, b, _⟩ := upS hu; exact absurd (h q a) b
 have hbig : ∀ k, z.length ≤ k → L z k = -1 := fun k hk => Classical.byContradiction fun hn => by have := L_lt hn; omega
 rcases runsTo_st c z lv z.length with ⟨h1, h2⟩ | ⟨done, r, f, j, t, h1, h2, h3, h4, h5, h6, h7, h8, h9, h10, h11, h12, h13⟩
 ·refine ⟨0, ?_, hN fun k _ => ?_⟩
  ·show Runs c z lv 0 0 (runsTo c z lv (kf z 0 z.length))
   rw [h1]
   exact .nil _
  ·by_cases hk : k < z.length
   ·exact h2 k hk
   ·exact hbig k (by omega)
 ·have hn : up z (t + 1) = none := hN fun k hk => by
   by_cases hkl : k < z.length
   ·exact h6 k (by omega) hkl
   ·exact hbig k (by omega)
  refine ⟨t + 1, ?_, hn⟩
  show Runs c z lv 0 (t + 1) (runsTo c z lv (kf z 0 z.length))
  rw [h1]
  refine h2.snoc h3 ⟨h4, h7, h8, h9, h10, h11, fun q hq => (by rw [hn] at hq; cases hq), h12, ?_⟩
  rw [h13]
  unfold behind
  rw [hn]
  split <;> rfl
end Go.Proofs.YtfclpecbnailgaaGreat.Sq
