/-
  A check, to be run, that a row is the sequences of classes; levels of a paragraph of any level. No program in it.
-/
import Derived.Test.YtehndhkcmccpmaaSqIso
import Derived.Test.YtehndhkcmccpmaaSqGoes
set_option linter.unusedVariables false
namespace Go.Proofs.Ytehndhkcmccpmaa.Sq
open Go Go.Proofs.Ytehndhkcmccpmaa.Ba Go.Proofs.Ytehndhkcmccpmaa.Lv

def upf (z : List Int) : Nat → Nat → Option Nat
  | 0, _ => none
  | d + 1, i => if L z i = -1 then upf z d (i + 1) else some i
theorem up_upf (z : List Int) : ∀ (d i : Nat), z.length - i = d → up z i = upf z d i
  | 0, i, h => by rw [up, if_neg (by omega)]; rfl
  | d + 1, i, h => by
    rw [up, if_pos (by omega)]
    simp only [upf]
    split
    · exact up_upf z d (i + 1) (by omega)
    · rfl
def nextB (c z : List Int) (i : Nat) : Option Nat := match upf z (z.length - (i + 1)) (i + 1) with
  | some q => if L z q = L z i then some q else jump c z i
  | none => jump c z i
theorem nextB_eq (c z : List Int) (i : Nat) : nextS c z i = nextB c z i := by
  unfold nextS nextB
  rw [up_upf z _ (i + 1) rfl]
  cases upf z (z.length - (i + 1)) (i + 1) <;> rfl
def firstC (c z : List Int) (i : Nat) : Bool := (List.range i).all fun k => L z k == -1 || nextB c z k != some i
theorem firstC_eq (c z : List Int) (i : Nat) : firstB c z i = firstC c z i := by
  unfold firstB firstC
  congr 1
  funext k
  rw [nextB_eq]
def headsC (c z : List Int) : List Nat := (List.range z.length).filter fun i => L z i != -1 && firstC c z i
theorem headsC_eq (c z : List Int) : headsTo c z z.length = headsC c z := by
  unfold headsTo headsC isHd
  congr 1
  funext i
  rw [firstC_eq]
def behindC (c : List Int) (lv : Int) (z : List Int) (i : Nat) : Int :=
  if isI (c.getD i 0) = true ∧ endAt c i = c.length then lv else match upf z (z.length - (i + 1)) (i + 1) with
  | none => lv
  | some q => L z q
theorem behindC_eq (c : List Int) (lv : Int) (z : List Int) (i : Nat) : behind c lv z i = behindC c lv z i := by
  unfold behind behindC
  rw [up_upf z _ (i + 1) rfl]
  cases upf z (z.length - (i + 1)) (i + 1) <;> rfl
def chnC (c z : List Int) : List Nat → Bool
  | [] => true
  | [_] => true
  | x :: y :: l => nextB c z x == some y && chnC c z (y :: l)
theorem chnC_ok {c z : List Int} : ∀ {l : List Nat}, chnC c z l = true → Chn c z l
  | [], _ => trivial
  | [_], _ => trivial
  | x :: y :: l, h => by
    simp only [chnC, Bool.and_eq_true, beq_iff_eq] at h
    exact ⟨by rw [nextB_eq]; exact h.1, chnC_ok h.2⟩
def oneC (c z : List Int) (lv : Int) (s : S4) : Bool :=
  !s.p.isEmpty && (chnC c z s.p && (nextB c z (lst s.p) == none && (s.a == L z (hd s.p) && (s.b == way (L z (hd s.p)) (ahead lv z (hd s.p)) && s.c == way (L z (hd s.p)) (behindC c lv z (lst s.p))))))
def seqsC (c z : List Int) (lv : Int) (T : List S4) : Bool := T.map (fun s => hd s.p) == headsC c z && T.all (oneC c z lv)
theorem seqsC_ok {c z : List Int} {lv : Int} {T : List S4} (h : seqsC c z lv T = true) : SeqsOk c z lv T := by
  simp only [seqsC, Bool.and_eq_true, beq_iff_eq, List.all_eq_true] at h
  refine ⟨by rw [headsC_eq]; exact h.1, fun s hs => ?_⟩
  have h2 := h.2 s hs
  simp only [oneC, Bool.and_eq_true, beq_iff_eq, Bool.not_eq_true', List.isEmpty_eq_false_iff, ne_eq] at h2
  obtain ⟨a1, a2, a3, a4, a5, a6⟩ := h2
  exact ⟨a1, chnC_ok a2, by rw [nextB_eq]; exact a3, a4, a5, by rw [behindC_eq]; exact a6⟩

theorem zOf_B (c : List Int) {b : Nat} (hb : b ≤ 1) : zOf c (b : Int) = zB c b := by
  rcases Nat.eq_zero_or_pos b with rfl | h
  · unfold zOf zB
    rw [if_pos (by rfl)]
  · obtain rfl : b = 1 := by omega
    unfold zOf zB
    rw [if_neg (by omega), if_pos (by rfl)]
theorem zOf_cases (c : List Int) (x : Int) : (∃ b : Nat, b ≤ 1 ∧ x = (b : Int) ∧ zOf c x = zB c b) ∨ (x ≠ 0 ∧ x ≠ 1 ∧ zOf c x = []) := by
  by_cases h0 : x = 0
  · subst h0
    exact .inl ⟨0, by omega, rfl, zOf_B c (b := 0) (by omega)⟩
  · by_cases h1 : x = 1
    · subst h1
      exact .inl ⟨1, by omega, rfl, zOf_B c (b := 1) (by omega)⟩
    · refine .inr ⟨h0, h1, ?_⟩
      unfold zOf
      rw [if_neg h0, if_neg h1]
theorem L_nil (i : Nat) : L [] i = -1 := by simp [L]
theorem zOf_iso (c : List Int) (x : Int) : Iso c (zOf c x) := by
  rcases zOf_cases c x with ⟨b, _, _, e⟩ | ⟨_, _, e⟩
  · rw [e]; exact iso_zB c b
  · rw [e]
    intro j hk
    exact absurd (L_nil j) hk
theorem zOf_lev (c : List Int) (x : Int) (i : Nat) : L (zOf c x) i = -1 ∨ 0 ≤ L (zOf c x) i := by
  rcases zOf_cases c x with ⟨b, _, _, e⟩ | ⟨_, _, e⟩
  · rw [e]; exact zB_ok c b i
  · rw [e]; exact .inl (L_nil i)
theorem zOf_full (c : List Int) (x : Int) : (zOf c x).length = c.length ∨ zOf c x = [] := by
  rcases zOf_cases c x with ⟨b, _, _, e⟩ | ⟨_, _, e⟩
  · rw [e]; exact .inl (zB_len c b)
  · exact .inr e
theorem ex1 : SeqsOk [0, 20, 1, 22, 0] (zOf [0, 20, 1, 22, 0] 0) 0 [⟨0, 0, 0, [0, 1, 3, 4]⟩, ⟨1, 1, 1, [2]⟩] := seqsC_ok (by decide)
theorem ex2 : SeqsOk [16, 1, 18, 3] (zOf [16, 1, 18, 3] 0) 0 [⟨1, 1, 1, [1]⟩, ⟨0, 1, 0, [3]⟩] := seqsC_ok (by decide)
theorem ex3 : SeqsOk [0, 19, 3] (zOf [0, 19, 3] 1) 1 [⟨1, 1, 1, [0, 1]⟩, ⟨2, 0, 0, [2]⟩] := seqsC_ok (by decide)
theorem ex4 : SeqsOk [9] (zOf [9] 0) 0 [] := seqsC_ok (by decide)
theorem ex5 : SeqsOk [0] (zOf [0] 2) 2 [] := seqsC_ok (by decide)
end Go.Proofs.Ytehndhkcmccpmaa.Sq
