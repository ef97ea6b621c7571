/-
  Plain mathematics, no program in it: the text of numbers is valid and is split into their code points; a valid text is the text of its runes' numbers; unlike code points make unlike texts.
-/
import Derived.Test.YtlipcabfjikmkaaRnCut
import Derived.Test.YtlipcabfjikmkaaRnText
set_option linter.unusedVariables false
namespace Go.Proofs.Ytlipcabfjikmkaa.Rn
open Go.Lib

theorem fitZ_point (z : Int) : isPoint (fitZ z) = true := by
  unfold fitZ
  split
  · assumption
  · decide
theorem textB_cons (z : Int) (zs : List Int) : textB (z :: zs) = Lib.encodeRune (fitZ z) ++ textB zs := by simp [textB]
theorem encode_ne (r : Int) : Lib.encodeRune r ≠ [] := by
  intro e
  have := (Lib.encodeRuneZ_length r).1
  have h2 : (Lib.encodeRune r).length = (Lib.encodeRuneZ r).length := by simp [Lib.encodeRune]
  rw [e] at h2
  simp at h2
  omega
theorem split_text_cons (z : Int) (zs : List Int) (a : Nat) : splitA (textB (z :: zs)) a = (a, (Lib.encodeRune (fitZ z)).length, (fitZ z).toNat) :: splitA (textB zs) (a + (Lib.encodeRune (fitZ z)).length) := by
  rw [textB_cons, splitA_step (by simp [encode_ne]), dec_encode _ (fitZ_point z)]
  simp
theorem split_text : ∀ (zs : List Int) (a : Nat), (splitA (textB zs) a).map (fun r => (r.2.2 : Int)) = zs.map fitZ
  | [], a => by simp [textB, splitA_nil]
  | z :: zs, a => by
    have := (fitZ_range z).1
    rw [split_text_cons, List.map_cons, split_text zs, List.map_cons]
    congr 1
    simp only
    omega
theorem split_text_len (zs : List Int) : (splitA (textB zs) 0).length = zs.length := by
  have := congrArg List.length (split_text zs 0)
  simpa using this
theorem split_text_at (zs : List Int) (k : Nat) (hk : k < zs.length) (hk' : k < (splitA (textB zs) 0).length) : ((splitA (textB zs) 0)[k].2.2 : Int) = fitZ zs[k] := by
  have h := split_text zs 0
  have h1 : ((splitA (textB zs) 0).map (fun r => (r.2.2 : Int)))[k]? = (zs.map fitZ)[k]? := by rw [h]
  rw [List.getElem?_map, List.getElem?_map, List.getElem?_eq_getElem hk', List.getElem?_eq_getElem hk] at h1
  simpa using h1
theorem encode_len3 (r : Int) (h : isPoint r = true) (h1 : (Lib.encodeRune r).length = 1) : r ≠ 65533 := by
  intro e
  subst e
  revert h1
  decide
theorem valid_text_all : ∀ (zs : List Int) (a : Nat), ((splitA (textB zs) a).all fun r => !oddR r) = true
  | [], a => by simp [textB, splitA_nil]
  | z :: zs, a => by
    rw [split_text_cons, List.all_cons, valid_text_all zs, Bool.and_true]
    have hr := fitZ_range z
    simp only [oddR, Bool.not_eq_true', decide_eq_false_iff_not]
    rintro ⟨h1, h2⟩
    exact encode_len3 _ (fitZ_point z) h2 (by omega)
theorem valid_text (zs : List Int) : validA (textB zs) = true := valid_text_all zs 0

/-- A valid text is the text of its runes' numbers. -/
theorem text_back : ∀ (n : Nat) (l : List UInt8) (a : Nat), l.length ≤ n → ((splitA l a).all fun r => !oddR r) = true → textB ((splitA l a).map fun r => (r.2.2 : Int)) = l
  | 0, l, a, h, _ => by
    have : l = [] := List.eq_nil_of_length_eq_zero (by omega)
    subst this
    simp [splitA_nil, textB]
  | n + 1, l, a, h, hv => by
    by_cases hl : l = []
    · subst hl
      simp [splitA_nil, textB]
    · have h1 := dec_pos l
      have h2 := dec_le hl
      rw [splitA_step hl] at hv ⊢
      rw [List.all_cons, Bool.and_eq_true] at hv
      have ho : ¬ ((dec l).1 = 65533 ∧ (dec l).2 = 1) := by
        have := hv.1
        simp only [oddR, Bool.not_eq_true', decide_eq_false_iff_not] at this
        exact this
      have ih := text_back n (l.drop (dec l).2) (a + (dec l).2) (by rw [List.length_drop]; omega) hv.2
      rw [List.map_cons, textB_cons, ih]
      have hp := dec_point hl ho
      have hf : fitZ ((dec l).1 : Int) = ((dec l).1 : Int) := by simp [fitZ, hp]
      dsimp only
      rw [hf, dec_bytes hl ho, List.take_append_drop]

theorem textB_fit (zs ys : List Int) (h : zs.map fitZ = ys.map fitZ) : textB zs = textB ys := by
  have e : ∀ l : List Int, textB l = (l.map fitZ).flatMap Lib.encodeRune := fun l => by simp [textB, List.flatMap_map]
  rw [e, e, h]
theorem textB_inj (zs ys : List Int) (h : textB zs = textB ys) : zs.map fitZ = ys.map fitZ := by
  rw [← split_text zs 0, ← split_text ys 0, h]

/-- Are two rows the same, as far as their first k numbers go? -/
def sameK (zs ys : List Int) (k : Nat) : Bool := decide (zs.length = ys.length) && decide ((zs.take k).map fitZ = (ys.take k).map fitZ)
theorem sameK_next (zs ys : List Int) (k : Nat) (hk : k < zs.length) (hk' : k < ys.length) (h : sameK zs ys k = true) : sameK zs ys (k + 1) = (fitZ zs[k] == fitZ ys[k]) := by
  simp only [sameK, Bool.and_eq_true, decide_eq_true_eq] at h
  obtain ⟨h1, h2⟩ := h
  unfold sameK
  rw [List.take_succ_eq_append_getElem hk, List.take_succ_eq_append_getElem hk', List.map_append, List.map_append, h2, Bool.eq_iff_iff]
  simp [h1]
theorem sameK_end (zs ys : List Int) (h : sameK zs ys zs.length = true) : textB zs = textB ys := by
  simp only [sameK, Bool.and_eq_true, decide_eq_true_eq] at h
  obtain ⟨h1, h2⟩ := h
  rw [List.take_length, h1, List.take_length] at h2
  exact textB_fit _ _ h2
theorem sameK_not (zs ys : List Int) (k : Nat) (h : sameK zs ys k = false) : textB zs ≠ textB ys := by
  intro e
  have hm := textB_inj _ _ e
  have hl : zs.length = ys.length := by simpa using congrArg List.length hm
  simp only [sameK, hl, decide_true, Bool.true_and, decide_eq_false_iff_not] at h
  exact h (by rw [List.map_take, List.map_take, hm])
end Go.Proofs.Ytlipcabfjikmkaa.Rn
