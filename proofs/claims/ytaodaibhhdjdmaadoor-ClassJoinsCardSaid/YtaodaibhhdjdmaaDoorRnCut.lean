/-
  Plain mathematics, no program in it: a text that is cut ahead of one of its runes has, in two parts, the runes ahead of the cut and those behind it.
-/
import Derived.Test.YtaodaibhhdjdmaaDoorRnPlain
set_option linter.unusedVariables false
namespace Go.Proofs.YtaodaibhhdjdmaaDoor.Rn
open Go.Lib

theorem dec_point {l : List UInt8} (hl : l ≠ []) (h : ¬ ((dec l).1 = 65533 ∧ (dec l).2 = 1)) : isPoint ((dec l).1 : Int) = true := by
  by_cases ho : okFirst l (numOf l) (nOf (l.getD 0 0).toNat)
  · have := first_yes ho
    rw [this]
    exact ho.2.1
  · have := first_no hl ho
    rw [this] at h
    exact absurd ⟨rfl, rfl⟩ h
theorem dec_bytes {l : List UInt8} (hl : l ≠ []) (h : ¬ ((dec l).1 = 65533 ∧ (dec l).2 = 1)) : Lib.encodeRune ((dec l).1 : Int) = l.take (dec l).2 := Lib.encode_decode l hl h

theorem dec_take {l : List UInt8} {m : Nat} (hl : l ≠ []) (hm : (dec l).2 ≤ m) : dec (l.take m) = dec l := by
  have h1 := dec_pos l
  have h0 : 0 < l.length := List.length_pos_iff.2 hl
  have hne : l.take m ≠ [] := by
    intro e
    have := congrArg List.length e
    rw [List.length_take, List.length_nil] at this
    omega
  have hle := dec_le hl
  by_cases ho : (dec l).1 = 65533 ∧ (dec l).2 = 1
  · by_cases ho' : (dec (l.take m)).1 = 65533 ∧ (dec (l.take m)).2 = 1
    · exact Prod.ext (ho'.1.trans ho.1.symm) (ho'.2.trans ho.2.symm)
    · exfalso
      have hb := dec_bytes hne ho'
      have hp := dec_point hne ho'
      have hl' := dec_le hne
      rw [List.length_take] at hl'
      rw [List.take_take, Nat.min_eq_left (by omega)] at hb
      have hd := dec_encode _ hp (l.drop (dec (l.take m)).2)
      rw [hb, List.take_append_drop, List.length_take, Nat.min_eq_left (by omega)] at hd
      rw [hd] at ho
      simp at ho
      exact ho' ho
  · have hb := dec_bytes hl ho
    have hp := dec_point hl ho
    have hd := dec_encode _ hp ((l.take m).drop (dec l).2)
    rw [hb] at hd
    have hx : l.take (dec l).2 = (l.take m).take (dec l).2 := by rw [List.take_take, Nat.min_eq_left hm]
    rw [hx, List.take_append_drop] at hd
    rw [hd, List.length_take, List.length_take, Nat.min_eq_left (by omega)]
    exact Prod.ext (by simp) rfl

theorem split_cut : ∀ (n : Nat) (l : List UInt8) (a k : Nat), l.length ≤ n → ∀ r, (splitA l a)[k]? = some r → ∃ m, m ≤ l.length ∧ r.1 = a + m ∧ splitA (l.take m) a = (splitA l a).take k ∧ splitA (l.drop m) (a + m) = (splitA l a).drop k
  | 0, l, a, k, h, r, hr => by
    have : l = [] := List.eq_nil_of_length_eq_zero (by omega)
    subst this
    simp [splitA_nil] at hr
  | n + 1, l, a, k, h, r, hr => by
    by_cases hl : l = []
    · subst hl
      simp [splitA_nil] at hr
    · have h1 := dec_pos l
      have h2 := dec_le hl
      rw [splitA_step hl] at hr ⊢
      cases k with
      | zero =>
        simp at hr
        subst hr
        exact ⟨0, Nat.zero_le _, rfl, by simp [splitA_nil], by simp [splitA_step hl]⟩
      | succ k =>
        obtain ⟨m, hm, hr1, ht, hd⟩ := split_cut n (l.drop (dec l).2) (a + (dec l).2) k (by rw [List.length_drop]; omega) r (by simpa using hr)
        rw [List.length_drop] at hm
        refine ⟨(dec l).2 + m, by omega, by omega, ?_, ?_⟩
        · have hdt := dec_take (m := (dec l).2 + m) hl (by omega)
          have hne : l.take ((dec l).2 + m) ≠ [] := by
            intro e
            have h0 : 0 < l.length := List.length_pos_iff.2 hl
            have := congrArg List.length e
            rw [List.length_take, List.length_nil] at this
            omega
          rw [splitA_step hne, hdt, List.take_succ_cons, ← ht]
          congr 1
          rw [List.drop_take]
          congr 1
          congr 1
          omega
        · rw [List.drop_succ_cons, ← hd, List.drop_drop]
          congr 1
          omega

/-- Both parts of a cut text, in the places of their own. -/
theorem split_cut0 (l : List UInt8) (k : Nat) (r : Nat × Nat × Nat) (hr : (splitA l 0)[k]? = some r) :
    r.1 ≤ l.length ∧ splitA (l.take r.1) 0 = (splitA l 0).take k ∧ (splitA (l.drop r.1) 0).map (fun x => (x.1 + r.1, x.2)) = (splitA l 0).drop k := by
  obtain ⟨m, hm, hr1, ht, hd⟩ := split_cut l.length l 0 k (Nat.le_refl _) r hr
  rw [Nat.zero_add] at hr1 hd
  subst hr1
  refine ⟨hm, ht, ?_⟩
  rw [← hd]
  have := splitA_shift (l.drop r.1).length (l.drop r.1) 0 r.1 (Nat.le_refl _)
  rw [Nat.zero_add] at this
  exact this.symm
end Go.Proofs.YtaodaibhhdjdmaaDoor.Rn
