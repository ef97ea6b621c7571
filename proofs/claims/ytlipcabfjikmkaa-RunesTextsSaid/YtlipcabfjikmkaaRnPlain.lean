/-
  Plain mathematics, no program in it: a text as its runes (place, size, code), by the model's own decoder; how it steps.
-/
import Derived.Lib.MapLaws
import Derived.Lib.RuneBytes
import Derived.Lib.Strings
set_option linter.unusedVariables false
namespace Go.Proofs.Ytlipcabfjikmkaa.Rn
open Go.Lib

/-- The first rune of a text: its code and its width. -/
def dec (l : List UInt8) : Nat × Nat := Lib.decodeL l

theorem dec_pos (l : List UInt8) : 1 ≤ (dec l).2 := Lib.decodeL_width l
theorem dec_code (l : List UInt8) : (dec l).1 ≤ 1114111 := Lib.decodeL_rune l
theorem dec_le {l : List UInt8} (h : l ≠ []) : (dec l).2 ≤ l.length := Lib.decodeL_le l h
theorem dec_drop (s : ByteArray) (p : Nat) : dec (s.data.toList.drop p) = Utf8.decode s p := Lib.decodeL_drop s p

/-- The runes of a text whose first byte is the a-th: place, size, code. -/
def splitF : Nat → List UInt8 → Nat → List (Nat × Nat × Nat)
  | 0, _, _ => []
  | f + 1, l, a => if l = [] then [] else (a, (dec l).2, (dec l).1) :: splitF f (l.drop (dec l).2) (a + (dec l).2)
def splitA (l : List UInt8) (a : Nat) : List (Nat × Nat × Nat) := splitF l.length l a

theorem splitF_nil (f a : Nat) : splitF f [] a = [] := by cases f <;> simp [splitF]
theorem splitF_fuel : ∀ (f g : Nat) (l : List UInt8) (a : Nat), l.length ≤ f → l.length ≤ g → splitF f l a = splitF g l a
  | 0, g, l, a, h, _ => by
    have : l = [] := List.eq_nil_of_length_eq_zero (by omega)
    subst this; rw [splitF_nil, splitF_nil]
  | f + 1, 0, l, a, _, h => by
    have : l = [] := List.eq_nil_of_length_eq_zero (by omega)
    subst this; rw [splitF_nil, splitF_nil]
  | f + 1, g + 1, l, a, hf, hg => by
    by_cases hl : l = []
    · subst hl; rw [splitF_nil, splitF_nil]
    · have := dec_pos l
      have h0 : 0 < l.length := List.length_pos_iff.2 hl
      simp only [splitF, if_neg hl]
      rw [splitF_fuel f g _ _ (by rw [List.length_drop]; omega) (by rw [List.length_drop]; omega)]
theorem splitA_nil (a : Nat) : splitA [] a = [] := rfl
theorem splitA_step {l : List UInt8} (h : l ≠ []) (a : Nat) : splitA l a = (a, (dec l).2, (dec l).1) :: splitA (l.drop (dec l).2) (a + (dec l).2) := by
  have := dec_pos l
  have h0 : 0 < l.length := List.length_pos_iff.2 h
  obtain ⟨n, hn⟩ : ∃ n, l.length = n + 1 := ⟨l.length - 1, by omega⟩
  unfold splitA
  rw [hn]
  simp only [splitF, if_neg h]
  rw [splitF_fuel n _ _ _ (by rw [List.length_drop]; omega) (Nat.le_refl _)]
theorem splitA_len : ∀ (n : Nat) (l : List UInt8) (a : Nat), l.length ≤ n → (splitA l a).length ≤ l.length
  | 0, l, a, h => by
    have : l = [] := List.eq_nil_of_length_eq_zero (by omega)
    subst this; simp [splitA_nil]
  | n + 1, l, a, h => by
    by_cases hl : l = []
    · subst hl; simp [splitA_nil]
    · have h1 := dec_pos l
      have h2 := dec_le hl
      rw [splitA_step hl]
      have := splitA_len n (l.drop (dec l).2) (a + (dec l).2) (by rw [List.length_drop]; omega)
      rw [List.length_drop] at this
      simp only [List.length_cons]
      omega

/-- Is the byte at this place an odd one, if the range over the string gave this code? -/
def oddB (l : List UInt8) (c : Int) : Bool := (c == 65533) && !Lib.hasPrefix l [239, 191, 189]
/-- Is a rune an odd byte? -/
def oddR (r : Nat × Nat × Nat) : Bool := decide (r.2.2 = 65533 ∧ r.2.1 = 1)

theorem dec_sub {l : List UInt8} (h : Lib.hasPrefix l [239, 191, 189] = true) : dec l = (65533, 3) := by
  unfold Lib.hasPrefix at h
  obtain ⟨t, rfl⟩ := List.isPrefixOf_iff_prefix.1 h
  unfold dec
  rw [Lib.decodeL_N]
  simp [Lib.decodeN]
theorem dec_sub' {l : List UInt8} (h : l ≠ []) (hc : (dec l).1 = 65533) (hw : (dec l).2 ≠ 1) : Lib.hasPrefix l [239, 191, 189] = true := by
  have he := Lib.encode_decode l h (by intro x; exact hw x.2)
  have hc' : (Lib.decodeL l).1 = 65533 := hc
  rw [hc'] at he
  have e3 : Lib.encodeRune ((65533 : Nat) : Int) = [239, 191, 189] := by decide
  rw [e3] at he
  unfold Lib.hasPrefix
  exact List.isPrefixOf_iff_prefix.2 (he ▸ List.take_prefix _ _)
theorem oddB_dec {l : List UInt8} (h : l ≠ []) (a : Nat) : oddB l ((dec l).1 : Int) = oddR (a, (dec l).2, (dec l).1) := by
  unfold oddB oddR
  rw [Bool.eq_iff_iff]
  simp only [Bool.and_eq_true, beq_iff_eq, Bool.not_eq_true', decide_eq_true_eq]
  constructor
  · rintro ⟨h1, h2⟩
    have h1' : (dec l).1 = 65533 := by omega
    refine ⟨h1', ?_⟩
    by_cases hw : (dec l).2 = 1
    · exact hw
    · rw [dec_sub' h h1' hw] at h2; cases h2
  · rintro ⟨h1, h2⟩
    refine ⟨by omega, ?_⟩
    cases hp : Lib.hasPrefix l [239, 191, 189]
    · rfl
    · rw [dec_sub hp] at h2; cases h2
theorem size_dec {l : List UInt8} (h : l ≠ []) : (if oddB l ((dec l).1 : Int) then (1 : Int) else Lib.runeLen ((dec l).1 : Int)) = ((dec l).2 : Int) := by
  by_cases hc : (dec l).1 = 65533
  · cases hp : Lib.hasPrefix l [239, 191, 189]
    · have hw : (dec l).2 = 1 := by
        by_cases hw : (dec l).2 = 1
        · exact hw
        · rw [dec_sub' h hc hw] at hp; cases hp
      rw [hw, hc]
      simp [oddB, hp]
    · rw [dec_sub hp]
      simp [oddB, hp, Lib.runeLen]
  · rw [if_neg (by simp [oddB]; intro h; omega)]
    exact Lib.runeLen_decode l hc

/-- Has a text no odd byte? -/
def validA (l : List UInt8) : Bool := (splitA l 0).all fun r => !oddR r
theorem splitA_shift : ∀ (n : Nat) (l : List UInt8) (a b : Nat), l.length ≤ n → splitA l (a + b) = (splitA l a).map fun r => (r.1 + b, r.2)
  | 0, l, a, b, h => by
    have : l = [] := List.eq_nil_of_length_eq_zero (by omega)
    subst this; simp [splitA_nil]
  | n + 1, l, a, b, h => by
    by_cases hl : l = []
    · subst hl; simp [splitA_nil]
    · have h1 := dec_pos l
      have h2 := dec_le hl
      rw [splitA_step hl, splitA_step hl a]
      rw [show a + b + (dec l).2 = a + (dec l).2 + b from by omega, splitA_shift n _ (a + (dec l).2) b (by rw [List.length_drop]; omega)]
      rfl
theorem validA_any (l : List UInt8) (a : Nat) : ((splitA l a).all fun r => !oddR r) = validA l := by
  have := splitA_shift l.length l 0 a (Nat.le_refl _)
  rw [Nat.zero_add] at this
  rw [this, List.all_map]
  rfl
theorem validA_step {l : List UInt8} (h : l ≠ []) : validA l = (!oddB l ((dec l).1 : Int) && validA (l.drop (dec l).2)) := by
  unfold validA
  rw [splitA_step h, List.all_cons, oddB_dec h 0, validA_any, validA]

theorem dec_le4 (l : List UInt8) : (dec l).2 ≤ 4 := by
  unfold dec
  rw [Lib.decodeL_N]
  rcases Lib.decodeN_shape l.length (l.getD 0 0).toNat (l.getD 1 0).toNat (l.getD 2 0).toNat (l.getD 3 0).toNat with ⟨_, e⟩ | ⟨_, _, _, _, e⟩ | ⟨_, _, _, _, _, _, e⟩ | ⟨_, _, _, _, _, _, _, e⟩ | e
  all_goals (rw [e]; dsimp only; omega)

/-- Runes that follow one another without a gap, from a to b, each of one to four bytes. -/
def Chain : List (Nat × Nat × Nat) → Nat → Nat → Prop
  | [], a, b => a = b
  | r :: rs, a, b => r.1 = a ∧ 1 ≤ r.2.1 ∧ r.2.1 ≤ 4 ∧ r.2.2 ≤ 1114111 ∧ Chain rs (a + r.2.1) b
theorem chain_split : ∀ (n : Nat) (l : List UInt8) (a : Nat), l.length ≤ n → Chain (splitA l a) a (a + l.length)
  | 0, l, a, h => by
    have : l = [] := List.eq_nil_of_length_eq_zero (by omega)
    subst this; simp [splitA_nil, Chain]
  | n + 1, l, a, h => by
    by_cases hl : l = []
    · subst hl; simp [splitA_nil, Chain]
    · have h1 := dec_pos l
      have h2 := dec_le hl
      rw [splitA_step hl]
      have := chain_split n (l.drop (dec l).2) (a + (dec l).2) (by rw [List.length_drop]; omega)
      rw [List.length_drop, show a + (dec l).2 + (l.length - (dec l).2) = a + l.length from by omega] at this
      exact ⟨rfl, h1, dec_le4 l, dec_code l, this⟩
theorem chain_le : ∀ (rs : List (Nat × Nat × Nat)) (a b : Nat), Chain rs a b → a ≤ b
  | [], a, b, h => by simp [Chain] at h; omega
  | r :: rs, a, b, h => by
    have := chain_le rs _ _ h.2.2.2.2
    omega
/-- At its k-th rune. -/
theorem chain_at {rs : List (Nat × Nat × Nat)} {k a b : Nat} (h : Chain (rs.drop k) a b) (hk : k < rs.length) : rs[k].1 = a ∧ 1 ≤ rs[k].2.1 ∧ rs[k].2.1 ≤ 4 ∧ rs[k].2.2 ≤ 1114111 ∧ Chain (rs.drop (k + 1)) (a + rs[k].2.1) b := by
  rw [List.drop_eq_getElem_cons hk] at h
  exact h
theorem chain_end {rs : List (Nat × Nat × Nat)} {k a b : Nat} (h : Chain (rs.drop k) a b) (hk : rs.length ≤ k) : a = b := by
  rw [List.drop_of_length_le hk] at h
  exact h
end Go.Proofs.Ytlipcabfjikmkaa.Rn
