/-
  Plain mathematics, no program in it: a text as its runes (place, size, code), by the model's own decoder; how it steps.
-/
import Derived.Lib.MapLaws
import Derived.Lib.RuneBytes
import Derived.Lib.Strings
set_option linter.unusedVariables false
namespace Go.Proofs.Ytikjchebffohdaa.Rn
open Go.Lib

/-- The first rune of a text: its code and its width. -/
def dec (l : List UInt8) : Nat × Nat := Lib.decodeL l

theorem dec_pos (l : List UInt8) : 1 ≤ (dec l).2 := Lib.decodeL_width l
theorem dec_code (l : List UInt8) : (dec l).1 ≤ 1114111 := Lib.decodeL_rune l
theorem dec_le {l : List UInt8} (h : l ≠ []) : (dec l).2 ≤ l.length := Lib.decodeL_le l h
theorem dec_drop (s : ByteArray) (p : Nat) : dec (s.data.toList.drop p) = Utf8.decode s p := Lib.decodeL_drop s p

/-- The runes of a text whose first byte is the a-th: place, size, code. -/
def splitF : Nat → List UInt8 → Nat → List (Nat × Nat × Nat)
  | 0, _, _ => []
  | f + 1, l, a => if l = [] then [] else (a, (dec l).2, (dec l).1) :: splitF f (l.drop (dec l).2) (a + (dec l).2)
def splitA (l : List UInt8) (a : Nat) : List (Nat × Nat × Nat) := splitF l.length l a

theorem splitF_nil (f a : Nat) : splitF f [] a = [] := by cases f <;> simp [splitF]
theorem splitF_fuel : ∀ (f g : Nat) (l : List UInt8) (a : Nat), l.length ≤ f → l.length ≤ g → splitF f l a = splitF g l a
  | 0, g, l, a, h, _ => by
    have : l = [] := List.eq_nil_of_length_eq_zero (by omega)
    subst this; rw [splitF_nil, splitF_nil]
  | f + 1, 0, l, a, _, h => by
    have : l = [] := List.eq_nil_of_length_eq_zero (by omega)
    subst this; rw [splitF_nil, splitF_nil]
  | f + 1, g + 1, l, a, hf, hg => by
    by_cases hl : l = []
    · subst hl; rw [splitF_nil, splitF_nil]
    · have := dec_pos l
      have h0 : 0 < l.length := List.length_pos_iff.2 hl
      simp only [splitF, if_neg hl]
      rw [splitF_fuel f g _ _ (by rw [List.length_drop]; omega) (by rw [List.length_drop]; omega)]
theorem splitA_nil (a : Nat) : splitA [] a = [] := rfl
theorem splitA_step {l : List UInt8} (h : l ≠ []) (a : Nat) : splitA l a = (a, (dec l).2, (dec l).1) :: splitA (l.drop (dec l).2) (a + (dec l).2) := by
  have := dec_pos l
  have h0 : 0 < l.length := List.length_pos_iff.2 h
  obtain ⟨n, hn⟩ : ∃ n, l.length = n + 1 := ⟨l.length - 1, by omega⟩
  unfold splitA
  rw [hn]
  simp only [splitF, if_neg h]
  rw [splitF_fuel n _ _ _ (by rw [List.length_drop]; omega) (Nat.le_refl _)]
theorem splitA_len : ∀ (n : Nat) (l : List UInt8) (a : Nat), l.length ≤ n → (splitA l a).length ≤ l.length
  | 0, l, a, h => by
    have : l = [] := List.eq_nil_of_length_eq_zero (by omega)
    subst this; simp [splitA_nil]
  | n + 1, l, a, h => by
    by_cases hl : l = []
    · subst hl; simp [splitA_nil]
    · have h1 := dec_pos l
      have h2 := dec_le hl
      rw [splitA_step hl]
      have := splitA_len n (l.drop (dec l).2) (a + (dec l).2) (by rw [List.length_drop]; omega)
      rw [List.length_drop] at this
      simp only [List.length_cons]
      omega

/-- Is the byte at this place an odd one, if the range over the string gave this code? -/
def oddB (l : List UInt8) (c : Int) : Bool := (c == 65533) && !Lib.hasPrefix l [239, 191, 189]
/-- Is a rune an odd byte? -/
def oddR (r : Nat × Nat × Nat) : Bool := decide (r.2.2 = 65533 ∧ r.2.1 = 1)

theorem dec_sub {l : List UInt8} (h : Lib.hasPrefix l [239, 191, 189] = true) : dec l = (65533, 3) := by
  unfold Lib.hasPrefix at h
  obtain ⟨t, rfl⟩ := List.isPrefixOf_iff_prefix.1 h
  unfold dec
  rw [Lib.decodeL_N]
  simp [Lib.decodeN]
theorem dec_sub' {l : List UInt8} (h : l ≠ []) (hc : (dec l).1 = 65533) (hw : (dec l).2 ≠ 1) : Lib.hasPrefix l [239, 191, 189] = true := by
  have he := Lib.encode_decode l h (by intro x; exact hw x.2)
  have hc' : (Lib.decodeL l).1 = 65533 := hc
  rw [hc'] at he
  have e3 : Lib.encodeRune ((65533 : Nat) : Int) = [239, 191, 189] := by decide
  rw [e3] at he
  unfold Lib.hasPrefix
  exact List.isPrefixOf_iff_prefix.2 (he ▸ List.take_prefix _ _)
theorem oddB_dec {l : List UInt8} (h : l ≠ []) (a : Nat) : oddB l ((dec l).1 : Int) = oddR (a, (dec l).2, (dec l).1) := by
  unfold oddB oddR
  rw [Bool.eq_iff_iff]
  simp only [Bool.and_eq_true, beq_iff_eq, Bool.not_eq_true', decide_eq_true_eq]
  constructor
  · rintro ⟨h1, h2⟩
    have h1' : (dec l).1 = 65533 := by omega
    refine ⟨h1', ?_⟩
    by_cases hw : (dec l).2 = 1
    · exact hw
    · rw [dec_sub' h h1' hw] at h2; cases h2
  · rintro ⟨h1, h2⟩
    refine ⟨by omega, ?_⟩
    cases hp : Lib.hasPrefix l [239, 191, 189]
    · rfl
    · rw [dec_sub hp] at h2; cases h2
theorem size_dec {l : List UInt8} (h : l ≠ []) : (if oddB l ((dec l).1 : Int) then (1 : Int) else Lib.runeLen ((dec l).1 : Int)) = ((dec l).2 : Int) := by
  by_cases hc : (dec l).1 = 65533
  · cases hp : Lib.hasPrefix l [239, 191, 189]
    · have hw : (dec l).2 = 1 := by
        by_cases hw : (dec l).2 = 1
        · exact hw
        · rw [dec_sub' h hc hw] at hp; cases hp
      rw [hw, hc]
      simp [oddB, hp]
    · rw [dec_sub hp]
      simp [oddB, hp, Lib.runeLen]
  · rw [if_neg (by simp [oddB]; intro h; omega)]
    exact Lib.runeLen_decode l hc

/-- Has a text no odd byte? -/
def validA (l : List UInt8) : Bool := (splitA l 0).all fun r => !oddR r
theorem splitA_shift : ∀ (n : Nat) (l : List UInt8) (a b : Nat), l.length ≤ n → splitA l (a + b) = (splitA l a).map fun r => (r.1 + b, r.2)
  | 0, l, a, b, h => by
    have : l = [] := List.eq_nil_of_length_eq_zero (by omega)
    subst this; simp [splitA_nil]
  | n + 1, l, a, b, h => by
    by_cases hl : l = []
    · subst hl; simp [splitA_nil]
    · have h1 := dec_pos l
      have h2 := dec_le hl
      rw [splitA_step hl, splitA_step hl a]
      rw [show a + b + (dec l).2 = a + (dec l).2 + b from by omega, splitA_shift n _ (a + (dec l).2) b (by rw [List.length_drop]; omega)]
      rfl
theorem validA_any (l : List UInt8) (a : Nat) : ((splitA l a).all fun r => !oddR r) = validA l := by
  have := splitA_shift l.length l 0 a (Nat.le_refl _)
  rw [Nat.zero_add] at this
  rw [this, List.all_map]
  rfl
theorem validA_step {l : List UInt8} (h : l ≠ []) : validA l = (!oddB l ((dec l).1 : Int) && validA (l.drop (dec l).2)) := by
  unfold validA
  rw [splitA_step h, List.all_cons, oddB_dec h 0, validA_any, validA]

theorem dec_le4 (l : List UInt8) : (dec l).2 ≤ 4 := by
  unfold dec
  rw [Lib.decodeL_N]
  rcases Lib.decodeN_shape l.length (l.getD 0 0).toNat (l.getD 1 0).toNat (l.getD 2 0).toNat (l.getD 3 0).toNat with ⟨_, e⟩ | ⟨_, _, _, _, e⟩ | ⟨_, _, _, _, _, _, e⟩ | ⟨_, _, _, _, _, _, _, e⟩ | e
  all_goals (rw [e]; dsimp only; omega)

/-- Runes that follow one another without a gap, from a to b, each of one to four bytes. -/
def Chain : List (Nat × Nat × Nat) → Nat → Nat → Prop
  | [], a, b => a = b
  | r :: rs, a, b => r.1 = a ∧ 1 ≤ r.2.1 ∧ r.2.1 ≤ 4 ∧ r.2.2 ≤ 1114111 ∧ Chain rs (a + r.2.1) b
theorem chain_split : ∀ (n : Nat) (l : List UInt8) (a : Nat), l.length ≤ n → Chain (splitA l a) a (a + l.length)
  | 0, l, a, h => by
    have : l = [] := List.eq_nil_of_length_eq_zero (by omega)
    subst this; simp [splitA_nil, Chain]
  | n + 1, l, a, h => by
    by_cases hl : l = []
    · subst hl; simp [splitA_nil, Chain]
    · have h1 := dec_pos l
      have h2 := dec_le hl
      rw [splitA_step hl]
      have := chain_split n (l.drop (dec l).2) (a + (dec l).2) (by rw [List.length_drop]; omega)
      rw [List.length_drop, show a + (dec l).2 + (l.length - (dec l).2) = a + l.length from by omega] at this
      exact ⟨rfl, h1, dec_le4 l, dec_code l, this⟩
theorem chain_le : ∀ (rs : List (Nat × Nat × Nat)) (a b : Nat), Chain rs a b → a ≤ b
  | [], a, b, h => by simp [Chain] at h; omega
  | r :: rs, a, b, h => by
    have := chain_le rs _ _ h.2.2.2.2
    omega
/-- At its k-th rune. -/
theorem chain_at {rs : List (Nat × Nat × Nat)} {k a b : Nat} (h : Chain (rs.drop k) a b) (hk : k < rs.length) : rs[k].1 = a ∧ 1 ≤ rs[k].2.1 ∧ rs[k].2.1 ≤ 4 ∧ rs[k].2.2 ≤ 1114111 ∧ Chain (rs.drop (k + 1)) (a + rs[k].2.1) b := by
  rw [List.drop_eq_getElem_cons hk] at h
  exact h
theorem chain_end {rs : List (Nat × Nat × Nat)} {k a b : Nat} (h : Chain (rs.drop k) a b) (hk : rs.length ≤ k) : a = b := by
  rw [List.drop_of_length_le hk] at h
  exact h
/-- The document's test: is a number a code point? -/
def isPoint (c : Int) : Bool := decide ((0 ≤ c ∧ c < 0xD800) ∨ (0xDFFF < c ∧ c ≤ 0x10FFFF))
/-- A number as a code point: FFFD for what is none. -/
def fitZ (c : Int) : Int := if isPoint c then c else 65533

theorem isPoint_iff (c : Int) : isPoint c = true ↔ ((0 ≤ c ∧ c < 0xD800) ∨ (0xDFFF < c ∧ c ≤ 0x10FFFF)) := by simp [isPoint]

/-- The bytes of a code point, whatever stands behind them, are read as it. -/
theorem dec_encode (c : Int) (h : isPoint c = true) (t : List UInt8) : dec (Lib.encodeRune c ++ t) = (c.toNat, (Lib.encodeRune c).length) := by
  rw [isPoint_iff] at h
  unfold dec
  rw [Lib.decodeL_N]
  unfold Lib.encodeRune
  by_cases h1 : c < 128
  · rw [Lib.encodeRuneZ_one (by omega) (by omega)]
    simp only [List.map_cons, List.map_nil, List.cons_append, List.nil_append, List.getD_cons_zero, List.length_cons]
    have e0 : c.toNat.toUInt8.toNat = c.toNat := by simp; omega
    rw [e0, Lib.decodeN_ascii _ _ _ _ _ (by omega)]
    rfl
  · by_cases h2 : c < 2048
    · rw [Lib.encodeRuneZ_two (by omega) (by omega)]
      simp only [List.map_cons, List.map_nil, List.cons_append, List.nil_append, List.getD_cons_zero, List.getD_cons_succ, List.length_cons]
      have e0 : (192 + c / 64).toNat.toUInt8.toNat = (192 + c / 64).toNat := by simp; omega
      have e1 : (128 + c % 64).toNat.toUInt8.toNat = (128 + c % 64).toNat := by simp; omega
      rw [e0, e1]
      unfold Lib.decodeN
      rw [if_neg (by omega), if_pos ⟨by omega, by omega, by omega⟩, if_pos (by omega)]
      simp only [List.length_nil]
      refine Prod.ext ?_ rfl
      dsimp only
      omega
    · by_cases h3 : c < 65536
      · rw [Lib.encodeRuneZ_three (by omega)]
        simp only [List.map_cons, List.map_nil, List.cons_append, List.nil_append, List.getD_cons_zero, List.getD_cons_succ, List.length_cons]
        have e0 : (224 + c / 4096).toNat.toUInt8.toNat = (224 + c / 4096).toNat := by simp; omega
        have e1 : (128 + c / 64 % 64).toNat.toUInt8.toNat = (128 + c / 64 % 64).toNat := by simp; omega
        have e2 : (128 + c % 64).toNat.toUInt8.toNat = (128 + c % 64).toNat := by simp; omega
        rw [e0, e1, e2]
        unfold Lib.decodeN
        rw [if_neg (by omega), if_neg (by omega), if_pos ⟨by omega, ⟨by omega, by omega⟩, by omega, by omega⟩, if_pos (by omega)]
        simp only [List.length_nil]
        refine Prod.ext ?_ rfl
        dsimp only
        omega
      · rw [Lib.encodeRuneZ_four (by omega) (by omega)]
        simp only [List.map_cons, List.map_nil, List.cons_append, List.nil_append, List.getD_cons_zero, List.getD_cons_succ, List.length_cons]
        have e0 : (240 + c / 262144).toNat.toUInt8.toNat = (240 + c / 262144).toNat := by simp; omega
        have e1 : (128 + c / 4096 % 64).toNat.toUInt8.toNat = (128 + c / 4096 % 64).toNat := by simp; omega
        have e2 : (128 + c / 64 % 64).toNat.toUInt8.toNat = (128 + c / 64 % 64).toNat := by simp; omega
        have e3 : (128 + c % 64).toNat.toUInt8.toNat = (128 + c % 64).toNat := by simp; omega
        rw [e0, e1, e2, e3]
        unfold Lib.decodeN
        rw [if_neg (by omega), if_neg (by omega), if_neg (by omega), if_pos ⟨by omega, ⟨by omega, by omega⟩, ⟨by omega, by omega⟩, by omega, by omega⟩, if_pos (by omega)]
        simp only [List.length_nil]
        refine Prod.ext ?_ rfl
        dsimp only
        omega

/-- The document's way to read a first rune: the number that the bits would be, by the first byte. -/
def accC (c : Nat) (ls : List UInt8) : Nat := ls.foldl (fun c b => 64 * c + b.toNat % 64) c
def nOf (b : Nat) : Nat := if 240 ≤ b then 4 else if 224 ≤ b then 3 else if 192 ≤ b then 2 else 1
def cOf (b : Nat) : Nat := if 240 ≤ b then b - 240 else if 224 ≤ b then b - 224 else if 192 ≤ b then b - 192 else b
def okFirst (l : List UInt8) (c n : Nat) : Prop := n ≤ l.length ∧ isPoint (c : Int) = true ∧ Lib.encodeRune (c : Int) = l.take n
def numOf (l : List UInt8) : Nat := accC (cOf (l.getD 0 0).toNat) ((l.drop 1).take (nOf (l.getD 0 0).toNat - 1))

theorem first_yes {l : List UInt8} {c n : Nat} (h : okFirst l c n) : dec l = (c, n) := by
  obtain ⟨h1, h2, h3⟩ := h
  have hl : l = Lib.encodeRune (c : Int) ++ l.drop n := by rw [h3, List.take_append_drop]
  have hn : (Lib.encodeRune (c : Int)).length = n := by rw [h3, List.length_take]; omega
  have := dec_encode (c : Int) h2 (l.drop n)
  rw [← hl, hn] at this
  simpa using this
theorem first_no {l : List UInt8} (hl : l ≠ []) (h : ¬ okFirst l (numOf l) (nOf (l.getD 0 0).toNat)) : dec l = (65533, 1) := by
  have hpos : 0 < l.length := List.length_pos_iff.2 hl
  by_cases hd : (dec l).1 = 65533 ∧ (dec l).2 = 1
  · exact Prod.ext hd.1 hd.2
  · exfalso
    apply h
    have he := Lib.encode_decode l hl hd
    have hle := dec_le hl
    change Lib.encodeRune ((dec l).1 : Int) = l.take (dec l).2 at he
    have k0 := (l.getD 0 0).toNat_lt
    have k1 := (l.getD 1 0).toNat_lt
    have k2 := (l.getD 2 0).toNat_lt
    have k3 := (l.getD 3 0).toNat_lt
    suffices hs : nOf (l.getD 0 0).toNat = (dec l).2 ∧ numOf l = (dec l).1 ∧ isPoint ((dec l).1 : Int) = true by
      rw [hs.1, hs.2.1]
      exact ⟨hle, hs.2.2, he⟩
    rw [isPoint_iff]
    unfold numOf
    unfold dec at hd ⊢
    rw [Lib.decodeL_N] at hd ⊢
    rcases Lib.decodeN_shape l.length (l.getD 0 0).toNat (l.getD 1 0).toNat (l.getD 2 0).toNat (l.getD 3 0).toNat with ⟨c, e⟩ | ⟨c1, c2, c3, cv, e⟩ | ⟨c1, c2, c3, c4, cv, cs, e⟩ | ⟨c1, c2, c3, c4, c5, cv, cw, e⟩ | e
    · rw [e]
      dsimp only
      have a1 : nOf (l.getD 0 0).toNat = 1 := by unfold nOf; rw [if_neg (by omega), if_neg (by omega), if_neg (by omega)]
      have a2 : cOf (l.getD 0 0).toNat = (l.getD 0 0).toNat := by unfold cOf; rw [if_neg (by omega), if_neg (by omega), if_neg (by omega)]
      rw [a1, a2]
      exact ⟨rfl, rfl, by omega⟩
    · rw [e]
      dsimp only
      have a1 : nOf (l.getD 0 0).toNat = 2 := by unfold nOf; rw [if_neg (by omega), if_neg (by omega), if_pos (by omega)]
      have a2 : cOf (l.getD 0 0).toNat = (l.getD 0 0).toNat - 192 := by unfold cOf; rw [if_neg (by omega), if_neg (by omega), if_pos (by omega)]
      have a3 : (l.drop 1).take 1 = [l.getD 1 0] := by
        have := Lib.takeA (l.drop 1) (by rw [List.length_drop]; omega)
        rwa [Lib.getD_dropU] at this
      rw [a1, a2, a3]
      simp only [accC, List.foldl_cons, List.foldl_nil]
      refine ⟨trivial, ?_, ?_⟩
      · omega
      · omega
    · rw [e]
      dsimp only
      have a1 : nOf (l.getD 0 0).toNat = 3 := by unfold nOf; rw [if_neg (by omega), if_pos (by omega)]
      have a2 : cOf (l.getD 0 0).toNat = (l.getD 0 0).toNat - 224 := by unfold cOf; rw [if_neg (by omega), if_pos (by omega)]
      have a3 : (l.drop 1).take 2 = [l.getD 1 0, l.getD 2 0] := by
        have := Lib.takeB (l.drop 1) (by rw [List.length_drop]; omega)
        rwa [Lib.getD_dropU, Lib.getD_dropU] at this
      rw [a1, a2, a3]
      simp only [accC, List.foldl_cons, List.foldl_nil]
      refine ⟨trivial, ?_, ?_⟩
      · omega
      · omega
    · rw [e]
      dsimp only
      have a1 : nOf (l.getD 0 0).toNat = 4 := by unfold nOf; rw [if_pos (by omega)]
      have a2 : cOf (l.getD 0 0).toNat = (l.getD 0 0).toNat - 240 := by unfold cOf; rw [if_pos (by omega)]
      have a3 : (l.drop 1).take 3 = [l.getD 1 0, l.getD 2 0, l.getD 3 0] := by
        have := Lib.takeC (l.drop 1) (by rw [List.length_drop]; omega)
        rwa [Lib.getD_dropU, Lib.getD_dropU, Lib.getD_dropU] at this
      rw [a1, a2, a3]
      simp only [accC, List.foldl_cons, List.foldl_nil]
      refine ⟨trivial, ?_, ?_⟩
      · omega
      · omega
    · rw [e] at hd
      exact absurd ⟨rfl, rfl⟩ hd

theorem accC_le (ls : List UInt8) : ∀ c : Nat, accC c ls + 1 ≤ (c + 1) * 64 ^ ls.length := by
  induction ls with
  | nil => intro c; simp [accC]
  | cons b ls ih =>
    intro c
    have h1 := ih (64 * c + b.toNat % 64)
    have h2 : (64 * c + b.toNat % 64 + 1) * 64 ^ ls.length ≤ (64 * (c + 1)) * 64 ^ ls.length := Nat.mul_le_mul_right _ (by omega)
    have h3 : (64 * (c + 1)) * 64 ^ ls.length = (c + 1) * 64 ^ (b :: ls).length := by rw [List.length_cons, Nat.pow_succ]; simp [Nat.mul_comm, Nat.mul_assoc]
    exact Nat.le_trans h1 (h3 ▸ h2)
theorem accC_bound (c : Nat) (ls : List UInt8) (hc : c ≤ 255) (hl : ls.length ≤ 3) : accC c ls ≤ 67108864 := by
  have h1 := accC_le ls c
  have h2 : (64 : Nat) ^ ls.length ≤ 64 ^ 3 := Nat.pow_le_pow_right (by omega) hl
  have h3 : (c + 1) * 64 ^ ls.length ≤ 256 * 64 ^ 3 := Nat.mul_le_mul (by omega) h2
  omega
theorem accC_snoc (c : Nat) (ls : List UInt8) (b : UInt8) : accC c (ls ++ [b]) = 64 * accC c ls + b.toNat % 64 := by simp [accC]
theorem take_next (l : List UInt8) (i : Nat) (h1 : 1 ≤ i) (h : i < l.length) : (l.drop 1).take i = (l.drop 1).take (i - 1) ++ [l[i]] := by
  have hd : i - 1 < (l.drop 1).length := by rw [List.length_drop]; omega
  have := List.take_succ_eq_append_getElem hd
  rw [show i - 1 + 1 = i from by omega] at this
  rw [this]
  congr 2
  rw [List.getElem_drop]
  congr 1
  omega
end Go.Proofs.Ytikjchebffohdaa.Rn
