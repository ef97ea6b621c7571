/-
  Plain: a valid text's runes, and behind them those of what follows it.
-/
import Derived.Test.YtaodaibhhdjdmaaDoorRnCut
set_option linter.unusedVariables false
namespace Go.Proofs.YtaodaibhhdjdmaaDoor.Rn
open Go.RowKit Go.Lib

theorem split_join (m : List UInt8) : ∀ (n : Nat) (l : List UInt8) (a : Nat), l.length ≤ n → ((splitA l a).all fun r => !oddR r) = true → splitA (l ++ m) a = splitA l a ++ splitA m (a + l.length)
  | 0, l, a, hn, _ => by
    obtain rfl : l = [] := List.eq_nil_of_length_eq_zero (by omega)
    rfl
  | n + 1, l, a, hn, hv => by
    by_cases h : l = []
    · subst h; rfl
    · rw [splitA_step h a, List.all_cons, Bool.and_eq_true] at hv
      have hodd : ¬ ((dec l).1 = 65533 ∧ (dec l).2 = 1) := by
        have := hv.1
        simp only [oddR, Bool.not_eq_true', decide_eq_false_iff_not] at this
        exact this
      have hp := dec_pos l
      have hle := dec_le h
      have hby := dec_bytes h hodd
      have hpt := dec_point h hodd
      have hlen : (Lib.encodeRune ((dec l).1 : Int)).length = (dec l).2 := by rw [hby, List.length_take]; omega
      have e1 : l = Lib.encodeRune ((dec l).1 : Int) ++ l.drop (dec l).2 := by rw [hby, List.take_append_drop]
      have e2 : dec (l ++ m) = dec l := by
        have := dec_encode ((dec l).1 : Int) hpt (l.drop (dec l).2 ++ m)
        rw [← List.append_assoc, ← e1, hlen, Int.toNat_natCast] at this
        exact this
      have hne : l ++ m ≠ [] := by simp [h]
      rw [splitA_step hne a, splitA_step h a, e2, List.drop_append_of_le_length hle, split_join m n (l.drop (dec l).2) (a + (dec l).2) (by rw [List.length_drop]; omega) hv.2, List.cons_append, List.length_drop, show a + (dec l).2 + (l.length - (dec l).2) = a + l.length from by omega]
theorem split_join0 (l m : List UInt8) (hv : validA l = true) : (splitA (l ++ m) 0).map (fun r => r.2.2) = (splitA l 0).map (fun r => r.2.2) ++ (splitA m 0).map (fun r => r.2.2) := by
  rw [split_join m l.length l 0 (Nat.le_refl _) hv, List.map_append, splitA_shift m.length m 0 l.length (Nat.le_refl _), List.map_map]
  rfl
end Go.Proofs.YtaodaibhhdjdmaaDoor.Rn
