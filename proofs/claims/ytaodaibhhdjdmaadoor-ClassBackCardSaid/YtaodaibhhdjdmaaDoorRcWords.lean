/-
  Plain facts on the words of a text: what stands between its blanks, byte by byte, is what the library's Split cuts.
-/
import Derived.Test.YtaodaibhhdjdmaaDoorClRead
set_option linter.unusedVariables false
namespace Go.Proofs.YtaodaibhhdjdmaaDoor.Rc
open Go.RowKit Go.Lib Go.Proofs.YtaodaibhhdjdmaaDoor.Cl

/-- Bytes put ahead of the first word. -/
def headPre (a : List UInt8) : List (List UInt8) → List (List UInt8)
  | [] => [a]
  | x :: r => (a ++ x) :: r
/-- The words of bytes, between blanks. -/
def wordsR : List UInt8 → List (List UInt8)
  | [] => [[]]
  | b :: l => if b = 32 then [] :: wordsR l else headPre [b] (wordsR l)
theorem wordsR_ne (l : List UInt8) : wordsR l ≠ [] := by
  cases l with
  | nil => simp [wordsR]
  | cons b l =>
    unfold wordsR
    split
    · simp
    · cases wordsR l <;> simp [headPre]
theorem headPre_nil {l : List (List UInt8)} (h : l ≠ []) : headPre [] l = l := by
  cases l with
  | nil => exact absurd rfl h
  | cons x r => rfl
theorem headPre_app (a b : List UInt8) (l : List (List UInt8)) (h : l ≠ []) : headPre a (headPre b l) = headPre (a ++ b) l := by
  cases l with
  | nil => exact absurd rfl h
  | cons x r => simp [headPre]
theorem wordsR_blank {l : List UInt8} {i : Nat} (hi : i < l.length) (hb : l[i] = 32) : wordsR (l.drop i) = [] :: wordsR (l.drop (i + 1)) := by
  rw [List.drop_eq_getElem_cons hi, hb, wordsR, if_pos rfl]
theorem wordsR_other {l : List UInt8} {i : Nat} (hi : i < l.length) (hb : l[i] ≠ 32) : wordsR (l.drop i) = headPre [l[i]] (wordsR (l.drop (i + 1))) := by
  rw [List.drop_eq_getElem_cons hi, wordsR, if_neg hb]

theorem index_head (l : List UInt8) (c : UInt8) : index (c :: l) [c] = 0 := by rw [index]; simp [List.isPrefixOf]
theorem index_next (l : List UInt8) (b c : UInt8) (h : b ≠ c) : index (b :: l) [c] = if index l [c] == -1 then -1 else index l [c] + 1 := by
  have hp : ([c] : List UInt8).isPrefixOf (b :: l) = false := by simp [List.isPrefixOf, Ne.symm h]
  rw [index, hp]; simp
theorem splitK_miss (sep : List UInt8) (k : Nat) (s : List UInt8) (h : index s sep = -1) : splitK sep 0 k s = [s] := by
  cases k with
  | zero => rfl
  | succ k => unfold splitK; rw [if_pos (beq_iff_eq.2 h)]
theorem splitK_hit (sep : List UInt8) (k : Nat) (s : List UInt8) (i : Nat) (h : index s sep = i) : splitK sep 0 (k + 1) s = s.take i :: splitK sep 0 k (s.drop (i + sep.length)) := by
  have hm : ¬ (index s sep == -1) = true := fun e => by have := beq_iff_eq.1 e; omega
  have e : (index s sep).toNat = i := by omega
  rw [splitK, if_neg hm, e, Nat.add_zero]
theorem split_words : ∀ l : List UInt8, splitK [32] 0 (count l [32]) l = wordsR l
  | [] => by rw [count_one]; rfl
  | b :: l => by
    have ih := split_words l
    by_cases hb : b = 32
    · subst hb
      rw [count_cons_eq, Nat.add_comm, splitK_hit [32] _ _ 0 (index_head l 32), wordsR, if_pos rfl, ← ih]
      rfl
    · rw [count_cons_ne _ _ _ hb, wordsR, if_neg hb, ← ih]
      by_cases hm : index l [32] = -1
      · rw [splitK_miss _ _ _ hm, splitK_miss _ _ _ (by rw [index_next _ _ _ hb, if_pos (beq_iff_eq.2 hm)])]
        rfl
      · have hge := index_ge l [32]
        obtain ⟨j, hj⟩ : ∃ j : Nat, index l [32] = j := ⟨(index l [32]).toNat, by omega⟩
        have hix : index (b :: l) [32] = ((j + 1 : Nat) : Int) := by rw [index_next _ _ _ hb, if_neg (fun e => hm (beq_iff_eq.1 e)), hj]; omega
        rw [count_hit (by simp) hj, Nat.add_comm, splitK_hit _ _ _ _ hj, splitK_hit _ _ _ _ hix]
        rfl

def mkB (l : List UInt8) : ByteArray := ⟨l.toArray⟩
theorem mkB_data (s : ByteArray) : mkB s.data.toList = s := rfl
theorem words_are (s : ByteArray) : wordsOf s = (wordsR s.data.toList).map mkB := by
  have h := splitB_data Cl.blank 0 (countB s Cl.blank) s
  have e : countB s Cl.blank = count s.data.toList [32] := rfl
  have h2 : (wordsOf s).map (·.data.toList) = wordsR s.data.toList := by
    unfold wordsOf
    rw [h, ← split_words, e]
    rfl
  rw [← h2, List.map_map]
  have : (mkB ∘ fun x : ByteArray => x.data.toList) = id := rfl
  rw [this, List.map_id]
end Go.Proofs.YtaodaibhhdjdmaaDoor.Rc
