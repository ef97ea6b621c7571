/-
  Proved here: what quote.Print returns of as many records of one field, of one text without what needs quotes, as make just so many bytes, and of one more.
-/
import Derived.Test.YtafpddpeffpnfaaDoorQuTidy
set_option linter.unusedVariables false
namespace Go.Proofs.YtafpddpeffpnfaaDoor.Qu
open Go Go.RowKit Go.Lib Go.Proofs.YtafpddpeffpnfaaDoor.Cv

def rep (k : Nat) (x : Bs) : List (List Bs) := List.replicate k [x]
theorem rep_num (k : Nat) (x : Bs) : (rep k x).length = k := List.length_replicate
theorem rep_snoc (k : Nat) (x : Bs) : rep (k + 1) x = rep k x ++ [[x]] := List.replicate_succ'
theorem rep_len (x : Bs) (hx : fieldW x = x) : ∀ k, (textW (rep k x)).length = k * (x.length + 2)
  | 0 => by simp [rep, textW, joinW]
  | k + 1 => by
    have ih := rep_len x hx k
    have e : rep (k + 1) x = [x] :: rep k x := List.replicate_succ
    rw [e, textW_cons, List.length_append, ih, recW_one, hx, Nat.succ_mul]
    simp
    omega
theorem rep_ok {x : Bs} (hx : fieldW x = x) (h1 : x.length ≤ 1000) {N k : Nat} (hN : N * (x.length + 2) ≤ 65536) (hk : k ≤ N + 1) : RecsOk (rep k x) := by
  have hN2 : N ≤ 65536 := by
    have : N * 1 ≤ N * (x.length + 2) := Nat.mul_le_mul_left _ (by omega)
    omega
  refine ⟨fun j hj => ?_, by rw [rep_num]; omega, fun r hr => ?_, ?_⟩
  · rw [List.length_map, rep_num] at hj
    have e : (rep k x).take j = rep j x := by
      unfold rep
      rw [List.take_replicate, show min j k = j by omega]
    rw [← List.map_take, e]
    have h := rep_len x hx j
    unfold textW at h
    rw [h]
    exact Nat.le_trans (Nat.mul_le_mul_right _ (by omega)) hN
  · obtain rfl := List.eq_of_mem_replicate hr
    refine ⟨fun j hj => ?_, by simp, fun y hy => ?_, ?_⟩
    · have : j = 0 := by simpa using hj
      subst this
      simp [joinW]
    · obtain rfl : y = x := by simpa using hy
      omega
    · rw [recW_one, hx]
      simp
      omega
  · rw [rep_len x hx]
    have : k * (x.length + 2) ≤ (N + 1) * (x.length + 2) := Nat.mul_le_mul_right _ hk
    rw [Nat.succ_mul] at this
    omega
theorem rep_bad {k : Nat} (x : Bs) (hk : 0 < k) : bad (rep k x) = false := by
  refine bad_of ?_ fun r hr => ?_
  · intro e
    have := rep_num k x
    rw [e] at this
    simp at this
    omega
  · rw [List.eq_of_mem_replicate hr]
    simp
theorem rep_just {x : Bs} (hx : fieldW x = x) {k : Nat} (hk : 0 < k) (h : k * (x.length + 2) ≤ 65536) : prT (rep k x) = textW (rep k x) ∧ prE (rep k x) = 0 := by
  have hl := rep_len x hx k
  unfold prT prE
  rw [rep_bad x hk, if_neg (by simp), if_neg (by omega), if_neg (by simp), if_neg (by omega)]
  exact ⟨rfl, rfl⟩
theorem rep_over {x : Bs} (hx : fieldW x = x) {k : Nat} (hk : 0 < k) (h : 65536 < k * (x.length + 2)) : prT (rep k x) = [] ∧ prE (rep k x) = 3 := by
  have hl := rep_len x hx k
  unfold prT prE
  rw [rep_bad x hk, if_neg (by simp), if_pos (by omega), if_neg (by simp), if_pos (by omega)]
  exact ⟨rfl, rfl⟩
theorem print_just {x : Bs} (hx : fieldW x = x) (h1 : x.length ≤ 1000) {k : Nat} (hk : 0 < k) (h : k * (x.length + 2) ≤ 65536) : ∃ T : ByteArray, T.size = k * (x.length + 2) ∧ ∀ A c W, Held W → RecsAt W A (rep k x) →
    Calls Tryd.prog 14 #[.slice A k c] W fun e w' => e = .returned (.tuple #[.string T, .int .i64 0]) ∧ Below W.heap.size W w' := by
  refine ⟨⟨(textW (rep k x)).toArray⟩, ?_, fun A c W hH hA => ?_⟩
  · show (textW (rep k x)).toArray.size = _
    rw [List.size_toArray, rep_len x hx]
  · have hp := print_any A (rep k x) k c (rep_num k x).symm W hH hA (rep_ok hx h1 h (by omega))
    unfold PrintPost at hp
    rw [(rep_just hx hk h).1, (rep_just hx hk h).2] at hp
    exact hp
theorem print_over {x : Bs} (hx : fieldW x = x) (h1 : x.length ≤ 1000) {N : Nat} (h : N * (x.length + 2) ≤ 65536) (h2 : 65536 < (N + 1) * (x.length + 2)) (A : Option Addr) (c : Nat) (W : World) (hH : Held W) (hA : RecsAt W A (rep (N + 1) x)) :
    Calls Tryd.prog 14 #[.slice A (N + 1) c] W fun e w' => e = .returned (.tuple #[.string ⟨#[]⟩, .int .i64 3]) ∧ Below W.heap.size W w' := by
  have hp := print_any A (rep (N + 1) x) (N + 1) c (rep_num _ x).symm W hH hA (rep_ok hx h1 h (by omega))
  unfold PrintPost at hp
  rw [(rep_over hx (by omega) h2).1, (rep_over hx (by omega) h2).2] at hp
  exact hp
end Go.Proofs.YtafpddpeffpnfaaDoor.Qu
