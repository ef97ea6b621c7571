/-
  Clusters by how wide they are, plainly; a part of a row of clusters in memory. No program in it.
-/
import Derived.Test.YtikjchebffohdaaWrPlain
import Derived.Test.YtikjchebffohdaaCuRows
set_option linter.unusedVariables false
namespace Go.Proofs.Ytikjchebffohdaa.Wr
open Go Go.RowKit Go.Lib Go.Proofs.Ytikjchebffohdaa.Ku

def d6 : C6 := ⟨0, 0, 0, 0, 0, 0⟩
/-- How many slots the cluster at a place takes. -/
def Wd (l : List C6) (i : Nat) : Int := max (l.getD i d6).w 0
theorem getD_at {l : List C6} {i : Nat} (h : i < l.length) : l.getD i d6 = l[i] := by simp [List.getD, List.getElem?_eq_getElem h]
theorem Wd_at {l : List C6} {i : Nat} (h : i < l.length) : Wd l i = max l[i].w 0 := by unfold Wd; rw [getD_at h]
theorem Wd_pos (l : List C6) (i : Nat) : 0 ≤ Wd l i := by unfold Wd; omega
theorem fitK_shift (W : Nat → Int) (f : Nat) : ∀ (k j : Nat) (w : Int), fitK (fun i => W (f + i)) k j w = fitK W k (f + j) w
  | 0, _, _ => rfl
  | k + 1, j, w => by
    unfold fitK
    rw [fitK_shift W f k (j + 1), Nat.add_assoc]
theorem part_at {l : List C6} {f k i : Nat} (h : i < k) : ((l.drop f).take k).getD i d6 = l.getD (f + i) d6 := by
  simp only [List.getD_eq_getElem?_getD]
  rw [List.getElem?_take, if_pos h, List.getElem?_drop]
theorem part_len {l : List C6} {f k : Nat} (h : f + k ≤ l.length) : ((l.drop f).take k).length = k := by
  rw [List.length_take, List.length_drop]
  omega
/-- How much a part takes. -/
theorem more_part {l : List C6} {f k : Nat} (w : Int) : moreK (Wd ((l.drop f).take k)) k 0 w = moreK (Wd l) k f w := by
  unfold moreK
  have h := fitK_alike (W := Wd ((l.drop f).take k)) (V := fun i => Wd l (f + i)) k 0 w (fun i h1 h2 => by
    unfold Wd
    rw [part_at (by omega)])
  rw [h, fitK_shift]
  rfl
theorem cu_part {w : World} {l : List C6} {b off : Nat} (h : CuAt w (some ⟨b, off, none⟩) l) (f k : Nat) (hk : f + k ≤ l.length) : CuAt w (some ⟨b, off + f * 6, none⟩) ((l.drop f).take k) := by
  rcases h with rfl | ⟨b', off', e, hlt, hc⟩
  · exact .inl (by simp)
  · injection e with e
    injection e with e1 e2
    subst e1 e2
    refine .inr ⟨b, off + f * 6, rfl, hlt, fun i hi => ?_⟩
    have hik : i < k := by
      rw [part_len hk] at hi
      exact hi
    have hl : f + i < l.length := by omega
    have e : ((l.drop f).take k)[i] = l[f + i] := by
      rw [List.getElem_take, List.getElem_drop]
    rw [e]
    have := hc (f + i) hl
    rw [show off + (f + i) * 6 = off + f * 6 + i * 6 from by omega] at this
    exact this
/-- The place behind the last one that fits, for any number as the first. -/
def fitsN (l : List C6) (x w : Int) : Nat := if (l.length : Int) ≤ max x 0 then l.length else endF (Wd l) l.length (max x 0).toNat w
theorem cu_take {w : World} {A : Option Addr} {l : List C6} (h : CuAt w A l) (k : Nat) : CuAt w A (l.take k) := by
  rcases h with rfl | ⟨b, off, e, hlt, hc⟩
  · exact .inl (by simp)
  · refine .inr ⟨b, off, e, hlt, fun i hi => ?_⟩
    have hil : i < l.length := by
      rw [List.length_take] at hi
      omega
    rw [List.getElem_take]
    exact hc i hil
end Go.Proofs.Ytikjchebffohdaa.Wr
