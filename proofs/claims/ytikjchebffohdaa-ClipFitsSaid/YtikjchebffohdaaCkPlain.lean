/-
  Lines that are clipped, plainly: whether a line may be; cut, clipped; how much it takes; which lines are answered of several. What is clipped or cut takes no more than it may; with the next cluster it would take more. No program in it.
-/
import Derived.Test.YtikjchebffohdaaWrWd
import Derived.Test.YtikjchebffohdaaLnKit
set_option linter.unusedVariables false
namespace Go.Proofs.Ytikjchebffohdaa.Ck
open Go Go.RowKit Go.Lib Go.Proofs.Ytikjchebffohdaa.Ku Go.Proofs.Ytikjchebffohdaa.Wr

/-- May a line be, of n clusters? -/
def mayB (n : Nat) (x : L5) : Bool := decide (0 ≤ x.f) && decide (x.f ≤ x.s) && decide (x.s ≤ x.t) && decide (x.t ≤ (n : Int))
theorem mayB_is {n : Nat} {x : L5} (h : mayB n x = true) : ∃ f s t : Nat, x.f = f ∧ x.s = s ∧ x.t = t ∧ f ≤ s ∧ s ≤ t ∧ t ≤ n := by
  simp only [mayB, Bool.and_eq_true, decide_eq_true_eq] at h
  exact ⟨x.f.toNat, x.s.toNat, x.t.toNat, by omega, by omega, by omega, by omega, by omega, by omega⟩
/-- The place up to which what is shown fits. -/
def eP (l : List C6) (x : L5) (w : Int) : Nat := endF (Wd l) x.s.toNat x.f.toNat w
def cutP (l : List C6) (x : L5) (w : Int) : L5 := ⟨x.f, x.t, eP l x (max w 0 - 1), x.h, 1⟩
def fitsP (l : List C6) (x : L5) (w : Int) : Bool := decide (0 ≤ w) && decide ((eP l x w : Int) = x.s)
def clipP (l : List C6) (x : L5) (w : Int) : L5 := if fitsP l x w = true then ⟨x.f, x.t, x.s, x.h, 0⟩ else cutP l x w
/-- What is left of so many slots behind k clusters from f on. -/
def leftK (W : Nat → Int) : Nat → Nat → Int → Int
  | 0, _, v => v
  | k + 1, f, v => leftK W k (f + 1) (v - min (W f) v)
def wideP (l : List C6) (x : L5) : Int := 2147483647 - leftK (Wd l) (x.s.toNat - x.f.toNat) x.f.toNat (if x.d = 1 then 2147483646 else 2147483647)
def nP (len : Nat) (h : Int) : Nat := min len (max h 0).toNat
/-- The line that is answered at a place. -/
def oneP (l : List C6) (len : Nat) (w h : Int) (i : Nat) (x : L5) : L5 := if ((i : Int) + 1 = h ∧ h < (len : Int)) then cutP l x w else clipP l x w
def allP (l : List C6) (X : List L5) (w h : Int) : List L5 := (List.range (nP X.length h)).map fun i => oneP l X.length w h i (X.getD i ⟨0, 0, 0, 0, 0⟩)
theorem allP_len (l : List C6) (X : List L5) (w h : Int) : (allP l X w h).length = nP X.length h := by simp [allP]

theorem eP_le {l : List C6} {x : L5} {n : Nat} (h : mayB n x = true) (w : Int) : x.f ≤ (eP l x w : Int) ∧ (eP l x w : Int) ≤ x.s := by
  obtain ⟨f, s, t, hf, hs, ht, h1, h2, h3⟩ := mayB_is h
  have := endF_le (Wd l) w h1
  unfold eP
  rw [hf, hs, Int.toNat_natCast, Int.toNat_natCast]
  omega
theorem mayB_shorter {n : Nat} {x : L5} (h : mayB n x = true) {s : Int} (h1 : x.f ≤ s) (h2 : s ≤ x.s) (a b : Int) : mayB n ⟨x.f, x.t, s, a, b⟩ = true := by
  simp only [mayB, Bool.and_eq_true, decide_eq_true_eq] at h ⊢
  omega
theorem may_cut {n : Nat} {l : List C6} {x : L5} (h : mayB n x = true) (w : Int) : mayB n (cutP l x w) = true :=
  mayB_shorter h (eP_le h _).1 (eP_le h _).2 _ _
theorem may_clip {n : Nat} {l : List C6} {x : L5} (h : mayB n x = true) (w : Int) : mayB n (clipP l x w) = true := by
  unfold clipP
  split
  · refine mayB_shorter h ?_ (Int.le_refl _) _ _
    have := (eP_le (l := l) h 0)
    omega
  · exact may_cut h w
theorem leftK_fit {W : Nat → Int} (hW : ∀ i, 0 ≤ W i) : ∀ (k f : Nat) (v u : Int), 0 ≤ v → v ≤ u → fitK W k f v = k → u - v ≤ leftK W k f u
  | 0, f, v, u, h0, h1, _ => by unfold leftK; omega
  | k + 1, f, v, u, h0, h1, h2 => by
    unfold fitK at h2
    split at h2
    · omega
    · have h3 := hW f
      unfold leftK
      rw [show min (W f) u = W f from by omega]
      have := leftK_fit hW k (f + 1) (v - W f) (u - W f) (by omega) (by omega) (by omega)
      omega
theorem leftK_range {W : Nat → Int} (hW : ∀ i, 0 ≤ W i) : ∀ (k f : Nat) (v : Int), 0 ≤ v → 0 ≤ leftK W k f v ∧ leftK W k f v ≤ v
  | 0, f, v, h0 => by unfold leftK; omega
  | k + 1, f, v, h0 => by
    unfold leftK
    have h3 := hW f
    have := leftK_range hW k (f + 1) (v - min (W f) v) (by omega)
    omega
theorem fit_end {W : Nat → Int} {s f : Nat} {v : Int} (h : f ≤ s) : fitK W (endF W s f v - f) f v = endF W s f v - f := by
  have hl := fitK_le W (s - f) f v
  rw [show endF W s f v - f = fitK W (s - f) f v from by unfold endF; omega]
  have := fitK_min W (s - f) (fitK W (s - f) f v) f v hl
  omega
/-- What is cut takes no more than w. -/
theorem wide_cut {n : Nat} {l : List C6} {x : L5} (h : mayB n x = true) {w : Int} (h1 : 1 ≤ w) (h2 : w ≤ 1073741824) : wideP l (cutP l x w) ≤ w := by
  obtain ⟨f, s, t, hf, hs, ht, k1, k2, k3⟩ := mayB_is h
  unfold wideP cutP eP
  simp only [hf, hs, Int.toNat_natCast, if_true]
  have := leftK_fit (W := Wd l) (fun i => Wd_pos l i) (endF (Wd l) s f (max w 0 - 1) - f) f (max w 0 - 1) 2147483646 (by omega) (by omega) (fit_end k1)
  omega
theorem wide_fit {n : Nat} {l : List C6} {x : L5} (h : mayB n x = true) {w : Int} (h1 : 1 ≤ w) (h2 : w ≤ 1073741824) (hF : fitsP l x w = true) (a : Int) : wideP l ⟨x.f, x.t, x.s, a, 0⟩ ≤ w := by
  obtain ⟨f, s, t, hf, hs, ht, k1, k2, k3⟩ := mayB_is h
  simp only [fitsP, eP, Bool.and_eq_true, decide_eq_true_eq, hf, hs, Int.toNat_natCast] at hF
  have he : endF (Wd l) s f w = s := by omega
  have hfit := fit_end (W := Wd l) (v := w) k1
  rw [he] at hfit
  unfold wideP
  simp only [hf, hs, Int.toNat_natCast]
  rw [if_neg (by decide)]
  have := leftK_fit (W := Wd l) (fun i => Wd_pos l i) (s - f) f w 2147483647 (by omega) (by omega) hfit
  omega
theorem wide_clip {n : Nat} {l : List C6} {x : L5} (h : mayB n x = true) {w : Int} (h1 : 1 ≤ w) (h2 : w ≤ 1073741824) : wideP l (clipP l x w) ≤ w := by
  unfold clipP
  split
  · next hF => exact wide_fit h h1 h2 hF _
  · exact wide_cut h h1 h2
/-- With the next cluster it would take more. -/
theorem more_cut {n : Nat} {l : List C6} {x : L5} (h : mayB n x = true) {w : Int} {e : Nat} (he : eP l x w = e) (hlt : (e : Int) < x.s) : moreK (Wd l) (e + 1 - x.f.toNat) x.f.toNat w = true := by
  obtain ⟨f, s, t, hf, hs, ht, k1, k2, k3⟩ := mayB_is h
  unfold eP at he
  simp only [hf, hs, Int.toNat_natCast] at he hlt ⊢
  have hle := endF_le (Wd l) w k1
  rw [moreK_at (Wd l) (k := s - f) (by omega)]
  unfold endF at he
  exact decide_eq_true (by omega)
theorem clip_again {l : List C6} {x : L5} {w : Int} (hF : fitsP l x w = true) (a : Int) : clipP l ⟨x.f, x.t, x.s, a, 0⟩ w = ⟨x.f, x.t, x.s, a, 0⟩ := by
  have : fitsP l ⟨x.f, x.t, x.s, a, 0⟩ w = true := hF
  unfold clipP
  rw [if_pos this]
end Go.Proofs.Ytikjchebffohdaa.Ck
