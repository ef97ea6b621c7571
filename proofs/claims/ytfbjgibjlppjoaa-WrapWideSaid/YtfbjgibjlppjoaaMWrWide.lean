/-
  Lines of clusters that are wrapped, what is so of each: it takes no more than fits, or is one cluster; with what stands first behind it it would take more; where all fits there is one. Plain: no program.
-/
import Derived.Test.YtfbjgibjlppjoaaM16
set_option linter.unusedVariables false
namespace Go.Proofs.Ytfbjgibjlppjoaa.Wr
open Go Go.RowKit Go.Lib Go.Proofs.Ytfbjgibjlppjoaa.Ku

theorem more_take {l : List C6} {n f k : Nat} (w : Int) (h : f + k ≤ n) : moreK (Wd (l.take n)) k f w = moreK (Wd l) k f w := by
  unfold moreK
  rw [fitK_alike (W := Wd (l.take n)) (V := Wd l) k f w (fun i h1 h2 => Wd_take (by omega))]
/-- What is so of the line at a place, of m lines. -/
def WideAt (l : List C6) (n m : Nat) (w : Int) (i : Nat) (y : L5) : Prop :=
  ∃ f t s : Nat, ∃ h : Int, y = ⟨f, t, s, h, 0⟩ ∧ (0 < l.length → f < l.length) ∧ f ≤ s ∧ s ≤ l.length ∧ t ≤ l.length ∧ (moreK (Wd l) (s - f) f w = true → s = f + 1) ∧
    (i + 1 < m → f < t ∧ t < n ∧ ∀ e, t < e → e ≤ n → (∀ k, t < k → k < e → Bl l k = false) → (e < n → Bl l e = true) → moreK (Wd l) (e - f) f w = true)
theorem linesP_wide (l : List C6) (w : Int) (hw : 1 ≤ w) : 0 < (linesP l w 1).length ∧ (linesP l w 1).length ≤ l.length + 1 ∧ (moreK (Wd l) (shownN l) 0 w = false → (linesP l w 1).length = 1) ∧ ∀ (i : Nat) (y : L5), (linesP l w 1)[i]? = some y → WideAt l (shownN l) (linesP l w 1).length w i y := by
  have hmx : max w 1 = w := by omega
  have hl := shownN_le l
  by_cases h : (1 : Int) = 0 ∨ shownN l = 0
  · rw [linesP_one h]
    have h0 : shownN l = 0 := by omega
    refine ⟨by simp, by simp, fun _ => rfl, fun i y hy => ?_⟩
    cases i with
    | zero =>
      simp at hy
      subst hy
      refine ⟨0, l.length, shownN l, 1, by simp, fun h => h, by omega, hl, Nat.le_refl _, fun e => ?_, fun e => by simp at e⟩
      rw [h0, moreK_nil] at e
      cases e
    | succ i => simp at hy
  · obtain ⟨R, hR, e⟩ := linesP_lns (w := w) h
    have hn : 0 < shownN l := by omega
    rw [hmx] at hR
    have hat := fun {i x} => hR.at_ hn (i := i) (x := x)
    have hlen := hR.len hn
    rw [e]
    have hpos : 0 < R.length := by cases hR <;> simp
    rw [List.length_map]
    refine ⟨hpos, by omega, fun hm => ?_, fun i y hy => ?_⟩
    · have hx : R[0]? = some R[0] := List.getElem?_eq_getElem hpos
      obtain ⟨h1, h2, h3, h4, h5⟩ := hat hx
      have h0 := h3 rfl
      generalize R[0] = x at *
      obtain ⟨f, t, s⟩ := x
      simp only at h0 h1 h2 h4
      subst h0
      have hone := h2.one h1 (by rw [Nat.sub_zero, more_take w (by omega)]; exact hm)
      have := h4.1 hone.1
      omega
    · rw [List.getElem?_map] at hy
      obtain ⟨x, hx, rfl⟩ := Option.map_eq_some_iff.1 hy
      obtain ⟨h1, h2, h3, h4, h5⟩ := hat hx
      obtain ⟨f, t, s⟩ := x
      simp only at h1 h2 h4
      obtain ⟨g1, g2, g3, g4, g5⟩ := h2.goes h1
      have hfit := h2.fits h1
      rw [more_take w (by omega)] at hfit
      have hs : moreK (Wd l) (s - f) f w = true → s = f + 1 := fun hm => hfit.resolve_left (by rw [hm]; decide)
      by_cases ht : t = shownN l
      · have hi := h4.1 ht
        refine ⟨f, l.length, s, 1, ?_, fun _ => by omega, g3, by omega, Nat.le_refl _, hs, fun e => by omega⟩
        unfold lineOf
        rw [if_pos ht]
      · refine ⟨f, t, s, 0, ?_, fun _ => by omega, g3, by omega, by omega, hs, fun e => ⟨g1, by omega, fun e he1 he2 hk hb => ?_⟩⟩
        · unfold lineOf
          rw [if_neg ht]
        · have := h2.wide h1 (by omega) he1 he2 (fun k k1 k2 => by rw [Bl_take (by omega)]; exact hk k k1 k2) (fun hlt => by rw [Bl_take hlt]; exact hb hlt)
          rwa [more_take w (by omega)] at this
end Go.Proofs.Ytfbjgibjlppjoaa.Wr
