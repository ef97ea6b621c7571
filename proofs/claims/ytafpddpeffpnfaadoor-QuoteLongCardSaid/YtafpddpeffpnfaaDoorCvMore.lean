/-
  What the laws on two texts need: how many records and fields a text can have; the texts put together; records in memory, one slice behind the other.
-/
import Derived.Test.YtafpddpeffpnfaaDoorCvParse
import Derived.Test.YtafpddpeffpnfaaDoorCvSame
import Derived.Test.YtafpddpeffpnfaaDoorCvNew
import Derived.Test.YtafpddpeffpnfaaDoorCvFacts
set_option linter.unusedVariables false
namespace Go.Proofs.YtafpddpeffpnfaaDoor.Cv
open Go Go.RowKit Go.Lib

theorem sum_ge : ∀ (R : List (List Bs)) (r : List Bs), r ∈ R → r.length ≤ sumLen R
  | x :: R, r, h => by
    have e : sumLen (x :: R) = x.length + sumLen R := by simp [sumLen]
    rw [e]
    rcases List.mem_cons.1 h with rfl | h
    · omega
    · have := sum_ge R r h
      omega
theorem evs_most : ∀ (l : Bs) (q : Nat) (acc : Bs), (evs q acc l).length ≤ l.length + 1
  | [], q, acc => by rw [evs]; split <;> simp
  | b :: l, q, acc => by
    rw [evs]
    cases hs : stepQ q b.toNat with
    | none => simp
    | some q' =>
      simp only
      have h0 := evs_most l 0 []
      have h5 := evs_most l 5 []
      have h4 := evs_most l 4 acc
      have h6 := evs_most l q' (acc ++ [b])
      split
      · simp; omega
      · split
        · simp; omega
        · split
          · simp; omega
          · simp; omega
theorem recs_small (s : ByteArray) (hs : s.size ≤ 65536) : (recsP s).length ≤ 65537 ∧ ∀ r ∈ recsP s, r.length ≤ 1000000 := by
  have h1 := evs_most (tx s) 0 []
  rw [tx_size] at h1
  unfold recsP
  split
  · refine ⟨?_, fun r hr => ?_⟩
    · have := (g0_lens (evs 0 [] (tx s))).1
      omega
    · have h2 := sum_ge _ r hr
      have h3 := (grp_counts (evs 0 [] (tx s)) ([], [])).2
      have e : sumLen ([] : List (List Bs)) = 0 := rfl
      simp only [List.length_nil, e] at h3
      have h4 : sumLen (g0 (evs 0 [] (tx s))).1 ≤ (evs 0 [] (tx s)).length := by
        show sumLen (grp ([], []) (evs 0 [] (tx s))).1 ≤ _
        omega
      omega
  · exact ⟨by simp, fun r hr => by simp at hr⟩
theorem erP_zero {s : ByteArray} (hs : s.size ≤ 65536) : erP s = 0 ↔ place 0 0 (tx s) = none := by
  have e : erP s = ez (place 0 0 (tx s)) := if_pos hs
  rw [e]
  cases place 0 0 (tx s) <;> simp [ez]
theorem tx_app (a b : ByteArray) : tx (a ++ b) = tx a ++ tx b := by
  unfold tx
  rw [ByteArray.data_append, Array.toList_append]
theorem joined_recs {a b : ByteArray} (ha : a.size ≤ 2000) (hb : b.size ≤ 2000) (ea : erP a = 0) (eb : erP b = 0) (hb0 : b.size ≠ 0) (hcr : ¬ (1 < a.size ∧ a.extract (a.size - 2) a.size = ⟨#[13, 10]⟩)) :
    erP (a ++ ⟨#[13, 10]⟩ ++ b) = 0 ∧ recsP (a ++ ⟨#[13, 10]⟩ ++ b) = recsP a ++ recsP b ∧ erP (a ++ ⟨#[13, 10]⟩) = 0 ∧ recsP (a ++ ⟨#[13, 10]⟩) = recsP a := by
  have pa := (erP_zero (by omega)).1 ea
  have pb := (erP_zero (by omega)).1 eb
  have hne : tx b ≠ [] := by
    intro e
    have := tx_size b
    rw [e] at this
    exact hb0 this.symm
  have hpre : ∀ pre, tx a ≠ pre ++ [13, 10] := by
    intro pre e
    have hl := tx_size a
    rw [e] at hl
    simp at hl
    refine hcr ⟨by omega, ?_⟩
    rw [Lib.extract_eq]
    show (⟨(((tx a).drop (a.size - 2)).take (a.size - (a.size - 2))).toArray⟩ : ByteArray) = _
    rw [e, ← hl]
    simp
  have h := joined pa pb hne hpre
  have t1 : tx (a ++ ⟨#[13, 10]⟩ ++ b) = tx a ++ 13 :: 10 :: tx b := by
    rw [tx_app, tx_app, List.append_assoc]
    rfl
  have t2 : tx (a ++ ⟨#[13, 10]⟩) = tx a ++ [13, 10] := by
    rw [tx_app]
  have s1 : (a ++ ⟨#[13, 10]⟩ ++ b).size ≤ 65536 := by
    rw [← tx_size, t1]
    have h1 := tx_size a
    have h2 := tx_size b
    simp
    omega
  have s2 : (a ++ (⟨#[13, 10]⟩ : ByteArray)).size ≤ 65536 := by
    rw [← tx_size, t2]
    have h1 := tx_size a
    simp
    omega
  rw [← t1] at h
  rw [← t2] at h
  have ra : recsP a = (g0 (evs 0 [] (tx a))).1 := if_pos ⟨by omega, pa⟩
  have rb : recsP b = (g0 (evs 0 [] (tx b))).1 := if_pos ⟨by omega, pb⟩
  have rc : recsP (a ++ ⟨#[13, 10]⟩ ++ b) = (g0 (evs 0 [] (tx (a ++ ⟨#[13, 10]⟩ ++ b)))).1 := if_pos ⟨s1, h.1⟩
  have rd : recsP (a ++ ⟨#[13, 10]⟩) = (g0 (evs 0 [] (tx (a ++ ⟨#[13, 10]⟩)))).1 := if_pos ⟨s2, h.2.2.1⟩
  refine ⟨(erP_zero s1).2 h.1, ?_, (erP_zero s2).2 h.2.2.1, ?_⟩
  · rw [rc, ra, rb, h.2.1]
  · rw [rd, ra, h.2.2.2]

theorem recs_vals {w : World} {A : Option Addr} {R : List (List Bs)} (h : RecsAt w A R) : ∃ vals, vals.length = R.length ∧ VAt w A vals ∧ (∀ i (h : i < R.length) x, vals[i]? = some x → RecV w x R[i]) ∧ ∀ u ∈ vals, u.oneCell' = true := by
  obtain ⟨vals, h1, h2, h3⟩ := h
  refine ⟨vals, h1, h2, h3, fun u hu => ?_⟩
  obtain ⟨i, hi, rfl⟩ := List.getElem_of_mem hu
  obtain ⟨A', c, e, _⟩ := h3 i (by omega) _ (List.getElem?_eq_getElem hi)
  rw [e]
  rfl
theorem recs_app {w : World} {A : Option Addr} {xs ys : List Value} {R Q : List (List Bs)} (hv : VAt w A (xs ++ ys)) (hx : xs.length = R.length) (hy : ys.length = Q.length)
    (h1 : ∀ i (h : i < R.length) x, xs[i]? = some x → RecV w x R[i]) (h2 : ∀ i (h : i < Q.length) x, ys[i]? = some x → RecV w x Q[i]) : RecsAt w A (R ++ Q) := by
  refine ⟨xs ++ ys, by simp [hx, hy], hv, fun i hi x hxi => ?_⟩
  by_cases hl : i < R.length
  · rw [List.getElem_append_left hl]
    rw [List.getElem?_append_left (by omega)] at hxi
    exact h1 i hl x hxi
  · rw [List.getElem_append_right (by omega)]
    rw [List.getElem?_append_right (by omega), hx] at hxi
    exact h2 _ (by simp at hi; omega) x hxi
theorem same_of (A B : Option Addr) (R : List (List Bs)) (n m c d : Nat) (w : World) (hn : n = R.length) (hm : m = R.length) (ha : RecsAt w A R) (hb : RecsAt w B R) (hl : R.length ≤ 1000000) (hr : ∀ r ∈ R, r.length ≤ 1000000) :
    Calls Tryd.prog 16 #[.slice A n c, .slice B m d] w fun e w' => e = .returned (.bool true) ∧ Below w.heap.size w w' := by
  subst hn
  subst hm
  exact same_recs A B R c d w ha hb hl hr
end Go.Proofs.YtafpddpeffpnfaaDoor.Cv
