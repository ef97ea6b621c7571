/-
  Tables in memory: as they are read, with room behind; as a call made them, in memory of its own; written over.
-/
import Derived.Test.YtdkdmfbhnaaobaaCvRows
import Derived.Test.YtdkdmfbhnaaobaaTbPlain
import Derived.Laws.OwnMore
set_option linter.unusedVariables false
namespace Go.Proofs.Ytdkdmfbhnaaobaa.Tb
open Go Go.RowKit Go.Lib Go.Proofs.Ytdkdmfbhnaaobaa.Cv Go.Proofs.Ytdkdmfbhnaaobaa.Cl

def RecC (w : World) (x : Value) (r : List Bs) : Prop := ∃ A c, x = .slice A r.length c ∧ r.length ≤ c ∧ VAt w A (rowC r)
def RecsC (w : World) (A : Option Addr) (R : Rec) : Prop :=
  ∃ vals, vals.length = R.length ∧ VAt w A vals ∧ ∀ i (h : i < R.length) x, vals[i]? = some x → RecC w x R[i]
theorem RecC.rec {w : World} {x : Value} {r : List Bs} (h : RecC w x r) : RecV w x r := by
  obtain ⟨A, c, e, _, hv⟩ := h
  exact ⟨A, c, e, hv⟩
theorem RecC.one {w : World} {x : Value} {r : List Bs} (h : RecC w x r) : x.oneCell' = true := by
  obtain ⟨A, c, rfl, _⟩ := h
  rfl
theorem RecsC.recs {w : World} {A : Option Addr} {R : Rec} (h : RecsC w A R) : RecsAt w A R := by
  obtain ⟨vals, h1, h2, h3⟩ := h
  exact ⟨vals, h1, h2, fun i hi x hx => (h3 i hi x hx).rec⟩
theorem RecC.below {w w' : World} {x : Value} {r : List Bs} (h : RecC w x r) (hb : Below w.heap.size w w') : RecC w' x r := by
  obtain ⟨A, c, e, hl, hv⟩ := h
  exact ⟨A, c, e, hl, hv.below hb⟩
theorem RecsC.below {w w' : World} {A : Option Addr} {R : Rec} (h : RecsC w A R) (hb : Below w.heap.size w w') : RecsC w' A R := by
  obtain ⟨vals, h1, h2, h3⟩ := h
  exact ⟨vals, h1, h2.below hb, fun i hi x hx => (h3 i hi x hx).below hb⟩
theorem RecsC.at_ {w : World} {A : Option Addr} {R : Rec} (h : RecsC w A R) {k : Nat} (hk : k < R.length) : ∃ b off A' c, A = some ⟨b, off, none⟩ ∧ w.cell? ⟨b, off + k, none⟩ = some (.slice A' R[k].length c) ∧ R[k].length ≤ c ∧ VAt w A' (rowC R[k]) := by
  obtain ⟨vals, h1, h2, h3⟩ := h
  have hk' : k < vals.length := by omega
  obtain ⟨b, off, hA, hc⟩ := h2.at_ hk'
  obtain ⟨A', c, e, hl, hv⟩ := h3 k hk _ (List.getElem?_eq_getElem hk')
  exact ⟨b, off, A', c, hA, by rw [hc, e], hl, hv⟩
theorem RecsC.nil (w : World) (A : Option Addr) : RecsC w A [] := ⟨[], rfl, .inl rfl, fun i h => by simp at h⟩
theorem VAt.take {w : World} {A : Option Addr} {vals : List Value} (h : VAt w A vals) (n : Nat) : VAt w A (vals.take n) := by
  rcases h with rfl | ⟨b, off, hA, hlt, hc⟩
  · exact .inl (by simp)
  · refine .inr ⟨b, off, hA, hlt, fun j u hj => hc j u ?_⟩
    rw [List.getElem?_take] at hj
    split at hj
    · exact hj
    · cases hj
theorem rowC_take (r : List Bs) (n : Nat) : rowC (r.take n) = (rowC r).take n := by simp [rowC]
theorem rowC_len (r : List Bs) : (rowC r).length = r.length := by simp [rowC]
theorem RecsC.take {w : World} {A : Option Addr} {R : Rec} (h : RecsC w A R) (n : Nat) : RecsC w A (R.take n) := by
  obtain ⟨vals, h1, h2, h3⟩ := h
  refine ⟨vals.take n, by rw [List.length_take, List.length_take, h1], VAt.take h2 n, fun i hi x hx => ?_⟩
  have hi1 : i < R.length := by rw [List.length_take] at hi; omega
  rw [List.getElem_take]
  rw [List.getElem?_take] at hx
  split at hx
  · exact h3 i hi1 x hx
  · cases hx

/-- A row that a call owns, and the numbers of its blocks. -/
def OwnV (B L : Nat) (w : World) (x : Value) (r : List Bs) : Prop := w.ownsRow B 9 1 x r.length (rowC r) ∧ ∀ k, x.ownBlock = some k → k < L
/-- A table that a call made: the row of its rows, and these, in blocks from B on, below L. -/
def Tbl (B L : Nat) (w : World) (A : Option Addr) (c : Nat) (R : Rec) : Prop :=
  ∃ vals, w.ownsRow B 31 1 (.slice A R.length c) R.length vals ∧ (∀ k, (Value.slice A R.length c).ownBlock = some k → k < L) ∧ ∀ i (h : i < R.length) x, vals[i]? = some x → OwnV B L w x R[i]
theorem OwnV.below {B L : Nat} {w w' : World} {x : Value} {r : List Bs} (h : OwnV B L w x r) (hb : Below L w w') : OwnV B L w' x r := ⟨own_below h.1 hb h.2, h.2⟩
theorem Tbl.below {B L : Nat} {w w' : World} {A : Option Addr} {c : Nat} {R : Rec} (h : Tbl B L w A c R) (hb : Below L w w') : Tbl B L w' A c R := by
  obtain ⟨vals, h1, h2, h3⟩ := h
  exact ⟨vals, own_below h1 hb h2, h2, fun i hi x hx => (h3 i hi x hx).below hb⟩
theorem vAt_ownC {w : World} {B : Nat} {t : TypeId} {v : Value} {n : Nat} {vals : List Value} (h : w.ownsRow B t 1 v n vals) : ∃ A c, v = .slice A n c ∧ n ≤ c ∧ VAt w A vals ∧ vals.length = n := by
  obtain ⟨A, c, rfl, hv, hl⟩ := vAt_own h
  refine ⟨A, c, rfl, ?_, hv, hl⟩
  rcases h.2 with ⟨e, hn⟩ | ⟨g, cap, cur, e, _, _, hle, _⟩
  · omega
  · injection e with _ _ e3
    omega
theorem OwnV.rec {B L : Nat} {w : World} {x : Value} {r : List Bs} (h : OwnV B L w x r) : RecC w x r := by
  obtain ⟨A, c, e, hl, hv, _⟩ := vAt_ownC h.1
  exact ⟨A, c, e, hl, hv⟩
theorem Tbl.recs {B L : Nat} {w : World} {A : Option Addr} {c : Nat} {R : Rec} (h : Tbl B L w A c R) : RecsC w A R := by
  obtain ⟨vals, h1, h2, h3⟩ := h
  obtain ⟨A', c', e, _, hv, hl⟩ := vAt_ownC h1
  injection e with e1 _ _
  subst e1
  exact ⟨vals, hl, hv, fun i hi x hx => (h3 i hi x hx).rec⟩
theorem RI.readsC {B : Nat} {w : World} {vs v : Value} {R : Rec} {r : List Bs} (h : RI B w vs v R r) : ∃ A c, vs = .slice A R.length c ∧ RecsC w A R := by
  obtain ⟨hB, base, vals, h1, h2, h3, h4, h5⟩ := h
  obtain ⟨A, c, e, _, hv, hl⟩ := vAt_ownC h3
  refine ⟨A, c, e, vals, hl, hv, fun i hi x hx => ?_⟩
  obtain ⟨h6, -, -⟩ := h4.own i hi x hx
  obtain ⟨A', c', e', hl', hv', _⟩ := vAt_ownC h6
  exact ⟨A', c', e', hl', hv'⟩

/-! While a table is made: a row of rows, of which the first ones stand already. -/
def Fil (P : Nat → Value → Prop) (B : Nat) (w : World) (g n k : Nat) : Prop :=
  ∃ vals, w.ownsRow B 31 1 (.slice (some ⟨g, 0, none⟩) n n) n vals ∧ ∀ i x, i < k → vals[i]? = some x → P i x
theorem Fil.start {P : Nat → Value → Prop} {B : Nat} {w : World} {g n : Nat} {vals : List Value} (h : w.ownsRow B 31 1 (.slice (some ⟨g, 0, none⟩) n n) n vals) : Fil P B w g n 0 := ⟨vals, h, fun i x hi => by omega⟩
theorem Fil.cell {P : Nat → Value → Prop} {B : Nat} {w : World} {g n k j : Nat} (h : Fil P B w g n k) (hj : j < n) : ∃ x, w.cell? ⟨g, j, none⟩ = some x ∧ w.frozen? ⟨g, j, none⟩ = false := by
  obtain ⟨vals, h1, _⟩ := h
  have hl : vals.length = n := by have := h1.1; omega
  exact ⟨vals[j], (h1.cellAt j (by omega)).trans (List.getElem?_eq_getElem (by omega)), h1.frozenAt j⟩
theorem Fil.put {P Q : Nat → Value → Prop} {B : Nat} {w w1 : World} {g n k : Nat} (h : Fil P B w g n k) (hk : k < n) {C : Nat} (hb : Below C w w1) (hg : g < C) {x : Value} (hx : Q k x) (hP : ∀ i y, i < k → P i y → Q i y) :
    Fil Q B (w1.setCell ⟨g, k, none⟩ x) g n (k + 1) := by
  obtain ⟨vals, h1, h2⟩ := h
  have h3 := own_below h1 hb fun b hb => by injection hb with hb; subst hb; exact hg
  refine ⟨vals.set k x, (h3.stored k x).1, fun i y hi hy => ?_⟩
  by_cases e : i = k
  · subst e
    rw [List.getElem?_set_self (by have := h1.1; omega)] at hy
    injection hy with hy
    subst hy
    exact hx
  · rw [List.getElem?_set_ne (by omega)] at hy
    exact hP i y (by omega) (h2 i y (by omega) hy)
theorem Fil.tbl {B L : Nat} {w : World} {g n : Nat} {R : Rec} (hn : n = R.length) (h : Fil (fun i x => ∀ h : i < R.length, OwnV B L w x R[i]) B w g n n) (hg : g < L) : Tbl B L w (some ⟨g, 0, none⟩) n R := by
  subst hn
  obtain ⟨vals, h1, h2⟩ := h
  exact ⟨vals, h1, fun k hk => by injection hk with hk; subst hk; exact hg, fun i hi x hx => h2 i x hi hx hi⟩
theorem Fil.recs {B : Nat} {w : World} {g n : Nat} {R : Rec} (hn : n = R.length) (h : Fil (fun i x => ∀ h : i < R.length, RecC w x R[i]) B w g n n) : RecsC w (some ⟨g, 0, none⟩) R := by
  subst hn
  obtain ⟨vals, h1, h2⟩ := h
  obtain ⟨A', c', e, _, hv, hl⟩ := vAt_ownC h1
  injection e with e1 _ _
  subst e1
  exact ⟨vals, hl, hv, fun i hi x hx => h2 i x hi hx hi⟩

/-- The fields of a row while it is made. -/
def fil (F : Nat → Bs) (n k : Nat) : List Bs := (List.range n).map fun j => if j < k then F j else []
theorem fil_len (F : Nat → Bs) (n k : Nat) : (fil F n k).length = n := by simp [fil]
theorem fil_zero (F : Nat → Bs) (n : Nat) : rowC (fil F n 0) = List.replicate n (.string ⟨#[]⟩) := by
  apply List.ext_getElem?
  intro j
  by_cases h : j < n <;> simp [fil, rowC, bx, h]
theorem fil_all (F : Nat → Bs) (n : Nat) : fil F n n = (List.range n).map F := by
  unfold fil
  exact List.map_congr_left fun j hj => if_pos (List.mem_range.1 hj)
theorem fil_set (F : Nat → Bs) (n k : Nat) : (rowC (fil F n k)).set k (bx (F k)) = rowC (fil F n (k + 1)) := by
  apply List.ext_getElem?
  intro j
  by_cases hj : j < n
  · by_cases e : j = k
    · subst e
      rw [List.getElem?_set_self (by rw [rowC_len, fil_len]; exact hj)]
      simp [rowC, fil, hj]
    · rw [List.getElem?_set_ne (by omega)]
      simp only [rowC, fil, List.getElem?_map]
      rw [List.getElem?_range hj]
      simp only [Option.map_some]
      congr 2
      by_cases h : j < k
      · rw [if_pos h, if_pos (by omega)]
      · rw [if_neg h, if_neg (by omega)]
  · rw [List.getElem?_eq_none (by rw [List.length_set, rowC_len, fil_len]; omega), List.getElem?_eq_none (by rw [rowC_len, fil_len]; omega)]
theorem fil_at (F : Nat → Bs) (n k : Nat) (h : k < n) : (rowC (fil F n k))[k]? = some (.string ⟨#[]⟩) := by
  simp [rowC, fil, bx, h]
end Go.Proofs.Ytdkdmfbhnaaobaa.Tb
