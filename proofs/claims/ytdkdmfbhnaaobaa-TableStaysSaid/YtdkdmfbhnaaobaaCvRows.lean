/-
  Records in memory: rows of texts, rows of such rows, while a call builds them, and as they are read.
-/
import Derived.Test.YtdkdmfbhnaaobaaClInts
import Derived.Test.YtdkdmfbhnaaobaaStepKit
import Derived.Test.YtdkdmfbhnaaobaaCvPlain
set_option linter.unusedVariables false
namespace Go.Proofs.Ytdkdmfbhnaaobaa.Cv
open Go Go.RowKit Go.Lib Go.Proofs.Ytdkdmfbhnaaobaa.Cl

def bx (x : Bs) : Value := .string ⟨x.toArray⟩
def rowC (r : List Bs) : List Value := r.map bx
theorem infoStr : (Try.prog.info? 9).map (fun i => (i.zero, i.size, i.bytes)) = some (some (.string ⟨#[]⟩), 1, 16) := by kernel_rfl
theorem infoRow : (Try.prog.info? 31).map (fun i => (i.zero, i.size, i.bytes)) = some (some (.slice none 0 0), 1, 24) := by kernel_rfl

theorem own_ne {w : World} {B B' : Nat} {t t' : TypeId} {sz sz' : Nat} {v v' : Value} {n n' : Nat} {xs xs' : List Value} (h : w.ownsRow B t sz v n xs) (h' : w.ownsRow B' t' sz' v' n' xs') (ht : t ≠ t') : v.ownBlock = none ∨ v.ownBlock ≠ v'.ownBlock := by
  rcases h.2 with ⟨rfl, _⟩ | ⟨g, cap, cur, rfl, _, hg, _⟩
  · exact .inl rfl
  · rcases h'.2 with ⟨rfl, _⟩ | ⟨g', cap', cur', rfl, _, hg', _⟩
    · exact .inr (by simp [Value.ownBlock])
    · right
      intro e
      simp [Value.ownBlock] at e
      subst e
      rw [hg] at hg'
      injection hg' with hg'
      injection hg' with _ h2 _
      exact ht h2
theorem own_below {w w' : World} {B : Nat} {t : TypeId} {sz : Nat} {v : Value} {n : Nat} {xs : List Value} (h : w.ownsRow B t sz v n xs) {C : Nat} (hb : Below C w w') (hlt : ∀ k, v.ownBlock = some k → k < C) : w'.ownsRow B t sz v n xs := by
  refine ⟨h.1, ?_⟩
  rcases h.2 with hn | ⟨g, cap, cur, rfl, hg, hgg, rest⟩
  · exact .inl hn
  · exact .inr ⟨g, cap, cur, rfl, hg, by rw [hb.block g (hlt g rfl)]; exact hgg, rest⟩
theorem own_set {w : World} {B : Nat} {t : TypeId} {sz : Nat} {v : Value} {n : Nat} {xs : List Value} (h : w.ownsRow B t sz v n xs) {p : Nat} (u : Value) (hp : p < B) : (w.setCell ⟨p, 0, none⟩ u).ownsRow B t sz v n xs :=
  ownsRow_setCell_below h (by exact hp) u
theorem own_heap {w w' : World} {B : Nat} {t : TypeId} {sz : Nat} {v : Value} {n : Nat} {xs : List Value} (h : w.ownsRow B t sz v n xs) (e : w'.heap = w.heap) : w'.ownsRow B t sz v n xs := by
  unfold World.ownsRow at h ⊢
  rw [e]
  exact h
theorem own_mono {w : World} {B C : Nat} {t : TypeId} {sz : Nat} {v : Value} {n : Nat} {xs : List Value} (h : w.ownsRow C t sz v n xs) (hB : B ≤ C) : w.ownsRow B t sz v n xs := by
  refine ⟨h.1, ?_⟩
  rcases h.2 with hn | ⟨g, cap, cur, rfl, hg, rest⟩
  · exact .inl hn
  · exact .inr ⟨g, cap, cur, rfl, Nat.le_trans hB hg, rest⟩

/-- Finished records: values of slices, each of its own. -/
structure Done (B lim : Nat) (w : World) (vals : List Value) (R : List (List Bs)) : Prop where
  len : vals.length = R.length
  own : ∀ i (h : i < R.length) x, vals[i]? = some x → w.ownsRow B 9 1 x R[i].length (rowC R[i]) ∧ (∀ k, x.ownBlock = some k → k < lim) ∧ x.oneCell' = true

theorem Done.nil (B lim : Nat) (w : World) : Done B lim w [] [] := ⟨rfl, fun i h => by simp at h⟩
theorem Done.carry {B lim : Nat} {w w' : World} {vals : List Value} {R : List (List Bs)} (h : Done B lim w vals R)
    (hc : ∀ x r, w.ownsRow B 9 1 x (List.length r) (rowC r) → (∀ k, x.ownBlock = some k → k < lim) → w'.ownsRow B 9 1 x (List.length r) (rowC r)) : Done B lim w' vals R :=
  ⟨h.len, fun i hi x hx => by obtain ⟨h1, h2, h3⟩ := h.own i hi x hx; exact ⟨hc x _ h1 h2, h2, h3⟩⟩
theorem Done.lim {B lim lim' : Nat} {w : World} {vals : List Value} {R : List (List Bs)} (h : Done B lim w vals R) (hl : lim ≤ lim') : Done B lim' w vals R :=
  ⟨h.len, fun i hi x hx => by obtain ⟨h1, h2, h3⟩ := h.own i hi x hx; exact ⟨h1, fun k hk => Nat.lt_of_lt_of_le (h2 k hk) hl, h3⟩⟩
theorem own_one {w : World} {B : Nat} {t : TypeId} {sz : Nat} {v : Value} {n : Nat} {xs : List Value} (h : w.ownsRow B t sz v n xs) : v.oneCell' = true := by
  rcases h.2 with ⟨rfl, _⟩ | ⟨g, cap, cur, rfl, _⟩ <;> rfl
theorem Done.snoc {B lim : Nat} {w : World} {vals : List Value} {R : List (List Bs)} (h : Done B lim w vals R) {v : Value} {r : List Bs} (hv : w.ownsRow B 9 1 v r.length (rowC r)) (hk : ∀ k, v.ownBlock = some k → k < lim) : Done B lim w (vals ++ [v]) (R ++ [r]) := by
  refine ⟨by simp [h.len], fun i hi x hx => ?_⟩
  by_cases hl : i < R.length
  · have e : (R ++ [r])[i] = R[i] := List.getElem_append_left hl
    rw [e]
    rw [List.getElem?_append_left (by rw [h.len]; exact hl)] at hx
    exact h.own i hl x hx
  · have hi' : i = R.length := by simp at hi; omega
    subst hi'
    rw [List.getElem?_append_right (by rw [h.len]; exact Nat.le_refl _), h.len, Nat.sub_self] at hx
    simp at hx
    subst hx
    simp only [List.getElem_concat_length]
    exact ⟨hv, hk, own_one hv⟩

/-- Records while they are built: the finished ones in a row of slices, the one that is not finished. -/
structure RI (B : Nat) (w : World) (vs v : Value) (R : List (List Bs)) (r : List Bs) : Prop where
  base : B ≤ w.heap.size
  all : ∃ base vals, B ≤ base ∧ base ≤ w.heap.size ∧ w.ownsRow B 31 1 vs R.length vals ∧ Done B base w vals R ∧ w.ownsRow base 9 1 v r.length (rowC r)

theorem RI.start {B : Nat} {w : World} (h : B ≤ w.heap.size) : RI B w (.slice none 0 0) (.slice none 0 0) [] [] :=
  ⟨h, B, [], Nat.le_refl _, h, World.ownsRow_nil _ _ _ _, Done.nil _ _ _, World.ownsRow_nil _ _ _ _⟩
theorem RI.below {B : Nat} {w w' : World} {vs v : Value} {R : List (List Bs)} {r : List Bs} (h : RI B w vs v R r) (hb : Below w.heap.size w w') : RI B w' vs v R r := by
  obtain ⟨hB, base, vals, h1, h2, h3, h4, h5⟩ := h
  exact ⟨Nat.le_trans hB hb.size, base, vals, h1, Nat.le_trans h2 hb.size, own_below h3 hb fun k hk => (h3.lt k hk).2, h4.carry fun x r hx _ => own_below hx hb fun k hk => (hx.lt k hk).2, own_below h5 hb fun k hk => (h5.lt k hk).2⟩
theorem RI.set {B : Nat} {w : World} {vs v : Value} {R : List (List Bs)} {r : List Bs} (h : RI B w vs v R r) {p : Nat} (u : Value) (hp : p < B) : RI B (w.setCell ⟨p, 0, none⟩ u) vs v R r := by
  obtain ⟨hB, base, vals, h1, h2, h3, h4, h5⟩ := h
  refine ⟨by simpa using hB, base, vals, h1, by simpa using h2, own_set h3 u hp, h4.carry fun x r hx _ => own_set hx u hp, own_set h5 u (by omega)⟩
/-- A field more of the record. -/
theorem RI.field {B : Nat} {w : World} {vs v : Value} {R : List (List Bs)} {r : List Bs} (h : RI B w vs v R r) :
    ∃ base, base ≤ w.heap.size ∧ B ≤ base ∧ w.ownsRow base 9 1 v r.length (rowC r) ∧ ∀ w1 x v' w', Below w.heap.size w w1 → w'.ownsRow base 9 1 v' (r.length + 1) (rowC r ++ [bx x]) → w1.grownBy w' v.ownBlock → RI B w' vs v' R (r ++ [x]) := by
  obtain ⟨hB, base, vals, h1, h2, h3, h4, h5⟩ := h
  refine ⟨base, h2, h1, h5, fun w1 x v' w' hb ho hg => ?_⟩
  have h3' := own_below h3 hb fun k hk => (h3.lt k hk).2
  have h5' := own_below h5 hb fun k hk => (h5.lt k hk).2
  refine ⟨Nat.le_trans hB (Nat.le_trans hb.size hg.size), base, vals, h1, Nat.le_trans h2 (Nat.le_trans hb.size hg.size), ?_, ?_, ?_⟩
  · exact h3'.kept hg (own_ne h3' h5' (by decide))
  · refine h4.carry fun y ry hy hl => ?_
    have hy' := own_below hy hb fun k hk => (hy.lt k hk).2
    refine hy'.kept hg ?_
    cases hyb : y.ownBlock with
    | none => exact .inl rfl
    | some k =>
      right
      intro e
      have hk1 := hl k hyb
      have hk2 := (h5.lt k e.symm).1
      omega
  · have e : rowC (r ++ [x]) = rowC r ++ [bx x] := by simp [rowC]
    rw [e, List.length_append]
    exact ho
/-- A record is finished. -/
theorem RI.close {B : Nat} {w : World} {vs v : Value} {R : List (List Bs)} {r : List Bs} (h : RI B w vs v R r) :
    ∃ vals, B ≤ w.heap.size ∧ w.ownsRow B 31 1 vs R.length vals ∧ v.oneCell' = true ∧ ∀ w1 vs' w', Below w.heap.size w w1 → w'.ownsRow B 31 1 vs' (R.length + 1) (vals ++ [v]) → w1.grownBy w' vs.ownBlock → RI B w' vs' (.slice none 0 0) (R ++ [r]) [] := by
  obtain ⟨hB, base, vals, h1, h2, h3, h4, h5⟩ := h
  refine ⟨vals, hB, h3, own_one h5, fun w1 vs' w' hb ho hg => ?_⟩
  have hs := Nat.le_trans hb.size hg.size
  have h3' := own_below h3 hb fun k hk => (h3.lt k hk).2
  refine ⟨Nat.le_trans hB hs, w'.heap.size, vals ++ [v], Nat.le_trans hB hs, Nat.le_refl _, ?_, ?_, World.ownsRow_nil _ _ _ _⟩
  · rw [List.length_append]
    exact ho
  · have hd : Done B w.heap.size w (vals ++ [v]) (R ++ [r]) := (h4.lim h2).snoc (own_mono h5 h1) fun k hk => (h5.lt k hk).2
    refine (hd.carry fun x rx hx hl => ?_).lim hs
    have hx' := own_below hx hb hl
    exact hx'.kept hg (own_ne hx' h3' (by decide))

/-- A row of values as it is read: nothing, or cells below the heap's end. -/
def VAt (w : World) (A : Option Addr) (vals : List Value) : Prop :=
  vals = [] ∨ ∃ b off, A = some ⟨b, off, none⟩ ∧ b < w.heap.size ∧ ∀ j u, vals[j]? = some u → w.cell? ⟨b, off + j, none⟩ = some u
theorem VAt.below {w w' : World} {A : Option Addr} {vals : List Value} (h : VAt w A vals) (hb : Below w.heap.size w w') : VAt w' A vals := by
  rcases h with h | ⟨b, off, hA, hlt, hc⟩
  · exact .inl h
  · exact .inr ⟨b, off, hA, Nat.lt_of_lt_of_le hlt hb.size, fun j z hz => (hb.cell (p := ⟨b, off + j, none⟩) hlt).trans (hc j z hz)⟩
theorem VAt.at_ {w : World} {A : Option Addr} {vals : List Value} (h : VAt w A vals) {k : Nat} (hk : k < vals.length) : ∃ b off, A = some ⟨b, off, none⟩ ∧ w.cell? ⟨b, off + k, none⟩ = some vals[k] := by
  rcases h with rfl | ⟨b, off, hA, hlt, hc⟩
  · simp at hk
  · exact ⟨b, off, hA, hc k _ (List.getElem?_eq_getElem hk)⟩
theorem vAt_own {w : World} {B : Nat} {t : TypeId} {v : Value} {n : Nat} {vals : List Value} (h : w.ownsRow B t 1 v n vals) : ∃ A c, v = .slice A n c ∧ VAt w A vals ∧ vals.length = n := by
  have hc := @World.ownsRow.cells _ _ _ _ _ _ _ h
  have hn : vals.length = n := by have := h.1; omega
  rcases h.2 with ⟨rfl, hn0⟩ | ⟨g, cap, cur, rfl, _, hg, _⟩
  · exact ⟨none, 0, by rw [hn0], .inl (List.eq_nil_of_length_eq_zero (by omega)), hn⟩
  · refine ⟨_, cap, rfl, .inr ⟨g, 0, rfl, (Array.getElem?_eq_some_iff.1 hg).1, fun j z hz => ?_⟩, hn⟩
    have := hc (g := g) rfl j z hz
    have hadd : (⟨g, 0, none⟩ : Addr).add j = ⟨g, 0 + j, none⟩ := by unfold Addr.add; split <;> simp_all
    rw [← hadd]
    exact this
theorem VAt.nil_len {w : World} {A : Option Addr} {vals : List Value} (h : VAt w A vals) : A = none → vals.length = 0 := by
  rintro rfl
  rcases h with rfl | ⟨b, off, hA, _⟩
  · rfl
  · cases hA
theorem VAt.news {w : World} {ad : Addr} {vals : List Value} (h : VAt w (some ad) vals) : ∀ j u, vals[j]? = some u → w.cell? (ad.add j) = some u := by
  intro j u hu
  rcases h with rfl | ⟨b, off, hA, hlt, hc⟩
  · simp at hu
  · injection hA with hA
    subst hA
    have hadd : (⟨b, off, none⟩ : Addr).add j = ⟨b, off + j, none⟩ := by unfold Addr.add; split <;> simp_all
    rw [hadd]
    exact hc j u hu

/-- A value that reads as one record. -/
def RecV (w : World) (x : Value) (r : List Bs) : Prop := ∃ A c, x = .slice A r.length c ∧ VAt w A (rowC r)
/-- A slice that reads as records. -/
def RecsAt (w : World) (A : Option Addr) (R : List (List Bs)) : Prop :=
  ∃ vals, vals.length = R.length ∧ VAt w A vals ∧ ∀ i (h : i < R.length) x, vals[i]? = some x → RecV w x R[i]
theorem RecV.below {w w' : World} {x : Value} {r : List Bs} (h : RecV w x r) (hb : Below w.heap.size w w') : RecV w' x r := by
  obtain ⟨A, c, e, hv⟩ := h
  exact ⟨A, c, e, hv.below hb⟩
theorem RecsAt.below {w w' : World} {A : Option Addr} {R : List (List Bs)} (h : RecsAt w A R) (hb : Below w.heap.size w w') : RecsAt w' A R := by
  obtain ⟨vals, h1, h2, h3⟩ := h
  exact ⟨vals, h1, h2.below hb, fun i hi x hx => (h3 i hi x hx).below hb⟩
theorem RecsAt.at_ {w : World} {A : Option Addr} {R : List (List Bs)} (h : RecsAt w A R) {k : Nat} (hk : k < R.length) : ∃ b off A' c, A = some ⟨b, off, none⟩ ∧ w.cell? ⟨b, off + k, none⟩ = some (.slice A' R[k].length c) ∧ VAt w A' (rowC R[k]) := by
  obtain ⟨vals, h1, h2, h3⟩ := h
  have hk' : k < vals.length := by omega
  obtain ⟨b, off, hA, hc⟩ := h2.at_ hk'
  obtain ⟨A', c, e, hv⟩ := h3 k hk _ (List.getElem?_eq_getElem hk')
  exact ⟨b, off, A', c, hA, by rw [hc, e], hv⟩
theorem RI.reads {B : Nat} {w : World} {vs v : Value} {R : List (List Bs)} {r : List Bs} (h : RI B w vs v R r) : ∃ A c, vs = .slice A R.length c ∧ RecsAt w A R := by
  obtain ⟨hB, base, vals, h1, h2, h3, h4, h5⟩ := h
  obtain ⟨A, c, e, hv, hl⟩ := vAt_own h3
  refine ⟨A, c, e, vals, hl, hv, fun i hi x hx => ?_⟩
  obtain ⟨h6, -, -⟩ := h4.own i hi x hx
  obtain ⟨A', c', e', hv', _⟩ := vAt_own h6
  exact ⟨A', c', e', hv'⟩
theorem RecsAt.nil (w : World) (A : Option Addr) : RecsAt w A [] := ⟨[], rfl, .inl rfl, fun i h => by simp at h⟩
end Go.Proofs.Ytdkdmfbhnaaobaa.Cv
