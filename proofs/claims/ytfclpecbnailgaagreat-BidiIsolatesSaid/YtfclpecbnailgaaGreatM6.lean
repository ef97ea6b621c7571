/-
  Several texts in one, each with its own remark: BaMatch, CvKit, BaLevFrame, BaLevel, LvDir, LvExpl, LvReads.
-/
import Derived.WalkSmall
import Derived.OneCell
import Derived.IntWalk
import Derived.OwnWalk
import Derived.Scope
import Derived.ScopeJumps
import Derived.Carry
import Derived.ProofKit
import Derived.OpenShut
import Derived.Below
import Derived.Lib.Hide
import Derived.WalkKit
import Derived.Shelf.Abstract
import Derived.WalkMore
import Derived.Deep.OwnRows
import Derived.Test.YtfclpecbnailgaaGreatM0
import Derived.Test.YtfclpecbnailgaaGreatM4
import Derived.Test.YtfclpecbnailgaaGreatRows
import Derived.Test.YtfclpecbnailgaaGreatM5

/-
  Proved here: what base.Match returns, for every row of numbers of at most 2^40: a new row, by the plain matchL. It leaves what was in memory.
-/
set_option linter.unusedVariables false
namespace Go.Proofs.YtfclpecbnailgaaGreat.Ba
open Go.RowKit Go.Lib Go.Proofs.YtfclpecbnailgaaGreat.Cl
/-- A row of ints by a function of the place. -/
def rowF (n : Nat) (F : Nat → Int) : List Value := (List.range n).map fun i => .int .i64 (F i)
def upd (F : Nat → Int) (k : Nat) (z : Int) : Nat → Int := fun i => if i = k then z else F i
theorem rowF_len (n : Nat) (F : Nat → Int) : (rowF n F).length = n := by simp [rowF]
theorem rowF_at (n : Nat) (F : Nat → Int) (k : Nat) (hk : k < n) : (rowF n F)[k]? = some (.int .i64 (F k)) := by simp [rowF, hk]
theorem rowF_set (n : Nat) (F : Nat → Int) (k : Nat) (z : Int) : (rowF n F).set k (.int .i64 z) = rowF n (upd F k z) := by
  apply List.ext_getElem?
  intro j
  by_cases hj : j < n
  · rw [rowF_at _ _ _ hj, List.getElem?_set]
    by_cases e : k = j
    · subst e
      simp [rowF_len, hj, upd]
    · rw [if_neg e, rowF_at _ _ _ hj]
      simp only [upd]
      rw [if_neg (fun h => e h.symm)]
  · rw [List.getElem?_eq_none (by rw [List.length_set, rowF_len]; omega), List.getElem?_eq_none (by rw [rowF_len]; omega)]
theorem rowF_ext {n : Nat} {F G : Nat → Int} (h : ∀ i, i < n → F i = G i) : rowF n F = rowF n G := by
  unfold rowF
  apply List.map_congr_left
  intro i hi
  rw [h i (List.mem_range.1 hi)]
theorem rowF_zero (n : Nat) : rowF n (fun _ => 0) = List.replicate n (.int .i64 0) := by
  apply List.ext_getElem?
  intro j
  by_cases hj : j < n
  · simp [rowF, hj]
  · simp [rowF, hj]
/-- What the row holds behind so many classes. -/
def FK (l : List Int) (k : Nat) : Nat → Int := fun i => if i < k then mtK l k i else 0
theorem FK_zero (l : List Int) (n : Nat) : rowF n (FK l 0) = List.replicate n (.int .i64 0) := by
  rw [← rowF_zero]
  exact rowF_ext fun i _ => by simp [FK]
theorem FK_all (l : List Int) : rowF l.length (FK l l.length) = (matchL l).map (.int .i64) := by
  unfold rowF matchL
  rw [List.map_map]
  apply List.map_congr_left
  intro i hi
  simp only [FK, Function.comp]
  rw [if_pos (List.mem_range.1 hi)]
theorem FK_other {l : List Int} {k i : Nat} (hik : i ≠ k) (h : ∀ hl : i < l.length, isI l[i] = true → endAt l i ≠ k) : FK l (k + 1) i = FK l k i := by
  unfold FK
  by_cases hi : i < k
  · rw [if_pos hi, if_pos (by omega), mtK_step h]
  · rw [if_neg hi, if_neg (by omega)]
theorem FK_I {l : List Int} {k : Nat} (hk : k < l.length) (hi : isI l[k] = true) : rowF l.length (upd (upd (FK l k) k (-1)) k l.length) = rowF l.length (FK l (k + 1)) := by
  refine rowF_ext fun i hin => ?_
  simp only [upd]
  by_cases e : i = k
  · subst e
    rw [if_pos rfl]
    unfold FK
    have := endAt_gt l i
    rw [if_pos (by omega), mtK_I hk hi (by omega)]
  · rw [if_neg e, if_neg e, FK_other e]
    intro hl hil he
    obtain ⟨r, hs⟩ := ends_only hk hl hil he
    have hp := endAt_P l i (by omega)
    simp only [he] at hp
    rw [isI_not_isP hi] at hp
    cases hp
theorem FK_N {l : List Int} {k : Nat} (hk : k < l.length) (hp : isP l[k] = false) (hi : isI l[k] = false) : rowF l.length (upd (FK l k) k (-1)) = rowF l.length (FK l (k + 1)) := by
  refine rowF_ext fun i hin => ?_
  simp only [upd]
  by_cases e : i = k
  · subst e
    rw [if_pos rfl]
    unfold FK
    rw [if_pos (by omega), mt_N hk hp hi]
  · rw [if_neg e, FK_other e]
    intro hl hil he
    have hp' := endAt_P l i (by omega)
    simp only [he] at hp'
    rw [hp] at hp'
    cases hp'
theorem FK_P0 {l : List Int} {k : Nat} (hk : k < l.length) (hp : isP l[k] = true) (hs : stk l k = []) : rowF l.length (upd (FK l k) k (-1)) = rowF l.length (FK l (k + 1)) := by
  refine rowF_ext fun i hin => ?_
  simp only [upd]
  by_cases e : i = k
  · subst e
    rw [if_pos rfl]
    unfold FK
    rw [if_pos (by omega), mt_P hk hp, hs]
  · rw [if_neg e, FK_other e]
    intro hl hil he
    obtain ⟨r, hr⟩ := ends_only hk hl hil he
    rw [hs] at hr
    cases hr
theorem FK_P {l : List Int} {k t : Nat} {r : List Nat} (hk : k < l.length) (hp : isP l[k] = true) (hs : stk l k = t :: r) : rowF l.length (upd (upd (upd (FK l k) k (-1)) k t) t k) = rowF l.length (FK l (k + 1)) := by
  obtain ⟨h1, h2, h3⟩ := ends_top hk hp hs
  refine rowF_ext fun i hin => ?_
  simp only [upd]
  by_cases e : i = t
  · subst e
    rw [if_pos rfl]
    unfold FK
    rw [List.getElem?_eq_getElem hin] at h3
    rw [if_pos (by omega), mtK_Ilt hin (by simpa using h3) (by omega), h1]
  · rw [if_neg e]
    by_cases e2 : i = k
    · subst e2
      rw [if_pos rfl]
      unfold FK
      rw [if_pos (by omega), mt_P hk hp, hs]
    · rw [if_neg e2, if_neg e2, FK_other e2]
      intro hl hil he
      obtain ⟨r', hr⟩ := ends_only hk hl hil he
      rw [hs] at hr
      injection hr with hr _
      exact e hr.symm
/-- The cells of the stack. -/
def stkC (s : List Nat) : List Value := s.reverse.map fun (t : Nat) => Value.int .i64 (t : Int)
theorem stkC_len (s : List Nat) : (stkC s).length = s.length := by simp [stkC]
theorem stkC_cons (t : Nat) (r : List Nat) : stkC (t :: r) = stkC r ++ [.int .i64 (t : Int)] := by simp [stkC]
theorem own_form {w : World} {base : Nat} {e : TypeId} {size : Nat} {v : Value} {n : Nat} {xs : List Value} (h : w.ownsRow base e size v n xs) : ∃ A c, v = .slice A n c := by
  rcases h.2 with ⟨rfl, rfl⟩ | ⟨g, cap, cur, rfl, _⟩
  · exact ⟨_, _, rfl⟩
  · exact ⟨_, _, rfl⟩
theorem cell_one_new' {w : World} {B : Nat} {v : Value} {t : TypeId} (h : w.heap.size = B) : ∀ j u, [v][j]? = some u → (w.alloc (.cells #[v] t)).cell? ((⟨B, 0, none⟩ : Addr).add j) = some u := by
  subst h
  exact cell_one_new _ _ _
theorem ints_single (z : Int) : ∀ u ∈ [Value.int .i64 z], u.oneCell' = true := by
  intro u hu
  simp only [List.mem_singleton] at hu
  subst hu
  rfl
set_option maxHeartbeats 2000000 in
set_option maxRecDepth 100000 in
theorem match_any (A : Option Addr) (l : List Int) (n c : Nat) (w : World) (hl : l.length = n) (hR : IntsAt w A l) (hn : n ≤ 1099511627776) :
    Calls Tryz.prog 90 #[.slice A n c] w fun e w' => ∃ g, e = .returned (.slice (some ⟨g, 0, none⟩) n n) ∧ w'.ownsRow w.heap.size 3 1 (.slice (some ⟨g, 0, none⟩) n n) n ((matchL l).map (.int .i64)) ∧ Below w.heap.size w w' := by
  obtain ⟨i0, hi, hz0, hzs, hzb⟩ := Cl.info_parts Cl.infoInt
  have HR := Lib.hid hR
  have HL := Lib.hid hl
  have HI := Lib.hid hi
  have HQ0 := Lib.hid hz0
  have HQ1 := Lib.hid hzs
  have HQ2 := Lib.hid hzb
  have HALL := Lib.hid (show rowF n (FK l n) = (matchL l).map (.int .i64) by rw [← hl]; exact FK_all l)
  have HNONE := Lib.hid (FK_zero l n)
  clear hR hl hi hz0 hzs hzb
  go_enter Tryz.func90, Tryz.ntmps90
  go_wp2_with (refine wpList_make_full _ rfl _ _ 25 rfl w.heap.size 3 i0 (.int .i64 0) 1 Tryz.underlying25 HI.out HQ0.out HQ1.out .i64 .i64 _ _ n rfl rfl rfl rfl ?c1 ?c2 ?c3 ?_)
  case c1 => rw [HQ2.out]; omega
  case c2 => unfold maxLen; omega
  case c3 => exact Nat.le_refl _
  intro w4 hown hgrow
  have hown1 : w4.ownsRow w.heap.size 3 1 (.slice (some ⟨w.heap.size, 0, none⟩) n n) n (rowF n (FK l 0)) := by
    have h := hown
    rw [toList_madeCells_one] at h
    rw [HNONE.out]
    exact h
  have hb4 : Below w.heap.size w w4 := (Below.refl _ _).grown hgrow (Nat.le_refl _) (fun k h => by cases h)
  have hg4 : w.heap.size < w4.heap.size := (hown1.lt _ rfl).2
  have HO := Lib.hid hown1
  have HB4 := Lib.hid hb4
  clear hown hgrow hown1 hb4
  generalize hg : w.heap.size = g at *
  have HG0 := Lib.hid hg
  clear hg
  go_wp2_with fail
  go_loopw [4, 12] (fun s4 s12 wx => ∃ k : Nat, k ≤ n ∧ s12 = .int .i64 k ∧ Below g w wx ∧ g < wx.heap.size ∧ wx.ownsRow g 3 1 (.slice (some ⟨g, 0, none⟩) n n) n (rowF n (FK l k)) ∧ wx.ownsRow (g + 1) 3 1 s4 (stk l k).length (stkC (stk l k))) (fun _ s12 _ => n - (RowKit.intOf s12).toNat)
  case atStart => exact ⟨0, Nat.zero_le _, rfl, HB4.out, hg4, HO.out, World.ownsRow_nil _ _ _ _⟩
  case round =>
    obtain ⟨k, hk, rfl, hb, hgx, hown, hstk⟩ := hrel
    have HB := Lib.hid hb
    have HW := Lib.hid hown
    have HS := Lib.hid hstk
    clear hb hown hstk HO HB4
    by_cases hlt : k < n
    · have hkl : k < l.length := by rw [HL.out]; exact hlt
      obtain ⟨b, off, rfl, hc0⟩ := HR.out.at_ hkl
      have hbg : b < g := by
        have := World.block_lt_of_cell? w _ hc0
        rw [HG0.out] at this
        exact this
      have hlen := stk_len l k
      have hc1 : (wr.setCell ⟨g, k, none⟩ (.int .i64 (-1))).cell? ⟨b, off + k, none⟩ = some (.int .i64 l[k]) := by
        rw [World.cell?_of_block (w := wr) (Below.heap_setCell _ _ _ _ (by simp; omega)), HB.out.cell hbg]
        exact hc0
      have hcell := (HW.out.cellAt k (by omega)).trans (rowF_at n _ k hlt)
      have hfrz := HW.out.frozenAt k
      have hown1 := (HW.out.stored k (.int .i64 (-1))).1
      rw [rowF_set] at hown1
      have HW1 := Lib.hid hown1
      have HS1 := Lib.hid (ownsRow_setCell_below HS.out (a := ⟨g, k, none⟩) (by simp) (.int .i64 (-1)))
      have hcell1 := (hown1.cellAt k (by omega)).trans (rowF_at n _ k hlt)
      have hfrz1 := hown1.frozenAt k
      obtain ⟨SA, sc, rfl⟩ := own_form HS.out
      clear hc0 hown1
      have hNI := fun h1 h2 => FK_N (l := l) hkl h1 h2
      have hII := fun h1 => FK_I (l := l) hkl h1
      have hP0 := fun h1 h2 => FK_P0 (l := l) hkl h1 h2
      have hPP := fun h1 t r h2 => FK_P (l := l) (t := t) (r := r) hkl h1 h2
      have hsI := fun h1 => stk_I (l := l) hkl h1
      have hsP := fun h1 => stk_P (l := l) hkl h1
      have hsN := fun h1 h2 => stk_N (l := l) hkl h1 h2
      have hsm := fun t r h1 h2 => ends_top (l := l) (t := t) (r := r) hkl h1 h2
      rw [HL.out] at hNI hII hP0 hPP
      have HNI := Lib.hid hNI
      have HII := Lib.hid hII
      have HP0 := Lib.hid hP0
      have HPP := Lib.hid hPP
      have HSI := Lib.hid hsI
      have HSP := Lib.hid hsP
      have HSN := Lib.hid hsN
      have HSM := Lib.hid hsm
      clear hNI hII hP0 hPP hsI hsP hsN hsm
      generalize hcc : l[k] = c at *
      have HCC := Lib.hid hcc
      clear hcc
      by_cases hIs : isI c = true
      · have hcs : c = 19 ∨ c = 20 ∨ c = 21 := by simpa [isI] using hIs
        have hII := HII.out hIs
        have hsI := HSI.out hIs
        have HII' := Lib.hid hII
        have HSI' := Lib.hid hsI
        clear hII hsI HII HSI HNI HP0 HPP HSP HSN HSM hIs
        have HW2 := Lib.hid (HW1.out.stored k (.int .i64 n)).1
        have HS2 := Lib.hid (ownsRow_setCell_below HS1.out (a := ⟨g, k, none⟩) (by simp) (.int .i64 n))
        rcases hcs with rfl | rfl | rfl
        all_goals
          go_wp2_with (at_builtin; refine wpList_append_own _ rfl _ _ 25 rfl (g + 1) 3 i0 (.int .i64 0) 1 8 Tryz.underlying25 HI.out HQ0.out HQ1.out HQ2.out rfl (by decide) _ _ _ rfl (HS2.out.alloc _) ⟨wr.heap.size, 0, none⟩ 1 1 [.int .i64 (k : Int)] rfl rfl (cell_one_new' (by simp)) (ints_single _) (by unfold maxLen; omega) (by omega) (by simp; omega) ?_)
          intro v' w5 hown' hgrow _
          have HG := Lib.hid hgrow
          have HO' := Lib.hid hown'
          clear hgrow hown'
          go_wp2
          go_roundw
          case measure => simp [RowKit.intOf]; omega
          case rel =>
            have hlt2 := HS2.out.lt
            have hbb := ((((HB.out.setCell (p := ⟨g, k, none⟩) (Nat.le_refl _) (.int .i64 (-1))).setCell (p := ⟨g, k, none⟩) (Nat.le_refl _) (.int .i64 n)).alloc (by simp; omega) _).grown HG.out (by simp; omega) (fun x hx => by have := (hlt2 x hx).1; omega))
            refine ⟨k + 1, by omega, by go_num, hbb, ?_, ?_, ?_⟩
            · have := HG.out.size; simp at this; omega
            · have h0 := (HW2.out.alloc _).kept HG.out (Or.inr (fun e => by have := (hlt2 g e.symm).1; omega))
              rw [rowF_set, HII'.out] at h0
              exact h0
            · rw [HSI'.out, stkC_cons]
              exact HO'.out
      · have hIf : isI c = false := by simpa using hIs
        by_cases hPs : isP c = true
        · obtain rfl : c = 22 := by simpa [isP] using hPs
          cases hs : stk l k with
          | nil =>
            have hP0 := HP0.out hPs hs
            have hsP := HSP.out hPs
            rw [hs] at hsP
            have HP0' := Lib.hid hP0
            have HSP' := Lib.hid hsP
            have h0 := HS1.out
            rw [hs] at h0
            have HS0 := Lib.hid h0
            clear hP0 hsP HII HSI HNI HP0 HPP HSP HSN HSM hIs hPs hIf h0 hlen HS HS1
            rw [List.length_nil]
            clear hs
            go_wp2
            go_roundw
            case measure => simp [RowKit.intOf]; omega
            case rel =>
              refine ⟨k + 1, by omega, by go_num, HB.out.setCell (p := ⟨g, k, none⟩) (Nat.le_refl _) _, by simp; omega, ?_, ?_⟩
              · rw [← HP0'.out]
                exact HW1.out
              · rw [HSP'.out]
                exact HS0.out
          | cons t r =>
            obtain ⟨he, htk, hti⟩ := HSM.out t r hPs hs
            have hPP := HPP.out hPs t r hs
            have hsP := HSP.out hPs
            rw [hs] at hsP
            have HPP' := Lib.hid hPP
            have HSP' := Lib.hid hsP
            have h0 := HS1.out
            rw [hs] at h0 hlen
            simp only [List.length_cons] at hlen
            rw [stkC_cons, List.length_cons] at h0
            obtain ⟨sg, sd, hse, hsg, hsl⟩ := h0.form (by omega)
            rw [List.length_cons]
            injection hse with e1 e2 e3
            subst e1 e3
            have hne : sg ≠ g := by omega
            have htop := (h0.cellAt r.length (by omega)).trans (by rw [List.getElem?_append_right (by rw [stkC_len]; exact Nat.le_refl _), stkC_len, Nat.sub_self]; rfl : _ = some (Value.int .i64 (t : Int)))
            have htop2 : ((wr.setCell ⟨g, k, none⟩ (.int .i64 (-1))).setCell ⟨g, k, none⟩ (.int .i64 t)).cell? ⟨sg, r.length, none⟩ = some (.int .i64 (t : Int)) := by
              rw [World.cell?_of_block (w := wr.setCell ⟨g, k, none⟩ (.int .i64 (-1))) (Below.heap_setCell _ _ _ _ (by simpa using hne))]
              exact htop
            have hw2 := (HW1.out.stored k (.int .i64 t)).1
            rw [rowF_set] at hw2
            have hcell2 := (hw2.cellAt t (by omega)).trans (rowF_at n _ t (by omega))
            have hfrz2 := hw2.frozenAt t
            have hw3 := (hw2.stored t (.int .i64 k)).1
            rw [rowF_set, HPP'.out] at hw3
            have HW3 := Lib.hid hw3
            have HS3 := Lib.hid (ownsRow_pop (by rw [stkC_len]; omega) (ownsRow_setCell_below (ownsRow_setCell_below h0 (a := ⟨g, k, none⟩) (by simp) (.int .i64 t)) (a := ⟨g, t, none⟩) (by simp) (.int .i64 k)))
            have hcap : r.length + 1 ≤ sc := by
              rcases h0.2 with ⟨h1, _⟩ | ⟨g1, c1, cur, hv, _, _, hle, _⟩
              · cases h1
              · cases hv; omega
            clear hPP hsP HII HSI HNI HP0 HPP HSP HSN HSM hIs hPs hIf h0 HS HS1 hw2 hw3 hs he
            go_wp2
            go_roundw
            case measure => simp [RowKit.intOf]; omega
            case rel =>
              refine ⟨k + 1, by omega, by go_num, ((HB.out.setCell (p := ⟨g, k, none⟩) (Nat.le_refl _) _).setCell (p := ⟨g, k, none⟩) (Nat.le_refl _) _).setCell (p := ⟨g, t, none⟩) (Nat.le_refl _) _, by simp; omega, ?_, ?_⟩
              · exact HW3.out
              · rw [HSP'.out]
                exact HS3.out
        · have hPf : isP c = false := by simpa using hPs
          have hNI := HNI.out hPf hIf
          have hsN := HSN.out hPf hIf
          have HNI' := Lib.hid hNI
          have HSN' := Lib.hid hsN
          have c1 : (c == 19) = false := by simp [isI] at hIf; simp; omega
          have c2 : (c == 20) = false := by simp [isI] at hIf; simp; omega
          have c3 : (c == 21) = false := by simp [isI] at hIf; simp; omega
          have c4 : (c == 22) = false := by simpa [isP] using hPf
          clear hNI hsN HII HSI HNI HP0 HPP HSP HSN HSM hIs hPs hIf hPf
          go_wp2
          go_roundw
          case measure => simp [RowKit.intOf]; omega
          case rel =>
            refine ⟨k + 1, by omega, by go_num, HB.out.setCell (p := ⟨g, k, none⟩) (Nat.le_refl _) _, by simp; omega, ?_, ?_⟩
            · rw [← HNI'.out]
              exact HW1.out
            · rw [HSN'.out]
              exact HS1.out
    · obtain rfl : k = n := by omega
      go_wp2
      go_ret
      have h0 := HW.out
      rw [HALL.out] at h0
      exact ⟨g, rfl, by rw [HG0.out]; exact h0, by rw [HG0.out]; exact HB.out⟩
end Go.Proofs.YtfclpecbnailgaaGreat.Ba

/-
  A scope in which the run jumps to several labels: what holds at each, and a measure that every pass from a label lowers. No program in it.
-/
set_option linter.unusedVariables false
namespace Go.Proofs.YtfclpecbnailgaaGreat.Cv
open Go Go.RowKit
/-- By a goto to a label: J of it; else as Q. -/
def jumps (J : Nat → Act → World → Prop) (Q : Exit → Act → World → Prop) : Exit → Act → World → Prop
  | .goto l, a, w => J l a w
  | e, a, w => Q e a w
section
variable {P : Program} {a : Act} {w : World} {Q : Exit → Act → World → Prop}
theorem wp_scope_many {c : Code} (J : Nat → Act → World → Prop) (μ : Nat → Act → World → Nat)
    (first : c.wp P (jumps J Q) a w)
    (pass : ∀ l a w, J l a w → ∃ rest, findLabel c l = some rest ∧ rest.wp P (jumps (fun l' a' w' => J l' a' w' ∧ μ l' a' w' < μ l a w) Q) a w) : (Code.scope c).wp P Q a w := by
  intro b k cs
  have hg : ∀ l rest, findLabel c l = some rest → gotoIn l (.inScope c :: k) = some (.code rest :: .inScope c :: k) := fun l rest h => by simp [gotoIn, h]
  have key : ∀ n l a w rest, μ l a w = n → J l a w → findLabel c l = some rest → ∃ e a' w', Q e a' w' ∧ Arrives P (lone (b.at a (.code rest :: .inScope c :: k)) cs w) b k cs e a' w' := by
    intro n
    induction n using Nat.strongRecOn with
    | _ n ih =>
      intro l a w rest hn hJ hfl
      obtain ⟨rest', hf, hp⟩ := pass l a w hJ
      rw [hfl] at hf
      injection hf with hf
      subst hf
      obtain ⟨e, a₁, w₁, hq, harr⟩ := hp b (.inScope c :: k) cs
      cases e with
      | normal => exact ⟨.normal, a₁, w₁, hq, Steps.trans harr (.one step_inScope)⟩
      | exit id => exact ⟨.exit id, a₁, w₁, hq, fun k' hk => harr k' (by simp [exitTo, hk])⟩
      | goto l' =>
        obtain ⟨hJ', hlt⟩ := hq
        obtain ⟨rest₂, hf₂, _⟩ := pass l' a₁ w₁ hJ'
        obtain ⟨e₂, a₂, w₂, hq₂, harr₂⟩ := ih _ (by omega) l' a₁ w₁ rest₂ rfl hJ' hf₂
        exact ⟨e₂, a₂, w₂, hq₂, .of_steps (harr _ (hg l' rest₂ hf₂)) harr₂⟩
      | ret => exact ⟨_, a₁, w₁, hq, harr⟩
      | panic ch => exact ⟨_, a₁, w₁, hq, harr⟩
      | outgrown => exact ⟨_, a₁, w₁, hq, harr⟩
  obtain ⟨e, a₁, w₁, hq, harr⟩ := first b (.inScope c :: k) cs
  cases e with
  | normal => exact ⟨.normal, a₁, w₁, hq, .head step_scope (Steps.trans harr (.one step_inScope))⟩
  | exit id => exact ⟨.exit id, a₁, w₁, hq, fun k' hk => .head step_scope (harr k' (by simp [exitTo, hk]))⟩
  | goto l' =>
    obtain ⟨rest₂, hf₂, _⟩ := pass l' a₁ w₁ hq
    obtain ⟨e₂, a₂, w₂, hq₂, harr₂⟩ := key _ l' a₁ w₁ rest₂ rfl hq hf₂
    exact ⟨e₂, a₂, w₂, hq₂, .of_steps (.head step_scope (harr _ (hg l' rest₂ hf₂))) harr₂⟩
  | ret => exact ⟨_, a₁, w₁, hq, .of_steps (.one step_scope) harr⟩
  | panic ch => exact ⟨_, a₁, w₁, hq, .of_steps (.one step_scope) harr⟩
  | outgrown => exact ⟨_, a₁, w₁, hq, .of_steps (.one step_scope) harr⟩
end
end Go.Proofs.YtfclpecbnailgaaGreat.Cv

/-
  The frame of base.Level at its label: which slots are known there; the others are a row of values.
-/
set_option linter.unusedVariables false
namespace Go.Proofs.YtfclpecbnailgaaGreat.Ba
open Go Go.RowKit
structure FitBaLev (t : Act) (s a o : Value) : Prop where
  size : t.tmps.size = 36
  defers : t.defers = []
  s0 : t.tmps.getD 0 undef = s
  s4 : t.tmps.getD 4 undef = a
  s5 : t.tmps.getD 5 undef = o
theorem list_range_BaLev (l : List Value) : l = (List.range l.length).map fun i => l.getD i undef := by
  apply List.ext_getElem
  · simp
  · intro i h1 h2
    simp [h1]
theorem FitBaLev.opened {t : Act} {s a o : Value} (h : FitBaLev t s a o) : ∃ g : Nat → Value, t = ⟨#[s, g 1, g 2, g 3, a, o, g 6, g 7, g 8, g 9, g 10, g 11, g 12, g 13, g 14, g 15, g 16, g 17, g 18, g 19, g 20, g 21, g 22, g 23, g 24, g 25, g 26, g 27, g 28, g 29, g 30, g 31, g 32, g 33, g 34, g 35], []⟩ := by
  obtain ⟨hs, hd, h0, h4, h5⟩ := h
  obtain ⟨⟨l⟩, d⟩ := t
  simp only at hd hs
  subst hd
  have hl : l.length = 36 := hs
  have e := list_range_BaLev l
  rw [hl] at e
  have e0 : l.getD 0 undef = s := by rw [← h0]; simp [Array.getD, List.getD, hl]
  have e4 : l.getD 4 undef = a := by rw [← h4]; simp [Array.getD, List.getD, hl]
  have e5 : l.getD 5 undef = o := by rw [← h5]; simp [Array.getD, List.getD, hl]
  generalize hg : (fun i => l.getD i undef) = g at e
  have c0 : g 0 = s := by rw [← hg]; exact e0
  have c4 : g 4 = a := by rw [← hg]; exact e4
  have c5 : g 5 = o := by rw [← hg]; exact e5
  refine ⟨g, ?_⟩
  rw [e, ← c0, ← c4, ← c5]
  rfl
end Go.Proofs.YtfclpecbnailgaaGreat.Ba

/-
  Proved here: what base.Level returns, for every row of numbers of at most 2^40: the plain levL. It leaves what was in memory.
-/
set_option linter.unusedVariables false
namespace Go.Proofs.YtfclpecbnailgaaGreat.Ba
open Go Go.RowKit Go.Lib Go.Proofs.YtfclpecbnailgaaGreat.Cl Go.Proofs.YtfclpecbnailgaaGreat.Cv
/-- A scope with one label: the way to it, and each pass from it, walked once. -/
theorem wp_scope_again {P : Program} {c rest : Code} {a : Act} {w : World} {Q : Exit → Act → World → Prop} (l : Nat) (J : Act → World → Prop) (μ : Act → World → Nat) (hf : findLabel c l = some (Code.skip.seq rest))
    (first : (∀ a w, J a w → rest.wp P (Exit.jump l J Q) a w) → c.wp P (Exit.jump l J Q) a w)
    (pass : ∀ a w, J a w → rest.wp P (Exit.jump l (fun a' w' => J a' w' ∧ μ a' w' < μ a w) Q) a w) : (Code.scope c).wp P Q a w :=
  wp_scope_jumps l J μ hf (first fun a w h => wp_mono (pass a w h) (fun e a' w' he => by
    cases e <;> first | exact ⟨he.1, he.2.1⟩ | exact he)) (fun a w h => wp_seq (wp_skip (pass a w h)))
set_option maxHeartbeats 2000000 in
set_option maxRecDepth 100000 in
theorem level_any (A : Option Addr) (l : List Int) (n m : Nat) (w : World) (hl : l.length = n) (hR : IntsAt w A l) (hn : n ≤ 1099511627776) :
    Calls Tryz.prog 129 #[.slice A n m] w fun e w' => e = .returned (.tuple #[.int .i64 (levL l 0).1, .bool (levL l 0).2]) ∧ w = w' := by
  obtain ⟨x, hx⟩ : ∃ x, levL l 0 = x := ⟨_, rfl⟩
  rw [hx]
  have HX := Lib.hid (show levL (l.drop 0) 0 = x by rw [List.drop_zero]; exact hx)
  have HR := Lib.hid hR
  have HL := Lib.hid hl
  clear hx hR hl
  go_enter Tryz.func129, Tryz.ntmps129
  go_wp2
  refine wp_scope_again 0 (fun a' w' => ∃ k d : Nat, FitBaLev a' (.slice A n m) (.int .i64 k) (.int .i64 d) ∧ k ≤ n ∧ d ≤ k ∧ levL (l.drop k) d = x ∧ w = w') (fun a' _ => n - (RowKit.intOf (a'.tmps.getD 4 undef)).toNat) rfl ?_ ?_
  · intro hgo
    go_wp2
    go_step3
    rename_i hK
    refine hK _ _ (hgo _ _ ?_)
    exact ⟨0, 0, ⟨rfl, rfl, rfl, rfl, rfl⟩, Nat.zero_le _, Nat.le_refl _, HX.out, rfl⟩
  · rintro a' w' ⟨k, d, hfit, hk, hd, hlev, rfl⟩
    obtain ⟨g, rfl⟩ := hfit.opened
    clear hfit HX
    have HV := Lib.hid hlev
    clear hlev
    by_cases hlt : k < n
    · have hkl : k < l.length := by rw [HL.out]; exact hlt
      obtain ⟨b, off, rfl, hc0⟩ := HR.out.at_ hkl
      have HLI := Lib.hid (fun h => levL_I (d := d) hkl h)
      have HLP := Lib.hid (fun h => levL_P (d := d) hkl h)
      have HLN := Lib.hid (fun h h2 => levL_N (d := d) hkl h h2)
      rw [HV.out] at HLI HLP HLN
      generalize l[k] = c at *
      by_cases hIs : isI c = true
      · have hcs : c = 19 ∨ c = 20 ∨ c = 21 := by simpa [isI] using hIs
        have HV2 := Lib.hid (HLI.out hIs).symm
        clear HLI HLP HLN HV hIs
        rcases hcs with rfl | rfl | rfl
        all_goals
          go_wp2
          go_step3
          refine ⟨rfl, ⟨k + 1, d + 1, ⟨rfl, rfl, rfl, rfl, rfl⟩, by omega, by omega, HV2.out, rfl⟩, ?_⟩
          simp [RowKit.intOf]
          omega
      · have hIf : isI c = false := by simpa using hIs
        by_cases hPs : isP c = true
        · obtain rfl : c = 22 := by simpa [isP] using hPs
          have HV2 := Lib.hid (HLP.out hPs).symm
          clear HLI HLP HLN HV hIs hIf hPs
          rcases Nat.eq_zero_or_pos d with hd0 | hd0
          · subst hd0
            go_wp2
            go_step3
            refine ⟨rfl, ⟨k + 1, 0, ⟨rfl, rfl, rfl, rfl, rfl⟩, by omega, by omega, HV2.out, rfl⟩, ?_⟩
            simp [RowKit.intOf]
            omega
          · obtain ⟨d', rfl⟩ : ∃ d', d = d' + 1 := ⟨d - 1, by omega⟩
            clear hd0
            rcases Nat.eq_zero_or_pos d' with hz | hz
            · subst hz
              go_wp2
              go_step3
              refine ⟨rfl, ⟨k + 1, 0, ⟨rfl, rfl, rfl, rfl, rfl⟩, by omega, by omega, HV2.out, rfl⟩, ?_⟩
              simp [RowKit.intOf]
              omega
            · have hz2 : decide (0 < d') = true := decide_eq_true hz
              go_wp2
              go_step3
              refine ⟨rfl, ⟨k + 1, d', ⟨rfl, rfl, rfl, rfl, rfl⟩, by omega, by omega, HV2.out, rfl⟩, ?_⟩
              simp [RowKit.intOf]
              omega
        · have hPf : isP c = false := by simpa using hPs
          have hV := HLN.out hPf hIf
          have c1 : (c == 19) = false := by simp [isI] at hIf; simp; omega
          have c2 : (c == 20) = false := by simp [isI] at hIf; simp; omega
          have c3 : (c == 21) = false := by simp [isI] at hIf; simp; omega
          have c4 : (c == 22) = false := by simpa [isP] using hPf
          clear HLI HLP HLN HV hIs hPs hIf hPf
          by_cases hd0 : d = 0
          · subst hd0
            by_cases h0 : c = 0
            · subst h0
              have hv2 : x = (0, true) := hV
              subst hv2
              clear hV
              go_wp2
              simp only [Exit.jump]
              go_ret2
              exact ⟨rfl, rfl⟩
            · have c5 : (c == 0) = false := by simpa using h0
              rw [if_neg (fun h => h0 h.2)] at hV
              by_cases h1 : c = 1 ∨ c = 2
              · rw [if_pos ⟨rfl, h1⟩] at hV
                subst hV
                rcases h1 with rfl | rfl
                all_goals
                  go_wp2
                  simp only [Exit.jump]
                  go_ret2
                  exact ⟨rfl, rfl⟩
              · rw [if_neg (fun h => h1 h.2)] at hV
                have HV2 := Lib.hid hV.symm
                have c6 : (c == 1) = false := by simp; omega
                have c7 : (c == 2) = false := by simp; omega
                clear hV h0 h1
                go_wp2
                go_step3
                refine ⟨rfl, ⟨k + 1, 0, ⟨rfl, rfl, rfl, rfl, rfl⟩, by omega, by omega, HV2.out, rfl⟩, ?_⟩
                simp [RowKit.intOf]
                omega
          · rw [if_neg (fun h => hd0 h.1), if_neg (fun h => hd0 h.1)] at hV
            have HV2 := Lib.hid hV.symm
            have hdz : ((d : Int) == 0) = false := by simpa using hd0
            clear hV
            by_cases h0 : c = 0
            · subst h0
              go_wp2
              go_step3
              refine ⟨rfl, ⟨k + 1, d, ⟨rfl, rfl, rfl, rfl, rfl⟩, by omega, by omega, HV2.out, rfl⟩, ?_⟩
              simp [RowKit.intOf]
              omega
            · have c5 : (c == 0) = false := by simpa using h0
              by_cases h1 : c = 1
              · subst h1
                go_wp2
                go_step3
                refine ⟨rfl, ⟨k + 1, d, ⟨rfl, rfl, rfl, rfl, rfl⟩, by omega, by omega, HV2.out, rfl⟩, ?_⟩
                simp [RowKit.intOf]
                omega
              · have c6 : (c == 1) = false := by simpa using h1
                by_cases h2 : c = 2
                · subst h2
                  go_wp2
                  go_step3
                  refine ⟨rfl, ⟨k + 1, d, ⟨rfl, rfl, rfl, rfl, rfl⟩, by omega, by omega, HV2.out, rfl⟩, ?_⟩
                  simp [RowKit.intOf]
                  omega
                · have c7 : (c == 2) = false := by simpa using h2
                  clear h0 h1 h2
                  go_wp2
                  go_step3
                  refine ⟨rfl, ⟨k + 1, d, ⟨rfl, rfl, rfl, rfl, rfl⟩, by omega, by omega, HV2.out, rfl⟩, ?_⟩
                  simp [RowKit.intOf]
                  omega
    · have hke : k = n := by omega
      subst hke
      have hv := HV.out
      rw [List.drop_eq_nil_of_le (by rw [HL.out]; exact Nat.le_refl _)] at hv
      have hv2 : x = (0, false) := hv.symm
      subst hv2
      go_wp2
      simp only [Exit.jump]
      go_ret2
      exact ⟨rfl, rfl⟩
end Go.Proofs.YtfclpecbnailgaaGreat.Ba

/-
  Proved here: what level.directed returns, for every row of numbers of at most 2^40 and the row of its matches, at an initiator: by dirE. It leaves what was in memory.
-/
set_option linter.unusedVariables false
namespace Go.Proofs.YtfclpecbnailgaaGreat.Lv
open Go Go.RowKit Go.Lib Go.Proofs.YtfclpecbnailgaaGreat.Cl Go.Proofs.YtfclpecbnailgaaGreat.Ba
theorem ints_drop {w : World} {b off : Nat} {spot : _} {zs : List Int} (h : IntsAt w (some ⟨b, off, spot⟩) zs) (p : Nat) : IntsAt w (some ((⟨b, off, spot⟩ : Addr).add p)) (zs.drop p) := by
  rcases h with rfl | ⟨b', off', he, hlt, hc⟩
  · exact .inl (by simp)
  · injection he with he
    injection he with e1 e2 e3
    subst e1 e2 e3
    have hadd : (⟨b, off, none⟩ : Addr).add p = ⟨b, off + p, none⟩ := by unfold Addr.add; split <;> simp_all
    refine .inr ⟨b, off + p, by rw [hadd], hlt, fun j z hz => ?_⟩
    rw [List.getElem?_drop] at hz
    rw [Nat.add_assoc]
    exact hc (p + j) z hz
theorem ints_take {w : World} {A : Option Addr} {zs : List Int} (h : IntsAt w A zs) (p : Nat) : IntsAt w A (zs.take p) := by
  rcases h with rfl | ⟨b, off, rfl, hlt, hc⟩
  · exact .inl (by simp)
  · refine .inr ⟨b, off, rfl, hlt, fun j z hz => ?_⟩
    rw [List.getElem?_take] at hz
    split at hz
    · exact hc j z hz
    · cases hz
theorem ints_one_at {w : World} {A : Option Addr} {zs : List Int} (h : IntsAt w A zs) {k : Nat} (hk : k < zs.length) {b off : Nat} {spot : _} (hA : A = some ⟨b, off, spot⟩) : IntsAt w (some ((⟨b, off, spot⟩ : Addr).add k)) [zs[k]] := by
  subst hA
  have h2 := ints_take (ints_drop h k) 1
  rw [List.drop_eq_getElem_cons hk] at h2
  exact h2
theorem levE_N {l : List Int} {k : Nat} (h : k < l.length) (hp : isP l[k] = false) (hi : isI l[k] = false) : levE (l.drop k) 0 = if l[k] = 0 then (0, true) else if l[k] = 1 ∨ l[k] = 2 then (1, true) else levE (l.drop (k + 1)) 0 := by
  rw [List.drop_eq_getElem_cons h]
  simp only [levE]
  rw [if_neg (by rw [hi]; decide), if_neg (by rw [hp]; decide)]
  simp
theorem levE_I {l : List Int} {k : Nat} (h : k < l.length) (hi : isI l[k] = true) : levE (l.drop k) 0 = levE (l.drop (endAt l k + 1)) 0 := by
  rw [List.drop_eq_getElem_cons h]
  simp only [levE]
  rw [if_pos hi, levE_skip, List.drop_drop]
  congr 2
/-- Where the one behind an isolate ends. -/
theorem end_I {l : List Int} {k e : Nat} (h : k < l.length) (hi : isI l[k] = true) (he : k + endL (l.drop k) 0 = e) (hlt : endAt l k < l.length) : endAt l k + 1 + endL (l.drop (endAt l k + 1)) 0 = e := by
  rw [endL_I l k 0 h hi, endL_succ _ _ (by rw [List.length_drop]; unfold endAt at hlt; omega), List.drop_drop] at he
  unfold endAt
  have e1 : k + 1 + (endL (l.drop (k + 1)) 0 + 1) = k + 1 + endL (l.drop (k + 1)) 0 + 1 := by omega
  rw [e1] at he
  omega
theorem lev_one (c : Int) (hi : isI c = false) (hp : isP c = false) : levL [c] 0 = if c = 0 then (0, true) else if c = 1 ∨ c = 2 then (1, true) else (0, false) := by
  simp only [levL]
  rw [if_neg (by rw [hi]; decide), if_neg (by rw [hp]; decide)]
  simp
set_option maxHeartbeats 2000000 in
set_option maxRecDepth 100000 in
theorem directed_any (A Am : Option Addr) (l : List Int) (n m mm f : Nat) (w : World) (hl : l.length = n) (hR : IntsAt w A l) (hM : IntsAt w Am (matchL l)) (hn : n ≤ 1099511627776) (hnm : n ≤ m) (hf : f < n) (hI : ∀ h : f < l.length, isI l[f] = true) :
    Calls Tryz.prog 94 #[.slice A n m, .slice Am n mm, .int .i64 f] w fun x w' => x = .returned (.int .i64 (if dirE (l.drop (f + 1)) = 1 then 20 else 19)) ∧ w = w' := by
  have hfl : f < l.length := by omega
  have hIf := hI hfl
  have hml := matchL_len l
  obtain ⟨bm, om, rfl, -⟩ := hM.at_ (k := f) (by omega)
  have HMC := Lib.hid (show ∀ i (h : i < l.length), w.cell? ⟨bm, om + i, none⟩ = some (.int .i64 (mtK l l.length i)) from fun i h => by
    obtain ⟨b', o', he, hc⟩ := hM.at_ (k := i) (by omega)
    injection he with he
    injection he with e1 e2
    subst e1 e2
    rw [matchL_at l i h] at hc
    exact hc)
  obtain ⟨e, he⟩ : ∃ e, endAt l f = e := ⟨_, rfl⟩
  obtain ⟨x, hx⟩ : ∃ x, levE (l.drop (f + 1)) 0 = x := ⟨_, rfl⟩
  have hres : (if dirE (l.drop (f + 1)) = 1 then (20 : Int) else 19) = if x.1 = 1 then 20 else 19 := by
    unfold dirE
    rw [hx]
    split <;> simp_all
  rw [hres]
  have hce := HMC.out f hfl
  rw [mt_I hfl hIf, he] at hce
  have hen := endAt_le l f hfl
  rw [he] at hen
  have HST := Lib.hid (show f + 1 + endL (l.drop (f + 1)) 0 = e from he)
  have HX := Lib.hid hx
  have HR := Lib.hid hR
  have HL := Lib.hid hl
  clear hres hx he hR hM hI hIf hml
  go_enter Tryz.func94, Tryz.ntmps94
  go_wp2_with fail
  go_loop [7] (fun s7 => ∃ k : Nat, s7 = .int .i64 k ∧ k ≤ n + 1 ∧ levE (l.drop k) 0 = x ∧ (k + endL (l.drop k) 0 = e ∨ (e < k ∧ x = (0, false)))) (fun s7 => n + 2 - (RowKit.intOf s7).toNat)
  case atStart => exact ⟨f + 1, by go_num, by omega, HX.out, .inl HST.out⟩
  case round =>
    obtain ⟨k, rfl, hk, hv, hJ⟩ := hrel
    have HV := Lib.hid hv
    have HJ := Lib.hid hJ
    clear hv hJ HST HX
    by_cases hlt : k < e
    · have hkl : k < l.length := by omega
      have hend : k + endL (l.drop k) 0 = e := by
        rcases HJ.out with h | h
        · exact h
        · omega
      have hck := HMC.out k hkl
      obtain ⟨b, off, rfl, hc0⟩ := HR.out.at_ hkl
      have HEND := Lib.hid hend
      clear HJ hend
      cases hi : isI l[k] with
      | true =>
        rw [mt_I hkl hi] at hck
        have hgt := endAt_gt l k
        have hle := endAt_le l k hkl
        have HN := Lib.hid (show levE (l.drop (endAt l k + 1)) 0 = x by rw [← levE_I hkl hi]; exact HV.out)
        have HE := Lib.hid (fun h => end_I hkl hi HEND.out h)
        have kg : decide ((k : Int) < (endAt l k : Int)) = true := by simp; omega
        have kg2 : decide (k < endAt l k) = true := by simp; omega
        have kl : decide (k < e) = true := by simpa using hlt
        clear HV HEND hi hc0
        generalize endAt l k = q at *
        go_wp2
        go_round
        case measure => simp [RowKit.intOf]; omega
        case rel =>
          refine ⟨q + 1, by go_num, by omega, HN.out, ?_⟩
          by_cases hq : q < l.length
          · exact .inl (HE.out hq)
          · refine .inr ⟨by omega, ?_⟩
            rw [← HN.out, List.drop_eq_nil_of_le (by omega)]
            rfl
      | false =>
        have hp : isP l[k] = false := by
          cases hp : isP l[k] with
          | false => rfl
          | true =>
            have := endL_P0 l k hkl hp
            have := HEND.out
            omega
        rw [mt_N hkl hp hi] at hck
        have hone := ints_one_at HR.out hkl rfl
        rw [show (⟨b, off, none⟩ : Addr).add k = ⟨b, off + k, none⟩ from by unfold Addr.add; split <;> simp_all] at hone
        have HS := Lib.hid (level_any _ [l[k]] 1 (m - k) w rfl hone (by omega))
        clear hone
        have HLO := Lib.hid (lev_one l[k] hi hp)
        have HV2 := Lib.hid (show _ = x from (levE_N hkl hp hi).symm.trans HV.out)
        have HE := Lib.hid (show k + 1 + endL (l.drop (k + 1)) 0 = e by rw [← endL_N l k 0 hkl hp hi]; exact HEND.out)
        have kl : decide (k < e) = true := by simpa using hlt
        have kg : decide ((k : Int) < -1) = false := by simp
        have hmk : ¬ m = k := by omega
        clear HV HEND hi hp
        generalize l[k] = c at *
        by_cases c0 : c = 0
        · subst c0
          have hx : x = (0, true) := by rw [← HV2.out, if_pos rfl]
          subst hx
          rw [show levL [(0 : Int)] 0 = (0, true) from by rw [HLO.out, if_pos rfl]] at HS
          clear HV2 HLO HE
          go_wp2_with fail
          refine HS.out.mono ?_
          rintro y w1 ⟨rfl, rfl⟩
          go_wp2
          go_ret
          exact ⟨rfl, rfl⟩
        · by_cases c1 : c = 1 ∨ c = 2
          · have hx : x = (1, true) := by rw [← HV2.out, if_neg c0, if_pos c1]
            subst hx
            rw [show levL [c] 0 = (1, true) from by rw [HLO.out, if_neg c0, if_pos c1]] at HS
            clear HV2 HLO HE c0 c1
            go_wp2_with fail
            refine HS.out.mono ?_
            rintro y w1 ⟨rfl, rfl⟩
            go_wp2
            go_ret
            exact ⟨rfl, rfl⟩
          · have HV3 := HV2.out
            rw [if_neg c0, if_neg c1] at HV3
            rw [show levL [c] 0 = (0, false) from by rw [HLO.out, if_neg c0, if_neg c1]] at HS
            have HV4 := Lib.hid HV3
            clear HV2 HV3 HLO c0 c1
            go_wp2_with fail
            refine HS.out.mono ?_
            rintro y w1 ⟨rfl, rfl⟩
            go_wp2
            go_round
            case measure => simp [RowKit.intOf]; omega
            case rel => exact ⟨k + 1, by go_num, by omega, HV4.out, .inl HE.out⟩
    · have hx : x = (0, false) := by
        rcases HJ.out with h | h
        · have h0 : endL (l.drop k) 0 = 0 := by omega
          rw [← HV.out, levE_ended _ h0]
        · exact h.2
      subst hx
      have kl : decide (k < e) = false := by simp; omega
      clear HV HJ
      go_wp2
      go_ret
      exact ⟨rfl, rfl⟩
end Go.Proofs.YtfclpecbnailgaaGreat.Lv

/-
  Proved here: what level.Explicit returns, for every row of numbers of at most 2^40 and every level: two new rows, by the plain explL, or none. It leaves what was in memory.
-/
set_option linter.unusedVariables false
namespace Go.Proofs.YtfclpecbnailgaaGreat.Lv
open Go Go.RowKit Go.Lib Go.Proofs.YtfclpecbnailgaaGreat.Cl Go.Proofs.YtfclpecbnailgaaGreat.Ba
theorem own_kept {w w' : World} {B g c : Nat} {t : TypeId} {sz n : Nat} {xs : List Value} (h : w.ownsRow B t sz (.slice (some ⟨g, 0, none⟩) n c) n xs) {C : Nat} (hb : Below C w w') (hlt : g < C) : w'.ownsRow B t sz (.slice (some ⟨g, 0, none⟩) n c) n xs := by
  refine ⟨h.1, ?_⟩
  rcases h.2 with h2 | ⟨g', cap, cur, e1, e2, e3, e4⟩
  · exact .inl h2
  · cases e1
    exact .inr ⟨g, c, cur, rfl, e2, (hb.block g hlt).trans e3, e4⟩
theorem own_other {w : World} {B g c : Nat} {t : TypeId} {sz n : Nat} {xs : List Value} (h : w.ownsRow B t sz (.slice (some ⟨g, 0, none⟩) n c) n xs) {a : Addr} (ha : g ≠ a.block) (u : Value) : (w.setCell a u).ownsRow B t sz (.slice (some ⟨g, 0, none⟩) n c) n xs :=
  ownsRow_setCell_other h (fun e => ha (by have e2 : some g = some a.block := e; injection e2)) u
theorem infoI : (Tryz.prog.info? 3).map (fun i => (i.zero, i.size, i.bytes)) = some (some (.int .i64 0), 1, 8) := by kernel_rfl
theorem then_toE {K K1 : Act → World → Prop} {Q : Exit → Act → World → Prop} (h : ∀ a w, K1 a w → K a w) : ∀ e a w, Exit.then K1 Q e a w → Exit.then K Q e a w := by
  intro e a w
  cases e <;> first | exact h a w | exact id
/-- Two rows of zeros. -/
theorem two_made (w : World) (n : Nat) (hn : n ≤ maxLen) (t : TypeId) (o : Obj) (ho : o = .cells (madeCells #[.int .i64 0] n) t (0, 0)) : ((w.alloc o).alloc o).ownsRow w.heap.size t 1 (.slice (some ⟨w.heap.size, 0, none⟩) n n) n (rowF n (fun _ => 0)) ∧ ((w.alloc o).alloc o).ownsRow w.heap.size t 1 (.slice (some ⟨w.heap.size + 1, 0, none⟩) n n) n (rowF n (fun _ => 0)) ∧ Below w.heap.size w ((w.alloc o).alloc o) ∧ ((w.alloc o).alloc o).heap.size = w.heap.size + 2 := by
  subst ho
  have hm := toList_madeCells_one (.int .i64 0) n
  rw [← rowF_zero] at hm
  have ht : (madeCells #[Value.int .i64 0] n).toList.take (n * 1) = rowF n (fun _ => 0) := by
    rw [hm, Nat.mul_one]
    exact List.take_of_length_le (by rw [rowF_len]; exact Nat.le_refl _)
  have hz : (madeCells #[Value.int .i64 0] n).size = n * 1 := by rw [size_madeCells, Nat.mul_one]
  refine ⟨⟨by rw [rowF_len, Nat.mul_one], .inr ⟨w.heap.size, n, _, rfl, Nat.le_refl _, (Below.heap_alloc _ _ _ (by simp)).trans (heap_alloc_last _ _), Nat.le_refl _, hn, hz, ht⟩⟩, ⟨by rw [rowF_len, Nat.mul_one], .inr ⟨w.heap.size + 1, n, madeCells #[Value.int .i64 0] n, rfl, by omega, ?_, Nat.le_refl _, hn, hz, ht⟩⟩, ((Below.refl _ _).alloc (Nat.le_refl _) _).alloc (by simp) _, by simp⟩
  have h := heap_alloc_last (w.alloc (.cells (madeCells #[.int .i64 0] n) t (0, 0))) (.cells (madeCells #[.int .i64 0] n) t (0, 0))
  rw [show (w.alloc (.cells (madeCells #[Value.int .i64 0] n) t (0, 0))).heap.size = w.heap.size + 1 from by simp] at h
  exact h
def LK (W : List (Int × Int)) (k : Nat) : Nat → Int := fun i => if i < k then (W.getD i (0, 0)).1 else 0
def TK (W : List (Int × Int)) (k : Nat) : Nat → Int := fun i => if i < k then (W.getD i (0, 0)).2 else 0
theorem LK_step {W : List (Int × Int)} {n k : Nat} (hk : k < W.length) : rowF n (upd (LK W k) k W[k].1) = rowF n (LK W (k + 1)) := by
  refine rowF_ext fun i hi => ?_
  simp only [upd, LK]
  by_cases e : i = k
  · subst e
    rw [if_pos rfl, if_pos (by omega)]
    simp [hk]
  · rw [if_neg e]
    by_cases h : i < k
    · rw [if_pos h, if_pos (by omega)]
    · rw [if_neg h, if_neg (by omega)]
theorem TK_step {W : List (Int × Int)} {n k : Nat} (hk : k < W.length) : rowF n (upd (TK W k) k W[k].2) = rowF n (TK W (k + 1)) := by
  refine rowF_ext fun i hi => ?_
  simp only [upd, TK]
  by_cases e : i = k
  · subst e
    rw [if_pos rfl, if_pos (by omega)]
    simp [hk]
  · rw [if_neg e]
    by_cases h : i < k
    · rw [if_pos h, if_pos (by omega)]
    · rw [if_neg h, if_neg (by omega)]
theorem LK_zero (W : List (Int × Int)) (n : Nat) : rowF n (LK W 0) = rowF n (fun _ => 0) := rowF_ext fun i _ => by simp [LK]
theorem TK_zero (W : List (Int × Int)) (n : Nat) : rowF n (TK W 0) = rowF n (fun _ => 0) := rowF_ext fun i _ => by simp [TK]
theorem LK_all (W : List (Int × Int)) : rowF W.length (LK W W.length) = icl (W.map (·.1)) := by
  apply List.ext_getElem?
  intro i
  by_cases h : i < W.length
  · rw [rowF_at _ _ _ h]
    simp [icl, LK, h]
  · rw [List.getElem?_eq_none (by rw [rowF_len]; omega), List.getElem?_eq_none (by rw [icl_len, List.length_map]; omega)]
theorem TK_all (W : List (Int × Int)) : rowF W.length (TK W W.length) = icl (W.map (·.2)) := by
  apply List.ext_getElem?
  intro i
  by_cases h : i < W.length
  · rw [rowF_at _ _ _ h]
    simp [icl, TK, h]
  · rw [List.getElem?_eq_none (by rw [rowF_len]; omega), List.getElem?_eq_none (by rw [icl_len, List.length_map]; omega)]
/-- What Explicit returns: two new rows. -/
def ExplPost (l : List Int) (b n : Nat) (w : World) (x : Ending) (w' : World) : Prop :=
  ∃ g1 g2 : Nat, x = .returned (.tuple #[.slice (some ⟨g1, 0, none⟩) n n, .slice (some ⟨g2, 0, none⟩) n n]) ∧ g1 ≠ g2 ∧
    w'.ownsRow w.heap.size 3 1 (.slice (some ⟨g1, 0, none⟩) n n) n (icl ((explL l b).map (·.1))) ∧ w'.ownsRow w.heap.size 3 1 (.slice (some ⟨g2, 0, none⟩) n n) n (icl ((explL l b).map (·.2))) ∧ Below w.heap.size w w'
theorem ints_kept {w w' : World} {g off : Nat} {zs : List Int} (h : IntsAt w (some ⟨g, off, none⟩) zs) {C : Nat} (hb : Below C w w') (hlt : g < C) : IntsAt w' (some ⟨g, off, none⟩) zs := by
  rcases h with h | ⟨b, o, hA, hl, hc⟩
  · exact .inl h
  · injection hA with hA
    injection hA with e1 e2
    subst e1 e2
    exact .inr ⟨g, off, rfl, Nat.lt_of_lt_of_le hl hb.size, fun j z hz => (hb.cell (p := ⟨g, off + j, none⟩) hlt).trans (hc j z hz)⟩
theorem ints_store {w : World} {g off : Nat} {zs : List Int} (h : IntsAt w (some ⟨g, off, none⟩) zs) {a : Addr} (ha : g ≠ a.block) (u : Value) : IntsAt (w.setCell a u) (some ⟨g, off, none⟩) zs := by
  rcases h with h | ⟨b, o, hA, hl, hc⟩
  · exact .inl h
  · injection hA with hA
    injection hA with e1 e2
    subst e1 e2
    refine .inr ⟨g, off, rfl, by simpa using hl, fun j z hz => ?_⟩
    exact (World.cell?_of_block (w := w) (a := ⟨g, off + j, none⟩) (Below.heap_setCell _ _ _ _ ha)).trans (hc j z hz)
/-- One class on: what stands behind it, and what is answered of it. -/
theorem walk_at {b : Nat} {l : List Int} {s : St} {E : List (Int × Int)} {k : Nat} (h : walkL b (l.drop k) s = E.drop k) (hk : k < l.length) (hE : k < E.length) : outS b (closeS l[k] s) l[k] = E[k] ∧ walkL b (l.drop (k + 1)) (openS l[k] (l.drop (k + 1)) (closeS l[k] s)) = E.drop (k + 1) := by
  rw [List.drop_eq_getElem_cons hk, List.drop_eq_getElem_cons hE] at h
  simp only [walkL] at h
  injection h with h1 h2
  exact ⟨h1, h2⟩
set_option maxHeartbeats 4000000 in
set_option maxRecDepth 100000 in
theorem explicit_any (A : Option Addr) (l : List Int) (b n m : Nat) (w : World) (hb : b ≤ 1) (hl : l.length = n) (hR : IntsAt w A l) (hn : n ≤ 1000000) (hnm : n ≤ m) :
    Calls Tryz.prog 48 #[.slice A n m, .int .i64 b] w fun x w' => ExplPost l b n w x w' := by
  have hmk := fun W => run_make_row' (P := Tryz.prog) 25 3 (.int .i64 0) 8 Tryz.underlying25 infoI rfl .i64 .i64 n (by omega) (by omega) W
  have HTWO := Lib.hid (two_made w n (by unfold maxLen; omega) 3 _ rfl)
  have HR := Lib.hid hR
  have HL := Lib.hid hl
  have HEL := Lib.hid (explL_len l b)
  have HW0 := Lib.hid (show walkL b (l.drop 0) (startS b) = (explL l b).drop 0 from rfl)
  have HFIN := Lib.hid (And.intro (LK_all (explL l b)) (TK_all (explL l b)))
  clear hR hl
  have k01 : ((b : Int) != 0) = false ∨ (((b : Int) != 0) = true ∧ ((b : Int) != 1) = false) := by
    rcases (show b = 0 ∨ b = 1 by omega) with rfl | rfl
    · exact .inl rfl
    · exact .inr ⟨rfl, rfl⟩
  unfold ExplPost
  generalize explL l b = E at *
  go_enter Tryz.func48, Tryz.ntmps48
  rcases k01 with k0 | ⟨k0, k1⟩
  all_goals
    go_wp2_with fail
    rename_i Q0 K0 hK0
    obtain ⟨K1, hQ1⟩ : ∃ K1 : Act → World → Prop, ∀ y Z, K1 y Z ↔ (∃ g1 g2 : Nat, (g1 ≠ g2 ∧ Z.ownsRow w.heap.size 3 1 (.slice (some ⟨g1, 0, none⟩) n n) n (rowF n (fun _ => 0)) ∧ Z.ownsRow w.heap.size 3 1 (.slice (some ⟨g2, 0, none⟩) n n) n (rowF n (fun _ => 0)) ∧ Below w.heap.size w Z) ∧
      ∃ a10 a11 a12 a13 a14 a15 a16 a17 a18 a19 a20 a21, y = ⟨#[.slice A n m, .int .i64 b, undef, undef, .slice (some ⟨g1, 0, none⟩) n n, .slice (some ⟨g2, 0, none⟩) n n, undef, undef, undef, undef, a10, a11, a12, a13, a14, a15, a16, a17, a18, a19, a20, a21, undef, undef, undef, undef, undef, undef, undef, undef, undef, undef, undef, undef, undef, undef, undef, undef, undef, undef, undef, undef, undef, undef, undef, undef, undef, undef, undef, undef, undef, undef, undef, undef, undef, undef, undef, undef, undef, undef], []⟩) := ⟨_, fun _ _ => Iff.rfl⟩
    have HQ := Lib.hid hQ1
    clear hQ1
    refine wp_mono (Q := Exit.then K1 Q0) ?_ (then_toE ?_)
    · go_region
      all_goals show K1 _ _
      all_goals refine (HQ.out _ _).2 ?_
      all_goals
        obtain ⟨o1, o2, hbw, -⟩ := HTWO.out
        first
        | exact ⟨w.heap.size, w.heap.size + 1, ⟨by omega, o1, o2, hbw.drew⟩, _, _, _, _, _, _, _, _, _, _, _, _, rfl⟩
        | exact ⟨w.heap.size + 1, w.heap.size, ⟨by omega, o2, o1, hbw.drew⟩, _, _, _, _, _, _, _, _, _, _, _, _, rfl⟩
    rintro y Z hh
    obtain ⟨g1, g2, ⟨hne, ho1, ho2, hbz⟩, a10, a11, a12, a13, a14, a15, a16, a17, a18, a19, a20, a21, rfl⟩ := (HQ.out _ _).1 hh
    clear hh HQ HTWO hmk
    refine hK0 _ _ ?_
    have hlt1 := (ho1.lt g1 rfl).2
    have hlt2 := (ho2.lt g2 rfl).2
    have hge1 := (ho1.lt g1 rfl).1
    have hge2 := (ho2.lt g2 rfl).1
    have HO1 := Lib.hid ho1
    have HO2 := Lib.hid ho2
    have HBZ := Lib.hid hbz
    have HM := Lib.hid (match_any A l n m Z HL.out (HR.out.below hbz) (by omega))
    clear ho1 ho2 hbz
    go_wp2_with fail
    refine HM.out.mono ?_
    rintro x w1 ⟨gm, rfl, hom, hb1⟩
    have hltm := (hom.lt gm rfl).2
    have hgem := (hom.lt gm rfl).1
    have hsz1 := hb1.size
    obtain ⟨A', c', hv, hma⟩ := intsAt_icl (zs := matchL l) hom ((matchL_len l).trans HL.out)
    have hA' : A' = some ⟨gm, 0, none⟩ := by
      injection hv with h1 _ _
      exact h1.symm
    subst hA'
    clear hv
    have HMA := Lib.hid hma
    have HO1' := Lib.hid (own_kept HO1.out hb1 (by omega))
    have HO2' := Lib.hid (own_kept HO2.out hb1 (by omega))
    have HB1 := Lib.hid (HBZ.out.trans (hb1.mono HBZ.out.size))
    clear HO1 HO2 HBZ HM hom hb1 hma
    go_wp2_with fail
    refine (paragraph_any b w1).mono ?_
    rintro x w2 ⟨rfl, hop, hb2⟩
    have hgmN : gm ≠ g1 ∧ gm ≠ g2 := ⟨by omega, by omega⟩
    obtain ⟨B, hB⟩ : ∃ B, w1.heap.size + 1 = B := ⟨_, rfl⟩
    have hB1 : w1.heap.size = B - 1 := by omega
    rw [hB] at hop
    rw [hB]
    rw [hB1] at hb2 hltm hsz1
    have hl1 : g1 < B - 1 := by omega
    have hl2 : g2 < B - 1 := by omega
    have hhB : w.heap.size ≤ B - 1 := by have := HB1.out.size; omega
    have HOP := Lib.hid hop
    have HMA2 := Lib.hid (ints_kept HMA.out hb2 hltm)
    have HO1 := Lib.hid (own_kept HO1'.out hb2 (by omega))
    have HO2 := Lib.hid (own_kept HO2'.out hb2 (by omega))
    have HB2 := Lib.hid (HB1.out.trans (hb2.mono hhB))
    clear HMA HO1' HO2' HB1 hop hb2 hB hB1 hsz1
    go_wp2_with fail
    go_loopw [28] (fun s28 wx => ∃ (k : Nat) (s : St), s28 = .int .i64 k ∧ k ≤ n ∧ OpAt wx B s ∧ Ok b s ∧ Few k s ∧ walkL b (l.drop k) s = E.drop k ∧ wx.ownsRow w.heap.size 3 1 (.slice (some ⟨g1, 0, none⟩) n n) n (rowF n (LK E k)) ∧ wx.ownsRow w.heap.size 3 1 (.slice (some ⟨g2, 0, none⟩) n n) n (rowF n (TK E k)) ∧ IntsAt wx (some ⟨gm, 0, none⟩) (matchL l) ∧ Below w.heap.size w wx) (fun s28 _ => n - (RowKit.intOf s28).toNat)
    case atStart => exact ⟨0, startS b, rfl, Nat.zero_le _, HOP.out, Ok.start b, ⟨Nat.le_refl _, Nat.le_refl _⟩, HW0.out, by rw [LK_zero]; exact HO1.out, by rw [TK_zero]; exact HO2.out, HMA2.out, HB2.out⟩
    case round =>
      obtain ⟨k, s, rfl, hk, hop, hok, hfew, hwalk, ho1, ho2, hma, hbx⟩ := hrel
      clear HOP HO1 HO2 HMA2 HB2 HW0
      have HMA := Lib.hid hma
      have HO1 := Lib.hid ho1
      have HO2 := Lib.hid ho2
      have HBX := Lib.hid hbx
      clear hma ho1 ho2
      by_cases hlt : k < n
      · have hkl : k < l.length := by rw [HL.out]; exact hlt
        have hkE : k < E.length := by rw [HEL.out]; exact hkl
        obtain ⟨hout, hnext⟩ := walk_at hwalk hkl hkE
        have hir := HR.out.below hbx
        obtain ⟨bb, off, hA, hc0⟩ := hir.at_ hkl
        subst hA
        have HOK1 := Lib.hid (hok.close l[k])
        have HFEW1 := Lib.hid (hfew.close l[k])
        have HOK2 := Lib.hid ((hok.close l[k]).open_ l[k] (l.drop (k + 1)))
        have HFEW2 := Lib.hid ((hfew.close l[k]).open_ l[k] (l.drop (k + 1)))
        have hopn := hok.count
        have hops : isos s.es ≤ s.es.length := isos_le _
        have hsm := hok.chain.small hb
        have HCL := Lib.hid (close_any l[k] b B s wr hb hok hop (by have := hfew.1; omega) (by have := hfew.2; omega) (by omega))
        have HOUT := Lib.hid hout
        have HNEXT := Lib.hid hnext
        have HFSI := Lib.hid (fun (h : l[k] = 21) => h)
        have HISI := Lib.hid (fun (h : l[k] = 21) (h2 : k < l.length) => show isI l[k] = true by rw [h]; rfl)
        have HL1 := Lib.hid (LK_step (n := n) hkE)
        have HT1 := Lib.hid (TK_step (n := n) hkE)
        clear hout hnext hwalk hir hbx hok hfew hop hopn hops hsm
        generalize hcc : l[k] = c at *
        generalize hss : closeS c s = s1 at *
        generalize hee : E[k] = e1 at *
        obtain ⟨y1, y2⟩ := e1
        clear hcc hss hee
        go_wp2_with fail
        refine HCL.out.mono ?_
        rintro x w3 ⟨rfl, ho3, hb3⟩
        have hs3 := hb3.size
        have HT := Lib.hid (tell_any c b B s1 w3 hb HOK1.out.chain ho3)
        rw [HOUT.out] at HT
        have HO3 := Lib.hid ho3
        have HB3 := Lib.hid hb3
        have hB3 := ho3.lt
        clear ho3 hb3 HCL HOUT
        go_wp2_with fail
        refine HT.out.mono ?_
        rintro x w4 ⟨rfl, hb4⟩
        have hb34 := HB3.out.trans (hb4.mono (B' := B - 1) (by omega))
        have HOP4 := Lib.hid (HO3.out.below hb4)
        have ho1 := own_kept HO1.out hb34 (by omega)
        have ho2 := own_kept HO2.out hb34 (by omega)
        have HMA4 := Lib.hid (ints_kept HMA.out hb34 hltm)
        have HB4 := Lib.hid (HBX.out.trans (hb34.mono hhB))
        clear HT HO3 HB3 hb4 hb34 HO1 HO2 HMA HBX
        have p1 := (ho1.cellAt k (by omega)).trans (rowF_at n _ k hlt)
        have f1 := ho1.frozenAt k
        have ho1s := (ho1.stored k (.int .i64 y1)).1
        rw [rowF_set, HL1.out] at ho1s
        have ho2s := own_other ho2 (a := ⟨g1, k, none⟩) (by simp; omega) (.int .i64 y1)
        have p2 := (ho2s.cellAt k (by omega)).trans (rowF_at n _ k hlt)
        have f2 := ho2s.frozenAt k
        have ho2t := (ho2s.stored k (.int .i64 y2)).1
        rw [rowF_set, HT1.out] at ho2t
        have ho1t := own_other ho1s (a := ⟨g2, k, none⟩) (by simp; omega) (.int .i64 y2)
        have HOP5 := Lib.hid ((HOP4.out.store (a := ⟨g1, k, none⟩) hl1 (.int .i64 y1)).store (a := ⟨g2, k, none⟩) hl2 (.int .i64 y2))
        have HMA5 := Lib.hid (ints_store (ints_store HMA4.out (a := ⟨g1, k, none⟩) hgmN.1 (.int .i64 y1)) (a := ⟨g2, k, none⟩) hgmN.2 (.int .i64 y2))
        have HB5 := Lib.hid ((HB4.out.setCell (p := ⟨g1, k, none⟩) hge1 (.int .i64 y1)).setCell (p := ⟨g2, k, none⟩) hge2 (.int .i64 y2))
        have HO1 := Lib.hid ho1t
        have HO2 := Lib.hid ho2t
        clear HOP4 HMA4 HB4 ho1 ho2 ho1s ho2s ho1t ho2t HL1 HT1
        by_cases hF : c = 21
        · subst hF
          obtain ⟨z, hz⟩ : ∃ z, (if dirE (l.drop (k + 1)) = 1 then (20 : Int) else 19) = z := ⟨_, rfl⟩
          have hz21 : z ≠ 21 := by rw [← hz]; split <;> decide
          have HD := Lib.hid (directed_any _ _ l n m n k ((w4.setCell ⟨g1, k, none⟩ (.int .i64 y1)).setCell ⟨g2, k, none⟩ (.int .i64 y2)) HL.out (HR.out.below HB5.out) HMA5.out (by omega) hnm hlt (HISI.out rfl))
          have HN2 := openS_fsi (l.drop (k + 1)) s1
          rw [hz] at HD HN2
          rw [HN2] at HNEXT HOK2 HFEW2
          have HO := Lib.hid (open_any z hz21 b B s1 ((w4.setCell ⟨g1, k, none⟩ (.int .i64 y1)).setCell ⟨g2, k, none⟩ (.int .i64 y2)) hb HOK1.out HOP5.out (by have := HFEW1.out.1; omega) (by have := HFEW1.out.2; omega) (by have := HOK1.out.count; have := isos_le s1.es; have := HOK1.out.chain.small hb; omega))
          clear hz hz21 HOP5 HN2
          go_wp2_with fail
          refine HD.out.mono ?_
          rintro x w6 ⟨rfl, rfl⟩
          go_wp2_with fail
          refine HO.out.mono ?_
          rintro x w7 ⟨rfl, ho7, hb7⟩
          have HO1' := Lib.hid (own_kept HO1.out hb7 (by omega))
          have HO2' := Lib.hid (own_kept HO2.out hb7 (by omega))
          have HMA7 := Lib.hid (ints_kept HMA5.out hb7 hltm)
          have HB7 := Lib.hid (HB5.out.trans (hb7.mono hhB))
          clear HO HO1 HO2 HMA5 HB5 hb7
          go_wp2
          go_roundw
          case measure => simp [RowKit.intOf]; omega
          case rel => exact ⟨k + 1, _, by go_num, by omega, ho7, HOK2.out, HFEW2.out, HNEXT.out, HO1'.out, HO2'.out, HMA7.out, HB7.out⟩
        · have kF : (c == 21) = false := by simpa using hF
          have HO := Lib.hid (open_any c hF b B s1 ((w4.setCell ⟨g1, k, none⟩ (.int .i64 y1)).setCell ⟨g2, k, none⟩ (.int .i64 y2)) hb HOK1.out HOP5.out (by have := HFEW1.out.1; omega) (by have := HFEW1.out.2; omega) (by have := HOK1.out.count; have := isos_le s1.es; have := HOK1.out.chain.small hb; omega))
          have HN2 := openS_any hF (l.drop (k + 1)) [] s1
          rw [HN2] at HNEXT HOK2 HFEW2
          clear hF HOP5 HN2 HISI HFSI
          go_wp2_with fail
          refine HO.out.mono ?_
          rintro x w7 ⟨rfl, ho7, hb7⟩
          have HO1' := Lib.hid (own_kept HO1.out hb7 (by omega))
          have HO2' := Lib.hid (own_kept HO2.out hb7 (by omega))
          have HMA7 := Lib.hid (ints_kept HMA5.out hb7 hltm)
          have HB7 := Lib.hid (HB5.out.trans (hb7.mono hhB))
          clear HO HO1 HO2 HMA5 HB5 hb7
          go_wp2
          go_roundw
          case measure => simp [RowKit.intOf]; omega
          case rel => exact ⟨k + 1, _, by go_num, by omega, ho7, HOK2.out, HFEW2.out, HNEXT.out, HO1'.out, HO2'.out, HMA7.out, HB7.out⟩
      · obtain rfl : k = n := by omega
        go_wp2
        go_ret2
        have hEn : E.length = k := HEL.out.trans HL.out
        obtain ⟨h1, h2⟩ := HFIN.out
        rw [hEn] at h1 h2
        exact ⟨g1, g2, rfl, hne, by rw [← h1]; exact HO1.out, by rw [← h2]; exact HO2.out, HBX.out⟩
end Go.Proofs.YtfclpecbnailgaaGreat.Lv

/-
  Proved here: what level.Explicit returns, as it is read; in a paragraph of no level. It leaves what was in memory.
-/
set_option linter.unusedVariables false
namespace Go.Proofs.YtfclpecbnailgaaGreat.Lv
open Go Go.RowKit Go.Lib Go.Proofs.YtfclpecbnailgaaGreat.Cl
/-- What Explicit returns, as it is read. -/
def ReadPost (xs ys : List Int) (n : Nat) (w : World) (x : Ending) (w' : World) : Prop :=
  ∃ g1 g2 : Nat, x = .returned (.tuple #[.slice (some ⟨g1, 0, none⟩) n n, .slice (some ⟨g2, 0, none⟩) n n]) ∧ g1 ≠ g2 ∧ w.heap.size ≤ g1 ∧ w.heap.size ≤ g2 ∧
    w'.ownsRow w.heap.size 3 1 (.slice (some ⟨g1, 0, none⟩) n n) n (icl xs) ∧ w'.ownsRow w.heap.size 3 1 (.slice (some ⟨g2, 0, none⟩) n n) n (icl ys) ∧ IntsAt w' (some ⟨g1, 0, none⟩) xs ∧ IntsAt w' (some ⟨g2, 0, none⟩) ys ∧ Below w.heap.size w w'
theorem explicit_reads (A : Option Addr) (l : List Int) (b n m : Nat) (w : World) (hb : b ≤ 1) (hl : l.length = n) (hR : IntsAt w A l) (hn : n ≤ 1000000) (hnm : n ≤ m) :
    Calls Tryz.prog 48 #[.slice A n m, .int .i64 b] w fun x w' => ReadPost ((explL l b).map (·.1)) ((explL l b).map (·.2)) n w x w' := by
  refine (explicit_any A l b n m w hb hl hR hn hnm).mono ?_
  rintro x w' ⟨g1, g2, rfl, hne, h1, h2, hbw⟩
  have e1 : ((explL l b).map (·.1)).length = n := by rw [List.length_map, explL_len, hl]
  have e2 : ((explL l b).map (·.2)).length = n := by rw [List.length_map, explL_len, hl]
  obtain ⟨A1, c1, hv1, i1⟩ := intsAt_icl h1 e1
  obtain ⟨A2, c2, hv2, i2⟩ := intsAt_icl h2 e2
  have ha1 : some ⟨g1, 0, none⟩ = A1 := by injection hv1
  have ha2 : some ⟨g2, 0, none⟩ = A2 := by injection hv2
  exact ⟨g1, g2, rfl, hne, (h1.lt g1 rfl).1, (h2.lt g2 rfl).1, h1, h2, ha1 ▸ i1, ha2 ▸ i2, hbw⟩
set_option maxHeartbeats 1000000 in
set_option maxRecDepth 100000 in
theorem explicit_none (A : Option Addr) (x : Int) (n m : Nat) (w : World) (h0 : x ≠ 0) (h1 : x ≠ 1) :
    Calls Tryz.prog 48 #[.slice A n m, .int .i64 x] w fun e w' => e = .returned (.tuple #[.slice none 0 0, .slice none 0 0]) ∧ w = w' := by
  have k0 : (x != 0) = true := by simpa using h0
  have k1 : (x != 1) = true := by simpa using h1
  clear h0 h1
  go_enter Tryz.func48, Tryz.ntmps48
  go_wp2
  go_ret2
  exact ⟨rfl, rfl⟩
end Go.Proofs.YtfclpecbnailgaaGreat.Lv
