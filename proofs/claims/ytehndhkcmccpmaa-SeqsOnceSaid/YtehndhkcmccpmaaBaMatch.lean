/-
  Proved here: what base.Match returns, for every row of numbers of at most 2^40: a new row, by the plain matchL. It leaves what was in memory.
-/
import Derived.Test.YtehndhkcmccpmaaBaPlain
import Derived.Test.YtehndhkcmccpmaaClInts
import Derived.Test.YtehndhkcmccpmaaArrKit
import Derived.WalkSmall
import Derived.OneCell
import Derived.IntWalk
import Derived.OwnWalk
set_option linter.unusedVariables false
namespace Go.Proofs.Ytehndhkcmccpmaa.Ba
open Go.RowKit Go.Lib Go.Proofs.Ytehndhkcmccpmaa.Cl

/-- A row of ints by a function of the place. -/
def rowF (n : Nat) (F : Nat → Int) : List Value := (List.range n).map fun i => .int .i64 (F i)
def upd (F : Nat → Int) (k : Nat) (z : Int) : Nat → Int := fun i => if i = k then z else F i
theorem rowF_len (n : Nat) (F : Nat → Int) : (rowF n F).length = n := by simp [rowF]
theorem rowF_at (n : Nat) (F : Nat → Int) (k : Nat) (hk : k < n) : (rowF n F)[k]? = some (.int .i64 (F k)) := by simp [rowF, hk]
theorem rowF_set (n : Nat) (F : Nat → Int) (k : Nat) (z : Int) : (rowF n F).set k (.int .i64 z) = rowF n (upd F k z) := by
  apply List.ext_getElem?
  intro j
  by_cases hj : j < n
  · rw [rowF_at _ _ _ hj, List.getElem?_set]
    by_cases e : k = j
    · subst e
      simp [rowF_len, hj, upd]
    · rw [if_neg e, rowF_at _ _ _ hj]
      simp only [upd]
      rw [if_neg (fun h => e h.symm)]
  · rw [List.getElem?_eq_none (by rw [List.length_set, rowF_len]; omega), List.getElem?_eq_none (by rw [rowF_len]; omega)]
theorem rowF_ext {n : Nat} {F G : Nat → Int} (h : ∀ i, i < n → F i = G i) : rowF n F = rowF n G := by
  unfold rowF
  apply List.map_congr_left
  intro i hi
  rw [h i (List.mem_range.1 hi)]
theorem rowF_zero (n : Nat) : rowF n (fun _ => 0) = List.replicate n (.int .i64 0) := by
  apply List.ext_getElem?
  intro j
  by_cases hj : j < n
  · simp [rowF, hj]
  · simp [rowF, hj]

/-- What the row holds behind so many classes. -/
def FK (l : List Int) (k : Nat) : Nat → Int := fun i => if i < k then mtK l k i else 0
theorem FK_zero (l : List Int) (n : Nat) : rowF n (FK l 0) = List.replicate n (.int .i64 0) := by
  rw [← rowF_zero]
  exact rowF_ext fun i _ => by simp [FK]
theorem FK_all (l : List Int) : rowF l.length (FK l l.length) = (matchL l).map (.int .i64) := by
  unfold rowF matchL
  rw [List.map_map]
  apply List.map_congr_left
  intro i hi
  simp only [FK, Function.comp]
  rw [if_pos (List.mem_range.1 hi)]
theorem FK_other {l : List Int} {k i : Nat} (hik : i ≠ k) (h : ∀ hl : i < l.length, isI l[i] = true → endAt l i ≠ k) : FK l (k + 1) i = FK l k i := by
  unfold FK
  by_cases hi : i < k
  · rw [if_pos hi, if_pos (by omega), mtK_step h]
  · rw [if_neg hi, if_neg (by omega)]
theorem FK_I {l : List Int} {k : Nat} (hk : k < l.length) (hi : isI l[k] = true) : rowF l.length (upd (upd (FK l k) k (-1)) k l.length) = rowF l.length (FK l (k + 1)) := by
  refine rowF_ext fun i hin => ?_
  simp only [upd]
  by_cases e : i = k
  · subst e
    rw [if_pos rfl]
    unfold FK
    have := endAt_gt l i
    rw [if_pos (by omega), mtK_I hk hi (by omega)]
  · rw [if_neg e, if_neg e, FK_other e]
    intro hl hil he
    obtain ⟨r, hs⟩ := ends_only hk hl hil he
    have hp := endAt_P l i (by omega)
    simp only [he] at hp
    rw [isI_not_isP hi] at hp
    cases hp
theorem FK_N {l : List Int} {k : Nat} (hk : k < l.length) (hp : isP l[k] = false) (hi : isI l[k] = false) : rowF l.length (upd (FK l k) k (-1)) = rowF l.length (FK l (k + 1)) := by
  refine rowF_ext fun i hin => ?_
  simp only [upd]
  by_cases e : i = k
  · subst e
    rw [if_pos rfl]
    unfold FK
    rw [if_pos (by omega), mt_N hk hp hi]
  · rw [if_neg e, FK_other e]
    intro hl hil he
    have hp' := endAt_P l i (by omega)
    simp only [he] at hp'
    rw [hp] at hp'
    cases hp'
theorem FK_P0 {l : List Int} {k : Nat} (hk : k < l.length) (hp : isP l[k] = true) (hs : stk l k = []) : rowF l.length (upd (FK l k) k (-1)) = rowF l.length (FK l (k + 1)) := by
  refine rowF_ext fun i hin => ?_
  simp only [upd]
  by_cases e : i = k
  · subst e
    rw [if_pos rfl]
    unfold FK
    rw [if_pos (by omega), mt_P hk hp, hs]
  · rw [if_neg e, FK_other e]
    intro hl hil he
    obtain ⟨r, hr⟩ := ends_only hk hl hil he
    rw [hs] at hr
    cases hr
theorem FK_P {l : List Int} {k t : Nat} {r : List Nat} (hk : k < l.length) (hp : isP l[k] = true) (hs : stk l k = t :: r) : rowF l.length (upd (upd (upd (FK l k) k (-1)) k t) t k) = rowF l.length (FK l (k + 1)) := by
  obtain ⟨h1, h2, h3⟩ := ends_top hk hp hs
  refine rowF_ext fun i hin => ?_
  simp only [upd]
  by_cases e : i = t
  · subst e
    rw [if_pos rfl]
    unfold FK
    rw [List.getElem?_eq_getElem hin] at h3
    rw [if_pos (by omega), mtK_Ilt hin (by simpa using h3) (by omega), h1]
  · rw [if_neg e]
    by_cases e2 : i = k
    · subst e2
      rw [if_pos rfl]
      unfold FK
      rw [if_pos (by omega), mt_P hk hp, hs]
    · rw [if_neg e2, if_neg e2, FK_other e2]
      intro hl hil he
      obtain ⟨r', hr⟩ := ends_only hk hl hil he
      rw [hs] at hr
      injection hr with hr _
      exact e hr.symm

/-- The cells of the stack. -/
def stkC (s : List Nat) : List Value := s.reverse.map fun (t : Nat) => Value.int .i64 (t : Int)
theorem stkC_len (s : List Nat) : (stkC s).length = s.length := by simp [stkC]
theorem stkC_cons (t : Nat) (r : List Nat) : stkC (t :: r) = stkC r ++ [.int .i64 (t : Int)] := by simp [stkC]
theorem own_form {w : World} {base : Nat} {e : TypeId} {size : Nat} {v : Value} {n : Nat} {xs : List Value} (h : w.ownsRow base e size v n xs) : ∃ A c, v = .slice A n c := by
  rcases h.2 with ⟨rfl, rfl⟩ | ⟨g, cap, cur, rfl, _⟩
  · exact ⟨_, _, rfl⟩
  · exact ⟨_, _, rfl⟩

theorem cell_one_new' {w : World} {B : Nat} {v : Value} {t : TypeId} (h : w.heap.size = B) : ∀ j u, [v][j]? = some u → (w.alloc (.cells #[v] t)).cell? ((⟨B, 0, none⟩ : Addr).add j) = some u := by
  subst h
  exact cell_one_new _ _ _
theorem ints_single (z : Int) : ∀ u ∈ [Value.int .i64 z], u.oneCell' = true := by
  intro u hu
  simp only [List.mem_singleton] at hu
  subst hu
  rfl

set_option maxHeartbeats 2000000 in
set_option maxRecDepth 100000 in
theorem match_any (A : Option Addr) (l : List Int) (n c : Nat) (w : World) (hl : l.length = n) (hR : IntsAt w A l) (hn : n ≤ 1099511627776) :
    Calls Try.prog 21 #[.slice A n c] w fun e w' => ∃ g, e = .returned (.slice (some ⟨g, 0, none⟩) n n) ∧ w'.ownsRow w.heap.size 3 1 (.slice (some ⟨g, 0, none⟩) n n) n ((matchL l).map (.int .i64)) ∧ Below w.heap.size w w' := by
  obtain ⟨i0, hi, hz0, hzs, hzb⟩ := Cl.info_parts Cl.infoInt
  have HR := Lib.hid hR
  have HL := Lib.hid hl
  have HI := Lib.hid hi
  have HQ0 := Lib.hid hz0
  have HQ1 := Lib.hid hzs
  have HQ2 := Lib.hid hzb
  have HALL := Lib.hid (show rowF n (FK l n) = (matchL l).map (.int .i64) by rw [← hl]; exact FK_all l)
  have HNONE := Lib.hid (FK_zero l n)
  clear hR hl hi hz0 hzs hzb
  go_enter Try.func21, Try.ntmps21
  go_wp2_with (refine wpList_make_full _ rfl _ _ 22 rfl w.heap.size 3 i0 (.int .i64 0) 1 Try.underlying22 HI.out HQ0.out HQ1.out .i64 .i64 _ _ n rfl rfl rfl rfl ?c1 ?c2 ?c3 ?_)
  case c1 => rw [HQ2.out]; omega
  case c2 => unfold maxLen; omega
  case c3 => exact Nat.le_refl _
  intro w4 hown hgrow
  have hown1 : w4.ownsRow w.heap.size 3 1 (.slice (some ⟨w.heap.size, 0, none⟩) n n) n (rowF n (FK l 0)) := by
    have h := hown
    rw [toList_madeCells_one] at h
    rw [HNONE.out]
    exact h
  have hb4 : Below w.heap.size w w4 := (Below.refl _ _).grown hgrow (Nat.le_refl _) (fun k h => by cases h)
  have hg4 : w.heap.size < w4.heap.size := (hown1.lt _ rfl).2
  have HO := Lib.hid hown1
  have HB4 := Lib.hid hb4
  clear hown hgrow hown1 hb4
  generalize hg : w.heap.size = g at *
  have HG0 := Lib.hid hg
  clear hg
  go_wp2_with fail
  go_loopw [4, 12] (fun s4 s12 wx => ∃ k : Nat, k ≤ n ∧ s12 = .int .i64 k ∧ Below g w wx ∧ g < wx.heap.size ∧ wx.ownsRow g 3 1 (.slice (some ⟨g, 0, none⟩) n n) n (rowF n (FK l k)) ∧ wx.ownsRow (g + 1) 3 1 s4 (stk l k).length (stkC (stk l k))) (fun _ s12 _ => n - (RowKit.intOf s12).toNat)
  case atStart => exact ⟨0, Nat.zero_le _, rfl, HB4.out, hg4, HO.out, World.ownsRow_nil _ _ _ _⟩
  case round =>
    obtain ⟨k, hk, rfl, hb, hgx, hown, hstk⟩ := hrel
    have HB := Lib.hid hb
    have HW := Lib.hid hown
    have HS := Lib.hid hstk
    clear hb hown hstk HO HB4
    by_cases hlt : k < n
    · have hkl : k < l.length := by rw [HL.out]; exact hlt
      obtain ⟨b, off, rfl, hc0⟩ := HR.out.at_ hkl
      have hbg : b < g := by
        have := World.block_lt_of_cell? w _ hc0
        rw [HG0.out] at this
        exact this
      have hlen := stk_len l k
      have hc1 : (wr.setCell ⟨g, k, none⟩ (.int .i64 (-1))).cell? ⟨b, off + k, none⟩ = some (.int .i64 l[k]) := by
        rw [World.cell?_of_block (w := wr) (Below.heap_setCell _ _ _ _ (by simp; omega)), HB.out.cell hbg]
        exact hc0
      have hcell := (HW.out.cellAt k (by omega)).trans (rowF_at n _ k hlt)
      have hfrz := HW.out.frozenAt k
      have hown1 := (HW.out.stored k (.int .i64 (-1))).1
      rw [rowF_set] at hown1
      have HW1 := Lib.hid hown1
      have HS1 := Lib.hid (ownsRow_setCell_below HS.out (a := ⟨g, k, none⟩) (by simp) (.int .i64 (-1)))
      have hcell1 := (hown1.cellAt k (by omega)).trans (rowF_at n _ k hlt)
      have hfrz1 := hown1.frozenAt k
      obtain ⟨SA, sc, rfl⟩ := own_form HS.out
      clear hc0 hown1
      have hNI := fun h1 h2 => FK_N (l := l) hkl h1 h2
      have hII := fun h1 => FK_I (l := l) hkl h1
      have hP0 := fun h1 h2 => FK_P0 (l := l) hkl h1 h2
      have hPP := fun h1 t r h2 => FK_P (l := l) (t := t) (r := r) hkl h1 h2
      have hsI := fun h1 => stk_I (l := l) hkl h1
      have hsP := fun h1 => stk_P (l := l) hkl h1
      have hsN := fun h1 h2 => stk_N (l := l) hkl h1 h2
      have hsm := fun t r h1 h2 => ends_top (l := l) (t := t) (r := r) hkl h1 h2
      rw [HL.out] at hNI hII hP0 hPP
      have HNI := Lib.hid hNI
      have HII := Lib.hid hII
      have HP0 := Lib.hid hP0
      have HPP := Lib.hid hPP
      have HSI := Lib.hid hsI
      have HSP := Lib.hid hsP
      have HSN := Lib.hid hsN
      have HSM := Lib.hid hsm
      clear hNI hII hP0 hPP hsI hsP hsN hsm
      generalize hcc : l[k] = c at *
      have HCC := Lib.hid hcc
      clear hcc
      by_cases hIs : isI c = true
      · have hcs : c = 19 ∨ c = 20 ∨ c = 21 := by simpa [isI] using hIs
        have hII := HII.out hIs
        have hsI := HSI.out hIs
        have HII' := Lib.hid hII
        have HSI' := Lib.hid hsI
        clear hII hsI HII HSI HNI HP0 HPP HSP HSN HSM hIs
        have HW2 := Lib.hid (HW1.out.stored k (.int .i64 n)).1
        have HS2 := Lib.hid (ownsRow_setCell_below HS1.out (a := ⟨g, k, none⟩) (by simp) (.int .i64 n))
        rcases hcs with rfl | rfl | rfl
        all_goals
          go_wp2_with (at_builtin; refine wpList_append_own _ rfl _ _ 22 rfl (g + 1) 3 i0 (.int .i64 0) 1 8 Try.underlying22 HI.out HQ0.out HQ1.out HQ2.out rfl (by decide) _ _ _ rfl (HS2.out.alloc _) ⟨wr.heap.size, 0, none⟩ 1 1 [.int .i64 (k : Int)] rfl rfl (cell_one_new' (by simp)) (ints_single _) (by unfold maxLen; omega) (by omega) (by simp; omega) ?_)
          intro v' w5 hown' hgrow _
          have HG := Lib.hid hgrow
          have HO' := Lib.hid hown'
          clear hgrow hown'
          go_wp2
          go_roundw
          case measure => simp [RowKit.intOf]; omega
          case rel =>
            have hlt2 := HS2.out.lt
            have hbb := ((((HB.out.setCell (p := ⟨g, k, none⟩) (Nat.le_refl _) (.int .i64 (-1))).setCell (p := ⟨g, k, none⟩) (Nat.le_refl _) (.int .i64 n)).alloc (by simp; omega) _).grown HG.out (by simp; omega) (fun x hx => by have := (hlt2 x hx).1; omega))
            refine ⟨k + 1, by omega, by go_num, hbb, ?_, ?_, ?_⟩
            · have := HG.out.size; simp at this; omega
            · have h0 := (HW2.out.alloc _).kept HG.out (Or.inr (fun e => by have := (hlt2 g e.symm).1; omega))
              rw [rowF_set, HII'.out] at h0
              exact h0
            · rw [HSI'.out, stkC_cons]
              exact HO'.out
      · have hIf : isI c = false := by simpa using hIs
        by_cases hPs : isP c = true
        · obtain rfl : c = 22 := by simpa [isP] using hPs
          cases hs : stk l k with
          | nil =>
            have hP0 := HP0.out hPs hs
            have hsP := HSP.out hPs
            rw [hs] at hsP
            have HP0' := Lib.hid hP0
            have HSP' := Lib.hid hsP
            have h0 := HS1.out
            rw [hs] at h0
            have HS0 := Lib.hid h0
            clear hP0 hsP HII HSI HNI HP0 HPP HSP HSN HSM hIs hPs hIf h0 hlen HS HS1
            rw [List.length_nil]
            clear hs
            go_wp2
            go_roundw
            case measure => simp [RowKit.intOf]; omega
            case rel =>
              refine ⟨k + 1, by omega, by go_num, HB.out.setCell (p := ⟨g, k, none⟩) (Nat.le_refl _) _, by simp; omega, ?_, ?_⟩
              · rw [← HP0'.out]
                exact HW1.out
              · rw [HSP'.out]
                exact HS0.out
          | cons t r =>
            obtain ⟨he, htk, hti⟩ := HSM.out t r hPs hs
            have hPP := HPP.out hPs t r hs
            have hsP := HSP.out hPs
            rw [hs] at hsP
            have HPP' := Lib.hid hPP
            have HSP' := Lib.hid hsP
            have h0 := HS1.out
            rw [hs] at h0 hlen
            simp only [List.length_cons] at hlen
            rw [stkC_cons, List.length_cons] at h0
            obtain ⟨sg, sd, hse, hsg, hsl⟩ := h0.form (by omega)
            rw [List.length_cons]
            injection hse with e1 e2 e3
            subst e1 e3
            have hne : sg ≠ g := by omega
            have htop := (h0.cellAt r.length (by omega)).trans (by rw [List.getElem?_append_right (by rw [stkC_len]; exact Nat.le_refl _), stkC_len, Nat.sub_self]; rfl : _ = some (Value.int .i64 (t : Int)))
            have htop2 : ((wr.setCell ⟨g, k, none⟩ (.int .i64 (-1))).setCell ⟨g, k, none⟩ (.int .i64 t)).cell? ⟨sg, r.length, none⟩ = some (.int .i64 (t : Int)) := by
              rw [World.cell?_of_block (w := wr.setCell ⟨g, k, none⟩ (.int .i64 (-1))) (Below.heap_setCell _ _ _ _ (by simpa using hne))]
              exact htop
            have hw2 := (HW1.out.stored k (.int .i64 t)).1
            rw [rowF_set] at hw2
            have hcell2 := (hw2.cellAt t (by omega)).trans (rowF_at n _ t (by omega))
            have hfrz2 := hw2.frozenAt t
            have hw3 := (hw2.stored t (.int .i64 k)).1
            rw [rowF_set, HPP'.out] at hw3
            have HW3 := Lib.hid hw3
            have HS3 := Lib.hid (ownsRow_pop (by rw [stkC_len]; omega) (ownsRow_setCell_below (ownsRow_setCell_below h0 (a := ⟨g, k, none⟩) (by simp) (.int .i64 t)) (a := ⟨g, t, none⟩) (by simp) (.int .i64 k)))
            have hcap : r.length + 1 ≤ sc := by
              rcases h0.2 with ⟨h1, _⟩ | ⟨g1, c1, cur, hv, _, _, hle, _⟩
              · cases h1
              · cases hv; omega
            clear hPP hsP HII HSI HNI HP0 HPP HSP HSN HSM hIs hPs hIf h0 HS HS1 hw2 hw3 hs he
            go_wp2
            go_roundw
            case measure => simp [RowKit.intOf]; omega
            case rel =>
              refine ⟨k + 1, by omega, by go_num, ((HB.out.setCell (p := ⟨g, k, none⟩) (Nat.le_refl _) _).setCell (p := ⟨g, k, none⟩) (Nat.le_refl _) _).setCell (p := ⟨g, t, none⟩) (Nat.le_refl _) _, by simp; omega, ?_, ?_⟩
              · exact HW3.out
              · rw [HSP'.out]
                exact HS3.out
        · have hPf : isP c = false := by simpa using hPs
          have hNI := HNI.out hPf hIf
          have hsN := HSN.out hPf hIf
          have HNI' := Lib.hid hNI
          have HSN' := Lib.hid hsN
          have c1 : (c == 19) = false := by simp [isI] at hIf; simp; omega
          have c2 : (c == 20) = false := by simp [isI] at hIf; simp; omega
          have c3 : (c == 21) = false := by simp [isI] at hIf; simp; omega
          have c4 : (c == 22) = false := by simpa [isP] using hPf
          clear hNI hsN HII HSI HNI HP0 HPP HSP HSN HSM hIs hPs hIf hPf
          go_wp2
          go_roundw
          case measure => simp [RowKit.intOf]; omega
          case rel =>
            refine ⟨k + 1, by omega, by go_num, HB.out.setCell (p := ⟨g, k, none⟩) (Nat.le_refl _) _, by simp; omega, ?_, ?_⟩
            · rw [← HNI'.out]
              exact HW1.out
            · rw [HSN'.out]
              exact HS1.out
    · obtain rfl : k = n := by omega
      go_wp2
      go_ret
      have h0 := HW.out
      rw [HALL.out] at h0
      exact ⟨g, rfl, by rw [HG0.out]; exact h0, by rw [HG0.out]; exact HB.out⟩
end Go.Proofs.Ytehndhkcmccpmaa.Ba
