/-
  Proved here: for every row of runes and of numbers and every number as the paragraph's level BidiPlain returns true (of at most 300 runes: blanks at a line's end are at the paragraph's level; a line's levels stay so; where none is R, AL, AN, or embeds, overrides or isolates, in a paragraph of the level 0, all are at 0, and their order is the text's), and the rows stay. No condition.
-/
import Derived.BigQuiet
import Derived.Deep.QuietTactic
import Derived.Test.YtfclpecbnailgaaGreatM24
import Derived.Test.YtfclpecbnailgaaGreatM26
import Derived.Test.YtfclpecbnailgaaGreatM25
set_option linter.unusedVariables false
namespace Go.Proofs.YtfclpecbnailgaaGreat.BidiPlain
open Go Go.ChangeShapes Go.WideShapes Go.ChangeAt Go.RowKit Go.Lib Go.Proofs.YtfclpecbnailgaaGreat.Cl Go.Proofs.YtfclpecbnailgaaGreat.Rc Go.Proofs.YtfclpecbnailgaaGreat.Bi
open Go.Proofs.YtfclpecbnailgaaGreat.Ku (R3 RuAt cellsR cellsR_len cellsR_one ruAt_own infoR)
theorem line_blank (p : Int) {C lv : List Int} {n j : Nat} (hC : C.length = n) (hl : lv.length = n) (hj : j < n) (h : ∀ i, j ≤ i → i < n → C[i]? = some 12) : (lineP p C lv)[j]? = some p := by
  rw [line_at p C lv j (by omega) (by omega), endB_blanks _ (fun x hx => ?_)]
  · rfl
  · obtain ⟨i, hi, e⟩ := List.getElem_of_mem hx
    rw [List.length_drop] at hi
    have h1 := h (j + i) (by omega) (by omega)
    rw [List.getElem_drop] at e
    rw [List.getElem?_eq_getElem (by omega)] at h1
    injection h1 with h1
    rw [← e, h1]
theorem plain_levels {l : List R3} (h : ∀ x ∈ clsR l, x ≠ 1 ∧ x ≠ 2 ∧ x ≠ 6 ∧ x < 14) : resZ (clsR l) (codR l) 0 = List.replicate l.length 0 := by
  have h1 := resZ_some (clsR l) (codR l) (b := 0) (by omega)
  rw [res_plain (seqsB_all (clsR l) 0) h, clsR_len] at h1
  exact h1
theorem plain_order (n : Nat) : Sq.ns (Bo.orderP (List.replicate n 0)) = Sq.ns (List.range n) := by
  rw [Bo.order_plain (fun c hc => by rw [List.eq_of_mem_replicate hc]; exact Int.le_refl _), List.length_replicate]
set_option maxHeartbeats 8000000 in
set_option maxRecDepth 100000 in
theorem main (w : World) (A : Option Addr) (l : List R3) (n c : Nat) (hr : RuAt w A l) (hl : l.length = n) (B : Option Addr) (lv : List Int) (cb : Nat) (hB : IntsAt w B lv) (hlm : lv.length = n) (p : Int) (h300 : ¬ 300 < n) :
    Calls Tryz.prog 9 #[.slice A n c, .slice B n cb, .int .i64 p] w fun e w' => e = .returned (.bool true) ∧ Below w.heap.size w w' := by
  have d0 : decide ((300 : Int) < (n : Int)) = false := decide_eq_false (by omega)
  have e0 : decide (300 < n) = false := decide_eq_false h300
  have HN := Lib.hid hl
  have HR := Lib.hid hr
  have HC := Lib.hid (show (clsR l).length = n from by rw [clsR_len, hl])
  have HXL := Lib.hid (show (lineP p (clsR l) lv).length = n from by rw [line_len p _ _ (by rw [clsR_len, hl, hlm]), hlm])
  have HBL := Lib.hid (fun (j : Nat) hj h => line_blank p (C := clsR l) (lv := lv) (n := n) (j := j) (by rw [clsR_len, hl]) hlm hj h)
  have HLA := Lib.hid (show Calls Tryz.prog 15 #[.slice A n c, .slice B n cb, .int .i64 p] w fun e w' => ∃ A' c', e = .returned (.slice A' n c') ∧ IntsAt w' A' (lineP p (clsR l) lv) ∧ Below w.heap.size w w' from by
    refine (line_any A B l lv n n c cb p w hr hB hl hlm (by omega)).mono ?_
    rintro e w' ⟨A', c', rfl, ho, hb⟩
    have e0 : lineZ (clsR l) lv p = lineP p (clsR l) lv := by unfold lineZ; rw [if_pos (by rw [clsR_len, hl, hlm])]
    rw [e0, HXL.out] at ho ⊢
    exact ⟨A', c', rfl, own_reads ho HXL.out, hb⟩)
  have HLB := Lib.hid (fun (V : World) (D : Option Addr) (d : Nat) (h1 : RuAt V A l) (h2 : IntsAt V D (lineP p (clsR l) lv)) => show Calls Tryz.prog 15 #[.slice A n c, .slice D n d, .int .i64 p] V fun e w' => ∃ A' c', e = .returned (.slice A' n c') ∧ IntsAt w' A' (lineP p (clsR l) lv) ∧ Below V.heap.size V w' from by
    refine (line_any A D l _ n n c d p V h1 h2 hl HXL.out (by omega)).mono ?_
    rintro e w' ⟨A', c', rfl, ho, hb⟩
    have e0 : lineZ (clsR l) (lineP p (clsR l) lv) p = lineP p (clsR l) lv := by
      unfold lineZ
      rw [if_pos (by rw [clsR_len, hl, HXL.out]), line_again p _ _ (by rw [clsR_len, hl, hlm])]
    rw [e0, HXL.out] at ho ⊢
    exact ⟨A', c', rfl, own_reads ho HXL.out, hb⟩)
  generalize lineP p (clsR l) lv = X at *
  have hn3 : n ≤ 300 := by omega
  clear hr hl hB hlm h300
  go_enter Tryz.func9, Tryz.ntmps9
  go_wp2_with fail
  refine HLA.out.mono ?_
  rintro e w1 ⟨AX, cX, rfl, hx1, hb1⟩
  have HX1 := Lib.hid hx1
  have HB1 := Lib.hid hb1
  have HLB1 := Lib.hid (HLB.out w1 AX cX (HR.out.below hb1) hx1)
  clear hx1 hb1 HLA HLB
  go_wp2_with fail
  refine HLB1.out.mono ?_
  rintro e w2 ⟨AY, cY, rfl, hy2, hb2⟩
  have HX2 := Lib.hid (HX1.out.below hb2)
  have HY2 := Lib.hid hy2
  have HB2 := Lib.hid (bt HB1.out hb2)
  have HR2 := Lib.hid (HR.out.below HB2.out)
  clear hy2 hb2 HLB1 HX1 HB1
  go_wp2_with fail
  go_loopw [9, 10] (fun s9 s10 wx => ∃ (k : Nat) (tl : Bool), k ≤ n ∧ s10 = .int .i64 ((k : Int) - 1) ∧ s9 = .bool tl ∧ (tl = true → ∀ i, k ≤ i → i < n → (clsR l)[i]? = some 12) ∧ Below w2.heap.size w2 wx) (fun _ s10 _ => (RowKit.intOf s10 + 1).toNat)
  case atStart => exact ⟨n, true, Nat.le_refl _, rfl, rfl, fun _ i h1 h2 => by omega, Below.refl _ _⟩
  case round =>
    obtain ⟨k, tl, hk, rfl, rfl, htl, hb⟩ := hrel
    have HB := Lib.hid hb
    have HTL := Lib.hid htl
    clear htl
    cases k with
    | zero =>
      have HB3 := Lib.hid (bt HB2.out hb)
      have HR3 := Lib.hid (HR2.out.below hb)
      clear hb HTL HX2 HY2 HBL HXL
      rw [show (((0 : Nat) : Int) - 1) = -1 from rfl]
      obtain ⟨w3, hw3⟩ : ∃ w3 : World, w3 = wr := ⟨_, rfl⟩
      rw [← hw3] at HB3 HR3 ⊢
      clear hw3 HB
      go_wp2_with fail
      go_loopw [11] (fun s11 wx => ∃ k : Nat, k ≤ n ∧ s11 = .int .i64 k ∧ (∀ i z, i < k → (clsR l)[i]? = some z → z ≠ 1 ∧ z ≠ 2 ∧ z ≠ 6 ∧ z < 14) ∧ Below w3.heap.size w3 wx) (fun s11 _ => n - (RowKit.intOf s11).toNat)
      case atStart => exact ⟨0, Nat.zero_le _, rfl, fun i z h => by omega, Below.refl _ _⟩
      case round =>
        obtain ⟨k, hk, rfl, hall, hb⟩ := hrel
        have HB := Lib.hid hb
        have HALL := Lib.hid hall
        clear hall
        by_cases hlt : k < n
        · have hkl : k < l.length := by rw [HN.out]; exact hlt
          obtain ⟨g, off, rfl, hg, q0, q1, q2⟩ := (HR3.out.below hb).at_ hkl
          have HCK := Lib.hid (show (clsR l)[k]? = some (cls l[k].2.2) from by rw [List.getElem?_eq_getElem (by rw [clsR_len]; exact hkl)]; simp [clsR])
          generalize l[k] = r at *
          have HOF := Lib.hid (fun W => of_any r.2.2 W)
          generalize cls r.2.2 = z at *
          have hk0 : (0 : Int) ≤ (k : Int) := by omega
          have hk1 : (k : Int) < (n : Int) := by omega
          clear hb hkl
          by_cases hz : z = 1 ∨ z = 2 ∨ z = 6 ∨ 14 ≤ z
          · rcases hz with rfl | rfl | rfl | h14
            · go_wp2_with fail
              refine (HOF.out _).mono ?_
              rintro e w5 ⟨rfl, hb5⟩
              have HB5 := Lib.hid (bt (bt HB3.out HB.out) hb5)
              clear hb5
              go_wp2_with fail
              refine (awake_any _).mono ?_
              rintro e w6 ⟨rfl, hb6⟩
              go_wp2_with fail
              go_ret
              exact ⟨rfl, bt HB5.out hb6⟩
            · go_wp2_with fail
              refine (HOF.out _).mono ?_
              rintro e w5 ⟨rfl, hb5⟩
              have HB5 := Lib.hid (bt (bt HB3.out HB.out) hb5)
              clear hb5
              go_wp2_with fail
              refine (awake_any _).mono ?_
              rintro e w6 ⟨rfl, hb6⟩
              go_wp2_with fail
              go_ret
              exact ⟨rfl, bt HB5.out hb6⟩
            · go_wp2_with fail
              refine (HOF.out _).mono ?_
              rintro e w5 ⟨rfl, hb5⟩
              have HB5 := Lib.hid (bt (bt HB3.out HB.out) hb5)
              clear hb5
              go_wp2_with fail
              refine (awake_any _).mono ?_
              rintro e w6 ⟨rfl, hb6⟩
              go_wp2_with fail
              go_ret
              exact ⟨rfl, bt HB5.out hb6⟩
            · have z1 : (z == 1) = false := beq_eq_false_iff_ne.2 (by omega)
              have z2 : (z == 2) = false := beq_eq_false_iff_ne.2 (by omega)
              have z6 : (z == 6) = false := beq_eq_false_iff_ne.2 (by omega)
              have z14 : decide ((14 : Int) ≤ z) = true := decide_eq_true h14
              clear h14
              go_wp2_with fail
              refine (HOF.out _).mono ?_
              rintro e w5 ⟨rfl, hb5⟩
              have HB5 := Lib.hid (bt (bt HB3.out HB.out) hb5)
              clear hb5
              go_wp2_with fail
              refine (awake_any _).mono ?_
              rintro e w6 ⟨rfl, hb6⟩
              go_wp2_with fail
              go_ret
              exact ⟨rfl, bt HB5.out hb6⟩
          · have z1 : (z == 1) = false := beq_eq_false_iff_ne.2 (by omega)
            have z2 : (z == 2) = false := beq_eq_false_iff_ne.2 (by omega)
            have z6 : (z == 6) = false := beq_eq_false_iff_ne.2 (by omega)
            have z14 : decide ((14 : Int) ≤ z) = false := decide_eq_false (by omega)
            have HNX := Lib.hid (show ∀ i y, i < k + 1 → (clsR l)[i]? = some y → y ≠ 1 ∧ y ≠ 2 ∧ y ≠ 6 ∧ y < 14 from fun i y hi hy => by
              by_cases e : i = k
              · subst e
                rw [HCK.out] at hy
                injection hy with hy
                omega
              · exact HALL.out i y (by omega) hy)
            clear hz
            go_wp2_with fail
            refine (HOF.out _).mono ?_
            rintro e w5 ⟨rfl, hb5⟩
            have HB5 := Lib.hid (bt HB.out hb5)
            clear hb5
            go_wp2_with fail
            go_roundw
            case rel => exact ⟨k + 1, by omega, by go_num, HNX.out, HB5.out⟩
            case measure => simp [RowKit.intOf] <;> omega
        · obtain rfl : k = n := by omega
          have hpl := plain_levels (l := l) (fun x hx => by
            obtain ⟨i, hi, e⟩ := List.getElem_of_mem hx
            have hik : i < k := by rw [HC.out] at hi; exact hi
            exact HALL.out i x hik (by rw [List.getElem?_eq_getElem hi, e]))
          rw [HN.out] at hpl
          have HBK := Lib.hid (bt HB3.out hb)
          have HRV := Lib.hid (show Calls Tryz.prog 12 #[.slice A k c, .int .i64 0] wr fun e w' => ∃ A' c', e = .returned (.slice A' k c') ∧ IntsAt w' A' (List.replicate k 0) ∧ Below wr.heap.size wr w' from by
            refine (resolve_any A l 0 k c wr HN.out (HR3.out.below hb) (by omega)).mono ?_
            rintro e w' ⟨A', c', rfl, ho, hb'⟩
            rw [hpl, List.length_replicate] at ho ⊢
            exact ⟨A', c', rfl, own_reads ho (by simp), hb'⟩)
          have HOR := Lib.hid (fun (V : World) (D : Option Addr) (d : Nat) (h : IntsAt V D (List.replicate k 0)) => show Calls Tryz.prog 17 #[.slice D k d] V fun e w' => ∃ A' c', e = .returned (.slice A' k c') ∧ IntsAt w' A' (Sq.ns (List.range k)) ∧ Below V.heap.size V w' from by
            refine (order_any D _ k d V h (by simp) (by omega)).mono ?_
            rintro e w' ⟨A', c', rfl, ho, hb'⟩
            rw [plain_order] at ho
            exact ⟨A', c', rfl, own_reads ho (by simp [Sq.ns]), hb'⟩)
          clear hpl hb HALL
          go_wp2_with fail
          refine HRV.out.mono ?_
          rintro e w7 ⟨AR, cR, rfl, hr7, hb7⟩
          have HR7 := Lib.hid hr7
          have HB7 := Lib.hid (bt HBK.out hb7)
          have HOR7 := Lib.hid (HOR.out w7 AR cR hr7)
          clear hr7 hb7 HRV HOR
          go_wp2_with fail
          refine HOR7.out.mono ?_
          rintro e w8 ⟨AO, cO, rfl, ho8, hb8⟩
          have HO8 := Lib.hid ho8
          have HR8 := Lib.hid (HR7.out.below hb8)
          have HB8 := Lib.hid (bt HB7.out hb8)
          clear ho8 hb8 HOR7 HR7
          go_wp2_with fail
          go_loopw [15] (fun s15 wx => ∃ i : Nat, i ≤ k ∧ s15 = .int .i64 i ∧ Below w8.heap.size w8 wx) (fun s15 _ => k - (RowKit.intOf s15).toNat)
          case atStart => exact ⟨0, Nat.zero_le _, rfl, Below.refl _ _⟩
          case round =>
            obtain ⟨i, hi, rfl, hb⟩ := hrel
            have HBI := Lib.hid hb
            by_cases hlt2 : i < k
            · have hiR : i < (List.replicate k (0 : Int)).length := by rw [List.length_replicate]; exact hlt2
              have hiO : i < (Sq.ns (List.range k)).length := by simp [Sq.ns]; exact hlt2
              obtain ⟨gR, oR, rfl, cR1⟩ := (HR8.out.below hb).at_ hiR
              obtain ⟨gO, oO, rfl, cO1⟩ := (HO8.out.below hb).at_ hiO
              rw [List.getElem_replicate] at cR1
              rw [show (Sq.ns (List.range k))[i] = (i : Int) from by simp [Sq.ns]] at cO1
              have hi0 : (0 : Int) ≤ (i : Int) := by omega
              have hi1 : (i : Int) < (k : Int) := by omega
              clear hiR hiO hb
              go_wp2_with fail
              go_roundw
              case rel => exact ⟨i + 1, by omega, by go_num, HBI.out⟩
              case measure => simp [RowKit.intOf] <;> omega
            · obtain rfl : i = k := by omega
              have HBZ := Lib.hid (bt HB8.out hb)
              clear hb
              go_wp2_with fail
              refine (awake_any _).mono ?_
              rintro e w9 ⟨rfl, hb9⟩
              go_wp2_with fail
              go_ret
              exact ⟨rfl, bt HBZ.out hb9⟩
    | succ j =>
      rw [show (((j + 1 : Nat) : Int) - 1) = (j : Int) from by omega]
      have hjX : j < X.length := by rw [HXL.out]; omega
      have hjl : j < l.length := by rw [HN.out]; omega
      obtain ⟨gX, oX, rfl, cX1⟩ := (HX2.out.below hb).at_ hjX
      obtain ⟨gY, oY, rfl, cY1⟩ := (HY2.out.below hb).at_ hjX
      obtain ⟨g, off, rfl, hg, q0, q1, q2⟩ := (HR2.out.below hb).at_ hjl
      have HCK := Lib.hid (show (clsR l)[j]? = some (cls l[j].2.2) from by rw [List.getElem?_eq_getElem (by rw [clsR_len]; exact hjl)]; simp [clsR])
      have HXJ := Lib.hid (List.getElem?_eq_getElem hjX)
      generalize X[j] = xv at *
      generalize l[j] = r at *
      have HOF := Lib.hid (fun W => of_any r.2.2 W)
      generalize cls r.2.2 = z at *
      have hj0 : (0 : Int) ≤ (j : Int) := by omega
      have hj1 : (j : Int) < (n : Int) := by omega
      clear hjX hjl hb
      cases tl with
      | false =>
        go_wp2_with fail
        go_quiet (fail)
        all_goals go_wp2_with fail
        all_goals go_roundw
        case rel => exact ⟨j, false, by omega, by first | rfl | go_num, rfl, (fun h => by cases h), by first | exact HB.out | exact HB.out.trans ((same_ints_drewN wr _).mono HB.out.size)⟩
        case measure => simp [RowKit.intOf] <;> omega
      | true =>
        cases hz : (z == 12) with
        | false =>
          go_wp2_with fail
          refine (HOF.out _).mono ?_
          rintro e w5 ⟨rfl, hb5⟩
          have HB5 := Lib.hid (bt HB.out hb5)
          have dX := (hb5.cell (World.block_lt_of_cell? wr _ cX1)).trans cX1
          have dY := (hb5.cell (World.block_lt_of_cell? wr _ cY1)).trans cY1
          clear hb5 cX1 cY1 q0 q1 q2
          go_wp2_with fail
          go_quiet (fail)
          all_goals go_wp2_with fail
          all_goals go_roundw
          case rel => exact ⟨j, false, by omega, by first | rfl | go_num, rfl, (fun h => by cases h), by first | exact HB5.out | exact HB5.out.trans ((same_ints_drewN w5 _).mono HB5.out.size)⟩
          case measure => simp [RowKit.intOf] <;> omega
        | true =>
          have HNX := Lib.hid (show ∀ i, j ≤ i → i < n → (clsR l)[i]? = some 12 from fun i h1 h2 => by
            by_cases e : i = j
            · subst e
              rw [HCK.out, show z = 12 from by simpa using hz]
            · exact HTL.out rfl i (by omega) h2)
          have hxp : xv = p := by
            have h := HBL.out j (by omega) HNX.out
            rw [HXJ.out] at h
            injection h
          subst hxp
          go_wp2_with fail
          refine (HOF.out _).mono ?_
          rintro e w5 ⟨rfl, hb5⟩
          have HB5 := Lib.hid (bt HB.out hb5)
          have dX := (hb5.cell (World.block_lt_of_cell? wr _ cX1)).trans cX1
          have dY := (hb5.cell (World.block_lt_of_cell? wr _ cY1)).trans cY1
          clear hb5 cX1 cY1 q0 q1 q2
          go_wp2_with fail
          go_quiet (fail)
          all_goals go_wp2_with fail
          all_goals go_roundw
          case rel => exact ⟨j, true, by omega, by first | rfl | go_num, rfl, fun _ => HNX.out, by first | exact HB5.out | exact HB5.out.trans ((same_ints_drewN w5 _).mono HB5.out.size)⟩
          case measure => simp [RowKit.intOf] <;> omega
set_option maxHeartbeats 4000000 in
set_option maxRecDepth 100000 in
theorem walk_n (w : World) (A : Option Addr) (l : List R3) (n c : Nat) (hr : RuAt w A l) (hl : l.length = n) (B : Option Addr) (lv : List Int) (m cb : Nat) (hB : IntsAt w B lv) (hlm : lv.length = m) (p : Int) :
    Calls Tryz.prog 9 #[.slice A n c, .slice B m cb, .int .i64 p] w fun e w' => e = .returned (.bool true) ∧ Below w.heap.size w w' := by
  by_cases h300 : 300 < n
  · have d0 : decide ((300 : Int) < (n : Int)) = true := decide_eq_true (by omega)
    have e0 : decide (300 < n) = true := decide_eq_true h300
    go_enter Tryz.func9, Tryz.ntmps9
    go_wp2_with (go_at_call 10; refine (awake_any _).mono ?_; rintro e w' ⟨rfl, hb⟩)
    go_ret
    exact ⟨rfl, hb⟩
  · by_cases hmn : m = n
    · subst hmn
      exact main w A l m c hr hl B lv cb hB hlm p h300
    · have d0 : decide ((300 : Int) < (n : Int)) = false := decide_eq_false (by omega)
      have e0 : decide (300 < n) = false := decide_eq_false h300
      have m1 : ((m : Int) != (n : Int)) = true := bne_iff_ne.2 (by omega)
      have m2 : (m != n) = true := bne_iff_ne.2 hmn
      clear hl hlm
      go_enter Tryz.func9, Tryz.ntmps9
      go_wp2_with (go_at_call 10; refine (awake_any _).mono ?_; rintro e w' ⟨rfl, hb⟩)
      go_ret
      exact ⟨rfl, hb⟩
theorem walk (w : World) (A : Option Addr) (l : List R3) (c : Nat) (hr : RuAt w A l) (_ : A = none → l = [] ∧ c = 0) (_ : l.length ≤ 9223372036854775807) (B : Option Addr) (lv : List Int) (cb : Nat) (hB : IntsAt w B lv) (_ : B = none → lv = [] ∧ cb = 0) (_ : lv.length ≤ 9223372036854775807) (_ : ∀ z ∈ lv, -9223372036854775808 ≤ z ∧ z ≤ 9223372036854775807) (p : Int) :
    Calls Tryz.prog 9 #[.slice A l.length c, .slice B lv.length cb, .int .i64 p] w fun e w' => e = .returned (.bool true) ∧ Below w.heap.size w w' :=
  walk_n w A l l.length c hr rfl B lv lv.length cb hB rfl p
set_option maxRecDepth 100000 in
theorem lifted (os : Os) (started : os.Started) (H : Type) (enc : TypeId × Value → H) :
    ReturnsInHanded {} Tryz.checked os 9 .any (Rows.bidiPlainSpec.pre6 enc Tryz.prog Tryz.f9 Rows.bidiPlainRow.domain false) (Rows.bidiPlainSpec.post enc Tryz.prog Tryz.f9 false true false false) := by
  refine returnsInHanded_of_change (C := Tryz.checked) law_own started (by kernel_rfl) Tryz.func9
    (ChangeSpec.witness6 (enc := enc) (C := Tryz.checked) false ⟨#[], #[.slice none 0 0, .slice none 0 0, .int .i64 0], []⟩ 8 (by kernel_rfl) (by kernel_rfl) (by kernel_rfl) (by kernel_rfl)) ?_
  intro W base args ds gs before hval0 hW _ _
  have hval : ∀ (j : Nat) t v, Tryz.f9.params[j]? = some t → args[j]? = some v → Value.okWide Tryz.prog W .any base t v := hval0
  have hW' := hW
  obtain ⟨p, q, hA0, hV, rfl, hfz, hnd⟩ := hW
  have hA : DataW.TrodAll enc Tryz.prog W 0 (fun _ => true) true Tryz.f9.params.toList args.toList ds p := hA0
  rw [Tryz.params9] at hA hval
  obtain ⟨v0, vs0, d0, ds0, p0, q0, hargs, rfl, rfl, h0, r0⟩ := ChangeShapes.trodAll_cons hA
  obtain ⟨v1, vs1, d1, ds1, p1, q1, rfl, rfl, rfl, h1, r1⟩ := ChangeShapes.trodAll_cons r0
  obtain ⟨v2, vs2, d2, ds2, p2, q2, rfl, rfl, rfl, h2, r2⟩ := ChangeShapes.trodAll_cons r1
  obtain ⟨rfl, rfl, rfl⟩ := ChangeShapes.trodAll_nil r2
  obtain rfl : args = #[v0, v1, v2] := by cases args; simp_all
  obtain ⟨rfl, rfl⟩ := ChangeShapes.trodVars_none hV
  obtain ⟨A0, l0, c0, rfl, hr0, hnil0, hc0, hl0, hz0⟩ := open_runes (hval 0 22 v0 rfl rfl) h0
  obtain ⟨A1, zs1, c1, rfl, hr1, hnil1, hl1, hz1⟩ := open_introw (hval 1 25 v1 rfl rfl) h1
  obtain ⟨x2, rfl, rfl, rfl, wx2⟩ := open_int Tryz.underlying3 (hval 2 3 v2 rfl rfl) h2
  refine (walk W A0 l0 c0 hr0 hnil0 hl0 A1 zs1 c1 hr1 hnil1 hl1 hz1 x2).mono fun e W' ⟨he, hB⟩ => ?_
  subst he
  exact ⟨_, rfl, law_post hW' rfl rfl (by kernel_rfl) rfl hB⟩
theorem holds : Rows.BidiPlainSaid :=
  OpenClaim.holds_of_wide 9 Tryz.f9 rfl rfl rfl rfl rfl rfl rfl ⟨rfl, rfl, rfl, rfl, rfl⟩ rfl rfl rfl rfl rfl (by kernel_rfl) Tryz.func9 (by kernel_rfl)
    (of_decide_eq_true (by kernel_rfl)) (by unfold Func.isWrapper; first | (rw [if_pos (by decide +kernel)]; kernel_rfl) | (rw [if_neg (by decide +kernel)]; exact ⟨rfl, rfl⟩))
    (fun os started H enc _ => lifted os started H enc)
end Go.Proofs.YtfclpecbnailgaaGreat.BidiPlain
