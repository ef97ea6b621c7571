/-
  Proved here: what the document's answers for the width, and for what is wrong with records, are; they leave what was in memory.
-/
import Derived.Test.YtdkdmfbhnaaobaaTbFill
import Derived.Test.YtdkdmfbhnaaobaaCvSame
set_option linter.unusedVariables false
namespace Go.Proofs.Ytdkdmfbhnaaobaa.Tb
open Go Go.RowKit Go.Lib Go.Proofs.Ytdkdmfbhnaaobaa.Cv

set_option maxHeartbeats 1000000 in
set_option maxRecDepth 100000 in
theorem refWidth_any (A : Option Addr) (R : Rec) (n c : Nat) (hn : n = R.length) (w : World) (hA : RecsAt w A R) (hF : Few R) :
    Calls Try.prog 10 #[.slice A n c] w fun e w' => e = .returned (.int .i64 (widthT R)) ∧ w = w' := by
  subst hn
  obtain ⟨b0, hb0⟩ : ∃ b, widthT R = b := ⟨_, rfl⟩
  rw [hb0]
  have HB0 := Lib.hid hb0
  clear hb0
  have HA := Lib.hid hA
  have HF := Lib.hid hF
  have hl := hF.num
  clear hA hF
  go_enter Try.func10, Try.ntmps10
  go_wp2_with fail
  go_loop [3, 4] (fun s3 s4 => ∃ k : Nat, k ≤ R.length ∧ s4 = .int .i64 k ∧ s3 = .int .i64 (widthT (R.take k))) (fun _ s4 => R.length - (RowKit.intOf s4).toNat)
  case atStart => exact ⟨0, Nat.zero_le _, rfl, rfl⟩
  case round =>
    obtain ⟨k, hk, rfl, rfl⟩ := hrel
    by_cases hlt : k < R.length
    · obtain ⟨g, off, A1, c1, rfl, hc, -⟩ := HA.out.at_ hlt
      have hr := HF.out.each R[k] (List.getElem_mem hlt)
      have hw := Nat.le_trans (width_take_le R k) HF.out.width
      have HS := Lib.hid (width_take hlt)
      generalize R[k].length = m at *
      generalize widthT (R.take k) = b at *
      by_cases hbm : b < m
      · have hz : (b : Int) < (m : Int) := by omega
        go_wp2
        go_round
        case measure => simp [RowKit.intOf]; omega
        case rel => exact ⟨k + 1, by omega, by go_num, by rw [HS.out]; congr 1; omega⟩
      · have hz : ¬ (b : Int) < (m : Int) := by omega
        go_wp2
        go_round
        case measure => simp [RowKit.intOf]; omega
        case rel => exact ⟨k + 1, by omega, by go_num, by rw [HS.out]; congr 1; omega⟩
    · have e : R.take k = R := List.take_of_length_le (by omega)
      rw [e, HB0.out]
      go_wp2
      go_ret
      exact ⟨rfl, rfl⟩

theorem first_at {w : World} {A : Option Addr} {R : Rec} (h : RecsAt w A R) (h0 : 0 < R.length) : ∃ b off A' c, A = some ⟨b, off, none⟩ ∧ w.cell? ⟨b, off, none⟩ = some (.slice A' R[0].length c) ∧ VAt w A' (rowC R[0]) := by
  obtain ⟨b, off, A', c, e, hc, hv⟩ := h.at_ h0
  exact ⟨b, off, A', c, e, by rw [Nat.add_zero] at hc; exact hc, hv⟩
theorem check_unlike {R : Rec} (h0 : 0 < R.length) {k : Nat} (hk : k < R.length) (h : R[k].length ≠ R[0].length) : checkT R = 1 :=
  may_no fun ⟨_, h2⟩ => h ((h2 _ (List.getElem_mem hk)).trans (h2 _ (List.getElem_mem h0)).symm)
theorem check_empty {R : Rec} (h0 : 0 < R.length) (h : R[0].length = 0) : checkT R = 1 :=
  may_no fun ⟨h1, h2⟩ => by have := h2 _ (List.getElem_mem h0); omega
theorem check_even {R : Rec} (h0 : 0 < R.length) (h1 : 0 < R[0].length) (h : ∀ r ∈ R, r.length = R[0].length) : checkT R = if 24 < R.length ∨ 16 < R[0].length ∨ R.any longT = true then 3 else 0 := by
  have hw : widthT R = R[0].length := Nat.le_antisymm (width_le fun r hr => Nat.le_of_eq (h r hr)) (len_le_width (List.getElem_mem h0))
  unfold checkT
  rw [if_pos (may_iff.2 (by rw [hw]; exact ⟨h1, h⟩)), hw]
theorem even_take {R : Rec} {m k : Nat} (hk : k < R.length) (h : ∀ r ∈ R.take k, r.length = m) (h2 : R[k].length = m) : ∀ r ∈ R.take (k + 1), r.length = m := by
  intro r hr
  rw [List.take_add_one, List.getElem?_eq_getElem hk, Option.toList_some, List.mem_append] at hr
  rcases hr with hr | hr
  · exact h r hr
  · rw [List.mem_singleton] at hr
    subst hr
    exact h2
theorem any_takeW {α : Type} {p : α → Bool} {l : List α} {k : Nat} (h : k < l.length) : (l.take (k + 1)).any p = ((l.take k).any p || p l[k]) := by
  rw [List.take_add_one, List.getElem?_eq_getElem h, Option.toList_some, List.any_append]
  simp

set_option maxHeartbeats 2000000 in
set_option maxRecDepth 1000000 in
theorem refCheck_any (A : Option Addr) (R : Rec) (n c : Nat) (hn : n = R.length) (w : World) (hA : RecsAt w A R) (hF : Few R) (hx : ∀ r ∈ R, ∀ x ∈ r, x.length ≤ 140737488355328) :
    Calls Try.prog 12 #[.slice A n c] w fun e w' => e = .returned (.int .i64 (checkT R)) ∧ Below w.heap.size w w' := by
  subst hn
  obtain ⟨z, hz⟩ : ∃ z, checkT R = z := ⟨_, rfl⟩
  rw [hz]
  have HZ := Lib.hid hz
  have HA := Lib.hid hA
  have HF := Lib.hid hF
  have HX := Lib.hid hx
  have hl := hF.num
  clear hz hA hF hx
  by_cases h0 : 0 < R.length
  case neg =>
    obtain rfl : 1 = z := by rw [← HZ.out]; exact (may_no fun ⟨h1, _⟩ => by have : R = [] := List.eq_nil_of_length_eq_zero (by omega); subst this; simp [widthT] at h1).symm
    have e0 : R.length = 0 := by omega
    rw [e0]
    go_enter Try.func12, Try.ntmps12
    go_wp2_with fail
    go_ret
    exact ⟨rfl, Below.refl _ _⟩
  obtain ⟨b0, off0, A0, c0, rfl, hcell0, -⟩ := first_at HA.out h0
  have hg0 := World.block_lt_of_cell? w _ hcell0
  obtain ⟨m, hm⟩ : ∃ m, R[0].length = m := ⟨_, rfl⟩
  rw [hm] at hcell0
  have HM := Lib.hid hm
  have hm1 : m ≤ 1000000 := by rw [← hm]; exact HF.out.each _ (List.getElem_mem h0)
  clear hm
  have d0 : ((R.length : Int) == 0) = false := by rw [beq_eq_false_iff_ne]; omega
  by_cases h1 : m = 0
  · obtain rfl : 1 = z := by rw [← HZ.out]; exact (check_empty h0 (HM.out.trans h1)).symm
    subst h1
    go_enter Try.func12, Try.ntmps12
    go_wp2_with fail
    go_ret
    exact ⟨rfl, Below.refl _ _⟩
  have d1 : ((m : Int) == 0) = false := by rw [beq_eq_false_iff_ne]; omega
  have HC0 := Lib.hid hcell0
  go_enter Try.func12, Try.ntmps12
  go_wp2_with fail
  clear hcell0
  go_loopw [3] (fun s3 wx => ∃ k : Nat, k ≤ R.length ∧ s3 = .int .i64 k ∧ Below w.heap.size w wx ∧ ∀ r ∈ R.take k, r.length = m) (fun s3 _ => R.length - (RowKit.intOf s3).toNat)
  case atStart => exact ⟨0, Nat.zero_le _, rfl, Below.refl _ _, by simp⟩
  case round =>
    obtain ⟨k, hk, rfl, hb, heven⟩ := hrel
    have HB := Lib.hid hb
    have HE := Lib.hid heven
    have hcell0 := (hb.cell (p := ⟨b0, off0, none⟩) hg0).trans HC0.out
    clear hb heven
    by_cases hlt : k < R.length
    · obtain ⟨g, off, A1, c1, hA1, hc, -⟩ := (HA.out.below HB.out).at_ hlt
      injection hA1 with hA1
      injection hA1 with e1 e2 _
      subst e1
      subst e2
      have hr := HF.out.each R[k] (List.getElem_mem hlt)
      by_cases hrm : R[k].length = m
      · have HE2 := Lib.hid (even_take hlt HE.out hrm)
        rw [hrm] at hc
        clear hr hrm
        go_wp2_with fail
        go_quiet (fail)
        go_wp2_with fail
        go_roundw
        case rel => exact ⟨k + 1, by omega, by go_num, HB.out.trans ((drewN_below _ _).mono HB.out.size), HE2.out⟩
        case measure => simp [RowKit.intOf]; omega
      · obtain rfl : 1 = z := by rw [← HZ.out]; exact (check_unlike h0 hlt (by rw [HM.out]; exact hrm)).symm
        obtain ⟨q, hq⟩ : ∃ q, R[k].length = q := ⟨_, rfl⟩
        rw [hq] at hc hrm hr
        have d2 : ((q : Int) == (m : Int)) = false := by rw [beq_eq_false_iff_ne]; omega
        clear hq
        go_wp2_with fail
        go_quiet (fail)
        go_wp2_with fail
        go_ret
        exact ⟨rfl, HB.out.trans ((drewN_below _ _).mono HB.out.size)⟩
    · have e : R.take k = R := List.take_of_length_le (by omega)
      have hev := HE.out
      rw [e] at hev
      have hck := check_even h0 (by rw [HM.out]; omega) (by rw [HM.out]; exact hev)
      rw [HM.out, HZ.out] at hck
      have HK := Lib.hid hck
      have HEV := Lib.hid hev
      clear e hev hck
      by_cases h24 : 24 < R.length
      · have hz : (24 : Int) < (R.length : Int) := by omega
        have dz : decide (24 < R.length) = true := decide_eq_true h24
        have hz2 := HK.out
        rw [if_pos (Or.inl h24)] at hz2
        subst hz2
        go_wp2_with fail
        go_ret
        exact ⟨rfl, HB.out⟩
      have d24 : decide (24 < R.length) = false := decide_eq_false h24
      by_cases h16 : 16 < m
      · have d16 : decide (16 < m) = true := decide_eq_true h16
        have hz2 := HK.out
        rw [if_pos (Or.inr (Or.inl h16))] at hz2
        subst hz2
        go_wp2_with fail
        go_ret
        exact ⟨rfl, HB.out⟩
      have d16 : decide (16 < m) = false := decide_eq_false h16
      have hz2 : z = if R.any longT = true then 3 else 0 := by
        rw [HK.out]
        simp [h24, h16]
      have HZ2 := Lib.hid hz2
      have HA2 := Lib.hid (HA.out.below HB.out)
      clear hz2 HK
      go_wp2_with fail
      go_loop [4] (fun s4 => ∃ k : Nat, k ≤ R.length ∧ s4 = .int .i64 k ∧ (R.take k).any longT = false) (fun s4 => R.length - (RowKit.intOf s4).toNat)
      case atStart => exact ⟨0, Nat.zero_le _, rfl, by simp⟩
      case round =>
        obtain ⟨i, hi, rfl, hno⟩ := hrel
        have HNO := Lib.hid hno
        clear hno
        by_cases hli : i < R.length
        · obtain ⟨g, off, A1, c1, hA1, hc, hv⟩ := HA2.out.at_ hli
          injection hA1 with hA1
          injection hA1 with e1 e2 _
          subst e1
          subst e2
          have hs := any_takeW (p := longT) hli
          have hat : longT R[i] = true → R.any longT = true := fun h => List.any_eq_true.2 ⟨_, List.getElem_mem hli, h⟩
          have hrl := HEV.out _ (List.getElem_mem hli)
          have hxl := HX.out _ (List.getElem_mem hli)
          obtain ⟨r, hr⟩ : ∃ r, R[i] = r := ⟨_, rfl⟩
          rw [hr] at hc hv hs hat hrl hxl
          rw [hrl] at hc
          rw [HNO.out, Bool.false_or] at hs
          have HS := Lib.hid hs
          have HAT := Lib.hid hat
          have HV := Lib.hid hv
          have HXL := Lib.hid hxl
          have HRL := Lib.hid hrl
          clear hs hat hv hxl hrl hr
          go_wp2_with fail
          go_loop [5] (fun s5 => ∃ j : Nat, j ≤ m ∧ s5 = .int .i64 j ∧ (r.take j).any (fun x => decide (1024 < x.length)) = false) (fun s5 => m - (RowKit.intOf s5).toNat)
          case atStart => exact ⟨0, Nat.zero_le _, rfl, by simp⟩
          case round =>
            obtain ⟨j, hj, rfl, hnj⟩ := hrel
            have HNJ := Lib.hid hnj
            clear hnj
            by_cases hlj : j < m
            · have hlr : j < r.length := by rw [HRL.out]; exact hlj
              obtain ⟨g2, off2, rfl, hc2⟩ := HV.out.at_ (k := j) (by rw [rowC_len]; exact hlr)
              have e2 : (rowC r)[j]'(by rw [rowC_len]; exact hlr) = .string ⟨r[j].toArray⟩ := by simp [rowC, bx]
              rw [e2] at hc2
              have hx1 := HXL.out r[j] (List.getElem_mem hlr)
              have hs2 := any_takeW (p := fun x => decide (1024 < x.length)) hlr
              have hl2 : decide (1024 < r[j].length) = true → longT r = true := fun h => List.any_eq_true.2 ⟨_, List.getElem_mem hlr, h⟩
              obtain ⟨x, hx⟩ : ∃ x, r[j] = x := ⟨_, rfl⟩
              rw [hx] at hc2 hx1 hs2 hl2
              obtain ⟨X, hX⟩ : ∃ X : ByteArray, (⟨x.toArray⟩ : ByteArray) = X := ⟨_, rfl⟩
              have hXs : X.size = x.length := by rw [← hX]; show x.toArray.size = _; simp
              rw [hX] at hc2
              rw [HNJ.out, Bool.false_or] at hs2
              have HS2 := Lib.hid hs2
              have HL2 := Lib.hid hl2
              clear hs2 hl2 hx hX e2
              by_cases hbig : 1024 < x.length
              · have dz : decide (1024 < (x.length : Int)) = true := decide_eq_true (by omega)
                have hz3 := HZ2.out
                rw [if_pos (HAT.out (HL2.out (decide_eq_true hbig)))] at hz3
                subst hz3
                go_wp2_with fail
                go_ret
                exact ⟨rfl, HB.out⟩
              · have dz : decide (1024 < (x.length : Int)) = false := decide_eq_false (by omega)
                have HS3 := Lib.hid (HS2.out.trans (decide_eq_false hbig))
                go_wp2_with fail
                go_round
                case rel => exact ⟨j + 1, by omega, by go_num, HS3.out⟩
                case measure => simp [RowKit.intOf]; omega
            · have e : r.take j = r := List.take_of_length_le (by rw [HRL.out]; omega)
              have hnj := HNJ.out
              rw [e] at hnj
              have HS3 := Lib.hid (HS.out.trans hnj)
              clear e hnj
              go_wp2_with fail
              go_round
              case rel => exact ⟨i + 1, by omega, by go_num, HS3.out⟩
              case measure => simp [RowKit.intOf]; omega
        · have e : R.take i = R := List.take_of_length_le (by omega)
          have hz3 := HZ2.out
          rw [← e, HNO.out, if_neg (by simp)] at hz3
          subst hz3
          clear e
          go_wp2_with fail
          go_ret
          exact ⟨rfl, HB.out⟩
end Go.Proofs.Ytdkdmfbhnaaobaa.Tb
