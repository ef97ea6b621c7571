/-
  Proved here: for every two texts, CsvJoins returns true (two texts of records of at most 2000 bytes each, the first of which does not end with CR LF, the second of which has a byte, with CR LF between, have the records of both; a CR LF behind the first one changes nothing), and the texts stay. Conditions: the package variables that the row lists hold what the program's text lays (the card ties them).
-/
import Derived.Test.YtdhjadjgkdgomaaDoorCvAwake
import Derived.Test.YtdhjadjgkdgomaaDoorCvMore
import Derived.Test.YtdhjadjgkdgomaaDoorCvLaid
import Derived.Test.YtdhjadjgkdgomaaDoorAppWant
import Derived.Test.YtdhjadjgkdgomaaDoorTie
import Derived.Test.YtdhjadjgkdgomaaDoorCards
set_option linter.unusedVariables false
namespace Go.Proofs.YtdhjadjgkdgomaaDoor.CsvJoins
open Go.ChangeShapes Go.WideShapes Go.ChangeAt Go.RowKit Go.Lib Go.Proofs.YtdhjadjgkdgomaaDoor.Cv Go.Proofs.YtdhjadjgkdgomaaDoor.Cl

set_option maxHeartbeats 2000000 in
set_option maxRecDepth 1000000 in
theorem walk (w : World) (hH : Held w) (a : ByteArray) (ha : a.size ≤ maxLen) (b : ByteArray) (hb : b.size ≤ maxLen) :
    Calls Tryd.prog 5 #[.string a, .string b] w fun e w' => e = .returned (.bool true) ∧ Below w.heap.size w w' := by
  have HH := Lib.hid hH
  clear hH
  by_cases hbig1 : 2000 < a.size
  · have d1 : decide (2000 < (a.size : Int)) = true := decide_eq_true (by omega)
    go_enter Tryd.func5, Tryd.ntmps5
    go_wp2_with fail
    refine (awake_any _ HH.out).mono ?_
    rintro e w3 ⟨rfl, hb3⟩
    go_wp2
    go_ret
    exact ⟨rfl, hb3⟩
  have d1 : decide (2000 < (a.size : Int)) = false := decide_eq_false (by omega)
  by_cases hbig2 : 2000 < b.size
  · have d2 : decide (2000 < (b.size : Int)) = true := decide_eq_true (by omega)
    go_enter Tryd.func5, Tryd.ntmps5
    go_wp2_with fail
    refine (awake_any _ HH.out).mono ?_
    rintro e w3 ⟨rfl, hb3⟩
    go_wp2
    go_ret
    exact ⟨rfl, hb3⟩
  have d2 : decide (2000 < (b.size : Int)) = false := decide_eq_false (by omega)
  have HP := Lib.hid (fun s W h => parse_any s W h)
  have hza : a.size ≤ 65536 := by omega
  have hzb : b.size ≤ 65536 := by omega
  by_cases hb0 : b.size = 0
  · have e0 : ((b.size : Int) == 0) = true := by rw [beq_iff_eq]; omega
    go_enter Tryd.func5, Tryd.ntmps5
    go_wp2_with fail
    refine (HP.out _ _ HH.out).mono ?_
    rintro e w1 ⟨A1, c1, rfl, hR1, hb1⟩
    have H1 := Lib.hid (HH.out.below HH.out.1 hb1)
    generalize (recsP a).length = na
    generalize atP a = pa
    generalize erP a = ea
    clear hR1
    go_wp2_with fail
    refine (HP.out _ _ H1.out).mono ?_
    rintro e w2 ⟨A2, c2, rfl, hR2, hb2⟩
    have hB2 := hb1.trans (hb2.mono hb1.size)
    have H2 := Lib.hid (HH.out.below HH.out.1 hB2)
    generalize (recsP b).length = nb
    generalize atP b = pb
    generalize erP b = eb
    clear hR2
    go_wp2_with fail
    refine (awake_any _ H2.out).mono ?_
    rintro e w3 ⟨rfl, hb3⟩
    go_wp2
    go_ret
    exact ⟨rfl, hB2.trans (hb3.mono hB2.size)⟩
  have e0 : ((b.size : Int) == 0) = false := by rw [beq_eq_false_iff_ne]; omega
  by_cases hea : erP a = 0
  case neg =>
    obtain ⟨ea, hz⟩ : ∃ z, erP a = z := ⟨_, rfl⟩
    have e1 : (ea != 0) = true := by rw [← hz]; simpa using hea
    have HZ := Lib.hid hz
    clear hea hz
    go_enter Tryd.func5, Tryd.ntmps5
    go_wp2_with fail
    refine (HP.out _ _ HH.out).mono ?_
    rintro e w1 ⟨A1, c1, rfl, hR1, hb1⟩
    have H1 := Lib.hid (HH.out.below HH.out.1 hb1)
    have HR1 := Lib.hid hR1
    clear hR1
    generalize atP a = pa
    go_wp2_with fail
    refine (HP.out _ _ H1.out).mono ?_
    rintro e w2 ⟨A2, c2, rfl, hR2, hb2⟩
    have hB2 := hb1.trans (hb2.mono hb1.size)
    have H2 := Lib.hid (HH.out.below HH.out.1 hB2)
    have HR2 := Lib.hid hR2
    have HR1 := Lib.hid (HR1.out.below hb2)
    have HB2 := Lib.hid hB2
    clear hR2 hb1 hb2 hB2 H1
    generalize atP b = pb
    rw [HZ.out]
    generalize erP b = eb
    clear HR1 HR2
    generalize (recsP a).length = na
    generalize (recsP b).length = nb
    go_wp2_with fail
    refine (awake_any _ H2.out).mono ?_
    rintro e w3 ⟨rfl, hb3⟩
    go_wp2
    go_ret
    exact ⟨rfl, HB2.out.trans (hb3.mono HB2.out.size)⟩
  by_cases heb : erP b = 0
  case neg =>
    obtain ⟨eb, hz⟩ : ∃ z, erP b = z := ⟨_, rfl⟩
    have e1 : (eb != 0) = true := by rw [← hz]; simpa using heb
    have HZ := Lib.hid hz
    have HEA := Lib.hid hea
    clear heb hz hea
    go_enter Tryd.func5, Tryd.ntmps5
    go_wp2_with fail
    refine (HP.out _ _ HH.out).mono ?_
    rintro e w1 ⟨A1, c1, rfl, hR1, hb1⟩
    have H1 := Lib.hid (HH.out.below HH.out.1 hb1)
    have HR1 := Lib.hid hR1
    clear hR1
    generalize atP a = pa
    go_wp2_with fail
    refine (HP.out _ _ H1.out).mono ?_
    rintro e w2 ⟨A2, c2, rfl, hR2, hb2⟩
    have hB2 := hb1.trans (hb2.mono hb1.size)
    have H2 := Lib.hid (HH.out.below HH.out.1 hB2)
    have HR2 := Lib.hid hR2
    have HR1 := Lib.hid (HR1.out.below hb2)
    have HB2 := Lib.hid hB2
    clear hR2 hb1 hb2 hB2 H1
    generalize atP b = pb
    rw [HZ.out, HEA.out]
    clear HR1 HR2
    generalize (recsP a).length = na
    generalize (recsP b).length = nb
    go_wp2_with fail
    refine (awake_any _ H2.out).mono ?_
    rintro e w3 ⟨rfl, hb3⟩
    go_wp2
    go_ret
    exact ⟨rfl, HB2.out.trans (hb3.mono HB2.out.size)⟩
  have HEA := Lib.hid hea
  have HEB := Lib.hid heb
  clear hea heb
  have d3 : ∀ (h : 1 < a.size), decide (1 < (a.size : Int)) = true := fun h => decide_eq_true (by omega)
  by_cases hcr : 1 < a.size ∧ a.extract (a.size - 2) a.size = ⟨#[13, 10]⟩
  case pos =>
    obtain ⟨ha1, hcr⟩ := hcr
    have d3 : decide (1 < (a.size : Int)) = true := decide_eq_true (by omega)
    have hsl : ∀ W, (Instr.slice 9 (.string a) (some (.int .i64 ((a.size : Int) - 2))) none none).run Tryd.prog W = .ok (.string ⟨#[13, 10]⟩) W := fun W => by
      rw [run_slice_string_from_if W 9 a .i64 ((a.size : Int) - 2) Tryd.underlying9, if_pos ⟨by omega, by omega⟩, show ((a.size : Int) - 2).toNat = a.size - 2 from by omega, hcr]
    clear hcr
    go_enter Tryd.func5, Tryd.ntmps5
    go_wp2_with fail
    refine (HP.out _ _ HH.out).mono ?_
    rintro e w1 ⟨A1, c1, rfl, hR1, hb1⟩
    have H1 := Lib.hid (HH.out.below HH.out.1 hb1)
    have HR1 := Lib.hid hR1
    clear hR1
    generalize atP a = pa
    go_wp2_with fail
    refine (HP.out _ _ H1.out).mono ?_
    rintro e w2 ⟨A2, c2, rfl, hR2, hb2⟩
    have hB2 := hb1.trans (hb2.mono hb1.size)
    have H2 := Lib.hid (HH.out.below HH.out.1 hB2)
    have HR2 := Lib.hid hR2
    have HR1 := Lib.hid (HR1.out.below hb2)
    have HB2 := Lib.hid hB2
    clear hR2 hb1 hb2 hB2 H1
    generalize atP b = pb
    rw [HEA.out, HEB.out]
    clear HR1 HR2
    generalize (recsP a).length = na
    generalize (recsP b).length = nb
    go_wp2_with fail
    refine (awake_any _ H2.out).mono ?_
    rintro e w3 ⟨rfl, hb3⟩
    go_wp2
    go_ret
    exact ⟨rfl, HB2.out.trans (hb3.mono HB2.out.size)⟩
  have HJ := Lib.hid (joined_recs (by omega) (by omega) HEA.out HEB.out hb0 hcr)
  have hsA := recs_small a hza
  have hsB := recs_small b hzb
  obtain ⟨Ra, hRa⟩ : ∃ R, recsP a = R := ⟨_, rfl⟩
  obtain ⟨Rb, hRb⟩ : ∃ R, recsP b = R := ⟨_, rfl⟩
  rw [hRa] at hsA
  rw [hRb] at hsB
  have HRA := Lib.hid hRa
  have HRB := Lib.hid hRb
  have HSA := Lib.hid hsA.2
  have HSB := Lib.hid hsB.2
  have hla := hsA.1
  have hlb := hsB.1
  have hza2 : a.size ≤ 2000 := by omega
  have hzb2 : b.size ≤ 2000 := by omega
  clear hRa hRb hsA hsB d3
  obtain ⟨i1, hi', hz0', hz1', hz2'⟩ := info_parts infoRow
  have hcr2 : (∃ (_ : 1 < a.size) (Y : ByteArray), decide (1 < (a.size : Int)) = true ∧ Y ≠ ⟨#[13, 10]⟩ ∧ ∀ W, (Instr.slice 9 (.string a) (some (.int .i64 ((a.size : Int) - 2))) none none).run Tryd.prog W = .ok (.string Y) W) ∨ decide (1 < (a.size : Int)) = false := by
    by_cases h1 : 1 < a.size
    · refine .inl ⟨h1, a.extract (a.size - 2) a.size, decide_eq_true (by omega), fun e => hcr ⟨h1, e⟩, fun W => ?_⟩
      rw [run_slice_string_from_if W 9 a .i64 ((a.size : Int) - 2) Tryd.underlying9, if_pos ⟨by omega, by omega⟩, show ((a.size : Int) - 2).toNat = a.size - 2 from by omega]
    · exact .inr (decide_eq_false (by omega))
  have hb0' := Lib.hid hb0
  clear hcr hb0
  go_enter Tryd.func5, Tryd.ntmps5
  go_wp2_with fail
  refine (HP.out _ _ HH.out).mono ?_
  rintro e w1 ⟨A1, c1, rfl, hR1, hb1⟩
  have H1 := Lib.hid (HH.out.below HH.out.1 hb1)
  have HR1 := Lib.hid hR1
  clear hR1
  generalize atP a = pa
  go_wp2_with fail
  refine (HP.out _ _ H1.out).mono ?_
  rintro e w2 ⟨A2, c2, rfl, hR2, hb2⟩
  have hB2 := hb1.trans (hb2.mono hb1.size)
  have H2 := Lib.hid (HH.out.below HH.out.1 hB2)
  have HR2 := Lib.hid hR2
  have HR1 := Lib.hid (HR1.out.below hb2)
  have HB2 := Lib.hid hB2
  clear hR2 hb1 hb2 hB2 H1
  generalize atP b = pb
  rw [HEA.out, HEB.out, HRA.out, HRB.out]
  rw [HRA.out] at HR1
  rw [HRB.out] at HR2
  rcases hcr2 with ⟨h1a, Y, d3, hY, hsl⟩ | d3
  · have hY2 : (Y.toList == [13, 10]) = false := by
      rw [beq_eq_false_iff_ne]
      intro e
      rw [ByteArray.toList_eq] at e
      refine hY ?_
      obtain ⟨⟨l⟩⟩ := Y
      simp only at e
      rw [e]
    clear hY
    go_wp2_with fail
    refine (HP.out _ _ H2.out).mono ?_
    rintro e w3 ⟨A3, c3, rfl, hR3, hb3⟩
    rw [HJ.out.2.1, HRA.out, HRB.out] at hR3
    rw [HJ.out.1, HJ.out.2.1, HRA.out, HRB.out]
    generalize atP (a ++ ⟨#[13, 10]⟩ ++ b) = pc
    have HR1 := Lib.hid (HR1.out.below hb3)
    have HR2 := Lib.hid (HR2.out.below hb3)
    have HR3 := Lib.hid hR3
    have HB3 := Lib.hid (HB2.out.trans (hb3.mono HB2.out.size))
    have H3 := Lib.hid (H2.out.below H2.out.1 hb3)
    obtain ⟨n3, hn3⟩ : ∃ n, (Ra ++ Rb).length = n := ⟨_, rfl⟩
    rw [hn3]
    have HN3 := Lib.hid hn3
    clear hR3 hb3 H2 HB2 hn3
    go_wp2_with fail
    refine (HP.out _ _ H3.out).mono ?_
    rintro e w4 ⟨A4, c4, rfl, hR4, hb4⟩
    rw [HJ.out.2.2.2, HRA.out] at hR4
    rw [HJ.out.2.2.1, HJ.out.2.2.2, HRA.out]
    generalize atP (a ++ ⟨#[13, 10]⟩) = pd
    have HR1 := Lib.hid (HR1.out.below hb4)
    have HR2 := Lib.hid (HR2.out.below hb4)
    have HR3 := Lib.hid (HR3.out.below hb4)
    have HR4 := Lib.hid hR4
    have HB4 := Lib.hid (HB3.out.trans (hb4.mono HB3.out.size))
    have H4 := Lib.hid (H3.out.below H3.out.1 hb4)
    clear hR4 hb4 H3 HB3
    obtain ⟨xs, hxl, hxv, hxr, hx1⟩ := recs_vals HR1.out
    obtain ⟨ys, hyl, hyv, hyr, hy1⟩ := recs_vals HR2.out
    have HXV := Lib.hid hxv
    have HYV := Lib.hid hyv
    have HXR := Lib.hid hxr
    have HYR := Lib.hid hyr
    have HX1 := Lib.hid hx1
    have HY1 := Lib.hid hy1
    have hV1 : Below w4.heap.size w4 (w4.alloc (.cells #[] 31)) := below_one w4 _
    have HV1 := Lib.hid hV1
    have hM := World.ownsRow_made (base := w4.heap.size) (e := 31) (size := 1) w4 #[] 0 (Nat.le_refl _) (by decide) rfl
    have HM := Lib.hid hM
    have HXL := Lib.hid hxl
    have HYL := Lib.hid hyl
    clear hxv hyv hxr hyr hx1 hy1 hV1 hM hxl hyl
    go_wp2_with (at_builtin; refine wpList_append_want _ rfl _ _ 23 rfl w4.heap.size 31 i1 (.slice none 0 0) 1 24 Tryd.underlying23 hi' hz0' hz1' hz2' rfl (by decide) _ _ _ rfl HM.out A1 Ra.length c1 xs rfl (by rw [HXL.out, Nat.mul_one]) ?c0 ?c1 HX1.out ?c3 ?c4 ?c5 ?_)
    case c0 => intro e; rw [← HXL.out]; exact HXV.out.nil_len e
    case c1 => intro ad had; subst had; exact (HXV.out.below HV1.out).news
    case c3 => unfold maxLen; omega
    case c4 => omega
    case c5 => simp
    intro v5 w5 ho5 hg5
    have HB5 := Lib.hid (HV1.out.grown hg5 (by simp) (fun k hk => (HM.out.lt k hk).1))
    have HO5 := Lib.hid ho5
    have hs5 : w4.heap.size ≤ w5.heap.size := HB5.out.size
    clear ho5 hg5
    go_wp2_with (at_builtin; refine wpList_append_want _ rfl _ _ 23 rfl w4.heap.size 31 i1 (.slice none 0 0) 1 24 Tryd.underlying23 hi' hz0' hz1' hz2' rfl (by decide) _ _ _ rfl HO5.out A2 Rb.length c2 ys rfl (by rw [HYL.out, Nat.mul_one]) ?c0 ?c1 HY1.out ?c3 ?c4 ?c5 ?_)
    case c0 => intro e; rw [← HYL.out]; exact HYV.out.nil_len e
    case c1 => intro ad had; subst had; exact (HYV.out.below HB5.out).news
    case c3 => unfold maxLen; omega
    case c4 => omega
    case c5 => exact hs5
    intro v6 w6 ho6 hg6
    have hB6 := HB5.out.grown hg6 hs5 (fun k hk => (HO5.out.lt k hk).1)
    obtain ⟨A6, c6, rfl, hv6, hl6⟩ := vAt_own ho6
    have hrecs := recs_app hv6 HXL.out HYL.out (fun i h x hx => (HXR.out i h x hx).below hB6) (fun i h x hx => (HYR.out i h x hx).below hB6)
    have HRX := Lib.hid hrecs
    have HR1 := Lib.hid (HR1.out.below hB6)
    have HR3 := Lib.hid (HR3.out.below hB6)
    have HR4 := Lib.hid (HR4.out.below hB6)
    have HB6 := Lib.hid (HB4.out.trans (hB6.mono HB4.out.size))
    have H6 := Lib.hid (H4.out.below H4.out.1 hB6)
    have hlen : (Ra ++ Rb).length ≤ 1000000 := by simp; omega
    have hrows : ∀ r ∈ Ra ++ Rb, r.length ≤ 1000000 := by
      intro r hr
      rcases List.mem_append.1 hr with h | h
      · exact HSA.out r h
      · exact HSB.out r h
    have HLEN := Lib.hid hlen
    have HROWS := Lib.hid hrows
    clear ho6 hg6 hB6 hv6 hl6 hrecs hlen hrows HXV HYV HXR HYR HX1 HY1 HV1 HM HO5 HB5 HR2 HB4 H4
    go_wp2_with fail
    refine (same_of A3 A6 (Ra ++ Rb) _ _ _ _ w6 HN3.out.symm (by simp) HR3.out HRX.out HLEN.out HROWS.out).mono ?_
    rintro e w7 ⟨rfl, hb7⟩
    have HR1 := Lib.hid (HR1.out.below hb7)
    have HR4 := Lib.hid (HR4.out.below hb7)
    have HB7 := Lib.hid (HB6.out.trans (hb7.mono HB6.out.size))
    have H7 := Lib.hid (H6.out.below H6.out.1 hb7)
    clear hb7 HR3 HRX H6 HB6
    go_wp2_with fail
    refine (same_of A4 A1 Ra _ _ _ _ w7 rfl rfl HR4.out HR1.out (by omega) HSA.out).mono ?_
    rintro e w8 ⟨rfl, hb8⟩
    have HB8 := Lib.hid (HB7.out.trans (hb8.mono HB7.out.size))
    have H8 := Lib.hid (H7.out.below H7.out.1 hb8)
    clear hb8 HR1 HR4 H7 HB7
    go_wp2_with fail
    refine (awake_any _ H8.out).mono ?_
    rintro e w9 ⟨rfl, hb9⟩
    go_wp2
    go_ret
    exact ⟨rfl, HB8.out.trans (hb9.mono HB8.out.size)⟩
  · go_wp2_with fail
    refine (HP.out _ _ H2.out).mono ?_
    rintro e w3 ⟨A3, c3, rfl, hR3, hb3⟩
    rw [HJ.out.2.1, HRA.out, HRB.out] at hR3
    rw [HJ.out.1, HJ.out.2.1, HRA.out, HRB.out]
    generalize atP (a ++ ⟨#[13, 10]⟩ ++ b) = pc
    have HR1 := Lib.hid (HR1.out.below hb3)
    have HR2 := Lib.hid (HR2.out.below hb3)
    have HR3 := Lib.hid hR3
    have HB3 := Lib.hid (HB2.out.trans (hb3.mono HB2.out.size))
    have H3 := Lib.hid (H2.out.below H2.out.1 hb3)
    obtain ⟨n3, hn3⟩ : ∃ n, (Ra ++ Rb).length = n := ⟨_, rfl⟩
    rw [hn3]
    have HN3 := Lib.hid hn3
    clear hR3 hb3 H2 HB2 hn3
    go_wp2_with fail
    refine (HP.out _ _ H3.out).mono ?_
    rintro e w4 ⟨A4, c4, rfl, hR4, hb4⟩
    rw [HJ.out.2.2.2, HRA.out] at hR4
    rw [HJ.out.2.2.1, HJ.out.2.2.2, HRA.out]
    generalize atP (a ++ ⟨#[13, 10]⟩) = pd
    have HR1 := Lib.hid (HR1.out.below hb4)
    have HR2 := Lib.hid (HR2.out.below hb4)
    have HR3 := Lib.hid (HR3.out.below hb4)
    have HR4 := Lib.hid hR4
    have HB4 := Lib.hid (HB3.out.trans (hb4.mono HB3.out.size))
    have H4 := Lib.hid (H3.out.below H3.out.1 hb4)
    clear hR4 hb4 H3 HB3
    obtain ⟨xs, hxl, hxv, hxr, hx1⟩ := recs_vals HR1.out
    obtain ⟨ys, hyl, hyv, hyr, hy1⟩ := recs_vals HR2.out
    have HXV := Lib.hid hxv
    have HYV := Lib.hid hyv
    have HXR := Lib.hid hxr
    have HYR := Lib.hid hyr
    have HX1 := Lib.hid hx1
    have HY1 := Lib.hid hy1
    have hV1 : Below w4.heap.size w4 (w4.alloc (.cells #[] 31)) := below_one w4 _
    have HV1 := Lib.hid hV1
    have hM := World.ownsRow_made (base := w4.heap.size) (e := 31) (size := 1) w4 #[] 0 (Nat.le_refl _) (by decide) rfl
    have HM := Lib.hid hM
    have HXL := Lib.hid hxl
    have HYL := Lib.hid hyl
    clear hxv hyv hxr hyr hx1 hy1 hV1 hM hxl hyl
    go_wp2_with (at_builtin; refine wpList_append_want _ rfl _ _ 23 rfl w4.heap.size 31 i1 (.slice none 0 0) 1 24 Tryd.underlying23 hi' hz0' hz1' hz2' rfl (by decide) _ _ _ rfl HM.out A1 Ra.length c1 xs rfl (by rw [HXL.out, Nat.mul_one]) ?c0 ?c1 HX1.out ?c3 ?c4 ?c5 ?_)
    case c0 => intro e; rw [← HXL.out]; exact HXV.out.nil_len e
    case c1 => intro ad had; subst had; exact (HXV.out.below HV1.out).news
    case c3 => unfold maxLen; omega
    case c4 => omega
    case c5 => simp
    intro v5 w5 ho5 hg5
    have HB5 := Lib.hid (HV1.out.grown hg5 (by simp) (fun k hk => (HM.out.lt k hk).1))
    have HO5 := Lib.hid ho5
    have hs5 : w4.heap.size ≤ w5.heap.size := HB5.out.size
    clear ho5 hg5
    go_wp2_with (at_builtin; refine wpList_append_want _ rfl _ _ 23 rfl w4.heap.size 31 i1 (.slice none 0 0) 1 24 Tryd.underlying23 hi' hz0' hz1' hz2' rfl (by decide) _ _ _ rfl HO5.out A2 Rb.length c2 ys rfl (by rw [HYL.out, Nat.mul_one]) ?c0 ?c1 HY1.out ?c3 ?c4 ?c5 ?_)
    case c0 => intro e; rw [← HYL.out]; exact HYV.out.nil_len e
    case c1 => intro ad had; subst had; exact (HYV.out.below HB5.out).news
    case c3 => unfold maxLen; omega
    case c4 => omega
    case c5 => exact hs5
    intro v6 w6 ho6 hg6
    have hB6 := HB5.out.grown hg6 hs5 (fun k hk => (HO5.out.lt k hk).1)
    obtain ⟨A6, c6, rfl, hv6, hl6⟩ := vAt_own ho6
    have hrecs := recs_app hv6 HXL.out HYL.out (fun i h x hx => (HXR.out i h x hx).below hB6) (fun i h x hx => (HYR.out i h x hx).below hB6)
    have HRX := Lib.hid hrecs
    have HR1 := Lib.hid (HR1.out.below hB6)
    have HR3 := Lib.hid (HR3.out.below hB6)
    have HR4 := Lib.hid (HR4.out.below hB6)
    have HB6 := Lib.hid (HB4.out.trans (hB6.mono HB4.out.size))
    have H6 := Lib.hid (H4.out.below H4.out.1 hB6)
    have hlen : (Ra ++ Rb).length ≤ 1000000 := by simp; omega
    have hrows : ∀ r ∈ Ra ++ Rb, r.length ≤ 1000000 := by
      intro r hr
      rcases List.mem_append.1 hr with h | h
      · exact HSA.out r h
      · exact HSB.out r h
    have HLEN := Lib.hid hlen
    have HROWS := Lib.hid hrows
    clear ho6 hg6 hB6 hv6 hl6 hrecs hlen hrows HXV HYV HXR HYR HX1 HY1 HV1 HM HO5 HB5 HR2 HB4 H4
    go_wp2_with fail
    refine (same_of A3 A6 (Ra ++ Rb) _ _ _ _ w6 HN3.out.symm (by simp) HR3.out HRX.out HLEN.out HROWS.out).mono ?_
    rintro e w7 ⟨rfl, hb7⟩
    have HR1 := Lib.hid (HR1.out.below hb7)
    have HR4 := Lib.hid (HR4.out.below hb7)
    have HB7 := Lib.hid (HB6.out.trans (hb7.mono HB6.out.size))
    have H7 := Lib.hid (H6.out.below H6.out.1 hb7)
    clear hb7 HR3 HRX H6 HB6
    go_wp2_with fail
    refine (same_of A4 A1 Ra _ _ _ _ w7 rfl rfl HR4.out HR1.out (by omega) HSA.out).mono ?_
    rintro e w8 ⟨rfl, hb8⟩
    have HB8 := Lib.hid (HB7.out.trans (hb8.mono HB7.out.size))
    have H8 := Lib.hid (H7.out.below H7.out.1 hb8)
    clear hb8 HR1 HR4 H7 HB7
    go_wp2_with fail
    refine (awake_any _ H8.out).mono ?_
    rintro e w9 ⟨rfl, hb9⟩
    go_wp2
    go_ret
    exact ⟨rfl, HB8.out.trans (hb9.mono HB8.out.size)⟩

set_option maxRecDepth 100000 in
theorem lifted (os : Os) (started : os.Started) (H : Type) (enc : TypeId × Value → H) :
    ReturnsInHanded {} Tryd.checked os 5 .any (fun w args => (Rows.csvJoinsSpec.pre enc Tryd.prog Tryd.f5 [] false w args ∧ laidMetH Tryd.prog laidL w) ∧ sizedMet enc Tryd.prog Tryd.f5 (OpenSpec.ofChange Rows.csvJoinsSpec) false w args) (Rows.csvJoinsSpec.post enc Tryd.prog Tryd.f5 false true false false) := by
  refine returns_laid started (by kernel_rfl) Tryd.func5 #[.string ⟨#[]⟩, .string ⟨#[]⟩] (by kernel_rfl) (World.shaped_of_ZipB (by kernel_rfl) (by kernel_rfl)) (by rw [MakeChecks.laidMetH_plain _ _ _ (by kernel_rfl)]; exact laidMet_laidAll _ (by kernel_rfl) (by kernel_rfl)) (by kernel_rfl) (by kernel_rfl) rfl rfl (by kernel_rfl) ?_ ?_
  · intro ds hds
    rw [show Tryd.f5.params.toList.length = 2 from by kernel_rfl] at hds
    match ds, hds with
    | [d0, d1], _ => rfl
  intro W base args ds p hval hA hH
  rw [Tryd.params5] at hA hval
  obtain ⟨v0, vs0, d0, ds0, p0, q0, hargs, rfl, rfl, h0, r0⟩ := ChangeShapes.trodAll_cons hA
  obtain ⟨v1, vs1, d1, ds1, p1, q1, rfl, rfl, rfl, h1, r1⟩ := ChangeShapes.trodAll_cons r0
  obtain ⟨rfl, rfl, rfl⟩ := ChangeShapes.trodAll_nil r1
  obtain rfl : args = #[v0, v1] := by cases args; simp_all
  obtain ⟨s0, rfl, rfl, rfl, hs0⟩ := Go.ChangeMaps.open_string Tryd.underlying9 (hval 0 9 v0 rfl rfl) h0
  obtain ⟨s1, rfl, rfl, rfl, hs1⟩ := Go.ChangeMaps.open_string Tryd.underlying9 (hval 1 9 v1 rfl rfl) h1
  exact walk W hH s0 hs0 s1 hs1

theorem holds : Rows.CsvJoinsSaid :=
  OpenClaim.holds_of_wide 5 Tryd.f5 rfl rfl rfl rfl rfl rfl rfl ⟨rfl, rfl, rfl, rfl, rfl⟩ rfl rfl rfl rfl rfl (by kernel_rfl) Tryd.func5 (by kernel_rfl)
    (of_decide_eq_true (by kernel_rfl)) (by unfold Func.isWrapper; first | (rw [if_pos (by decide +kernel)]; kernel_rfl) | (rw [if_neg (by decide +kernel)]; exact ⟨rfl, rfl⟩))
    (fun os started H enc _ => lifted os started H enc)

theorem card : Rows.CsvJoinsCardSaid :=
  Claim7.holds_tied_plain_at .later [] [.data, .pinned] true (true, "70d7b8067d62b9ef9073b90744f4a4782b950ab5ded6e2d3eeb41ea9a8151f78") false
    holds (fun _ h => by cases h) (by kernel_rfl) (fun _ h => by cases h) csvJoins_row_tie rfl ⟨rfl, rfl⟩ (by kernel_rfl) rfl
    (fun f fn hf hfn => by
      obtain rfl : f = 5 := Option.some.inj ((show Tryd.prog.funcNamed "parquetry/parquetrylaw07.CsvJoins" = some 5 by kernel_rfl).symm.trans hf) |>.symm
      obtain rfl : fn = Tryd.f5 := (Option.some.inj (Tryd.func5.symm.trans hfn)).symm
      exact ⟨by kernel_rfl, fun j t ht => by
        rw [Tryd.params5] at ht
        have hm : t ∈ [9] := by simpa using Array.mem_of_getElem? ht
        have hall : ([9].all fun u => !Tryd.prog.wantsStandIn u) = true := by kernel_rfl
        exact (show Tryd.prog.wantsStandIn t = false by simpa using List.all_eq_true.1 hall t hm)⟩)
    (by kernel_rfl)
end Go.Proofs.YtdhjadjgkdgomaaDoor.CsvJoins
