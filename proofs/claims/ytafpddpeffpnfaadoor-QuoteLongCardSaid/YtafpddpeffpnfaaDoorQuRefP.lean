/-
  Proved here: what the document's own answer for records (parquetryref08.Print) returns, for records of a text of at most 1000000000 bytes; it leaves what was in memory.
-/
import Derived.Test.YtafpddpeffpnfaaDoorQuPrint
import Derived.Test.YtafpddpeffpnfaaDoorBytKit
import Derived.Test.YtafpddpeffpnfaaDoorQuRefF
import Derived.WalkSmall
set_option linter.unusedVariables false
namespace Go.Proofs.YtafpddpeffpnfaaDoor.Qu
open Go Go.RowKit Go.Lib Go.Proofs.YtafpddpeffpnfaaDoor.Cv Go.Proofs.YtafpddpeffpnfaaDoor.By

theorem text_step (R : List (List Bs)) (k : Nat) (h : k < R.length) : textW (R.take (k + 1)) = textW (R.take k) ++ recW R[k] := by
  unfold textW
  have e1 : (R.take (k + 1)).map recW = (R.map recW).take (k + 1) := by rw [List.map_take]
  have e2 : (R.take k).map recW = (R.map recW).take k := by rw [List.map_take]
  rw [e1, e2, joinW_take [] (R.map recW) k (by simpa using h)]
  by_cases hk : k = 0
  · subst hk; simp [joinW]
  · simp [hk]
theorem text_take_le (R : List (List Bs)) (k : Nat) : (textW (R.take k)).length ≤ (textW R).length := by
  unfold textW
  rw [List.map_take]
  exact joinW_le [] _ k

set_option maxHeartbeats 2000000 in
set_option maxRecDepth 1000000 in
theorem refPrint_any (A : Option Addr) (R : List (List Bs)) (n c : Nat) (hn : n = R.length) (w : World) (hA : RecsAt w A R) (h : RecsOk R) :
    Calls Tryd.prog 15 #[.slice A n c] w (PrintPost R w) := by
  subst hn
  obtain ⟨i0, hi, hz0, hz1, hz2⟩ := Cl.info_parts infoByte
  have HA := Lib.hid hA
  have HK := Lib.hid h
  have hnum := h.num
  have hlen := h.len
  clear hA h
  unfold PrintPost prT prE bad
  by_cases h0 : R.length = 0
  · rw [decide_eq_true h0]
    have HE := Lib.hid h0
    rw [h0]
    simp only [Bool.true_or, if_true]
    go_enter Tryd.func15, Tryd.ntmps15
    go_wp2_with fail
    go_ret2
    exact ⟨rfl, Below.refl _ _⟩
  · rw [decide_eq_false h0, Bool.false_or]
    have hz : ((R.length : Int) == 0) = false := by rw [beq_eq_false_iff_ne]; omega
    obtain ⟨T, hT⟩ : ∃ T, (if anyEmpty R = true then ([] : Bs) else if 65536 < (textW R).length then [] else textW R) = T := ⟨_, rfl⟩
    obtain ⟨E, hE⟩ : ∃ E : Int, (if anyEmpty R = true then (1 : Int) else if 65536 < (textW R).length then 3 else 0) = E := ⟨_, rfl⟩
    rw [hT, hE]
    have HT := Lib.hid hT
    have HE := Lib.hid hE
    clear hT hE
    go_enter Tryd.func15, Tryd.ntmps15
    go_wp2_with fail
    go_loopw [5] (fun s5 wx => ∃ k : Nat, k ≤ R.length ∧ s5 = .int .i64 k ∧ wx = w ∧ anyEmpty (R.take k) = false) (fun s5 _ => R.length - (RowKit.intOf s5).toNat)
    case atStart => exact ⟨0, Nat.zero_le _, rfl, rfl, rfl⟩
    case round =>
      obtain ⟨k, hk, rfl, hwx, hno⟩ := hrel
      obtain rfl := hwx.symm
      have HN := Lib.hid hno
      clear hno
      by_cases hlt : k < R.length
      · obtain ⟨b, off, A', c', rfl, hc, hv⟩ := HA.out.at_ hlt
        clear hv
        cases hy : decide (R[k].length = 0) with
        | true =>
          have HH := Lib.hid (anyEmpty_hit hlt hy)
          have hz2 : ((R[k].length : Int) == 0) = true := (zero_eq _).trans hy
          clear hy
          generalize R[k].length = m at *
          go_wp2_with fail
          go_ret2
          refine ⟨?_, Below.refl _ _⟩
          rw [← HT.out, ← HE.out, HH.out]
          rfl
        | false =>
          have HH := Lib.hid (anyEmpty_step hlt HN.out hy)
          have hz2 : ((R[k].length : Int) == 0) = false := (zero_eq _).trans hy
          clear hy
          generalize R[k].length = m at *
          go_wp2_with fail
          go_roundw
          case rel => exact ⟨k + 1, by omega, by go_num, trivial, HH.out⟩
          case measure => simp [RowKit.intOf]; omega
      · have e : R.take k = R := List.take_of_length_le (by omega)
        rw [e] at HN
        have HAE := Lib.hid HN.out
        clear HN e
        go_wp2_with fail
        clear hlt
        go_loopw [4, 6] (fun s4 s6 wx => ∃ k : Nat, k ≤ R.length ∧ s6 = .int .i64 k ∧ ByR w.heap.size wx s4 (textW (R.take k)) ∧ Below w.heap.size w wx) (fun _ s6 _ => R.length - (RowKit.intOf s6).toNat)
        case atStart => exact ⟨0, Nat.zero_le _, rfl, ByR.start _ _, Below.refl _ _⟩
        case round =>
          obtain ⟨k, hk, rfl, hby, hbw⟩ := hrel
          obtain ⟨Ab, cb, rfl⟩ := hby.shape
          have hsz := text_take_le R k
          by_cases hlt : k < R.length
          · obtain ⟨b, off, A', c', rfl, hcw, hv⟩ := HA.out.at_ hlt
            have hblt := World.block_lt_of_cell? w _ hcw
            have hc := (hbw.cell (p := ⟨b, off + k, none⟩) hblt).trans hcw
            have hstep := text_step R k hlt
            have hsz2 := text_take_le R (k + 1)
            have hrok := HK.out.each R[k] (List.getElem_mem hlt)
            generalize hr : R[k] = r at *
            rw [hstep, List.length_append] at hsz2
            obtain ⟨L, hL⟩ : ∃ L, textW (R.take k) = L := ⟨_, rfl⟩
            rw [hL] at hstep hsz hsz2 hby
            rw [hL]
            have HSTEP := Lib.hid hstep
            have HBY := Lib.hid hby
            have HBW := Lib.hid hbw
            have HV := Lib.hid hv
            have HROK := Lib.hid hrok
            have HCW := Lib.hid hcw
            have hrn := hrok.num
            clear hstep hby hbw hv hrok hcw hr hL
            go_wp2_with fail
            clear hc
            go_loopw [4, 7] (fun s4 s7 wx => ∃ j : Nat, j ≤ r.length ∧ s7 = .int .i64 j ∧ ByR w.heap.size wx s4 (L ++ joinW [44] ((r.map fieldW).take j)) ∧ Below w.heap.size w wx) (fun _ s7 _ => r.length - (RowKit.intOf s7).toNat)
            case atStart => exact ⟨0, Nat.zero_le _, rfl, by simpa [joinW] using HBY.out, HBW.out⟩
            case round =>
              obtain ⟨j, hj, rfl, hby, hbw⟩ := hrel
              obtain ⟨Ac, cc, rfl⟩ := hby.shape
              have hc := (hbw.cell (p := ⟨b, off + k, none⟩) hblt).trans HCW.out
              have hjl := recW_join_le r
              have hjt := joinW_le [44] (r.map fieldW) j
              obtain ⟨M, hM⟩ : ∃ M, L ++ joinW [44] ((r.map fieldW).take j) = M := ⟨_, rfl⟩
              have hMl : M.length + 2 ≤ L.length + (recW r).length := by rw [← hM, List.length_append]; omega
              rw [hM] at hby
              rw [hM]
              have HM := Lib.hid hM
              have HBY2 := Lib.hid hby
              have HBW2 := Lib.hid hbw
              have hsw := hbw.size
              clear hM hby hbw hjl hjt
              by_cases hlj : j < r.length
              · have hlc : j < (rowC r).length := by simpa [rowC] using hlj
                obtain ⟨b2, off2, rfl, hc2⟩ := (HV.out.below HBW2.out).at_ hlc
                have e2 : (rowC r)[j] = .string ⟨r[j].toArray⟩ := by simp [rowC, bx]
                rw [e2] at hc2
                have hlc2 := hlc
                have hxl := HROK.out.each r[j] (List.getElem_mem hlj)
                have HFLD := Lib.hid (fun W => refField_any ⟨r[j].toArray⟩ W (by show r[j].toArray.size ≤ _; simpa using hxl))
                have hst := map_take_at r j hlj [44]
                have hfl := (fieldW_len r[j]).2
                have hjl2 := joinW_le [44] (r.map fieldW) (j + 1)
                have hjl3 := recW_join_le r
                obtain ⟨y, hy⟩ : ∃ y, r[j] = y := ⟨_, rfl⟩
                rw [hy] at hc2 hxl HFLD hst hfl e2
                have e2' := e2
                clear e2
                obtain ⟨fb, hfb⟩ : ∃ fb, fldB ⟨y.toArray⟩ = fb := ⟨_, rfl⟩
                have hfbt : fb.data.toList = fieldW y := by rw [← hfb]; rfl
                have hfbs : fb.size = (fieldW y).length := by rw [Lib.size_eq, hfbt]
                rw [hfb] at HFLD
                have HST := Lib.hid hst
                have HFBT := Lib.hid hfbt
                clear hst hfbt hfb hjl2 hjl3
                by_cases hj0 : j = 0
                · subst hj0
                  rw [Nat.add_zero] at hc2
                  go_wp2_with fail
                  refine (HFLD.out _).mono ?_
                  rintro e w1 ⟨rfl, hw1⟩
                  subst hw1
                  go_wp2_with (at_builtin; refine Lib.wpList_append_own_string _ rfl _ _ 46 9 rfl w.heap.size 5 i0 Tryd.underlying46 Tryd.underlying9 hi hz0 hz1 hz2 _ _ _ rfl HBY2.out fb rfl ?c3 ?c4 ?c5 ?_)
                  case c3 => unfold maxLen; omega
                  case c4 => omega
                  case c5 => exact hsw
                  intro v' w2 ho2 hg2 _
                  have hby3 := ByR.of_str hfbs.symm ho2
                  have hb3 := HBW2.out.grown hg2 hsw (fun k hk => (HBY2.out.lt k hk).1)
                  obtain ⟨A3, c3, rfl⟩ := hby3.shape
                  have HBY3 := Lib.hid hby3
                  have HB3 := Lib.hid hb3
                  clear ho2 hg2 hby3 hb3
                  go_wp2_with fail
                  go_roundw
                  case measure => simp [RowKit.intOf]; omega
                  case rel =>
                    refine ⟨1, by omega, by go_num, ?_, HB3.out⟩
                    have hM0 : M = L := by rw [← HM.out]; simp [joinW]
                    have e1 := HST.out
                    simp only [if_true, List.nil_append, Nat.zero_add] at e1
                    rw [e1, ← HFBT.out, ← hM0]
                    exact HBY3.out
                · have hj1 : (0 : Int) < (j : Int) := by omega
                  go_wp2_with (at_builtin; refine wpList_append_own _ rfl _ _ 46 rfl w.heap.size 5 i0 (.int .u8 0) 1 1 Tryd.underlying46 hi hz0 hz1 hz2 rfl (by decide) _ _ _ rfl (HBY2.out.alloc _) ⟨_, 0, none⟩ 1 1 [.int .u8 44] rfl rfl ?c1 ?c2 ?c3 ?c4 ?c5 ?_)
                  case c1 => exact cell_one_new _ _ _
                  case c2 => intro u hu; simp only [List.mem_singleton] at hu; subst hu; rfl
                  case c3 => unfold maxLen; omega
                  case c4 => omega
                  case c5 => simp; omega
                  intro v' w2 ho2 hg2 _
                  have hb2 := (HBW2.out.alloc hsw (.cells #[.int .u8 44] 5)).grown hg2 (by simp; omega) (fun k hk => (HBY2.out.lt k hk).1)
                  have hby2 := ByR.of_bytes (m := [44]) rfl ho2
                  obtain ⟨A2, c2, rfl⟩ := hby2.shape
                  have hcn := (hb2.cell (p := ⟨b, off + k, none⟩) hblt).trans HCW.out
                  obtain ⟨b3, off3, hA3, hc3⟩ := (HV.out.below hb2).at_ hlc2
                  injection hA3 with hA3
                  injection hA3 with e3 e4 e5
                  subst e3
                  subst e4
                  rw [e2'] at hc3
                  have hby2' : ByR w.heap.size w2 (.slice A2 (M.length + 1) c2) (M ++ [44]) := by
                    have h5 := hby2
                    rw [List.length_append] at h5
                    exact h5
                  have HBY3 := Lib.hid hby2'
                  clear hby2'
                  have HB3 := Lib.hid hb2
                  have hsw3 := hb2.size
                  have hM1 : (M ++ [44]).length ≤ M.length + 1 := by simp
                  obtain ⟨M1, hM1'⟩ : ∃ M1, M ++ [44] = M1 := ⟨_, rfl⟩
                  rw [hM1'] at hM1 HBY3
                  have HM1 := Lib.hid hM1'
                  clear ho2 hg2 hby2 hb2 hM1' hc hc2 e5
                  go_wp2_with fail
                  refine (HFLD.out _).mono ?_
                  rintro e w3 ⟨rfl, hw3⟩
                  subst hw3
                  go_wp2_with (at_builtin; refine Lib.wpList_append_own_string _ rfl _ _ 46 9 rfl w.heap.size 5 i0 Tryd.underlying46 Tryd.underlying9 hi hz0 hz1 hz2 _ _ _ rfl HBY3.out fb rfl ?c3 ?c4 ?c5 ?_)
                  case c3 => unfold maxLen; omega
                  case c4 => omega
                  case c5 => exact hsw3
                  intro v' w4 ho4 hg4 _
                  have hby5 := ByR.of_str hfbs.symm ho4
                  have hb5 := HB3.out.grown hg4 hsw3 (fun k hk => (HBY3.out.lt k hk).1)
                  obtain ⟨A5, c5, rfl⟩ := hby5.shape
                  have HBY5 := Lib.hid hby5
                  have HB5 := Lib.hid hb5
                  clear ho4 hg4 hby5 hb5
                  go_wp2_with fail
                  go_roundw
                  case measure => simp [RowKit.intOf]; omega
                  case rel =>
                    refine ⟨j + 1, by omega, by go_num, ?_, HB5.out⟩
                    rw [HST.out, if_neg hj0, ← HFBT.out, ← List.append_assoc, ← List.append_assoc, HM.out, HM1.out]
                    exact HBY5.out
              · have e3 : (r.map fieldW).take j = r.map fieldW := List.take_of_length_le (by simp; omega)
                have HE3 := Lib.hid e3
                clear e3
                go_wp2_with (at_builtin; refine wpList_append_own _ rfl _ _ 46 rfl w.heap.size 5 i0 (.int .u8 0) 1 1 Tryd.underlying46 hi hz0 hz1 hz2 rfl (by decide) _ _ _ rfl (HBY2.out.alloc _) ⟨_, 0, none⟩ 2 2 [.int .u8 13, .int .u8 10] rfl rfl ?c1 ?c2 ?c3 ?c4 ?c5 ?_)
                case c1 => exact cell_two_new _ _ _ _
                case c2 => intro u hu; simp only [List.mem_cons, List.not_mem_nil, or_false] at hu; rcases hu with rfl | rfl <;> rfl
                case c3 => unfold maxLen; omega
                case c4 => omega
                case c5 => simp; omega
                intro v' w2 ho2 hg2 _
                have hb2 := (HBW2.out.alloc hsw (.cells #[.int .u8 13, .int .u8 10] 5)).grown hg2 (by simp; omega) (fun k hk => (HBY2.out.lt k hk).1)
                have hby2 := ByR.of_bytes (m := [13, 10]) rfl ho2
                obtain ⟨A2, c2, rfl⟩ := hby2.shape
                have HBY3 := Lib.hid hby2
                have HB3 := Lib.hid hb2
                clear ho2 hg2 hby2 hb2
                go_wp2_with fail
                go_roundw
                case measure => simp [RowKit.intOf]; omega
                case rel =>
                  refine ⟨k + 1, by omega, by go_num, ?_, HB3.out⟩
                  have e5 : recW r = joinW [44] (r.map fieldW) ++ [13, 10] := rfl
                  rw [HSTEP.out, e5, ← List.append_assoc, ← HE3.out, HM.out]
                  exact HBY3.out
          · have hT : T = if 65536 < (textW R).length then [] else textW R := by rw [← HT.out, HAE.out]; rfl
            have hE : E = if 65536 < (textW R).length then 3 else 0 := by rw [← HE.out, HAE.out]; rfl
            have e : R.take k = R := List.take_of_length_le (by omega)
            rw [e] at hby hsz
            rw [e]
            have htx := hby.text
            have HBW := Lib.hid hbw
            generalize textW R = L at *
            by_cases hl : 65536 < L.length
            · rw [if_pos hl] at hT hE
              have hl' : (65536 : Int) < (L.length : Int) := by omega
              have HT2 := Lib.hid hT
              have HE2 := Lib.hid hE
              clear hT hE e htx hby hbw
              go_wp2_with fail
              go_ret2
              exact ⟨by rw [HT2.out, HE2.out]; rfl, HBW.out⟩
            · rw [if_neg hl] at hT hE
              have hl' : ¬ (65536 : Int) < (L.length : Int) := by omega
              have HT2 := Lib.hid hT
              have HE2 := Lib.hid hE
              clear hT hE e hby hbw
              go_wp2_with fail
              go_ret2
              exact ⟨by rw [HT2.out, HE2.out]; rfl, HBW.out⟩
end Go.Proofs.YtafpddpeffpnfaaDoor.Qu
