/-
  Proved here: what quote.joined returns of a record's fields (each by Field), and of records (each by Print's closure), where no text but the last one goes beyond MaxBytes; it leaves what was in memory.
-/
import Derived.Test.YtafpddpeffpnfaaDoorQuField
import Derived.Test.YtafpddpeffpnfaaDoorBdKit
import Derived.Test.YtafpddpeffpnfaaDoorCvNew
set_option linter.unusedVariables false
namespace Go.Proofs.YtafpddpeffpnfaaDoor.Qu
open Go Go.RowKit Go.Lib Go.Proofs.YtafpddpeffpnfaaDoor.Cv Go.Proofs.YtafpddpeffpnfaaDoor.Bd

/-- Nothing ahead of the last one is too long. -/
def fits (m : Bs) (X : List Bs) : Prop := ∀ k, k < X.length → (joinW m (X.take k)).length ≤ 65536

theorem map_take_at (r : List Bs) (k : Nat) (h : k < r.length) (m : Bs) : joinW m ((r.map fieldW).take (k + 1)) = (if k = 0 then [] else joinW m ((r.map fieldW).take k) ++ m) ++ fieldW r[k] := by
  rw [joinW_take m _ k (by simpa using h)]
  simp

set_option maxHeartbeats 2000000 in
set_option maxRecDepth 1000000 in
theorem joinS_any (A : Option Addr) (r : List Bs) (c : Nat) (w : World) (hH : Held w) (hA : VAt w A (rowC r)) (hf : fits [44] (r.map fieldW)) (hl : r.length ≤ 1000000) (hx : ∀ x ∈ r, x.length ≤ 1000000) :
    Calls Tryd.prog 26 #[.slice A r.length c, .string ⟨#[44]⟩, .func (.func 10) #[] #[]] w fun e w' => e = .returned (.string ⟨(joinW [44] (r.map fieldW)).toArray⟩) ∧ Below w.heap.size w w' := by
  have hent := enters_of (P := Tryd.prog) Tryd.func10 (by kernel_rfl) rfl
  obtain ⟨B, hB⟩ : ∃ B, w.heap.size = B := ⟨_, rfl⟩
  have hst := Bdr.start w
  have hbl := below_one w (.cells #[.pointer none, .slice none 0 0] 57)
  rw [hB] at hst hbl
  have HST := Lib.hid hst
  have HBL := Lib.hid hbl
  have HH := Lib.hid hH
  have HA := Lib.hid hA
  have HF := Lib.hid hf
  have HX := Lib.hid hx
  clear hst hbl hH hA hf hx
  rw [hB]
  go_enter Tryd.func26, Tryd.ntmps26
  go_wp2_with fail
  go_loopw [12] (fun s12 wx => ∃ k : Nat, k ≤ r.length ∧ s12 = .int .i64 k ∧ Bdr B B (joinW [44] ((r.map fieldW).take k)) wx ∧ Below B w wx) (fun s12 _ => r.length - (RowKit.intOf s12).toNat)
  case atStart => exact ⟨0, Nat.zero_le _, rfl, HST.out, HBL.out⟩
  case round =>
    obtain ⟨k, hk, rfl, hbd, hbw⟩ := hrel
    have hBs : B ≤ wr.heap.size := by rw [← hB]; exact hbw.size
    have hB0 : 0 < B := by rw [← hB]; exact HH.out.1
    have HW0 := Lib.hid (HH.out.below hB0 hbw)
    by_cases hlt : k < r.length
    · have hlc : k < (rowC r).length := by simpa [rowC] using hlt
      obtain ⟨b, off, rfl, hc⟩ := (HA.out.below (by rw [hB]; exact hbw)).at_ hlc
      have e : (rowC r)[k] = .string ⟨r[k].toArray⟩ := by simp [rowC, bx]
      rw [e] at hc
      have hxl := HX.out r[k] (List.getElem_mem hlt)
      have HFLD := Lib.hid (fun W hW => field_any ⟨r[k].toArray⟩ W hW (by show r[k].toArray.size ≤ _; simpa using hxl))
      have hL := HF.out k (by simpa using hlt)
      have hstep := map_take_at r k hlt [44]
      have hfl := (fieldW_len r[k]).2
      generalize hy : r[k] = y at *
      obtain ⟨L, hLL⟩ : ∃ L, joinW [44] ((r.map fieldW).take k) = L := ⟨_, rfl⟩
      rw [hLL] at hL hstep hbd
      have HLL := Lib.hid hLL
      obtain ⟨fb, hfb⟩ : ∃ fb, fldB ⟨y.toArray⟩ = fb := ⟨_, rfl⟩
      have hfbt : fb.data.toList = fieldW y := by rw [← hfb]; rfl
      have hfbs : fb.size ≤ 2000002 := by rw [Lib.size_eq, hfbt]; omega
      rw [hfb] at HFLD
      have HSTEP := Lib.hid hstep
      have HFBT := Lib.hid hfbt
      have HBD := Lib.hid hbd
      have HBW := Lib.hid hbw
      have hgt : ¬ (65536 : Int) < (L.length : Int) := by omega
      clear hstep hfbt hbd hbw e hfb hy hLL hlc
      by_cases hk0 : k = 0
      · subst hk0
        rw [Nat.add_zero] at hc
        go_wp2_with fail
        refine (len_any B B L wr HBD.out).mono ?_
        rintro e w1 ⟨rfl, hw1⟩
        rw [hw1]
        go_wp2_with fail
        refine (HFLD.out wr HW0.out).mono ?_
        rintro e w2 ⟨rfl, hb2⟩
        have hB2 : Below B w w2 := HBW.out.trans (hb2.mono hBs)
        have hd2 := HBD.out.below hb2
        go_wp2_with fail
        refine (write_any B B L fb w2 hd2 (by omega) (by rw [← hB]; exact hB2.size)).mono ?_
        rintro e w3 ⟨rfl, hd3, hb3⟩
        have HD3 := Lib.hid hd3
        have HB3 := Lib.hid (hB2.trans hb3)
        clear hd3 hb3 hd2 hB2 hb2
        go_wp2_with fail
        go_roundw
        case measure => simp [RowKit.intOf]; omega
        case rel =>
          refine ⟨1, by omega, by go_num, ?_, HB3.out⟩
          have hL0 : L = [] := by rw [← HLL.out]; simp [joinW]
          have e1 := HSTEP.out
          simp only [if_true, List.nil_append] at e1
          have e2 : joinW [44] ((r.map fieldW).take 1) = L ++ fb.data.toList := by rw [HFBT.out, hL0]; exact e1
          rw [e2]
          exact HD3.out
      · have hk1 : (0 : Int) < (k : Int) := by omega
        go_wp2_with fail
        refine (len_any B B L wr HBD.out).mono ?_
        rintro e w1 ⟨rfl, hw1⟩
        rw [hw1]
        go_wp2_with fail
        refine (write_any B B L ⟨#[44]⟩ wr HBD.out (by have : (⟨#[44]⟩ : ByteArray).size = 1 := rfl; omega) hBs).mono ?_
        rintro e w1 ⟨rfl, hd1, hb1⟩
        have hB1 := HBW.out.trans hb1
        have HD1 := Lib.hid hd1
        have HW1 := Lib.hid (HW0.out.below hB0 hb1)
        clear hd1 hw1
        go_wp2_with fail
        refine (HFLD.out w1 HW1.out).mono ?_
        rintro e w2 ⟨rfl, hb2⟩
        have hB2 : Below B w w2 := hB1.trans (hb2.mono (by rw [← hB]; exact hB1.size))
        have hd2 := HD1.out.below hb2
        go_wp2_with fail
        refine (write_any B B _ fb w2 hd2 (by simp; omega) (by rw [← hB]; exact hB2.size)).mono ?_
        rintro e w3 ⟨rfl, hd3, hb3⟩
        have HD3 := Lib.hid hd3
        have HB3 := Lib.hid (hB2.trans hb3)
        clear hd3 hb3 hd2 hB2 hb2 hB1 hb1
        go_wp2_with fail
        go_roundw
        case measure => simp [RowKit.intOf]; omega
        case rel =>
          refine ⟨k + 1, by omega, by go_num, ?_, HB3.out⟩
          rw [HSTEP.out, if_neg hk0, ← HFBT.out]
          exact HD3.out
    · have hkl : k = r.length := by omega
      subst hkl
      have e : (r.map fieldW).take r.length = r.map fieldW := List.take_of_length_le (by simp)
      rw [e] at hbd
      have HBD := Lib.hid hbd
      have HBW := Lib.hid hbw
      clear hbd hbw e
      go_wp2_with fail
      refine (string_any B B _ wr HBD.out hBs).mono ?_
      rintro e w1 ⟨rfl, hd1, hb1⟩
      go_wp2
      go_ret
      exact ⟨rfl, HBW.out.trans hb1⟩
end Go.Proofs.YtafpddpeffpnfaaDoor.Qu
