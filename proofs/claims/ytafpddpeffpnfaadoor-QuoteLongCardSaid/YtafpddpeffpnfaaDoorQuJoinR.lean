/-
  Proved here: what Print's closure returns of a record, and what quote.joined returns of records; they leave what was in memory.
-/
import Derived.Test.YtafpddpeffpnfaaDoorQuJoin
set_option linter.unusedVariables false
namespace Go.Proofs.YtafpddpeffpnfaaDoor.Qu
open Go Go.RowKit Go.Lib Go.Proofs.YtafpddpeffpnfaaDoor.Cv Go.Proofs.YtafpddpeffpnfaaDoor.Bd

/-- A record whose text is put together to its end. -/
structure RecOk (r : List Bs) : Prop where
  fit : fits [44] (r.map fieldW)
  num : r.length ≤ 1000000
  each : ∀ x ∈ r, x.length ≤ 1000000
  len : (recW r).length ≤ 10000000

set_option maxHeartbeats 1000000 in
set_option maxRecDepth 100000 in
theorem printRec_any (A : Option Addr) (r : List Bs) (c : Nat) (w : World) (hH : Held w) (hA : VAt w A (rowC r)) (h : RecOk r) :
    Calls Tryd.prog 25 #[.slice A r.length c] w fun e w' => e = .returned (.string ⟨(recW r).toArray⟩) ∧ Below w.heap.size w w' := by
  have HJ := Lib.hid (joinS_any A r c w hH hA h.fit h.num h.each)
  have hjl := recW_join_le r
  have hlen := h.len
  obtain ⟨T, hT⟩ : ∃ T, (⟨(joinW [44] (r.map fieldW)).toArray⟩ : ByteArray) = T := ⟨_, rfl⟩
  have hTs : T.size ≤ 10000000 := by
    rw [← hT]
    show (joinW [44] (r.map fieldW)).toArray.size ≤ _
    simp
    omega
  have hans : T ++ ⟨#[13, 10]⟩ = ⟨(recW r).toArray⟩ := by
    rw [← hT]
    exact bytes_app _ [13, 10]
  rw [hT] at HJ
  rw [← hans]
  have h2 : (⟨#[13, 10]⟩ : ByteArray).size = 2 := rfl
  clear hT hans hA h hH hjl hlen
  go_enter Tryd.func25, Tryd.ntmps25
  go_wp2_with fail
  refine HJ.out.mono ?_
  rintro e w1 ⟨rfl, hb1⟩
  go_wp2
  go_ret
  exact ⟨rfl, hb1⟩

theorem map_take_rec (r : List (List Bs)) (k : Nat) (h : k < r.length) (m : Bs) : joinW m ((r.map recW).take (k + 1)) = (if k = 0 then [] else joinW m ((r.map recW).take k) ++ m) ++ recW r[k] := by
  rw [joinW_take m _ k (by simpa using h)]
  simp

set_option maxHeartbeats 2000000 in
set_option maxRecDepth 1000000 in
theorem joinR_any (A : Option Addr) (r : List (List Bs)) (c : Nat) (w : World) (hH : Held w) (hA : RecsAt w A r) (hf : fits [] (r.map recW)) (hl : r.length ≤ 1000000) (hx : ∀ x ∈ r, RecOk x) :
    Calls Tryd.prog 24 #[.slice A r.length c, .string ⟨#[]⟩, .func (.func 25) #[] #[]] w fun e w' => e = .returned (.string ⟨(joinW [] (r.map recW)).toArray⟩) ∧ Below w.heap.size w w' := by
  have hent := enters_of (P := Tryd.prog) Tryd.func25 (by kernel_rfl) rfl
  obtain ⟨B, hB⟩ : ∃ B, w.heap.size = B := ⟨_, rfl⟩
  have hst := Bdr.start w
  have hbl := below_one w (.cells #[.pointer none, .slice none 0 0] 57)
  rw [hB] at hst hbl
  have HST := Lib.hid hst
  have HBL := Lib.hid hbl
  have HH := Lib.hid hH
  have HA := Lib.hid hA
  have HF := Lib.hid hf
  have HX := Lib.hid hx
  clear hst hbl hH hA hf hx
  rw [hB]
  go_enter Tryd.func24, Tryd.ntmps24
  go_wp2_with fail
  go_loopw [12] (fun s12 wx => ∃ k : Nat, k ≤ r.length ∧ s12 = .int .i64 k ∧ Bdr B B (joinW [] ((r.map recW).take k)) wx ∧ Below B w wx) (fun s12 _ => r.length - (RowKit.intOf s12).toNat)
  case atStart => exact ⟨0, Nat.zero_le _, rfl, HST.out, HBL.out⟩
  case round =>
    obtain ⟨k, hk, rfl, hbd, hbw⟩ := hrel
    have hBs : B ≤ wr.heap.size := by rw [← hB]; exact hbw.size
    have hB0 : 0 < B := by rw [← hB]; exact HH.out.1
    have HW0 := Lib.hid (HH.out.below hB0 hbw)
    by_cases hlt : k < r.length
    · obtain ⟨b, off, A', c', rfl, hcw, hv⟩ := HA.out.at_ hlt
      have hblt := World.block_lt_of_cell? w _ hcw
      have hc := (Below.cell (p := ⟨b, off + k, none⟩) (by rw [hB]; exact hbw) hblt).trans hcw
      have hxl := HX.out r[k] (List.getElem_mem hlt)
      have HFLD := Lib.hid (fun W hW (hb : Below w.heap.size w W) => printRec_any A' r[k] c' W hW (VAt.below hv hb) hxl)
      have hL := HF.out k (by simpa using hlt)
      have hstep := map_take_rec r k hlt []
      have hfl := hxl.len
      generalize hy : r[k] = y at *
      obtain ⟨L, hLL⟩ : ∃ L, joinW [] ((r.map recW).take k) = L := ⟨_, rfl⟩
      rw [hLL] at hL hstep hbd
      have HLL := Lib.hid hLL
      obtain ⟨fb, hfb⟩ : ∃ fb : ByteArray, (⟨(recW y).toArray⟩ : ByteArray) = fb := ⟨_, rfl⟩
      have hfbt : fb.data.toList = recW y := by rw [← hfb]
      have hfbs : fb.size ≤ 10000000 := by rw [Lib.size_eq, hfbt]; omega
      rw [hfb] at HFLD
      have HSTEP := Lib.hid hstep
      have HFBT := Lib.hid hfbt
      have HBD := Lib.hid hbd
      have HBW := Lib.hid hbw
      have hgt : ¬ (65536 : Int) < (L.length : Int) := by omega
      clear hstep hfbt hbd hbw hfb hy hLL hv hxl hcw hblt
      by_cases hk0 : k = 0
      · subst hk0
        rw [Nat.add_zero] at hc
        go_wp2_with fail
        refine (len_any B B L wr HBD.out).mono ?_
        rintro e w1 ⟨rfl, hw1⟩
        rw [hw1]
        go_wp2_with fail
        refine (HFLD.out wr HW0.out (by rw [hB]; exact HBW.out)).mono ?_
        rintro e w2 ⟨rfl, hb2⟩
        have hB2 : Below B w w2 := HBW.out.trans (hb2.mono hBs)
        have hd2 := HBD.out.below hb2
        go_wp2_with fail
        refine (write_any B B L fb w2 hd2 (by omega) (by rw [← hB]; exact hB2.size)).mono ?_
        rintro e w3 ⟨rfl, hd3, hb3⟩
        have HD3 := Lib.hid hd3
        have HB3 := Lib.hid (hB2.trans hb3)
        clear hd3 hb3 hd2 hB2 hb2
        go_wp2_with fail
        go_roundw
        case measure => simp [RowKit.intOf]; omega
        case rel =>
          refine ⟨1, by omega, by go_num, ?_, HB3.out⟩
          have hL0 : L = [] := by rw [← HLL.out]; simp [joinW]
          have e1 := HSTEP.out
          simp only [if_true, List.nil_append] at e1
          have e2 : joinW [] ((r.map recW).take 1) = L ++ fb.data.toList := by rw [HFBT.out, hL0]; exact e1
          rw [e2]
          exact HD3.out
      · have hk1 : (0 : Int) < (k : Int) := by omega
        go_wp2_with fail
        refine (len_any B B L wr HBD.out).mono ?_
        rintro e w1 ⟨rfl, hw1⟩
        rw [hw1]
        go_wp2_with fail
        refine (write_any B B L ⟨#[]⟩ wr HBD.out (by have : (⟨#[]⟩ : ByteArray).size = 0 := rfl; omega) hBs).mono ?_
        rintro e w1 ⟨rfl, hd1, hb1⟩
        have hB1 := HBW.out.trans hb1
        have HD1 := Lib.hid hd1
        have HW1 := Lib.hid (HW0.out.below hB0 hb1)
        clear hd1 hw1
        go_wp2_with fail
        refine (HFLD.out w1 HW1.out (by rw [hB]; exact hB1)).mono ?_
        rintro e w2 ⟨rfl, hb2⟩
        have hB2 : Below B w w2 := hB1.trans (hb2.mono (by rw [← hB]; exact hB1.size))
        have hd2 := HD1.out.below hb2
        go_wp2_with fail
        refine (write_any B B _ fb w2 hd2 (by simp; omega) (by rw [← hB]; exact hB2.size)).mono ?_
        rintro e w3 ⟨rfl, hd3, hb3⟩
        have HD3 := Lib.hid hd3
        have HB3 := Lib.hid (hB2.trans hb3)
        clear hd3 hb3 hd2 hB2 hb2 hB1 hb1
        go_wp2_with fail
        go_roundw
        case measure => simp [RowKit.intOf]; omega
        case rel =>
          refine ⟨k + 1, by omega, by go_num, ?_, HB3.out⟩
          rw [HSTEP.out, if_neg hk0, ← HFBT.out]
          exact HD3.out
    · have hkl : k = r.length := by omega
      subst hkl
      have e : (r.map recW).take r.length = r.map recW := List.take_of_length_le (by simp)
      rw [e] at hbd
      have HBD := Lib.hid hbd
      have HBW := Lib.hid hbw
      clear hbd hbw e
      go_wp2_with fail
      refine (string_any B B _ wr HBD.out hBs).mono ?_
      rintro e w1 ⟨rfl, hd1, hb1⟩
      go_wp2
      go_ret
      exact ⟨rfl, HBW.out.trans hb1⟩
end Go.Proofs.YtafpddpeffpnfaaDoor.Qu
