/-
  Proved here: for every records, TableMakes returns true (at most 60 records of 60 fields of 4000 bytes are filled, trimmed, turned as the document's are; they stay when what was answered is written over), and the records stay. Without a condition.
-/
import Derived.Test.YtdkdmfbhnaaobaaTbMore
import Derived.Test.YtdkdmfbhnaaobaaTbRefT
import Derived.Test.YtdkdmfbhnaaobaaTbOpen
set_option linter.unusedVariables false
namespace Go.Proofs.Ytdkdmfbhnaaobaa.TableMakes
open Go.ChangeShapes Go.WideShapes Go.ChangeAt Go.RowKit Go.Lib Go.Proofs.Ytdkdmfbhnaaobaa.Cv Go.Proofs.Ytdkdmfbhnaaobaa.Tb

set_option maxHeartbeats 4000000 in
set_option maxRecDepth 1000000 in
theorem walk (w : World) (A : Option Addr) (R : Rec) (c : Nat) (hA : RecsC w A R) (hl : R.length ≤ 140737488355328) (hr : ∀ r ∈ R, r.length ≤ 140737488355328) (hx : ∀ r ∈ R, ∀ x ∈ r, x.length ≤ 140737488355328) :
    Calls Try.prog 4 #[.slice A R.length c] w fun e w' => e = .returned (.bool true) ∧ Below w.heap.size w w' := by
  have HA := Lib.hid hA.recs
  have HW := Lib.hid (toowide_any A R R.length c rfl w hA.recs hl hr hx)
  clear hA hl hr hx
  go_enter Try.func4, Try.ntmps4
  go_wp2_with fail
  refine HW.out.mono ?_
  rintro e w0 ⟨⟨b, rfl, hsm⟩, hw0⟩
  subst hw0
  cases b with
  | true =>
    clear hsm
    go_wp2_with fail
    refine (awake_any _).mono ?_
    rintro e w1 ⟨rfl, hb1⟩
    go_wp2
    go_ret
    exact ⟨rfl, hb1⟩
  | false =>
    have hS := hsm rfl
    have HF := Lib.hid hS.few
    have GO := Lib.hid (copy_any A R c R.length rfl w0 HA.out HF.out)
    have GF := Lib.hid (fun A' c' W h => fill_any A' R R.length c' rfl W h HF.out)
    have GT := Lib.hid (fun A' c' W h => trim_any A' R R.length c' rfl W h HF.out)
    have GU := Lib.hid (fun A' c' W h => turn_any A' R R.length c' rfl W h HF.out)
    have QF := Lib.hid (fun W h => refFill_any A R R.length c rfl W h HF.out)
    have QT := Lib.hid (fun W h => refTrim_any A R R.length c rfl W h HF.out)
    have QU := Lib.hid (fun W h => refTurn_any A R R.length c rfl W h HF.out)
    have F1 := Lib.hid HF.out.fill
    have F2 := Lib.hid HF.out.trim
    have F3 := Lib.hid HF.out.turn
    generalize fillT R = S1 at *
    generalize trimT R = S2 at *
    generalize turnT R = S3 at *
    clear hsm hS HW
    go_wp2_with fail
    refine GO.out.mono ?_
    rintro e w1 ⟨A1, c1, rfl, hr1, hb1⟩
    have B1 := Lib.hid hb1
    have R1 := Lib.hid hr1
    have X1 := Lib.hid (GF.out A1 c1 w1 hr1.recs)
    clear hr1 hb1 GO
    go_wp2_with fail
    refine X1.out.mono ?_
    rintro e w2 ⟨A2, c2, rfl, ht2, hb2⟩
    have C2 := Lib.hid hb2
    have T2 := Lib.hid (ht2.now hb2.size)
    have X2 := Lib.hid (GT.out A1 c1 w2 (R1.out.below hb2))
    have s12 := Lib.hid hb2.size
    clear ht2 hb2 X1 GF
    go_wp2_with fail
    refine X2.out.mono ?_
    rintro e w3 ⟨A3, c3, rfl, ht3, hb3⟩
    have C3 := Lib.hid (C2.out.trans (hb3.mono C2.out.size))
    have T2 := Lib.hid (T2.out.step hb3)
    have T3 := Lib.hid (ht3.now hb3.size)
    have X3 := Lib.hid (GU.out A1 c1 w3 (R1.out.below C3.out).recs)
    have s23 := Lib.hid hb3.size
    clear ht3 hb3 X2 GT C2
    go_wp2_with fail
    refine X3.out.mono ?_
    rintro e w4 ⟨A4, c4, rfl, ht4, hb4⟩
    have C4 := Lib.hid (C3.out.trans (hb4.mono C3.out.size))
    have T2 := Lib.hid (T2.out.step hb4)
    have T3 := Lib.hid (T3.out.step hb4)
    have T4 := Lib.hid (ht4.now hb4.size)
    have B4 := Lib.hid (B1.out.trans (C4.out.mono B1.out.size))
    have X4 := Lib.hid (QF.out w4 (HA.out.below B4.out))
    clear ht4 hb4 X3 GU C3 B4
    go_wp2_with fail
    refine X4.out.mono ?_
    rintro e w5 ⟨A5, c5, rfl, hr5, hb5⟩
    have C5 := Lib.hid (C4.out.trans (hb5.mono C4.out.size))
    have T2 := Lib.hid (T2.out.step hb5)
    have T3 := Lib.hid (T3.out.step hb5)
    have T4 := Lib.hid (T4.out.step hb5)
    have X5 := Lib.hid (same_yes A2 A5 S1 S1 S1.length S1.length c2 c5 w5 rfl rfl T2.out.recs.recs hr5.recs F1.out rfl)
    clear hr5 hb5 X4 QF C4
    go_wp2_with fail
    refine X5.out.mono ?_
    rintro e w6 ⟨rfl, hb6⟩
    have C6 := Lib.hid (C5.out.trans (hb6.mono C5.out.size))
    have T2 := Lib.hid (T2.out.step hb6)
    have T3 := Lib.hid (T3.out.step hb6)
    have T4 := Lib.hid (T4.out.step hb6)
    have X6 := Lib.hid (QT.out w6 (HA.out.below (B1.out.trans (C6.out.mono B1.out.size))))
    clear hb6 X5 QT C5
    go_wp2_with fail
    refine X6.out.mono ?_
    rintro e w7 ⟨A7, c7, rfl, hr7, hb7⟩
    have C7 := Lib.hid (C6.out.trans (hb7.mono C6.out.size))
    have T2 := Lib.hid (T2.out.step hb7)
    have T3 := Lib.hid (T3.out.step hb7)
    have T4 := Lib.hid (T4.out.step hb7)
    have X7 := Lib.hid (same_yes A3 A7 S2 S2 S2.length S2.length c3 c7 w7 rfl rfl T3.out.recs.recs hr7.recs F2.out rfl)
    clear hr7 hb7 X6 C6
    go_wp2_with fail
    refine X7.out.mono ?_
    rintro e w8 ⟨rfl, hb8⟩
    have C8 := Lib.hid (C7.out.trans (hb8.mono C7.out.size))
    have T2 := Lib.hid (T2.out.step hb8)
    have T3 := Lib.hid (T3.out.step hb8)
    have T4 := Lib.hid (T4.out.step hb8)
    have X8 := Lib.hid (QU.out w8 (HA.out.below (B1.out.trans (C8.out.mono B1.out.size))))
    clear hb8 X7 QU C7
    go_wp2_with fail
    refine X8.out.mono ?_
    rintro e w9 ⟨A9, c9, rfl, hr9, hb9⟩
    have C9 := Lib.hid (C8.out.trans (hb9.mono C8.out.size))
    have T2 := Lib.hid (T2.out.step hb9)
    have T3 := Lib.hid (T3.out.step hb9)
    have T4 := Lib.hid (T4.out.step hb9)
    have X9 := Lib.hid (same_yes A4 A9 S3 S3 S3.length S3.length c4 c9 w9 rfl rfl T4.out.recs.recs hr9.recs F3.out rfl)
    clear hr9 hb9 X8 C8
    go_wp2_with fail
    refine X9.out.mono ?_
    rintro e w10 ⟨rfl, hb10⟩
    have C10 := Lib.hid (C9.out.trans (hb10.mono C9.out.size))
    have T2 := Lib.hid (T2.out.step hb10)
    have T3 := Lib.hid (T3.out.step hb10)
    have T4 := Lib.hid (T4.out.step hb10)
    have X10 := Lib.hid (T2.out.spoil F1.out)
    clear hb10 X9 C9
    go_wp2_with fail
    refine X10.out.mono ?_
    rintro e w11 ⟨rfl, hm11⟩
    have C11 := Lib.hid (C10.out.trans hm11.below)
    have T3 := Lib.hid (T3.out.mid hm11 (Nat.le_refl _))
    have T4 := Lib.hid (T4.out.mid hm11 s23.out)
    have X11 := Lib.hid (T3.out.spoil F2.out)
    clear hm11 X10 C10
    go_wp2_with fail
    refine X11.out.mono ?_
    rintro e w12 ⟨rfl, hm12⟩
    have C12 := Lib.hid (C11.out.trans (hm12.below.mono s12.out))
    have T4 := Lib.hid (T4.out.mid hm12 (Nat.le_refl _))
    have X12 := Lib.hid (T4.out.spoil F3.out)
    clear hm12 X11 C11
    go_wp2_with fail
    refine X12.out.mono ?_
    rintro e w13 ⟨rfl, hm13⟩
    have C13 := Lib.hid (C12.out.trans (hm13.below.mono (Nat.le_trans s12.out s23.out)))
    have B13 := Lib.hid (B1.out.trans (C13.out.mono B1.out.size))
    have X13 := Lib.hid (same_yes A1 A R R R.length R.length c1 c w13 rfl rfl (R1.out.below C13.out).recs (HA.out.below B13.out) HF.out rfl)
    clear hm13 X12 C12
    go_wp2_with fail
    refine X13.out.mono ?_
    rintro e w14 ⟨rfl, hb14⟩
    have B14 := Lib.hid (B13.out.trans (hb14.mono B13.out.size))
    clear hb14 X13
    go_wp2_with fail
    refine (awake_any _).mono ?_
    rintro e w15 ⟨rfl, hb15⟩
    go_wp2
    go_ret
    exact ⟨rfl, B14.out.trans (hb15.mono B14.out.size)⟩

set_option maxRecDepth 100000 in
theorem lifted (os : Os) (started : os.Started) (H : Type) (enc : TypeId × Value → H) :
    ReturnsInHanded {} Try.checked os 4 .any (Rows.tableMakesSpec.pre6 enc Try.prog Try.f4 Rows.tableMakesRow.domain false) (Rows.tableMakesSpec.post enc Try.prog Try.f4 false true false false) := by
  refine returns_w started (by kernel_rfl) Try.func4 (ChangeSpec.witness6 (enc := enc) (C := Try.checked) false ⟨#[], #[.slice none 0 0], []⟩ 8 (by kernel_rfl) (by kernel_rfl) (by kernel_rfl) (by kernel_rfl)) rfl rfl (by kernel_rfl) ?_ ?_
  · intro ds hds
    rw [show Try.f4.params.toList.length = 1 from by kernel_rfl] at hds
    match ds, hds with
    | [d0], _ => rfl
  intro W base args ds p hval hA hwe
  rw [Try.params4] at hA hval hwe
  obtain ⟨v0, vs0, d0, ds0, p0, q0, hargs, rfl, rfl, h0, r0⟩ := ChangeShapes.trodAll_cons hA
  obtain ⟨rfl, rfl, rfl⟩ := ChangeShapes.trodAll_nil r0
  obtain rfl : args = #[v0] := by cases args; simp_all
  obtain ⟨A0, R0, c0, rfl, hr0, -, hl0, hrl0, hxl0⟩ := open_recsC (hval 0 22 v0 rfl rfl) h0 (hwe 0 _ _ rfl rfl)
  exact walk W A0 R0 c0 hr0 hl0 hrl0 hxl0

theorem holds : Rows.TableMakesSaid :=
  OpenClaim.holds_of_wide 4 Try.f4 rfl rfl rfl rfl rfl rfl rfl ⟨rfl, rfl, rfl, rfl, rfl⟩ rfl rfl rfl rfl rfl (by kernel_rfl) Try.func4 (by kernel_rfl)
    (of_decide_eq_true (by kernel_rfl)) (by unfold Func.isWrapper; first | (rw [if_pos (by decide +kernel)]; kernel_rfl) | (rw [if_neg (by decide +kernel)]; exact ⟨rfl, rfl⟩))
    (fun os started H enc _ => lifted os started H enc)
end Go.Proofs.Ytdkdmfbhnaaobaa.TableMakes
