/-
  Proved here: parquetrylaw04.awake (the chapter's examples) returns true; parquetryref04.Sum returns how many slots any row of at most 2^40 numbers takes; they leave what was in memory.
-/
import Derived.Test.YtefonpkihfmpjaaCoRow
import Derived.Test.YtefonpkihfmpjaaCrFns
set_option linter.unusedVariables false
namespace Go.Proofs.Ytefonpkihfmpjaa.Co
open Go.RowKit Go.Lib Go.Proofs.Ytefonpkihfmpjaa.Tab Go.Proofs.Ytefonpkihfmpjaa.Arr
open Go.Proofs.Ytefonpkihfmpjaa.Cl (IntsAt)

set_option maxHeartbeats 1000000 in
set_option maxRecDepth 100000 in
theorem refSum_any (A : Option Addr) (zs : List Int) (c : Nat) (w : World) (hR : IntsAt w A zs) (hn : zs.length ≤ 1099511627776) :
    Calls Try.prog 12 #[.slice A zs.length c] w fun e w' => e = .returned (.int .i64 (sumT zs)) ∧ Below w.heap.size w w' := by
  have HR := Lib.hid hR
  clear hR
  go_enter Try.func12, Try.ntmps12
  go_wp2_with fail
  go_loopw [3, 4] (fun s3 s4 wx => ∃ k : Nat, k ≤ zs.length ∧ s4 = .int .i64 k ∧ s3 = .int .i64 (sumT (zs.take k)) ∧ Below w.heap.size w wx) (fun _ s4 _ => zs.length - (RowKit.intOf s4).toNat)
  case atStart => exact ⟨0, Nat.zero_le _, rfl, rfl, Below.refl _ _⟩
  case round =>
    obtain ⟨k, hk, rfl, rfl, hb⟩ := hrel
    have hsb := sumT_bounds (zs.take k)
    have hlt' : (zs.take k).length ≤ k := List.length_take_le _ _
    by_cases hlt : k < zs.length
    · obtain ⟨g, off, rfl, hc⟩ := (HR.out.below hb).at_ hlt
      have HX := Lib.hid (sumT_next zs k hlt)
      have hvb := slotsT_bounds zs[k]
      have HC := Lib.hid (fun W => Cr.refOf_any zs[k] W)
      generalize zs[k] = z at *
      have HB := Lib.hid hb
      clear hb
      generalize slotsT z = v at *
      generalize sumT (zs.take k) = s at *
      go_wp2_with fail
      refine (HC.out _).mono ?_
      rintro e w4 ⟨rfl, hb4⟩
      go_wp2
      go_roundw
      case rel => exact ⟨k + 1, by omega, by go_num, by rw [HX.out], HB.out.trans (hb4.mono HB.out.size)⟩
      case measure => simp [RowKit.intOf]; omega
    · obtain rfl : k = zs.length := by omega
      rw [List.take_length] at *
      go_wp2
      go_ret
      exact ⟨rfl, hb⟩

theorem of_as (c v : Int) (h : slotsT c = v) (w : World) :
    Calls Try.prog 7 #[.int .i64 c] w fun e w' => e = .returned (.int .i64 v) ∧ Below w.heap.size w w' := h ▸ cOf_any c w
theorem a1 : slotsT 0x41 = 1 := by kernel_rfl
theorem a2 : slotsT 0x4e00 = 2 := by kernel_rfl
theorem a3 : slotsT 0x301 = 0 := by kernel_rfl
theorem a4 : slotsT 0xa = 0 := by kernel_rfl
theorem a5 : slotsT (-1) = 1 := by kernel_rfl
theorem a6 : slotsT 0x3029 = 2 := by kernel_rfl
theorem a7 : slotsT 0x302a = 0 := by kernel_rfl
theorem a8 : slotsT 0x302d = 0 := by kernel_rfl
theorem a9 : slotsT 0x302e = 2 := by kernel_rfl
theorem a0 : sumT [0x41, 0x4e00, 0x301] = 3 := by kernel_rfl
theorem sum3 (w : World) : Calls Try.prog 11 #[.slice (some ⟨w.heap.size, 0, none⟩) 3 3] (w.alloc (.cells #[.int .i64 0x41, .int .i64 0x4e00, .int .i64 0x301] 3)) fun e w' => e = .returned (.int .i64 3) ∧ Below w.heap.size w w' := by
  have hL : LitAt (w.alloc (.cells #[.int .i64 0x41, .int .i64 0x4e00, .int .i64 0x301] 3)) w.heap.size [0x41, 0x4e00, 0x301] := litAt_made [0x41, 0x4e00, 0x301] 3 w
  have hI : IntsAt (w.alloc (.cells #[.int .i64 0x41, .int .i64 0x4e00, .int .i64 0x301] 3)) (some ⟨w.heap.size, 0, none⟩) [0x41, 0x4e00, 0x301] :=
    .inr ⟨w.heap.size, 0, rfl, hL.1, fun j z hz => by
      have hj := (List.getElem?_eq_some_iff.1 hz)
      obtain ⟨hj, rfl⟩ := hj
      rw [Nat.zero_add]
      exact hL.2 j hj⟩
  refine (sum_any (some ⟨w.heap.size, 0, none⟩) [0x41, 0x4e00, 0x301] 3 _ hI (by decide)).mono ?_
  rintro e w' ⟨rfl, hb⟩
  refine ⟨by rw [a0], ?_⟩
  have h1 : Below w.heap.size w (w.alloc (.cells #[.int .i64 0x41, .int .i64 0x4e00, .int .i64 0x301] 3)) := (Below.refl _ _).alloc (Nat.le_refl _) _
  exact h1.trans (hb.mono h1.size)

set_option maxHeartbeats 2000000 in
set_option maxRecDepth 100000 in
theorem awake_any (w : World) :
    Calls Try.prog 9 #[] w fun e w' => e = .returned (.bool true) ∧ Below w.heap.size w w' := by
  go_enter Try.func9, Try.ntmps9
  go_wp2_with fail
  refine (of_as _ _ a1 _).mono ?_
  rintro e w1 ⟨rfl, hb1⟩
  go_wp2_with fail
  refine (of_as _ _ a2 _).mono ?_
  rintro e w2 ⟨rfl, hb2⟩
  go_wp2_with fail
  refine (of_as _ _ a3 _).mono ?_
  rintro e w3 ⟨rfl, hb3⟩
  go_wp2_with fail
  refine (of_as _ _ a4 _).mono ?_
  rintro e w4 ⟨rfl, hb4⟩
  go_wp2_with fail
  refine (of_as _ _ a5 _).mono ?_
  rintro e w5 ⟨rfl, hb5⟩
  go_wp2_with fail
  refine (sum3 _).mono ?_
  rintro e w6 ⟨rfl, hb6⟩
  go_wp2_with fail
  refine (of_as _ _ a6 _).mono ?_
  rintro e w7 ⟨rfl, hb7⟩
  go_wp2_with fail
  refine (of_as _ _ a7 _).mono ?_
  rintro e w8 ⟨rfl, hb8⟩
  go_wp2_with fail
  refine (of_as _ _ a8 _).mono ?_
  rintro e w9 ⟨rfl, hb9⟩
  go_wp2_with fail
  refine (of_as _ _ a9 _).mono ?_
  rintro e wa ⟨rfl, hba⟩
  go_wp2
  go_ret
  have c2 := hb1.trans (hb2.mono hb1.size)
  have c3 := c2.trans (hb3.mono c2.size)
  have c4 := c3.trans (hb4.mono c3.size)
  have c5 := c4.trans (hb5.mono c4.size)
  have c6 := c5.trans (hb6.mono c5.size)
  have c7 := c6.trans (hb7.mono c6.size)
  have c8 := c7.trans (hb8.mono c7.size)
  have c9 := c8.trans (hb9.mono c8.size)
  exact ⟨rfl, c9.trans (hba.mono c9.size)⟩
end Go.Proofs.Ytefonpkihfmpjaa.Co
