/-
  Proved here: the chapter's examples (parquetrylaw08.awake) hold, where MaxLen stands in memory as it is laid; the call leaves what was in memory.
-/
import Derived.Test.YtafpddpeffpnfaaDoorQuTidy
import Derived.Test.YtafpddpeffpnfaaDoorCvNew
set_option linter.unusedVariables false
namespace Go.Proofs.YtafpddpeffpnfaaDoor.Qu
open Go Go.RowKit Go.Lib Go.Proofs.YtafpddpeffpnfaaDoor.Cv

def q1 : List (List Bs) := [[[97], [98]], [[99]]]
theorem q1_ok : RecsOk q1 := recsOk_of (by decide) (by decide) (by decide +kernel)
theorem q1_is : (⟨(prT q1).toArray⟩ : ByteArray) = ⟨#[97, 44, 98, 13, 10, 99, 13, 10]⟩ ∧ prE q1 = 0 := by decide +kernel
theorem q0_ok : RecsOk [] := recsOk_of (by decide) (by simp) (by decide +kernel)
theorem q0_is : (⟨(prT []).toArray⟩ : ByteArray) = ⟨#[]⟩ ∧ prE [] = 1 := by decide +kernel
theorem td1_is : (⟨(tdT ⟨#[34, 97, 34, 44, 98]⟩).toArray⟩ : ByteArray) = ⟨#[97, 44, 98, 13, 10]⟩ ∧ tdA ⟨#[34, 97, 34, 44, 98]⟩ = 0 ∧ tdE ⟨#[34, 97, 34, 44, 98]⟩ = 0 := by decide +kernel
theorem td2_is : (⟨(tdT ⟨#[97, 34, 98]⟩).toArray⟩ : ByteArray) = ⟨#[]⟩ ∧ tdA ⟨#[97, 34, 98]⟩ = 1 ∧ tdE ⟨#[97, 34, 98]⟩ = 2 := by decide +kernel
theorem f1_is : fldB ⟨#[97, 32, 98]⟩ = ⟨#[97, 32, 98]⟩ := by decide +kernel
theorem f2_is : fldB ⟨#[97, 44, 98]⟩ = ⟨#[34, 97, 44, 98, 34]⟩ := by decide +kernel
theorem f3_is : fldB ⟨#[120, 32, 34, 121, 34]⟩ = ⟨#[34, 120, 32, 34, 34, 121, 34, 34, 34]⟩ := by decide +kernel
theorem f4_is : fldB ⟨#[]⟩ = ⟨#[]⟩ := by decide +kernel

theorem print_q1 (W : World) (hH : Held W) :
    Calls Tryd.prog 14 #[.slice (some ⟨W.heap.size + 1 + 1, 0, none⟩) 2 2] (((W.alloc (.cells #[.string ⟨#[97]⟩, .string ⟨#[98]⟩] 9)).alloc (.cells #[.string ⟨#[99]⟩] 9)).alloc (.cells #[.slice (some ⟨W.heap.size, 0, none⟩) 2 2, .slice (some ⟨W.heap.size + 1, 0, none⟩) 1 1] 33))
      fun e w' => e = .returned (.tuple #[.string ⟨#[97, 44, 98, 13, 10, 99, 13, 10]⟩, .int .i64 0]) ∧ Below W.heap.size W w' := by
  have h1 : RecV (W.alloc (.cells #[.string ⟨#[97]⟩, .string ⟨#[98]⟩] 9)) (.slice (some ⟨W.heap.size, 0, none⟩) 2 2) [[97], [98]] := recV_new W [[97], [98]] _ 2 2 rfl
  have h2 := recV_new (W.alloc (.cells #[.string ⟨#[97]⟩, .string ⟨#[98]⟩] 9)) [[99]] 9 1 1 rfl
  rw [size_alloc] at h2
  have h3 := recs_new2 _ _ _ _ _ 33 (h1.below (below_one _ (.cells (rowC [[99]]).toArray 9))) h2
  rw [size_alloc, size_alloc] at h3
  have hB : Below W.heap.size W (((W.alloc (.cells #[.string ⟨#[97]⟩, .string ⟨#[98]⟩] 9)).alloc (.cells #[.string ⟨#[99]⟩] 9)).alloc (.cells #[.slice (some ⟨W.heap.size, 0, none⟩) 2 2, .slice (some ⟨W.heap.size + 1, 0, none⟩) 1 1] 33)) :=
    (((Below.refl _ _).alloc (Nat.le_refl _) _).alloc (by simp) _).alloc (by simp; omega) _
  refine (print_any _ q1 2 2 rfl _ (hH.below hH.1 hB) h3 q1_ok).mono ?_
  rintro e w' ⟨rfl, hb⟩
  rw [q1_is.1, q1_is.2]
  exact ⟨rfl, hB.trans (hb.mono hB.size)⟩
theorem print_q0 (W : World) (hH : Held W) :
    Calls Tryd.prog 14 #[.slice none 0 0] W fun e w' => e = .returned (.tuple #[.string ⟨#[]⟩, .int .i64 1]) ∧ Below W.heap.size W w' := by
  refine (print_any none [] 0 0 rfl _ hH (RecsAt.nil _ _) q0_ok).mono ?_
  rintro e w' ⟨rfl, hb⟩
  rw [q0_is.1, q0_is.2]
  exact ⟨rfl, hb⟩
theorem tidy_1 (W : World) (hH : Held W) :
    Calls Tryd.prog 17 #[.string ⟨#[34, 97, 34, 44, 98]⟩] W fun e w' => e = .returned (.tuple #[.string ⟨#[97, 44, 98, 13, 10]⟩, .int .i64 0, .int .i64 0]) ∧ Below W.heap.size W w' := by
  refine (tidy_any _ W hH (fun _ => recs_ok (by decide))).mono ?_
  rintro e w' ⟨rfl, hb⟩
  rw [td1_is.1, td1_is.2.1, td1_is.2.2]
  exact ⟨rfl, hb⟩
theorem tidy_2 (W : World) (hH : Held W) :
    Calls Tryd.prog 17 #[.string ⟨#[97, 34, 98]⟩] W fun e w' => e = .returned (.tuple #[.string ⟨#[]⟩, .int .i64 1, .int .i64 2]) ∧ Below W.heap.size W w' := by
  refine (tidy_any _ W hH (fun _ => recs_ok (by decide))).mono ?_
  rintro e w' ⟨rfl, hb⟩
  rw [td2_is.1, td2_is.2.1, td2_is.2.2]
  exact ⟨rfl, hb⟩
theorem field_is {s t : ByteArray} (h : fldB s = t) (hs : s.size ≤ 1000000) (W : World) (hH : Held W) :
    Calls Tryd.prog 10 #[.string s] W fun e w' => e = .returned (.string t) ∧ Below W.heap.size W w' := by
  rw [← h]
  exact field_any s W hH hs

set_option maxHeartbeats 2000000 in
set_option maxRecDepth 100000 in
theorem awake_any (w : World) (hH : Held w) :
    Calls Tryd.prog 9 #[] w fun e w' => e = .returned (.bool true) ∧ Below w.heap.size w w' := by
  have HP := Lib.hid (print_q1 w hH)
  have HH := Lib.hid hH
  clear hH
  go_enter Tryd.func9, Tryd.ntmps9
  go_wp2_with fail
  refine HP.out.mono ?_
  rintro e w1 ⟨rfl, hb1⟩
  have K1 := Lib.hid (HH.out.below HH.out.1 hb1)
  have B1 := Lib.hid hb1
  clear hb1 HP HH
  go_wp2_with fail
  refine (print_q0 w1 K1.out).mono ?_
  rintro e w2 ⟨rfl, hb2⟩
  have K2 := Lib.hid (K1.out.below K1.out.1 hb2)
  have B2 := Lib.hid (B1.out.trans (hb2.mono B1.out.size))
  clear hb2 K1 B1
  go_wp2_with fail
  refine (tidy_1 w2 K2.out).mono ?_
  rintro e w3 ⟨rfl, hb3⟩
  have K3 := Lib.hid (K2.out.below K2.out.1 hb3)
  have B3 := Lib.hid (B2.out.trans (hb3.mono B2.out.size))
  clear hb3 K2 B2
  go_wp2_with fail
  refine (tidy_2 w3 K3.out).mono ?_
  rintro e w4 ⟨rfl, hb4⟩
  have K4 := Lib.hid (K3.out.below K3.out.1 hb4)
  have B4 := Lib.hid (B3.out.trans (hb4.mono B3.out.size))
  clear hb4 K3 B3
  go_wp2_with fail
  refine (field_is f1_is (by decide) w4 K4.out).mono ?_
  rintro e w5 ⟨rfl, hb5⟩
  have K5 := Lib.hid (K4.out.below K4.out.1 hb5)
  have B5 := Lib.hid (B4.out.trans (hb5.mono B4.out.size))
  clear hb5 K4 B4
  go_wp2_with fail
  refine (field_is f2_is (by decide) w5 K5.out).mono ?_
  rintro e w6 ⟨rfl, hb6⟩
  have K6 := Lib.hid (K5.out.below K5.out.1 hb6)
  have B6 := Lib.hid (B5.out.trans (hb6.mono B5.out.size))
  clear hb6 K5 B5
  go_wp2_with fail
  refine (field_is f3_is (by decide) w6 K6.out).mono ?_
  rintro e w7 ⟨rfl, hb7⟩
  have K7 := Lib.hid (K6.out.below K6.out.1 hb7)
  have B7 := Lib.hid (B6.out.trans (hb7.mono B6.out.size))
  clear hb7 K6 B6
  go_wp2_with fail
  refine (field_is f4_is (by decide) w7 K7.out).mono ?_
  rintro e w8 ⟨rfl, hb8⟩
  have B8 := Lib.hid (B7.out.trans (hb8.mono B7.out.size))
  clear hb8 K7 B7
  go_wp2_with fail
  go_ret
  exact ⟨rfl, B8.out⟩
end Go.Proofs.YtafpddpeffpnfaaDoor.Qu
