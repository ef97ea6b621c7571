/-
  Proved here: parquetrylaw13.comes and awake (the chapter's examples) return true, where the names stand in memory as they are laid; they leave what was in memory.
-/
import Derived.Test.YtmhnhklkomboaaaDoorWkWeak
import Derived.Test.YtmhnhklkomboaaaDoorClRead
set_option linter.unusedVariables false
namespace Go.Proofs.YtmhnhklkomboaaaDoor.Wk
open Go Go.RowKit Go.Lib Go.Proofs.YtmhnhklkomboaaaDoor.Cl

set_option maxHeartbeats 1000000 in
set_option maxRecDepth 100000 in
theorem comes_any (S T : ByteArray) (s : Int) (w : World) (hH : Held w) (hs : S.size ≤ 1000) (hcb : Lib.countB S Cl.blank ≤ S.size) (hok : readOk S = true) (hz : (readZ S).length ≤ 1000) (hp : printV (weak s (readZ S)) = .tuple #[.string T, .bool true]) :
    Calls Tryd.prog 11 #[.string S, .int .i64 s, .string T] w fun e w' => e = .returned (.bool true) ∧ Below w.heap.size w w' := by
  have HRD := Lib.hid (show Calls Tryd.prog 15 #[.string S] w fun e w' => ∃ v, e = .returned (.tuple #[v, .bool (readOk S)]) ∧ w'.ownsRow w.heap.size 3 1 v (readZ S).length (icl (readZ S)) ∧ Below w.heap.size w w' from read_any S w hH (by omega) hcb)
  have HH := Lib.hid hH
  have HP := Lib.hid hp
  have HOK := Lib.hid hok
  have HW := Lib.hid (weak_len s (readZ S))
  clear hH hp hok hcb hs
  generalize readZ S = zs at *
  obtain ⟨n, hn⟩ : ∃ n, zs.length = n := ⟨_, rfl⟩
  have HN := Lib.hid hn
  rw [hn] at hz HW
  go_enter Tryd.func11, Tryd.ntmps11
  go_wp2_with fail
  refine HRD.out.mono ?_
  rintro e w1 ⟨v, rfl, hown, hb⟩
  rw [HOK.out]
  obtain ⟨A, c, rfl, hat⟩ := intsAt_icl (zs := zs) (n := n) (by rw [← HN.out]; exact hown) HN.out
  have HB1 := Lib.hid hb
  have HWK := Lib.hid (weak_any A zs n c s w1 hat HN.out (by omega))
  clear hown hat hb
  go_wp2_with fail
  refine HWK.out.mono ?_
  rintro e w2 ⟨A', c', rfl, hown, hb⟩
  obtain ⟨A2, c2, e2, hat⟩ := intsAt_icl hown HW.out
  injection e2 with e3 e4 e5
  subst e3 e5
  have HB2 := Lib.hid (HB1.out.trans (hb.mono HB1.out.size))
  have hpr := print_any A' (weak s zs) c' w2 hat (HH.out.below HB2.out) (by rw [HW.out]; omega)
  rw [HW.out, HP.out] at hpr
  have HPR := Lib.hid hpr
  clear hown hat hb hpr
  go_wp2_with fail
  refine HPR.out.mono ?_
  rintro e w3 ⟨rfl, hb⟩
  have HB3 := Lib.hid (HB2.out.trans (hb.mono HB2.out.size))
  clear hb
  go_wp2
  go_ret
  exact ⟨by first | rfl | simp, HB3.out⟩

def ex0 : ByteArray := ⟨#[65, 76, 32, 78, 83, 77, 32, 78, 83, 77]⟩
theorem ex0_any (w : World) (hH : Held w) : Calls Tryd.prog 11 #[.string ⟨#[65, 76, 32, 78, 83, 77, 32, 78, 83, 77]⟩, .int .i64 0, .string ⟨#[82, 32, 82, 32, 82]⟩] w fun e w' => e = .returned (.bool true) ∧ Below w.heap.size w w' :=
  comes_any ex0 ⟨#[82, 32, 82, 32, 82]⟩ 0 w hH (by decide) (by decide +kernel) (by kernel_rfl) (by decide +kernel) (by kernel_rfl)
def ex1 : ByteArray := ⟨#[78, 83, 77]⟩
theorem ex1_any (w : World) (hH : Held w) : Calls Tryd.prog 11 #[.string ⟨#[78, 83, 77]⟩, .int .i64 1, .string ⟨#[82]⟩] w fun e w' => e = .returned (.bool true) ∧ Below w.heap.size w w' :=
  comes_any ex1 ⟨#[82]⟩ 1 w hH (by decide) (by decide +kernel) (by kernel_rfl) (by decide +kernel) (by kernel_rfl)
def ex2 : ByteArray := ⟨#[82, 76, 73, 32, 78, 83, 77]⟩
theorem ex2_any (w : World) (hH : Held w) : Calls Tryd.prog 11 #[.string ⟨#[82, 76, 73, 32, 78, 83, 77]⟩, .int .i64 0, .string ⟨#[82, 76, 73, 32, 79, 78]⟩] w fun e w' => e = .returned (.bool true) ∧ Below w.heap.size w w' :=
  comes_any ex2 ⟨#[82, 76, 73, 32, 79, 78]⟩ 0 w hH (by decide) (by decide +kernel) (by kernel_rfl) (by decide +kernel) (by kernel_rfl)
def ex3 : ByteArray := ⟨#[65, 76, 32, 69, 78]⟩
theorem ex3_any (w : World) (hH : Held w) : Calls Tryd.prog 11 #[.string ⟨#[65, 76, 32, 69, 78]⟩, .int .i64 0, .string ⟨#[82, 32, 65, 78]⟩] w fun e w' => e = .returned (.bool true) ∧ Below w.heap.size w w' :=
  comes_any ex3 ⟨#[82, 32, 65, 78]⟩ 0 w hH (by decide) (by decide +kernel) (by kernel_rfl) (by decide +kernel) (by kernel_rfl)
def ex4 : ByteArray := ⟨#[76, 32, 69, 78]⟩
theorem ex4_any (w : World) (hH : Held w) : Calls Tryd.prog 11 #[.string ⟨#[76, 32, 69, 78]⟩, .int .i64 1, .string ⟨#[76, 32, 76]⟩] w fun e w' => e = .returned (.bool true) ∧ Below w.heap.size w w' :=
  comes_any ex4 ⟨#[76, 32, 76]⟩ 1 w hH (by decide) (by decide +kernel) (by kernel_rfl) (by decide +kernel) (by kernel_rfl)
def ex5 : ByteArray := ⟨#[69, 78]⟩
theorem ex5_any (w : World) (hH : Held w) : Calls Tryd.prog 11 #[.string ⟨#[69, 78]⟩, .int .i64 1, .string ⟨#[69, 78]⟩] w fun e w' => e = .returned (.bool true) ∧ Below w.heap.size w w' :=
  comes_any ex5 ⟨#[69, 78]⟩ 1 w hH (by decide) (by decide +kernel) (by kernel_rfl) (by decide +kernel) (by kernel_rfl)
def ex6 : ByteArray := ⟨#[69, 78, 32, 69, 83, 32, 69, 78, 32, 67, 83, 32, 69, 78]⟩
theorem ex6_any (w : World) (hH : Held w) : Calls Tryd.prog 11 #[.string ⟨#[69, 78, 32, 69, 83, 32, 69, 78, 32, 67, 83, 32, 69, 78]⟩, .int .i64 1, .string ⟨#[69, 78, 32, 69, 78, 32, 69, 78, 32, 69, 78, 32, 69, 78]⟩] w fun e w' => e = .returned (.bool true) ∧ Below w.heap.size w w' :=
  comes_any ex6 ⟨#[69, 78, 32, 69, 78, 32, 69, 78, 32, 69, 78, 32, 69, 78]⟩ 1 w hH (by decide) (by decide +kernel) (by kernel_rfl) (by decide +kernel) (by kernel_rfl)
def ex7 : ByteArray := ⟨#[65, 78, 32, 67, 83, 32, 65, 78]⟩
theorem ex7_any (w : World) (hH : Held w) : Calls Tryd.prog 11 #[.string ⟨#[65, 78, 32, 67, 83, 32, 65, 78]⟩, .int .i64 0, .string ⟨#[65, 78, 32, 65, 78, 32, 65, 78]⟩] w fun e w' => e = .returned (.bool true) ∧ Below w.heap.size w w' :=
  comes_any ex7 ⟨#[65, 78, 32, 65, 78, 32, 65, 78]⟩ 0 w hH (by decide) (by decide +kernel) (by kernel_rfl) (by decide +kernel) (by kernel_rfl)
def ex8 : ByteArray := ⟨#[65, 78, 32, 69, 83, 32, 65, 78]⟩
theorem ex8_any (w : World) (hH : Held w) : Calls Tryd.prog 11 #[.string ⟨#[65, 78, 32, 69, 83, 32, 65, 78]⟩, .int .i64 1, .string ⟨#[65, 78, 32, 79, 78, 32, 65, 78]⟩] w fun e w' => e = .returned (.bool true) ∧ Below w.heap.size w w' :=
  comes_any ex8 ⟨#[65, 78, 32, 79, 78, 32, 65, 78]⟩ 1 w hH (by decide) (by decide +kernel) (by kernel_rfl) (by decide +kernel) (by kernel_rfl)
def ex9 : ByteArray := ⟨#[69, 84, 32, 69, 84, 32, 69, 78, 32, 69, 84]⟩
theorem ex9_any (w : World) (hH : Held w) : Calls Tryd.prog 11 #[.string ⟨#[69, 84, 32, 69, 84, 32, 69, 78, 32, 69, 84]⟩, .int .i64 1, .string ⟨#[69, 78, 32, 69, 78, 32, 69, 78, 32, 69, 78]⟩] w fun e w' => e = .returned (.bool true) ∧ Below w.heap.size w w' :=
  comes_any ex9 ⟨#[69, 78, 32, 69, 78, 32, 69, 78, 32, 69, 78]⟩ 1 w hH (by decide) (by decide +kernel) (by kernel_rfl) (by decide +kernel) (by kernel_rfl)
def ex10 : ByteArray := ⟨#[69, 84, 32, 65, 78]⟩
theorem ex10_any (w : World) (hH : Held w) : Calls Tryd.prog 11 #[.string ⟨#[69, 84, 32, 65, 78]⟩, .int .i64 1, .string ⟨#[79, 78, 32, 65, 78]⟩] w fun e w' => e = .returned (.bool true) ∧ Below w.heap.size w w' :=
  comes_any ex10 ⟨#[79, 78, 32, 65, 78]⟩ 1 w hH (by decide) (by decide +kernel) (by kernel_rfl) (by decide +kernel) (by kernel_rfl)

set_option maxHeartbeats 4000000 in
set_option maxRecDepth 100000 in
theorem awake_any (w : World) (hH : Held w) : Calls Tryd.prog 6 #[] w fun e w' => e = .returned (.bool true) ∧ Below w.heap.size w w' := by
  have H0 := Lib.hid hH
  have B0 := Lib.hid (Below.refl w.heap.size w)
  clear hH
  go_enter Tryd.func6, Tryd.ntmps6
  go_wp2_with fail
  refine (ex0_any w H0.out).mono ?_
  rintro e w1 ⟨rfl, hb⟩
  have H1 := Lib.hid (H0.out.below hb)
  have B1 := Lib.hid (B0.out.trans (hb.mono B0.out.size))
  clear hb
  go_wp2_with fail
  refine (ex1_any w1 H1.out).mono ?_
  rintro e w2 ⟨rfl, hb⟩
  have H2 := Lib.hid (H1.out.below hb)
  have B2 := Lib.hid (B1.out.trans (hb.mono B1.out.size))
  clear hb
  go_wp2_with fail
  refine (ex2_any w2 H2.out).mono ?_
  rintro e w3 ⟨rfl, hb⟩
  have H3 := Lib.hid (H2.out.below hb)
  have B3 := Lib.hid (B2.out.trans (hb.mono B2.out.size))
  clear hb
  go_wp2_with fail
  refine (ex3_any w3 H3.out).mono ?_
  rintro e w4 ⟨rfl, hb⟩
  have H4 := Lib.hid (H3.out.below hb)
  have B4 := Lib.hid (B3.out.trans (hb.mono B3.out.size))
  clear hb
  go_wp2_with fail
  refine (ex4_any w4 H4.out).mono ?_
  rintro e w5 ⟨rfl, hb⟩
  have H5 := Lib.hid (H4.out.below hb)
  have B5 := Lib.hid (B4.out.trans (hb.mono B4.out.size))
  clear hb
  go_wp2_with fail
  refine (ex5_any w5 H5.out).mono ?_
  rintro e w6 ⟨rfl, hb⟩
  have H6 := Lib.hid (H5.out.below hb)
  have B6 := Lib.hid (B5.out.trans (hb.mono B5.out.size))
  clear hb
  go_wp2_with fail
  refine (ex6_any w6 H6.out).mono ?_
  rintro e w7 ⟨rfl, hb⟩
  have H7 := Lib.hid (H6.out.below hb)
  have B7 := Lib.hid (B6.out.trans (hb.mono B6.out.size))
  clear hb
  go_wp2_with fail
  refine (ex7_any w7 H7.out).mono ?_
  rintro e w8 ⟨rfl, hb⟩
  have H8 := Lib.hid (H7.out.below hb)
  have B8 := Lib.hid (B7.out.trans (hb.mono B7.out.size))
  clear hb
  go_wp2_with fail
  refine (ex8_any w8 H8.out).mono ?_
  rintro e w9 ⟨rfl, hb⟩
  have H9 := Lib.hid (H8.out.below hb)
  have B9 := Lib.hid (B8.out.trans (hb.mono B8.out.size))
  clear hb
  go_wp2_with fail
  refine (ex9_any w9 H9.out).mono ?_
  rintro e w10 ⟨rfl, hb⟩
  have H10 := Lib.hid (H9.out.below hb)
  have B10 := Lib.hid (B9.out.trans (hb.mono B9.out.size))
  clear hb
  go_wp2_with fail
  refine (ex10_any w10 H10.out).mono ?_
  rintro e w11 ⟨rfl, hb⟩
  have H11 := Lib.hid (H10.out.below hb)
  have B11 := Lib.hid (B10.out.trans (hb.mono B10.out.size))
  clear hb
  go_wp2
  go_ret
  exact ⟨rfl, B11.out⟩
end Go.Proofs.YtmhnhklkomboaaaDoor.Wk
