/-
  Proved here: parquetrylaw15.comes and awake (the chapter's examples) return true, where the names stand in memory as they are laid; they leave what was in memory.
-/
import Derived.Test.YtkhhfodbldemeaaDoorNeSettle
import Derived.Test.YtkhhfodbldemeaaDoorClRead
import Derived.Test.YtkhhfodbldemeaaDoorRcSame
set_option linter.unusedVariables false
namespace Go.Proofs.YtkhhfodbldemeaaDoor.Ne
open Go Go.RowKit Go.Lib Go.Proofs.YtkhhfodbldemeaaDoor.Cl

theorem same_n (A B : Option Addr) (zs : List Int) (n c d : Nat) (w : World) (hl : zs.length = n) (ha : IntsAt w A zs) (hb : IntsAt w B zs) (hn : n ≤ 1099511627776) :
    Calls Tryd.prog 11 #[.slice A n c, .slice B n d] w fun e w' => e = .returned (.bool true) ∧ Below w.heap.size w w' := by
  subst hl
  exact Rc.same_ints A B zs c d w ha hb hn
theorem made_nil (w : World) : (w.alloc (.cells #[] 3)).ownsRow w.heap.size 3 1 (.slice (some ⟨w.heap.size, 0, none⟩) 0 0) 0 (icl []) := World.ownsRow_made w #[] 0 (Nat.le_refl _) (Nat.zero_le _) rfl

set_option maxHeartbeats 2000000 in
set_option maxRecDepth 100000 in
theorem comes_any (S T : ByteArray) (l s b : Int) (w : World) (hH : Held w) (hs : S.size ≤ 1000) (hcb : Lib.countB S Cl.blank ≤ S.size) (hok : readOk S = true) (hz : (readZ S).length ≤ 1000) (hp : printV (settleN l b s (readZ S)) = .tuple #[.string T, .bool true]) :
    Calls Tryd.prog 18 #[.string S, .int .i64 l, .int .i64 s, .int .i64 b, .string T] w fun e w' => e = .returned (.bool true) ∧ Below w.heap.size w w' := by
  have HRD := Lib.hid (show Calls Tryd.prog 25 #[.string S] w fun e w' => ∃ v, e = .returned (.tuple #[v, .bool (readOk S)]) ∧ w'.ownsRow w.heap.size 3 1 v (readZ S).length (icl (readZ S)) ∧ Below w.heap.size w w' from read_any S w hH (by omega) hcb)
  have HH := Lib.hid hH
  have HP := Lib.hid hp
  have HOK := Lib.hid hok
  have HW := Lib.hid (settle_len l b (readZ S) s)
  clear hH hp hok hcb hs
  generalize readZ S = zs at *
  obtain ⟨n, hn⟩ : ∃ n, zs.length = n := ⟨_, rfl⟩
  have HN := Lib.hid hn
  rw [hn] at hz HW
  clear hn
  go_enter Tryd.func18, Tryd.ntmps18
  go_wp2_with fail
  refine HRD.out.mono ?_
  rintro e w1 ⟨v, rfl, hown, hb⟩
  rw [HOK.out]
  obtain ⟨A, c, rfl, hat⟩ := intsAt_icl (zs := zs) (n := n) (by rw [← HN.out]; exact hown) HN.out
  have HB1 := Lib.hid hb
  have HST := Lib.hid (settle_any A zs n c l s b w1 hat HN.out (by omega))
  generalize settleN l b s zs = ys at *
  clear hown hat hb HRD
  go_wp2_with fail
  refine HST.out.mono ?_
  rintro e w2 ⟨A', c', rfl, hown, hb⟩
  have HB2 := Lib.hid (bt HB1.out hb)
  have hpr := print_any A' ys c' w2 (ints_of hown HW.out) (HH.out.below HB2.out) (by rw [HW.out]; omega)
  rw [HW.out, HP.out] at hpr
  have HPR := Lib.hid hpr
  clear hown hb hpr HST
  go_wp2_with fail
  refine HPR.out.mono ?_
  rintro e w3 ⟨rfl, hb⟩
  have HB3 := Lib.hid (bt HB2.out hb)
  clear hb
  go_wp2
  go_ret
  exact ⟨by first | rfl | simp, HB3.out⟩

theorem ex0_any (w : World) (hH : Held w) : Calls Tryd.prog 18 #[.string ⟨#[79, 78, 32, 76, 32, 79, 78, 32, 79, 78, 32, 82, 32, 79, 78]⟩, .int .i64 0, .int .i64 0, .int .i64 1, .string ⟨#[76, 32, 76, 32, 76, 32, 76, 32, 82, 32, 82]⟩] w fun e w' => e = .returned (.bool true) ∧ Below w.heap.size w w' :=
  comes_any ⟨#[79, 78, 32, 76, 32, 79, 78, 32, 79, 78, 32, 82, 32, 79, 78]⟩ ⟨#[76, 32, 76, 32, 76, 32, 76, 32, 82, 32, 82]⟩ 0 0 1 w hH (by decide) (by decide +kernel) (by kernel_rfl) (by decide +kernel) (by kernel_rfl)
theorem ex1_any (w : World) (hH : Held w) : Calls Tryd.prog 18 #[.string ⟨#[82, 32, 87, 83, 32, 69, 78, 32, 87, 83, 32, 76]⟩, .int .i64 0, .int .i64 0, .int .i64 0, .string ⟨#[82, 32, 82, 32, 69, 78, 32, 76, 32, 76]⟩] w fun e w' => e = .returned (.bool true) ∧ Below w.heap.size w w' :=
  comes_any ⟨#[82, 32, 87, 83, 32, 69, 78, 32, 87, 83, 32, 76]⟩ ⟨#[82, 32, 82, 32, 69, 78, 32, 76, 32, 76]⟩ 0 0 0 w hH (by decide) (by decide +kernel) (by kernel_rfl) (by decide +kernel) (by kernel_rfl)
theorem ex2_any (w : World) (hH : Held w) : Calls Tryd.prog 18 #[.string ⟨#[79, 78]⟩, .int .i64 1, .int .i64 0, .int .i64 1, .string ⟨#[82]⟩] w fun e w' => e = .returned (.bool true) ∧ Below w.heap.size w w' :=
  comes_any ⟨#[79, 78]⟩ ⟨#[82]⟩ 1 0 1 w hH (by decide) (by decide +kernel) (by kernel_rfl) (by decide +kernel) (by kernel_rfl)

set_option maxHeartbeats 4000000 in
set_option maxRecDepth 100000 in
theorem awake_any (w : World) (hH : Held w) : Calls Tryd.prog 9 #[] w fun e w' => e = .returned (.bool true) ∧ Below w.heap.size w w' := by
  have HH := Lib.hid hH
  clear hH
  go_enter Tryd.func9, Tryd.ntmps9
  go_wp2_with fail
  have B0 := Lib.hid (below_made w (.cells #[.int .i64 0, .int .i64 1, .int .i64 3, .int .i64 6] 3))
  have R0 := Lib.hid (made_ints [0, 1, 3, 6] #[.int .i64 0, .int .i64 1, .int .i64 3, .int .i64 6] 3 w rfl)
  generalize w.alloc (.cells #[.int .i64 0, .int .i64 1, .int .i64 3, .int .i64 6] 3) = w0 at *
  have H0 := Lib.hid (HH.out.below B0.out)
  refine (ex0_any w0 H0.out).mono ?_
  rintro e w1 ⟨rfl, hb⟩
  have H1 := Lib.hid (H0.out.below hb)
  have B1 := Lib.hid (bt B0.out hb)
  have R1 := Lib.hid (R0.out.below hb)
  clear hb
  go_wp2_with fail
  refine (ex1_any w1 H1.out).mono ?_
  rintro e w2 ⟨rfl, hb⟩
  have H2 := Lib.hid (H1.out.below hb)
  have B2 := Lib.hid (bt B1.out hb)
  have R2 := Lib.hid (R1.out.below hb)
  clear hb
  go_wp2_with fail
  refine (ex2_any w2 H2.out).mono ?_
  rintro e w3 ⟨rfl, hb⟩
  have H3 := Lib.hid (H2.out.below hb)
  have B3 := Lib.hid (bt B2.out hb)
  have R3 := Lib.hid (R2.out.below hb)
  clear hb
  go_wp2_with fail
  refine (levels_any (some ⟨w.heap.size, 0, none⟩) [0, 1, 3, 6] 4 4 0 w3 R3.out rfl (by decide) (by decide) (by decide)).mono ?_
  rintro e w4 ⟨A4, c4, rfl, hown, hb⟩
  rw [show [0, 1, 3, 6].map (levN 0) = [0, 1, 2, 2] by decide] at hown
  have B4 := Lib.hid (bt B3.out hb)
  have H4 := Lib.hid (H3.out.below hb)
  have R4 := Lib.hid (R3.out.below hb)
  have RA := Lib.hid (ints_of hown rfl)
  clear hown hb
  go_wp2_with fail
  have hb := below_made w4 (.cells #[.int .i64 0, .int .i64 1, .int .i64 2, .int .i64 2] 3)
  have RB := Lib.hid (made_ints [0, 1, 2, 2] #[.int .i64 0, .int .i64 1, .int .i64 2, .int .i64 2] 3 w4 rfl)
  have RA2 := Lib.hid (RA.out.below hb)
  have B5 := Lib.hid (bt B4.out hb)
  have H5 := Lib.hid (H4.out.below hb)
  have R5 := Lib.hid (R4.out.below hb)
  clear hb RA
  refine (same_n _ _ [0, 1, 2, 2] 4 _ _ _ rfl RA2.out RB.out (by decide)).mono ?_
  rintro e w6 ⟨rfl, hb⟩
  have B6 := Lib.hid (bt B5.out hb)
  have H6 := Lib.hid (H5.out.below hb)
  have R6 := Lib.hid (R5.out.below hb)
  clear hb RA2 RB
  go_wp2_with fail
  refine (levels_any (some ⟨w.heap.size, 0, none⟩) [0, 1, 3, 6] 4 4 1 w6 R6.out rfl (by decide) (by decide) (by decide)).mono ?_
  rintro e w7 ⟨A7, c7, rfl, hown, hb⟩
  rw [show [0, 1, 3, 6].map (levN 1) = [2, 1, 2, 2] by decide] at hown
  have B7 := Lib.hid (bt B6.out hb)
  have H7 := Lib.hid (H6.out.below hb)
  have R7 := Lib.hid (R6.out.below hb)
  have RA := Lib.hid (ints_of hown rfl)
  clear hown hb
  go_wp2_with fail
  have hb := below_made w7 (.cells #[.int .i64 2, .int .i64 1, .int .i64 2, .int .i64 2] 3)
  have RB := Lib.hid (made_ints [2, 1, 2, 2] #[.int .i64 2, .int .i64 1, .int .i64 2, .int .i64 2] 3 w7 rfl)
  have RA2 := Lib.hid (RA.out.below hb)
  have B8 := Lib.hid (bt B7.out hb)
  have H8 := Lib.hid (H7.out.below hb)
  have R8 := Lib.hid (R7.out.below hb)
  clear hb RA
  refine (same_n _ _ [2, 1, 2, 2] 4 _ _ _ rfl RA2.out RB.out (by decide)).mono ?_
  rintro e w9 ⟨rfl, hb⟩
  have B9 := Lib.hid (bt B8.out hb)
  have H9 := Lib.hid (H8.out.below hb)
  have R9 := Lib.hid (R8.out.below hb)
  clear hb RA2 RB
  go_wp2
  go_ret
  exact ⟨by first | rfl | simp, B9.out⟩
end Go.Proofs.YtkhhfodbldemeaaDoor.Ne
