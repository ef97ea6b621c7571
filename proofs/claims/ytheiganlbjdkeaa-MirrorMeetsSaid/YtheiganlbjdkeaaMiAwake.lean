/-
  Proved here: what parquetrylaw03.pair returns, for every numbers; parquetrylaw03.awake (the chapter's examples) returns true; they leave what was in memory. No condition.
-/
import Derived.Test.YtheiganlbjdkeaaMiFns
set_option linter.unusedVariables false
namespace Go.Proofs.Ytheiganlbjdkeaa.Mi
open Go.RowKit Go.Lib

theorem lawpair_yes (c k o : Int) (h : pairT c = (k, o)) (w : World) :
    Calls Try.prog 9 #[.int .i64 c, .int .i64 k, .int .i64 o] w fun e w' => e = .returned (.bool true) ∧ Below w.heap.size w w' := by
  have HC := Lib.hid (mPair_any c)
  rw [h] at HC
  clear h
  simp only at HC
  go_enter Try.func9, Try.ntmps9
  go_wp2_with fail
  refine (HC.out _).mono ?_
  rintro e w1 ⟨rfl, hb1⟩
  go_wp2
  go_ret
  exact ⟨rfl, hb1⟩
theorem meet_as (a b : Int) (r : Bool) (h : meetT a b = r) (w : World) :
    Calls Try.prog 13 #[.int .i64 a, .int .i64 b] w fun e w' => e = .returned (.bool r) ∧ Below w.heap.size w w' := h ▸ mMeet_any a b w
theorem glyph_as (c g : Int) (h : glyphT c = g) (w : World) :
    Calls Try.prog 15 #[.int .i64 c] w fun e w' => e = .returned (.int .i64 g) ∧ Below w.heap.size w w' := h ▸ mGlyph_any c w
theorem form_as (c g : Int) (h : formT c = g) (w : World) :
    Calls Try.prog 10 #[.int .i64 c] w fun e w' => e = .returned (.int .i64 g) ∧ w = w' := h ▸ mForm_any c w
theorem p28 : pairT 0x28 = (1, 0x29) := by kernel_rfl
theorem p5d : pairT 0x5d = (2, 0x5b) := by kernel_rfl
theorem p3c : pairT 0x3c = (0, 0) := by kernel_rfl
theorem m1 : meetT 0x28 0x29 = true := by kernel_rfl
theorem m2 : meetT 0x2329 0x3009 = true := by kernel_rfl
theorem m3 : meetT 0x28 0x5d = false := by kernel_rfl
theorem m4 : meetT 0x29 0x28 = false := by kernel_rfl
theorem g3c : glyphT 0x3c = 0x3e := by kernel_rfl
theorem g28 : glyphT 0x28 = 0x29 := by kernel_rfl
theorem g41 : glyphT 0x41 = 0x41 := by kernel_rfl
theorem gm1 : glyphT (-1) = -1 := by kernel_rfl
theorem f2329 : formT 0x2329 = 0x3008 := by kernel_rfl
theorem f28 : formT 0x28 = 0x28 := by kernel_rfl

set_option maxHeartbeats 2000000 in
set_option maxRecDepth 100000 in
theorem awake_any (w : World) :
    Calls Try.prog 12 #[] w fun e w' => e = .returned (.bool true) ∧ Below w.heap.size w w' := by
  go_enter Try.func12, Try.ntmps12
  go_wp2_with fail
  refine (lawpair_yes _ _ _ p28 _).mono ?_
  rintro e w1 ⟨rfl, hb1⟩
  go_wp2_with fail
  refine (lawpair_yes _ _ _ p5d _).mono ?_
  rintro e w2 ⟨rfl, hb2⟩
  go_wp2_with fail
  refine (lawpair_yes _ _ _ p3c _).mono ?_
  rintro e w3 ⟨rfl, hb3⟩
  go_wp2_with fail
  refine (meet_as _ _ _ m1 _).mono ?_
  rintro e w4 ⟨rfl, hb4⟩
  go_wp2_with fail
  refine (meet_as _ _ _ m2 _).mono ?_
  rintro e w5 ⟨rfl, hb5⟩
  go_wp2_with fail
  refine (meet_as _ _ _ m3 _).mono ?_
  rintro e w6 ⟨rfl, hb6⟩
  go_wp2_with fail
  refine (meet_as _ _ _ m4 _).mono ?_
  rintro e w7 ⟨rfl, hb7⟩
  go_wp2_with fail
  refine (glyph_as _ _ g3c _).mono ?_
  rintro e w8 ⟨rfl, hb8⟩
  go_wp2_with fail
  refine (glyph_as _ _ g28 _).mono ?_
  rintro e w9 ⟨rfl, hb9⟩
  go_wp2_with fail
  refine (glyph_as _ _ g41 _).mono ?_
  rintro e w10 ⟨rfl, hb10⟩
  go_wp2_with fail
  refine (glyph_as _ _ gm1 _).mono ?_
  rintro e w11 ⟨rfl, hb11⟩
  go_wp2_with fail
  refine (form_as _ _ f2329 _).mono ?_
  rintro e w12 ⟨rfl, rfl⟩
  go_wp2_with fail
  refine (form_as _ _ f28 _).mono ?_
  rintro e w13 ⟨rfl, rfl⟩
  go_wp2
  go_ret
  have hb12 := hb1.trans (hb2.mono hb1.size)
  have hb13 := hb12.trans (hb3.mono hb12.size)
  have hb14 := hb13.trans (hb4.mono hb13.size)
  have hb15 := hb14.trans (hb5.mono hb14.size)
  have hb16 := hb15.trans (hb6.mono hb15.size)
  have hb17 := hb16.trans (hb7.mono hb16.size)
  have hb18 := hb17.trans (hb8.mono hb17.size)
  have hb19 := hb18.trans (hb9.mono hb18.size)
  have hb1a := hb19.trans (hb10.mono hb19.size)
  exact ⟨rfl, hb1a.trans (hb11.mono hb1a.size)⟩
end Go.Proofs.Ytheiganlbjdkeaa.Mi
