/-
  Proved here: parquetrylaw02.awake (the chapter's examples) returns true, where the names stand in memory as they are laid; it leaves what was in memory.
-/
import Derived.Test.YtaodaibhhdjdmaaDoorClRead
import Derived.Test.YtaodaibhhdjdmaaDoorClSearch
set_option linter.unusedVariables false
namespace Go.Proofs.YtaodaibhhdjdmaaDoor.Cl
open Go.RowKit Go.Lib

theorem pr1 : printV [1, 22] = .tuple #[.string ⟨#[82, 32, 80, 68, 73]⟩, .bool true] := by kernel_rfl
theorem pr2 : printV [23] = .tuple #[.string ⟨#[]⟩, .bool false] := by kernel_rfl
def sALL : ByteArray := ⟨#[65, 76, 32, 32, 76]⟩
def sEN : ByteArray := ⟨#[69, 78]⟩
theorem rd1 : readOk sALL = false := by kernel_rfl
theorem rd1z : readZ sALL = [] := by kernel_rfl
theorem rd1c : Lib.countB sALL blank ≤ sALL.size := by decide +kernel
theorem rd2 : readOk sEN = true := by kernel_rfl
theorem rd2z : readZ sEN = [3] := by kernel_rfl
theorem rd2c : Lib.countB sEN blank ≤ sEN.size := by decide +kernel
theorem of_as (c k : Int) (h : cls c = k) (w : World) :
    Calls Tryd.prog 9 #[.int .i64 c] w fun e w' => e = .returned (.int .i64 k) ∧ Below w.heap.size w w' := h ▸ of_any c w
theorem c65 : cls 65 = 0 := by kernel_rfl
theorem c48 : cls 48 = 3 := by kernel_rfl
theorem c1488 : cls 1488 = 1 := by kernel_rfl
theorem c1575 : cls 1575 = 2 := by kernel_rfl
theorem c1632 : cls 1632 = 6 := by kernel_rfl
theorem c32 : cls 32 = 12 := by kernel_rfl
theorem c8295 : cls 8295 = 20 := by kernel_rfl
theorem cm1 : cls (-1) = 0 := by kernel_rfl
theorem c65296 : cls 65296 = 3 := by kernel_rfl

theorem print1 (w : World) (hH : Held w) : Calls Tryd.prog 17 #[.slice (some ⟨w.heap.size, 0, none⟩) 2 2] (w.alloc (.cells #[.int .i64 1, .int .i64 22] 3)) fun e w' => e = .returned (.tuple #[.string ⟨#[82, 32, 80, 68, 73]⟩, .bool true]) ∧ Below w.heap.size w w' := by
  have hb : Below w.heap.size w (w.alloc (.cells #[.int .i64 1, .int .i64 22] 3)) := (Below.refl _ _).alloc (Nat.le_refl _) _
  have hr : IntsAt (w.alloc (.cells #[.int .i64 1, .int .i64 22] 3)) (some ⟨w.heap.size, 0, none⟩) [1, 22] := by
    refine .inr ⟨_, 0, rfl, by simp, fun j z hj => ?_⟩
    match j, hj with
    | 0, hj => simp at hj; subst hj; simp
    | 1, hj => simp at hj; subst hj; simp
    | (j + 2), hj => simp at hj
  refine (print_any (some ⟨w.heap.size, 0, none⟩) [1, 22] 2 _ hr (hH.below hb) (by decide)).mono ?_
  rintro e w' ⟨rfl, hb2⟩
  rw [pr1]
  exact ⟨rfl, hb.trans (hb2.mono hb.size)⟩
theorem print2 (w : World) (hH : Held w) : Calls Tryd.prog 17 #[.slice (some ⟨w.heap.size, 0, none⟩) 1 1] (w.alloc (.cells #[.int .i64 23] 3)) fun e w' => e = .returned (.tuple #[.string ⟨#[]⟩, .bool false]) ∧ Below w.heap.size w w' := by
  have hb : Below w.heap.size w (w.alloc (.cells #[.int .i64 23] 3)) := (Below.refl _ _).alloc (Nat.le_refl _) _
  have hr : IntsAt (w.alloc (.cells #[.int .i64 23] 3)) (some ⟨w.heap.size, 0, none⟩) [23] := by
    refine .inr ⟨_, 0, rfl, by simp, fun j z hj => ?_⟩
    match j, hj with
    | 0, hj => simp at hj; subst hj; simp
    | (j + 1), hj => simp at hj
  refine (print_any (some ⟨w.heap.size, 0, none⟩) [23] 1 _ hr (hH.below hb) (by decide)).mono ?_
  rintro e w' ⟨rfl, hb2⟩
  rw [pr2]
  exact ⟨rfl, hb.trans (hb2.mono hb.size)⟩
theorem read1 (w : World) (hH : Held w) : Calls Tryd.prog 19 #[.string ⟨#[65, 76, 32, 32, 76]⟩] w fun e w' => (∃ v, e = .returned (.tuple #[v, .bool false])) ∧ Below w.heap.size w w' := by
  refine (read_any sALL w hH (by decide) rd1c).mono ?_
  rintro e w' ⟨v, rfl, _, hb⟩
  rw [rd1]
  exact ⟨⟨v, rfl⟩, hb⟩
theorem read2 (w : World) (hH : Held w) : Calls Tryd.prog 19 #[.string ⟨#[69, 78]⟩] w fun e w' => (∃ g c, e = .returned (.tuple #[.slice (some ⟨g, 0, none⟩) 1 c, .bool true]) ∧ g < w'.heap.size ∧ w'.cell? ⟨g, 0, none⟩ = some (.int .i64 3)) ∧ Below w.heap.size w w' := by
  refine (read_any sEN w hH (by decide) rd2c).mono ?_
  rintro e w' ⟨v, rfl, hown, hb⟩
  rw [rd2]
  rw [rd2z] at hown
  refine ⟨?_, hb⟩
  rcases hown.2 with ⟨_, hn⟩ | ⟨g, cap, cur, rfl, _, hg, _⟩
  · cases hn
  · exact ⟨g, cap, rfl, (Array.getElem?_eq_some_iff.1 hg).1, by simpa [Addr.add] using hown.cells (g := g) rfl 0 (.int .i64 3) rfl⟩

set_option maxHeartbeats 2000000 in
set_option maxRecDepth 100000 in
theorem awake_any (w : World) (hH : Held w) :
    Calls Tryd.prog 11 #[] w fun e w' => e = .returned (.bool true) ∧ Below w.heap.size w w' := by
  have HH := Lib.hid hH
  clear hH
  go_enter Tryd.func11, Tryd.ntmps11
  go_wp2_with fail
  refine (print1 w HH.out).mono ?_
  rintro e w1 ⟨rfl, hb1⟩
  have H1 := Lib.hid (HH.out.below hb1)
  go_wp2_with fail
  refine (print2 w1 H1.out).mono ?_
  rintro e w2 ⟨rfl, hb2⟩
  have H2 := Lib.hid (H1.out.below hb2)
  have hB2 := hb1.trans (hb2.mono hb1.size)
  go_wp2_with fail
  refine (read1 w2 H2.out).mono ?_
  rintro e w3 ⟨⟨v3, rfl⟩, hb3⟩
  have H3 := Lib.hid (H2.out.below hb3)
  have hB3 := hB2.trans (hb3.mono hB2.size)
  go_wp2_with fail
  refine (read2 w3 H3.out).mono ?_
  rintro e w4 ⟨⟨g, c, rfl, hg, hc⟩, hb4⟩
  have hB4 := hB3.trans (hb4.mono hB3.size)
  clear HH H1 H2 H3 hb1 hb2 hb3 hb4 hB2 hB3
  go_wp2_with fail
  refine (of_as _ _ c65 _).mono ?_
  rintro e w5 ⟨rfl, hb5⟩
  go_wp2_with fail
  refine (of_as _ _ c48 _).mono ?_
  rintro e w6 ⟨rfl, hb6⟩
  go_wp2_with fail
  refine (of_as _ _ c1488 _).mono ?_
  rintro e w7 ⟨rfl, hb7⟩
  go_wp2_with fail
  refine (of_as _ _ c1575 _).mono ?_
  rintro e w8 ⟨rfl, hb8⟩
  go_wp2_with fail
  refine (of_as _ _ c1632 _).mono ?_
  rintro e w9 ⟨rfl, hb9⟩
  go_wp2_with fail
  refine (of_as _ _ c32 _).mono ?_
  rintro e w10 ⟨rfl, hb10⟩
  go_wp2_with fail
  refine (of_as _ _ c8295 _).mono ?_
  rintro e w11 ⟨rfl, hb11⟩
  go_wp2_with fail
  refine (of_as _ _ cm1 _).mono ?_
  rintro e w12 ⟨rfl, hb12⟩
  go_wp2_with fail
  refine (of_as _ _ c65296 _).mono ?_
  rintro e w13 ⟨rfl, hb13⟩
  have hb56 := hb5.trans (hb6.mono hb5.size)
  have hb57 := hb56.trans (hb7.mono hb56.size)
  have hb58 := hb57.trans (hb8.mono hb57.size)
  have hb59 := hb58.trans (hb9.mono hb58.size)
  have hb510 := hb59.trans (hb10.mono hb59.size)
  have hb511 := hb510.trans (hb11.mono hb510.size)
  have hb512 := hb511.trans (hb12.mono hb511.size)
  have hb513 := hb512.trans (hb13.mono hb512.size)
  clear hb5 hb6 hb7 hb8 hb9 hb10 hb11 hb12 hb13 hb56 hb57 hb58 hb59 hb510 hb511 hb512
  have hc13 : w13.cell? ⟨g, 0, none⟩ = some (.int .i64 3) := (hb513.cell (p := ⟨g, 0, none⟩) hg).trans hc
  go_wp2
  go_ret
  exact ⟨rfl, hB4.trans (hb513.mono hB4.size)⟩
end Go.Proofs.YtaodaibhhdjdmaaDoor.Cl
