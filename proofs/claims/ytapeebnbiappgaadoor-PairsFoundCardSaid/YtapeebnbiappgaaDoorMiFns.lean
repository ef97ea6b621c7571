/-
  Proved here: what mirror.Pair, mirror.Form, mirror.Meet return, for every number; they leave what was in memory. No condition.
-/
import Derived.Test.YtapeebnbiappgaaDoorMiSearch
set_option linter.unusedVariables false
namespace Go.Proofs.YtapeebnbiappgaaDoor.Mi
open Go.RowKit Go.Lib

theorem brL_len : brL.length = 26 := by kernel_rfl

set_option maxHeartbeats 1000000 in
set_option maxRecDepth 100000 in
theorem mPair_any (c : Int) (w : World) :
    Calls Tryd.prog 21 #[.int .i64 c] w fun e w' => e = .returned (.tuple #[.int .i64 (pairT c).1, .int .i64 (pairT c).2]) ∧ Below w.heap.size w w' := by
  have HC := Lib.hid (br_any w)
  have HP := fun (b : Nat) (W : World) (h : RowsAt W b brL) => pairIn_any b brL c W h (by rw [brL_len]; decide) brL_ok
  rw [brL_len] at HP
  have HP' := Lib.hid HP
  clear HP
  have hm := fun W : World => rowsAt_made brL 59 W
  have HM := Lib.hid hm
  clear hm
  obtain ⟨hz, hi⟩ := zero_of_info infoBr
  have HZ := Lib.hid hz
  rw [← br_size] at hi
  have HI := Lib.hid hi
  have HS := Lib.hid br_size
  have HO := Lib.hid br_one
  clear hz hi
  unfold pairT
  generalize (rowCells brL).toArray = cs at *
  generalize inR brL c = res at *
  go_enter Tryd.func21, Tryd.ntmps21
  go_wp2_with fail
  rename_i Q0 K1 hK1 K2 hK2
  refine HC.out.mono ?_
  rintro e w1 ⟨rfl, hb1⟩
  refine hK2 _ _ ?_
  refine wpList_allocVar rfl _ rfl (some 4) rfl _ HZ.out ?_
  refine wpList_store_rowTo rfl _ _ _ rfl rfl w1.heap.size cs rfl rfl 59 _ (heap_alloc_last w1 _) HI.out (by rw [HS.out]; rfl) HO.out ?_
  rw [World.setRow_alloc_new]
  refine wpList_nil (hK1 _ _ ?_)
  have hb2 : Below w.heap.size w (w1.alloc (.cells cs 59)) := hb1.alloc hb1.size _
  have HB2 := Lib.hid hb2
  have hR := HM.out w1
  have HR := Lib.hid hR
  clear hb1 hb2 hR HI HO HS HZ HM HC
  generalize w1.alloc (.cells cs 59) = w2 at *
  generalize w1.heap.size = b at *
  go_wp2_with fail
  refine (HP'.out b _ HR.out).mono ?_
  rintro e w3 ⟨rfl, hb3⟩
  go_wp2
  go_ret2
  exact ⟨rfl, HB2.out.trans (hb3.mono HB2.out.size)⟩

set_option maxHeartbeats 1000000 in
theorem mForm_any (c : Int) (w : World) :
    Calls Tryd.prog 34 #[.int .i64 c] w fun e w' => e = .returned (.int .i64 (formT c)) ∧ w = w' := by
  by_cases h1 : c = 9001
  · subst h1
    go_enter Tryd.func34, Tryd.ntmps34
    go_wp2
    go_ret
    exact ⟨rfl, rfl⟩
  · by_cases h2 : c = 9002
    · subst h2
      go_enter Tryd.func34, Tryd.ntmps34
      go_wp2
      go_ret
      exact ⟨rfl, rfl⟩
    · have e : formT c = c := by unfold formT; rw [if_neg h1, if_neg h2]
      rw [e]
      have d1 : (c == 9001) = false := by simpa using h1
      have d2 : (c == 9002) = false := by simpa using h2
      clear e h1 h2
      go_enter Tryd.func34, Tryd.ntmps34
      go_wp2
      go_ret
      exact ⟨rfl, rfl⟩

set_option maxHeartbeats 1000000 in
set_option maxRecDepth 100000 in
theorem mMeet_any (a b : Int) (w : World) :
    Calls Tryd.prog 15 #[.int .i64 a, .int .i64 b] w fun e w' => e = .returned (.bool (meetT a b)) ∧ Below w.heap.size w w' := by
  have CA := Lib.hid (fun W => mPair_any a W)
  have CB := Lib.hid (fun W => mPair_any b W)
  unfold meetT
  generalize pairT a = p at *
  generalize pairT b = q at *
  obtain ⟨k, o⟩ := p
  obtain ⟨m, x⟩ := q
  simp only at CA CB ⊢
  by_cases h1 : k = 1
  · subst h1
    by_cases h2 : m = 2
    · subst h2
      go_enter Tryd.func15, Tryd.ntmps15
      go_wp2_with fail
      refine (CA.out _).mono ?_
      rintro e w1 ⟨rfl, hb1⟩
      go_wp2_with fail
      refine (CB.out _).mono ?_
      rintro e w2 ⟨rfl, hb2⟩
      go_wp2_with fail
      refine (mForm_any o _).mono ?_
      rintro e w3 ⟨rfl, rfl⟩
      go_wp2_with fail
      refine (mForm_any b _).mono ?_
      rintro e w3 ⟨rfl, rfl⟩
      go_wp2
      go_ret
      exact ⟨rfl, hb1.trans (hb2.mono hb1.size)⟩
    · have d2 : (m == 2) = false := by simpa using h2
      rw [d2]
      clear h2
      go_enter Tryd.func15, Tryd.ntmps15
      go_wp2_with fail
      refine (CA.out _).mono ?_
      rintro e w1 ⟨rfl, hb1⟩
      go_wp2_with fail
      refine (CB.out _).mono ?_
      rintro e w2 ⟨rfl, hb2⟩
      go_wp2
      go_ret
      exact ⟨rfl, hb1.trans (hb2.mono hb1.size)⟩
  · have d1 : (k == 1) = false := by simpa using h1
    rw [d1]
    clear h1
    go_enter Tryd.func15, Tryd.ntmps15
    go_wp2_with fail
    refine (CA.out _).mono ?_
    rintro e w1 ⟨rfl, hb1⟩
    go_wp2_with fail
    refine (CB.out _).mono ?_
    rintro e w2 ⟨rfl, hb2⟩
    go_wp2
    go_ret
    exact ⟨rfl, hb1.trans (hb2.mono hb1.size)⟩
end Go.Proofs.YtapeebnbiappgaaDoor.Mi
