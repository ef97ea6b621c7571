/-
  Proved here: what parquetryref03.Pair, Form, Meet return, for every number: what mirror's do; they leave what was in memory. No condition.
-/
import Derived.Test.YtapeebnbiappgaaDoorMrFind
import Derived.Test.YtapeebnbiappgaaDoorMiFns
set_option linter.unusedVariables false
namespace Go.Proofs.YtapeebnbiappgaaDoor.Mr
open Go.RowKit Go.Lib Go.Proofs.YtapeebnbiappgaaDoor.Mi Go.Proofs.YtapeebnbiappgaaDoor.Tab

theorem brRows_ok : ∀ r ∈ brRows, rowB r = true := by decide +kernel
theorem brPairs_ok : ∀ r ∈ brPairs, twoB r = true := by decide +kernel
theorem sgRows_ok : ∀ r ∈ sgRows, rowB r = true := by decide +kernel
theorem sgPairs_ok : ∀ r ∈ sgPairs, twoB r = true := by decide +kernel

set_option maxHeartbeats 1000000 in
set_option maxRecDepth 100000 in
theorem refPair_any (c : Int) (w : World) :
    Calls Tryd.prog 26 #[.int .i64 c] w fun e w' => e = .returned (.tuple #[.int .i64 (pairT c).1, .int .i64 (pairT c).2]) ∧ Below w.heap.size w w' := by
  have HP := Lib.hid (fun (g : Nat) (W : World) (h : LitAt W g (flatR brRows)) => inRows_any g brRows c 44 W (by kernel_rfl) h (by decide +kernel) brRows_ok)
  have HQ := Lib.hid (fun (g : Nat) (W : World) (h : LitAt W g (flatR brPairs)) => inPairs_any g brPairs c 8 W (by kernel_rfl) h (by decide +kernel) brPairs_ok)
  have he : pairT c = if (inR brRows c).1 = 0 then inR brPairs c else inR brRows c := inR_append brRows brPairs c
  rw [he]
  clear he
  generalize inR brRows c = p at *
  generalize inR brPairs c = q at *
  obtain ⟨k, o⟩ := p
  obtain ⟨m, x⟩ := q
  simp only at HP HQ ⊢
  by_cases h1 : k = 0
  · subst h1
    rw [if_pos rfl]
    go_enter Tryd.func26, Tryd.ntmps26
    go_wp2_with fail
    refine (brackets_any _).mono ?_
    rintro e w1 ⟨rfl, hL1, hb1⟩
    go_wp2_with fail
    refine (HP.out _ _ hL1).mono ?_
    rintro e w2 ⟨rfl, rfl⟩
    go_wp2_with fail
    refine (lone_true _).mono ?_
    rintro e w3 ⟨rfl, hL3, hb3⟩
    go_wp2_with fail
    refine (HQ.out _ _ hL3).mono ?_
    rintro e w4 ⟨rfl, hb4⟩
    go_wp2
    go_ret2
    have hb13 := hb1.trans (hb3.mono hb1.size)
    exact ⟨rfl, hb13.trans (hb4.mono hb13.size)⟩
  · rw [if_neg h1]
    have d1 : (k == 0) = false := by simpa using h1
    clear h1
    go_enter Tryd.func26, Tryd.ntmps26
    go_wp2_with fail
    refine (brackets_any _).mono ?_
    rintro e w1 ⟨rfl, hL1, hb1⟩
    go_wp2_with fail
    refine (HP.out _ _ hL1).mono ?_
    rintro e w2 ⟨rfl, rfl⟩
    go_wp2
    go_ret2
    exact ⟨rfl, hb1⟩

set_option maxHeartbeats 1000000 in
theorem refForm_any (c : Int) (w : World) :
    Calls Tryd.prog 46 #[.int .i64 c] w fun e w' => e = .returned (.int .i64 (formT c)) ∧ w = w' := by
  by_cases h1 : c = 9001
  · subst h1
    go_enter Tryd.func46, Tryd.ntmps46
    go_wp2
    go_ret
    exact ⟨rfl, rfl⟩
  · by_cases h2 : c = 9002
    · subst h2
      go_enter Tryd.func46, Tryd.ntmps46
      go_wp2
      go_ret
      exact ⟨rfl, rfl⟩
    · have e : formT c = c := by unfold formT; rw [if_neg h1, if_neg h2]
      rw [e]
      have d1 : (c == 9001) = false := by simpa using h1
      have d2 : (c == 9002) = false := by simpa using h2
      clear e h1 h2
      go_enter Tryd.func46, Tryd.ntmps46
      go_wp2
      go_ret
      exact ⟨rfl, rfl⟩

set_option maxHeartbeats 1000000 in
set_option maxRecDepth 100000 in
theorem refMeet_any (a b : Int) (w : World) :
    Calls Tryd.prog 27 #[.int .i64 a, .int .i64 b] w fun e w' => e = .returned (.bool (meetT a b)) ∧ Below w.heap.size w w' := by
  have CA := Lib.hid (fun W => refPair_any a W)
  have CB := Lib.hid (fun W => refPair_any b W)
  unfold meetT
  generalize pairT a = p at *
  generalize pairT b = q at *
  obtain ⟨k, o⟩ := p
  obtain ⟨m, x⟩ := q
  simp only at CA CB ⊢
  by_cases h1 : k = 1
  · subst h1
    by_cases h2 : m = 2
    · subst h2
      go_enter Tryd.func27, Tryd.ntmps27
      go_wp2_with fail
      refine (CA.out _).mono ?_
      rintro e w1 ⟨rfl, hb1⟩
      go_wp2_with fail
      refine (CB.out _).mono ?_
      rintro e w2 ⟨rfl, hb2⟩
      go_wp2_with fail
      refine (refForm_any o _).mono ?_
      rintro e w3 ⟨rfl, rfl⟩
      go_wp2_with fail
      refine (refForm_any b _).mono ?_
      rintro e w3 ⟨rfl, rfl⟩
      go_wp2
      go_ret
      exact ⟨rfl, hb1.trans (hb2.mono hb1.size)⟩
    · have d2 : (m == 2) = false := by simpa using h2
      rw [d2]
      clear h2
      go_enter Tryd.func27, Tryd.ntmps27
      go_wp2_with fail
      refine (CA.out _).mono ?_
      rintro e w1 ⟨rfl, hb1⟩
      go_wp2_with fail
      refine (CB.out _).mono ?_
      rintro e w2 ⟨rfl, hb2⟩
      go_wp2
      go_ret
      exact ⟨rfl, hb1.trans (hb2.mono hb1.size)⟩
  · have d1 : (k == 1) = false := by simpa using h1
    rw [d1]
    clear h1
    go_enter Tryd.func27, Tryd.ntmps27
    go_wp2_with fail
    refine (CA.out _).mono ?_
    rintro e w1 ⟨rfl, hb1⟩
    go_wp2_with fail
    refine (CB.out _).mono ?_
    rintro e w2 ⟨rfl, hb2⟩
    go_wp2
    go_ret
    exact ⟨rfl, hb1.trans (hb2.mono hb1.size)⟩
end Go.Proofs.YtapeebnbiappgaaDoor.Mr
