/-
  Proved here: for every three rows of runes, and two numbers, BidiIsolates returns true (what stands in an isolate, where each initiator and PDI there has its own there, changes no level around it, where there is no B, and at most 60 embeddings, overrides and initiators stand ahead; of 150 runes at most, each), and the rows stay. No condition.
-/
import Derived.BigQuiet
import Derived.Deep.QuietTactic
import Derived.RegionTactic
import Derived.ChangeAlike
import Derived.Test.YtfclpecbnailgaaGreatM24
import Derived.Test.YtfclpecbnailgaaGreatM27
import Derived.Test.YtfclpecbnailgaaGreatM0
import Derived.Test.YtfclpecbnailgaaGreatM25
set_option linter.unusedVariables false
namespace Go.Proofs.YtfclpecbnailgaaGreat.BidiIsolates
open Go Go.ChangeShapes Go.WideShapes Go.ChangeAt Go.RowKit Go.Lib Go.Proofs.YtfclpecbnailgaaGreat.Cl Go.Proofs.YtfclpecbnailgaaGreat.Rc Go.Proofs.YtfclpecbnailgaaGreat.Bi Go.Proofs.YtfclpecbnailgaaGreat.Ba
open Go.Proofs.YtfclpecbnailgaaGreat.Ku (R3 RuAt cellsR cellsR_len cellsR_one ruAt_own infoR)
set_option maxHeartbeats 4000000 in
set_option maxRecDepth 100000 in
theorem out0 (w : World) (A1 : Option Addr) (la : List R3) (na c1 : Nat) (hr1 : RuAt w A1 la) (hl1 : la.length = na) (A2 : Option Addr) (li : List R3) (ni c2 : Nat) (hr2 : RuAt w A2 li) (hl2 : li.length = ni) (A3 : Option Addr) (lb : List R3) (nb c3 : Nat) (hr3 : RuAt w A3 lb) (hl3 : lb.length = nb) (x y : Int)  (g0 : 150 < na) :
    Calls Tryz.prog 7 #[.slice A1 na c1, .slice A2 ni c2, .slice A3 nb c3, .int .i64 x, .int .i64 y] w fun e w' => e = .returned (.bool true) ∧ Below w.heap.size w w' := by
  have d0 : decide ((150 : Int) < (na : Int)) = true := decide_eq_true (by omega)
  have e0 : decide (150 < na) = true := decide_eq_true (by omega)
  have HB0 := Lib.hid (Below.refl w.heap.size w)
  clear hr1 hr2 hr3 hl1 hl2 hl3 g0
  go_enter Tryz.func7, Tryz.ntmps7
  go_wp2_with fail
  refine (awake_any _).mono ?_
  rintro e w99 ⟨rfl, hb⟩
  have HB99 := Lib.hid (bt HB0.out hb)
  clear hb
  go_wp2
  go_ret
  exact ⟨by first | rfl | simp, HB99.out⟩
set_option maxHeartbeats 4000000 in
set_option maxRecDepth 100000 in
theorem out1 (w : World) (A1 : Option Addr) (la : List R3) (na c1 : Nat) (hr1 : RuAt w A1 la) (hl1 : la.length = na) (A2 : Option Addr) (li : List R3) (ni c2 : Nat) (hr2 : RuAt w A2 li) (hl2 : li.length = ni) (A3 : Option Addr) (lb : List R3) (nb c3 : Nat) (hr3 : RuAt w A3 lb) (hl3 : lb.length = nb) (x y : Int) (g0 : ¬ 150 < na) (g1 : 150 < ni) :
    Calls Tryz.prog 7 #[.slice A1 na c1, .slice A2 ni c2, .slice A3 nb c3, .int .i64 x, .int .i64 y] w fun e w' => e = .returned (.bool true) ∧ Below w.heap.size w w' := by
  have d0 : decide ((150 : Int) < (na : Int)) = false := decide_eq_false (by omega)
  have e0 : decide (150 < na) = false := decide_eq_false (by omega)
  have d1 : decide ((150 : Int) < (ni : Int)) = true := decide_eq_true (by omega)
  have e1 : decide (150 < ni) = true := decide_eq_true (by omega)
  have HB0 := Lib.hid (Below.refl w.heap.size w)
  clear hr1 hr2 hr3 hl1 hl2 hl3 g0 g1
  go_enter Tryz.func7, Tryz.ntmps7
  go_wp2_with fail
  refine (awake_any _).mono ?_
  rintro e w99 ⟨rfl, hb⟩
  have HB99 := Lib.hid (bt HB0.out hb)
  clear hb
  go_wp2
  go_ret
  exact ⟨by first | rfl | simp, HB99.out⟩
set_option maxHeartbeats 4000000 in
set_option maxRecDepth 100000 in
theorem out2 (w : World) (A1 : Option Addr) (la : List R3) (na c1 : Nat) (hr1 : RuAt w A1 la) (hl1 : la.length = na) (A2 : Option Addr) (li : List R3) (ni c2 : Nat) (hr2 : RuAt w A2 li) (hl2 : li.length = ni) (A3 : Option Addr) (lb : List R3) (nb c3 : Nat) (hr3 : RuAt w A3 lb) (hl3 : lb.length = nb) (x y : Int) (g0 : ¬ 150 < na) (g1 : ¬ 150 < ni) (g2 : 150 < nb) :
    Calls Tryz.prog 7 #[.slice A1 na c1, .slice A2 ni c2, .slice A3 nb c3, .int .i64 x, .int .i64 y] w fun e w' => e = .returned (.bool true) ∧ Below w.heap.size w w' := by
  have d0 : decide ((150 : Int) < (na : Int)) = false := decide_eq_false (by omega)
  have e0 : decide (150 < na) = false := decide_eq_false (by omega)
  have d1 : decide ((150 : Int) < (ni : Int)) = false := decide_eq_false (by omega)
  have e1 : decide (150 < ni) = false := decide_eq_false (by omega)
  have d2 : decide ((150 : Int) < (nb : Int)) = true := decide_eq_true (by omega)
  have e2 : decide (150 < nb) = true := decide_eq_true (by omega)
  have HB0 := Lib.hid (Below.refl w.heap.size w)
  clear hr1 hr2 hr3 hl1 hl2 hl3 g0 g1 g2
  go_enter Tryz.func7, Tryz.ntmps7
  go_wp2_with fail
  refine (awake_any _).mono ?_
  rintro e w99 ⟨rfl, hb⟩
  have HB99 := Lib.hid (bt HB0.out hb)
  clear hb
  go_wp2
  go_ret
  exact ⟨by first | rfl | simp, HB99.out⟩
set_option maxHeartbeats 4000000 in
set_option maxRecDepth 100000 in
theorem out3 (w : World) (A1 : Option Addr) (la : List R3) (na c1 : Nat) (hr1 : RuAt w A1 la) (hl1 : la.length = na) (A2 : Option Addr) (li : List R3) (ni c2 : Nat) (hr2 : RuAt w A2 li) (hl2 : li.length = ni) (A3 : Option Addr) (lb : List R3) (nb c3 : Nat) (hr3 : RuAt w A3 lb) (hl3 : lb.length = nb) (x y : Int) (g0 : ¬ 150 < na) (g1 : ¬ 150 < ni) (g2 : ¬ 150 < nb) (g3 : closedL (clsR li) 0 = false) :
    Calls Tryz.prog 7 #[.slice A1 na c1, .slice A2 ni c2, .slice A3 nb c3, .int .i64 x, .int .i64 y] w fun e w' => e = .returned (.bool true) ∧ Below w.heap.size w w' := by
  have d0 : decide ((150 : Int) < (na : Int)) = false := decide_eq_false (by omega)
  have e0 : decide (150 < na) = false := decide_eq_false (by omega)
  have d1 : decide ((150 : Int) < (ni : Int)) = false := decide_eq_false (by omega)
  have e1 : decide (150 < ni) = false := decide_eq_false (by omega)
  have d2 : decide ((150 : Int) < (nb : Int)) = false := decide_eq_false (by omega)
  have e2 : decide (150 < nb) = false := decide_eq_false (by omega)
  have HC3 := Lib.hid (fun (V : World) (h : Below w.heap.size w V) => show Calls Tryz.prog 21 #[.slice A2 ni c2] V fun e w' => e = .returned (.bool false) ∧ Below V.heap.size V w' from by
    have := closed_any A2 li ni c2 V (hr2.below h) hl2 (by omega)
    rw [g3] at this
    exact this)
  have HB0 := Lib.hid (Below.refl w.heap.size w)
  clear hr1 hr2 hr3 hl1 hl2 hl3 g0 g1 g2 g3
  go_enter Tryz.func7, Tryz.ntmps7
  go_wp2_with fail
  refine (HC3.out _ HB0.out).mono ?_
  rintro e u0 ⟨rfl, hb⟩
  have HB1 := Lib.hid (bt HB0.out hb)
  clear hb
  go_wp2_with fail
  refine (awake_any _).mono ?_
  rintro e w99 ⟨rfl, hb⟩
  have HB99 := Lib.hid (bt HB1.out hb)
  clear hb
  go_wp2
  go_ret
  exact ⟨by first | rfl | simp, HB99.out⟩
set_option maxHeartbeats 4000000 in
set_option maxRecDepth 100000 in
theorem out4 (w : World) (A1 : Option Addr) (la : List R3) (na c1 : Nat) (hr1 : RuAt w A1 la) (hl1 : la.length = na) (A2 : Option Addr) (li : List R3) (ni c2 : Nat) (hr2 : RuAt w A2 li) (hl2 : li.length = ni) (A3 : Option Addr) (lb : List R3) (nb c3 : Nat) (hr3 : RuAt w A3 lb) (hl3 : lb.length = nb) (x y : Int) (g0 : ¬ 150 < na) (g1 : ¬ 150 < ni) (g2 : ¬ 150 < nb) (g3 : closedL (clsR li) 0 = true) (g4 : (clsR la).any (fun x => x == 10) = true) :
    Calls Tryz.prog 7 #[.slice A1 na c1, .slice A2 ni c2, .slice A3 nb c3, .int .i64 x, .int .i64 y] w fun e w' => e = .returned (.bool true) ∧ Below w.heap.size w w' := by
  have d0 : decide ((150 : Int) < (na : Int)) = false := decide_eq_false (by omega)
  have e0 : decide (150 < na) = false := decide_eq_false (by omega)
  have d1 : decide ((150 : Int) < (ni : Int)) = false := decide_eq_false (by omega)
  have e1 : decide (150 < ni) = false := decide_eq_false (by omega)
  have d2 : decide ((150 : Int) < (nb : Int)) = false := decide_eq_false (by omega)
  have e2 : decide (150 < nb) = false := decide_eq_false (by omega)
  have HC3 := Lib.hid (fun (V : World) (h : Below w.heap.size w V) => show Calls Tryz.prog 21 #[.slice A2 ni c2] V fun e w' => e = .returned (.bool true) ∧ Below V.heap.size V w' from by
    have := closed_any A2 li ni c2 V (hr2.below h) hl2 (by omega)
    rw [g3] at this
    exact this)
  have HC4 := Lib.hid (fun (V : World) (h : Below w.heap.size w V) => show Calls Tryz.prog 22 #[.slice A1 na c1] V fun e w' => e = .returned (.bool true) ∧ Below V.heap.size V w' from by
    have := ends_any A1 la na c1 V (hr1.below h) hl1 (by omega)
    rw [g4] at this
    exact this)
  have HB0 := Lib.hid (Below.refl w.heap.size w)
  clear hr1 hr2 hr3 hl1 hl2 hl3 g0 g1 g2 g3 g4
  go_enter Tryz.func7, Tryz.ntmps7
  go_wp2_with fail
  refine (HC3.out _ HB0.out).mono ?_
  rintro e u0 ⟨rfl, hb⟩
  have HB1 := Lib.hid (bt HB0.out hb)
  clear hb
  go_wp2_with fail
  refine (HC4.out _ HB1.out).mono ?_
  rintro e u1 ⟨rfl, hb⟩
  have HB2 := Lib.hid (bt HB1.out hb)
  clear hb
  go_wp2_with fail
  refine (awake_any _).mono ?_
  rintro e w99 ⟨rfl, hb⟩
  have HB99 := Lib.hid (bt HB2.out hb)
  clear hb
  go_wp2
  go_ret
  exact ⟨by first | rfl | simp, HB99.out⟩
set_option maxHeartbeats 4000000 in
set_option maxRecDepth 100000 in
theorem out5 (w : World) (A1 : Option Addr) (la : List R3) (na c1 : Nat) (hr1 : RuAt w A1 la) (hl1 : la.length = na) (A2 : Option Addr) (li : List R3) (ni c2 : Nat) (hr2 : RuAt w A2 li) (hl2 : li.length = ni) (A3 : Option Addr) (lb : List R3) (nb c3 : Nat) (hr3 : RuAt w A3 lb) (hl3 : lb.length = nb) (x y : Int) (g0 : ¬ 150 < na) (g1 : ¬ 150 < ni) (g2 : ¬ 150 < nb) (g3 : closedL (clsR li) 0 = true) (g4 : (clsR la).any (fun x => x == 10) = false) (g5 : (clsR li).any (fun x => x == 10) = true) :
    Calls Tryz.prog 7 #[.slice A1 na c1, .slice A2 ni c2, .slice A3 nb c3, .int .i64 x, .int .i64 y] w fun e w' => e = .returned (.bool true) ∧ Below w.heap.size w w' := by
  have d0 : decide ((150 : Int) < (na : Int)) = false := decide_eq_false (by omega)
  have e0 : decide (150 < na) = false := decide_eq_false (by omega)
  have d1 : decide ((150 : Int) < (ni : Int)) = false := decide_eq_false (by omega)
  have e1 : decide (150 < ni) = false := decide_eq_false (by omega)
  have d2 : decide ((150 : Int) < (nb : Int)) = false := decide_eq_false (by omega)
  have e2 : decide (150 < nb) = false := decide_eq_false (by omega)
  have HC3 := Lib.hid (fun (V : World) (h : Below w.heap.size w V) => show Calls Tryz.prog 21 #[.slice A2 ni c2] V fun e w' => e = .returned (.bool true) ∧ Below V.heap.size V w' from by
    have := closed_any A2 li ni c2 V (hr2.below h) hl2 (by omega)
    rw [g3] at this
    exact this)
  have HC4 := Lib.hid (fun (V : World) (h : Below w.heap.size w V) => show Calls Tryz.prog 22 #[.slice A1 na c1] V fun e w' => e = .returned (.bool false) ∧ Below V.heap.size V w' from by
    have := ends_any A1 la na c1 V (hr1.below h) hl1 (by omega)
    rw [g4] at this
    exact this)
  have HC5 := Lib.hid (fun (V : World) (h : Below w.heap.size w V) => show Calls Tryz.prog 22 #[.slice A2 ni c2] V fun e w' => e = .returned (.bool true) ∧ Below V.heap.size V w' from by
    have := ends_any A2 li ni c2 V (hr2.below h) hl2 (by omega)
    rw [g5] at this
    exact this)
  have HB0 := Lib.hid (Below.refl w.heap.size w)
  clear hr1 hr2 hr3 hl1 hl2 hl3 g0 g1 g2 g3 g4 g5
  go_enter Tryz.func7, Tryz.ntmps7
  go_wp2_with fail
  refine (HC3.out _ HB0.out).mono ?_
  rintro e u0 ⟨rfl, hb⟩
  have HB1 := Lib.hid (bt HB0.out hb)
  clear hb
  go_wp2_with fail
  refine (HC4.out _ HB1.out).mono ?_
  rintro e u1 ⟨rfl, hb⟩
  have HB2 := Lib.hid (bt HB1.out hb)
  clear hb
  go_wp2_with fail
  refine (HC5.out _ HB2.out).mono ?_
  rintro e u2 ⟨rfl, hb⟩
  have HB3 := Lib.hid (bt HB2.out hb)
  clear hb
  go_wp2_with fail
  refine (awake_any _).mono ?_
  rintro e w99 ⟨rfl, hb⟩
  have HB99 := Lib.hid (bt HB3.out hb)
  clear hb
  go_wp2
  go_ret
  exact ⟨by first | rfl | simp, HB99.out⟩
set_option maxHeartbeats 4000000 in
set_option maxRecDepth 100000 in
theorem out6 (w : World) (A1 : Option Addr) (la : List R3) (na c1 : Nat) (hr1 : RuAt w A1 la) (hl1 : la.length = na) (A2 : Option Addr) (li : List R3) (ni c2 : Nat) (hr2 : RuAt w A2 li) (hl2 : li.length = ni) (A3 : Option Addr) (lb : List R3) (nb c3 : Nat) (hr3 : RuAt w A3 lb) (hl3 : lb.length = nb) (x y : Int) (g0 : ¬ 150 < na) (g1 : ¬ 150 < ni) (g2 : ¬ 150 < nb) (g3 : closedL (clsR li) 0 = true) (g4 : (clsR la).any (fun x => x == 10) = false) (g5 : (clsR li).any (fun x => x == 10) = false) (g6 : (clsR lb).any (fun x => x == 10) = true) :
    Calls Tryz.prog 7 #[.slice A1 na c1, .slice A2 ni c2, .slice A3 nb c3, .int .i64 x, .int .i64 y] w fun e w' => e = .returned (.bool true) ∧ Below w.heap.size w w' := by
  have d0 : decide ((150 : Int) < (na : Int)) = false := decide_eq_false (by omega)
  have e0 : decide (150 < na) = false := decide_eq_false (by omega)
  have d1 : decide ((150 : Int) < (ni : Int)) = false := decide_eq_false (by omega)
  have e1 : decide (150 < ni) = false := decide_eq_false (by omega)
  have d2 : decide ((150 : Int) < (nb : Int)) = false := decide_eq_false (by omega)
  have e2 : decide (150 < nb) = false := decide_eq_false (by omega)
  have HC3 := Lib.hid (fun (V : World) (h : Below w.heap.size w V) => show Calls Tryz.prog 21 #[.slice A2 ni c2] V fun e w' => e = .returned (.bool true) ∧ Below V.heap.size V w' from by
    have := closed_any A2 li ni c2 V (hr2.below h) hl2 (by omega)
    rw [g3] at this
    exact this)
  have HC4 := Lib.hid (fun (V : World) (h : Below w.heap.size w V) => show Calls Tryz.prog 22 #[.slice A1 na c1] V fun e w' => e = .returned (.bool false) ∧ Below V.heap.size V w' from by
    have := ends_any A1 la na c1 V (hr1.below h) hl1 (by omega)
    rw [g4] at this
    exact this)
  have HC5 := Lib.hid (fun (V : World) (h : Below w.heap.size w V) => show Calls Tryz.prog 22 #[.slice A2 ni c2] V fun e w' => e = .returned (.bool false) ∧ Below V.heap.size V w' from by
    have := ends_any A2 li ni c2 V (hr2.below h) hl2 (by omega)
    rw [g5] at this
    exact this)
  have HC6 := Lib.hid (fun (V : World) (h : Below w.heap.size w V) => show Calls Tryz.prog 22 #[.slice A3 nb c3] V fun e w' => e = .returned (.bool true) ∧ Below V.heap.size V w' from by
    have := ends_any A3 lb nb c3 V (hr3.below h) hl3 (by omega)
    rw [g6] at this
    exact this)
  have HB0 := Lib.hid (Below.refl w.heap.size w)
  clear hr1 hr2 hr3 hl1 hl2 hl3 g0 g1 g2 g3 g4 g5 g6
  go_enter Tryz.func7, Tryz.ntmps7
  go_wp2_with fail
  refine (HC3.out _ HB0.out).mono ?_
  rintro e u0 ⟨rfl, hb⟩
  have HB1 := Lib.hid (bt HB0.out hb)
  clear hb
  go_wp2_with fail
  refine (HC4.out _ HB1.out).mono ?_
  rintro e u1 ⟨rfl, hb⟩
  have HB2 := Lib.hid (bt HB1.out hb)
  clear hb
  go_wp2_with fail
  refine (HC5.out _ HB2.out).mono ?_
  rintro e u2 ⟨rfl, hb⟩
  have HB3 := Lib.hid (bt HB2.out hb)
  clear hb
  go_wp2_with fail
  refine (HC6.out _ HB3.out).mono ?_
  rintro e u3 ⟨rfl, hb⟩
  have HB4 := Lib.hid (bt HB3.out hb)
  clear hb
  go_wp2_with fail
  refine (awake_any _).mono ?_
  rintro e w99 ⟨rfl, hb⟩
  have HB99 := Lib.hid (bt HB4.out hb)
  clear hb
  go_wp2
  go_ret
  exact ⟨by first | rfl | simp, HB99.out⟩
set_option maxHeartbeats 4000000 in
set_option maxRecDepth 100000 in
theorem out7 (w : World) (A1 : Option Addr) (la : List R3) (na c1 : Nat) (hr1 : RuAt w A1 la) (hl1 : la.length = na) (A2 : Option Addr) (li : List R3) (ni c2 : Nat) (hr2 : RuAt w A2 li) (hl2 : li.length = ni) (A3 : Option Addr) (lb : List R3) (nb c3 : Nat) (hr3 : RuAt w A3 lb) (hl3 : lb.length = nb) (x y : Int) (g0 : ¬ 150 < na) (g1 : ¬ 150 < ni) (g2 : ¬ 150 < nb) (g3 : closedL (clsR li) 0 = true) (g4 : (clsR la).any (fun x => x == 10) = false) (g5 : (clsR li).any (fun x => x == 10) = false) (g6 : (clsR lb).any (fun x => x == 10) = false) (g7 : 60 < deepL (clsR la)) :
    Calls Tryz.prog 7 #[.slice A1 na c1, .slice A2 ni c2, .slice A3 nb c3, .int .i64 x, .int .i64 y] w fun e w' => e = .returned (.bool true) ∧ Below w.heap.size w w' := by
  have d0 : decide ((150 : Int) < (na : Int)) = false := decide_eq_false (by omega)
  have e0 : decide (150 < na) = false := decide_eq_false (by omega)
  have d1 : decide ((150 : Int) < (ni : Int)) = false := decide_eq_false (by omega)
  have e1 : decide (150 < ni) = false := decide_eq_false (by omega)
  have d2 : decide ((150 : Int) < (nb : Int)) = false := decide_eq_false (by omega)
  have e2 : decide (150 < nb) = false := decide_eq_false (by omega)
  have HC3 := Lib.hid (fun (V : World) (h : Below w.heap.size w V) => show Calls Tryz.prog 21 #[.slice A2 ni c2] V fun e w' => e = .returned (.bool true) ∧ Below V.heap.size V w' from by
    have := closed_any A2 li ni c2 V (hr2.below h) hl2 (by omega)
    rw [g3] at this
    exact this)
  have HC4 := Lib.hid (fun (V : World) (h : Below w.heap.size w V) => show Calls Tryz.prog 22 #[.slice A1 na c1] V fun e w' => e = .returned (.bool false) ∧ Below V.heap.size V w' from by
    have := ends_any A1 la na c1 V (hr1.below h) hl1 (by omega)
    rw [g4] at this
    exact this)
  have HC5 := Lib.hid (fun (V : World) (h : Below w.heap.size w V) => show Calls Tryz.prog 22 #[.slice A2 ni c2] V fun e w' => e = .returned (.bool false) ∧ Below V.heap.size V w' from by
    have := ends_any A2 li ni c2 V (hr2.below h) hl2 (by omega)
    rw [g5] at this
    exact this)
  have HC6 := Lib.hid (fun (V : World) (h : Below w.heap.size w V) => show Calls Tryz.prog 22 #[.slice A3 nb c3] V fun e w' => e = .returned (.bool false) ∧ Below V.heap.size V w' from by
    have := ends_any A3 lb nb c3 V (hr3.below h) hl3 (by omega)
    rw [g6] at this
    exact this)
  have HC7 := Lib.hid (fun (V : World) (h : Below w.heap.size w V) => deep_any A1 la na c1 V (hr1.below h) hl1 (by omega))
  have d7 : decide ((60 : Int) < (deepL (clsR la) : Int)) = true := decide_eq_true (by omega)
  have e7 : decide (60 < deepL (clsR la)) = true := decide_eq_true (by omega)
  generalize deepL (clsR la) = dp at *
  have HB0 := Lib.hid (Below.refl w.heap.size w)
  clear hr1 hr2 hr3 hl1 hl2 hl3 g0 g1 g2 g3 g4 g5 g6 g7
  go_enter Tryz.func7, Tryz.ntmps7
  go_wp2_with fail
  refine (HC3.out _ HB0.out).mono ?_
  rintro e u0 ⟨rfl, hb⟩
  have HB1 := Lib.hid (bt HB0.out hb)
  clear hb
  go_wp2_with fail
  refine (HC4.out _ HB1.out).mono ?_
  rintro e u1 ⟨rfl, hb⟩
  have HB2 := Lib.hid (bt HB1.out hb)
  clear hb
  go_wp2_with fail
  refine (HC5.out _ HB2.out).mono ?_
  rintro e u2 ⟨rfl, hb⟩
  have HB3 := Lib.hid (bt HB2.out hb)
  clear hb
  go_wp2_with fail
  refine (HC6.out _ HB3.out).mono ?_
  rintro e u3 ⟨rfl, hb⟩
  have HB4 := Lib.hid (bt HB3.out hb)
  clear hb
  go_wp2_with fail
  refine (HC7.out _ HB4.out).mono ?_
  rintro e u4 ⟨rfl, hb⟩
  have HB5 := Lib.hid (bt HB4.out hb)
  clear hb
  go_wp2_with fail
  refine (awake_any _).mono ?_
  rintro e w99 ⟨rfl, hb⟩
  have HB99 := Lib.hid (bt HB5.out hb)
  clear hb
  go_wp2
  go_ret
  exact ⟨by first | rfl | simp, HB99.out⟩
set_option maxHeartbeats 8000000 in
set_option maxRecDepth 100000 in
theorem main (w : World) (A1 : Option Addr) (la : List R3) (na c1 : Nat) (hr1 : RuAt w A1 la) (hl1 : la.length = na) (A2 : Option Addr) (li : List R3) (ni c2 : Nat) (hr2 : RuAt w A2 li) (hl2 : li.length = ni) (A3 : Option Addr) (lb : List R3) (nb c3 : Nat) (hr3 : RuAt w A3 lb) (hl3 : lb.length = nb) (x y : Int) (g0 : ¬ 150 < na) (g1 : ¬ 150 < ni) (g2 : ¬ 150 < nb) (g3 : closedL (clsR li) 0 = true) (g4 : (clsR la).any (fun x => x == 10) = false) (g5 : (clsR li).any (fun x => x == 10) = false) (g6 : (clsR lb).any (fun x => x == 10) = false) (g7 : ¬ 60 < deepL (clsR la)) :
    Calls Tryz.prog 7 #[.slice A1 na c1, .slice A2 ni c2, .slice A3 nb c3, .int .i64 x, .int .i64 y] w fun e w' => e = .returned (.bool true) ∧ Below w.heap.size w w' := by
  have d0 : decide ((150 : Int) < (na : Int)) = false := decide_eq_false (by omega)
  have e0 : decide (150 < na) = false := decide_eq_false (by omega)
  have d1 : decide ((150 : Int) < (ni : Int)) = false := decide_eq_false (by omega)
  have e1 : decide (150 < ni) = false := decide_eq_false (by omega)
  have d2 : decide ((150 : Int) < (nb : Int)) = false := decide_eq_false (by omega)
  have e2 : decide (150 < nb) = false := decide_eq_false (by omega)
  have HC3 := Lib.hid (fun (V : World) (h : Below w.heap.size w V) => show Calls Tryz.prog 21 #[.slice A2 ni c2] V fun e w' => e = .returned (.bool true) ∧ Below V.heap.size V w' from by
    have := closed_any A2 li ni c2 V (hr2.below h) hl2 (by omega)
    rw [g3] at this
    exact this)
  have HC4 := Lib.hid (fun (V : World) (h : Below w.heap.size w V) => show Calls Tryz.prog 22 #[.slice A1 na c1] V fun e w' => e = .returned (.bool false) ∧ Below V.heap.size V w' from by
    have := ends_any A1 la na c1 V (hr1.below h) hl1 (by omega)
    rw [g4] at this
    exact this)
  have HC5 := Lib.hid (fun (V : World) (h : Below w.heap.size w V) => show Calls Tryz.prog 22 #[.slice A2 ni c2] V fun e w' => e = .returned (.bool false) ∧ Below V.heap.size V w' from by
    have := ends_any A2 li ni c2 V (hr2.below h) hl2 (by omega)
    rw [g5] at this
    exact this)
  have HC6 := Lib.hid (fun (V : World) (h : Below w.heap.size w V) => show Calls Tryz.prog 22 #[.slice A3 nb c3] V fun e w' => e = .returned (.bool false) ∧ Below V.heap.size V w' from by
    have := ends_any A3 lb nb c3 V (hr3.below h) hl3 (by omega)
    rw [g6] at this
    exact this)
  have HC7 := Lib.hid (fun (V : World) (h : Below w.heap.size w V) => deep_any A1 la na c1 V (hr1.below h) hl1 (by omega))
  have d7 : decide ((60 : Int) < (deepL (clsR la) : Int)) = false := decide_eq_false (by omega)
  have e7 : decide (60 < deepL (clsR la)) = false := decide_eq_false (by omega)
  obtain ⟨r, hr⟩ : ∃ r, x % 256 % 3 = r := ⟨_, rfl⟩
  have hr0 : 0 ≤ r := by omega
  have hr2' : r ≤ 2 := by omega
  have a1 : bits .and .i64 x 255 = x % 256 := Lv.i64_and255 x
  have a2 : (x % 256).tmod 3 = r := by rw [Int.tmod_eq_emod_of_nonneg (by omega)]; exact hr
  obtain ⟨b, hb1, hb2⟩ := Lv.low_bit y
  have HSAME := Lib.hid (fun i => iso_same la li lb r hr0 hr2' b hb1 g3 g5 (by omega) i)
  rw [hl1, hl2] at HSAME
  have HXL := Lib.hid (resZ_len (clsR (la ++ [((0, 3, 8294 + r) : R3)] ++ [((0, 3, 8297) : R3)] ++ lb)) (codR (la ++ [((0, 3, 8294 + r) : R3)] ++ [((0, 3, 8297) : R3)] ++ lb)) hb1)
  have HXM := Lib.hid (resZ_len (clsR (la ++ [((0, 3, 8294 + r) : R3)] ++ li ++ [((0, 3, 8297) : R3)] ++ lb)) (codR (la ++ [((0, 3, 8294 + r) : R3)] ++ li ++ [((0, 3, 8297) : R3)] ++ lb)) hb1)
  have HLL := Lib.hid (show (la ++ [((0, 3, 8294 + r) : R3)] ++ [((0, 3, 8297) : R3)] ++ lb).length = na + 1 + 1 + nb from by simp [hl1, hl3]; omega)
  have HLM := Lib.hid (show (la ++ [((0, 3, 8294 + r) : R3)] ++ li ++ [((0, 3, 8297) : R3)] ++ lb).length = na + 1 + ni + 1 + nb from by simp [hl1, hl2, hl3]; omega)
  obtain ⟨L2, hL2⟩ : ∃ L2, la ++ [((0, 3, 8294 + r) : R3)] = L2 := ⟨_, rfl⟩
  obtain ⟨L3, hL3⟩ : ∃ L3, L2 ++ [((0, 3, 8297) : R3)] = L3 := ⟨_, rfl⟩
  obtain ⟨L4, hL4⟩ : ∃ L4, L3 ++ lb = L4 := ⟨_, rfl⟩
  obtain ⟨M2, hM2⟩ : ∃ M2, L2 ++ li = M2 := ⟨_, rfl⟩
  obtain ⟨M3, hM3⟩ : ∃ M3, M2 ++ [((0, 3, 8297) : R3)] = M3 := ⟨_, rfl⟩
  obtain ⟨M4, hM4⟩ : ∃ M4, M3 ++ lb = M4 := ⟨_, rfl⟩
  rw [hL2, hM2, hM3, hM4, hL3, hL4] at HSAME
  rw [hL2, hL3, hL4] at HXL HLL
  rw [hL2, hM2, hM3, hM4] at HXM HLM
  have HN2 := Lib.hid (show L2.length = na + 1 from by rw [← hL2]; simp [hl1])
  have HEL2 := Lib.hid hL2
  have HEL3 := Lib.hid hL3
  have HEL4 := Lib.hid hL4
  have HEM2 := Lib.hid hM2
  have HEM3 := Lib.hid hM3
  have HEM4 := Lib.hid hM4
  clear hL2 hL3 hL4 hM2 hM3 hM4
  have HL1 := Lib.hid hl1
  have HL2 := Lib.hid hl2
  have HL3 := Lib.hid hl3
  have HR1 := Lib.hid hr1
  have HR2 := Lib.hid hr2
  have HR3 := Lib.hid hr3
  have HB0 := Lib.hid (Below.refl w.heap.size w)
  generalize deepL (clsR la) = dp at *
  clear hr1 hr2 hr3 hl1 hl2 hl3 g3 g4 g5 g6 g7 hr
  go_enter Tryz.func7, Tryz.ntmps7
  go_wp2_with fail
  refine (HC3.out _ HB0.out).mono ?_
  rintro e u0 ⟨rfl, hb⟩
  have HB1 := Lib.hid (bt HB0.out hb)
  clear hb
  go_wp2_with fail
  refine (HC4.out _ HB1.out).mono ?_
  rintro e u1 ⟨rfl, hb⟩
  have HB2 := Lib.hid (bt HB1.out hb)
  clear hb
  go_wp2_with fail
  refine (HC5.out _ HB2.out).mono ?_
  rintro e u2 ⟨rfl, hb⟩
  have HB3 := Lib.hid (bt HB2.out hb)
  clear hb
  go_wp2_with fail
  refine (HC6.out _ HB3.out).mono ?_
  rintro e u3 ⟨rfl, hb⟩
  have HB4 := Lib.hid (bt HB3.out hb)
  clear hb
  go_wp2_with fail
  refine (HC7.out _ HB4.out).mono ?_
  rintro e u4 ⟨rfl, hb⟩
  have HB5 := Lib.hid (bt HB4.out hb)
  clear hb
  have hdd := below_made u4 (.cells #[] 38)
  have HSRC := Lib.hid ((HR1.out.below HB5.out).below hdd)
  have HDD := Lib.hid (bt HB5.out hdd)
  clear hdd HC3 HC4 HC5 HC6 HC7 HB1 HB2 HB3 HB4
  go_wp2_with (at_builtin; refine wpList_addR rfl _ _ rfl u4.heap.size _ 0 [] rfl (made_nilR u4) A1 na c1 la rfl HSRC.out HL1.out (by omega) (by simp) ?_)
  intro v1 w1 hown hgr hwh hb
  have hsz1 := hgr.size
  simp at hsz1
  have HO1 := Lib.hid (show w1.ownsRow u4.heap.size 38 3 v1 na (cellsR la) from by simpa using hown)
  have HBW1 := Lib.hid (HDD.out.trans (hb.mono HB5.out.size))
  clear hown hgr hwh hb HSRC HDD
  try simp only [Nat.zero_add]
  go_wp2_with (at_builtin; refine wpList_addR rfl _ _ rfl u4.heap.size _ na la rfl (ownsRow_below HO1.out (below_made w1 _)) (some ⟨w1.heap.size, 0, none⟩) 1 1 [((0, 3, 8294 + r) : R3)] rfl (made_rune w1 (8294 + r)) rfl (by omega) (by simp; omega) ?_)
  intro v2 w2 hown hgr hwh hb
  rw [HEL2.out] at hown
  have hm1 := below_made w1 (.cells #[.int .i64 0, .int .i64 3, .int .i64 (8294 + r)] 38)
  have HBW2 := Lib.hid ((bt HBW1.out hm1).trans (hb.mono HB5.out.size))
  have hsz2 := hgr.size
  simp at hsz2
  obtain ⟨AL2, cL2, rfl, hat2⟩ := ru_own_n hown HN2.out
  have HO2 := Lib.hid hown
  have HA2 := Lib.hid hat2
  clear hown hgr hwh hb hm1 hat2 HO1 HBW1
  go_wp2_with (at_builtin; refine wpList_addR rfl _ _ rfl w2.heap.size _ 0 [] rfl (made_nilR w2) AL2 (na + 1) cL2 L2 rfl (HA2.out.below (below_made w2 _)) HN2.out (by omega) (by simp) ?_)
  intro v3 w3 hown hgr hwh hb
  have hm2 := below_made w2 (.cells #[] 38)
  have hb23 := hm2.trans hb
  have HBW3 := Lib.hid (bt HBW2.out hb23)
  have HM1 := Lib.hid (show w3.ownsRow w2.heap.size 38 3 v3 (na + 1) (cellsR L2) from by simpa using hown)
  have HO3 := Lib.hid (ownsRow_below HO2.out hb23)
  have HLT2 := Lib.hid (fun k h => (HO2.out.lt k h).2)
  have hsz3 := hb23.size
  clear hown hgr hwh hb hm2 hb23 HO2 HA2
  try simp only [Nat.zero_add]
  go_wp2_with (at_builtin; refine wpList_addR rfl _ _ rfl w2.heap.size _ (na + 1) L2 rfl HM1.out A2 ni c2 li rfl (HR2.out.below HBW3.out) HL2.out (by omega) (by omega) ?_)
  intro v4 w4 hown hgr hwh hb
  rw [HEM2.out] at hown
  have HBW4 := Lib.hid (HBW3.out.trans (hb.mono HBW2.out.size))
  have HO4 := Lib.hid (show w4.ownsRow u4.heap.size 38 3 (.slice AL2 (na + 1) cL2) (na + 1) (cellsR L2) from HO3.out.kept hgr (by
    cases e1 : (Value.slice AL2 (na + 1) cL2).ownBlock with
    | none => exact .inl rfl
    | some k =>
      right
      intro e2
      have h1 := HLT2.out k e1
      have h2 := (HM1.out.lt k e2.symm).1
      omega))
  have HM4 := Lib.hid hown
  have HT4 : Hid (Two (.slice AL2 (na + 1) cL2) v4) := Lib.hid (by
    cases e1 : (Value.slice AL2 (na + 1) cL2).ownBlock with
    | none => exact .inl e1
    | some k =>
      refine .inr ?_
      rw [e1]
      intro e2
      have h1 := HLT2.out k e1
      have h2 := (hown.lt k e2.symm).1
      omega)
  have hsz4 := hgr.size
  clear hown hgr hwh hb HM1 HO3 HLT2 HBW3
  go_wp2_with (at_builtin; refine wpList_addR rfl _ _ rfl u4.heap.size _ (na + 1) L2 rfl (ownsRow_below HO4.out (below_made w4 _)) (some ⟨w4.heap.size, 0, none⟩) 1 1 [((0, 3, 8297) : R3)] rfl (made_rune w4 8297) rfl (by omega) (by simp; omega) ?_)
  intro v5 w5 hown hgr hwh hb
  rw [HEL3.out] at hown
  have hm4 := below_made w4 (.cells #[.int .i64 0, .int .i64 3, .int .i64 8297] 38)
  have HBW5 := Lib.hid ((bt HBW4.out hm4).trans (hb.mono HB5.out.size))
  obtain ⟨ht, hm⟩ := Two.growR HT4.out (ownsRow_below HM4.out hm4) hgr (hwh.imp_right fun ⟨k, e, hle⟩ => ⟨k, e, by simpa using hle⟩)
  have HT5 := Lib.hid ht
  have HM5 := Lib.hid hm
  have HO5 := Lib.hid hown
  have hsz5 := hgr.size
  simp at hsz5
  clear hown hgr hwh hb hm4 ht hm HO4 HM4 HT4 HBW4
  go_wp2_with (at_builtin; refine wpList_addR rfl _ _ rfl u4.heap.size _ (na + 1 + 1) L3 rfl HO5.out A3 nb c3 lb rfl (HR3.out.below HBW5.out) HL3.out (by omega) (by omega) ?_)
  intro v6 w6 hown hgr hwh hb
  rw [HEL4.out] at hown
  have HBW6 := Lib.hid (HBW5.out.trans (hb.mono HB5.out.size))
  obtain ⟨ht, hm⟩ := Two.growR HT5.out HM5.out hgr hwh
  have HT6 := Lib.hid ht.swap
  have HM6 := Lib.hid hm
  have HO6 := Lib.hid hown
  have hsz6 := hgr.size
  clear hown hgr hwh hb ht hm HO5 HM5 HT5 HBW5
  go_wp2_with (at_builtin; refine wpList_addR rfl _ _ rfl w2.heap.size _ (na + 1 + ni) M2 rfl (ownsRow_below HM6.out (below_made w6 _)) (some ⟨w6.heap.size, 0, none⟩) 1 1 [((0, 3, 8297) : R3)] rfl (made_rune w6 8297) rfl (by omega) (by simp; omega) ?_)
  intro v7 w7 hown hgr hwh hb
  rw [HEM3.out] at hown
  have hm6 := below_made w6 (.cells #[.int .i64 0, .int .i64 3, .int .i64 8297] 38)
  have HBW7 := Lib.hid ((bt HBW6.out hm6).trans (hb.mono HBW2.out.size))
  obtain ⟨ht, hm⟩ := Two.growR HT6.out (ownsRow_below HO6.out hm6) hgr (hwh.imp_right fun ⟨k, e, hle⟩ => ⟨k, e, by simpa using hle⟩)
  have HT7 := Lib.hid ht
  have HO7 := Lib.hid hm
  have HM7 := Lib.hid hown
  have hsz7 := hgr.size
  simp at hsz7
  clear hown hgr hwh hb hm6 ht hm HO6 HM6 HT6 HBW6
  go_wp2_with (at_builtin; refine wpList_addR rfl _ _ rfl w2.heap.size _ (na + 1 + ni + 1) M3 rfl HM7.out A3 nb c3 lb rfl (HR3.out.below HBW7.out) HL3.out (by omega) (by omega) ?_)
  intro v8 w8 hown hgr hwh hb
  rw [HEM4.out] at hown
  have HBW8 := Lib.hid (HBW7.out.trans (hb.mono HBW2.out.size))
  obtain ⟨ht, hm⟩ := Two.growR HT7.out HO7.out hgr hwh
  obtain ⟨AL, cL, rfl, hatL⟩ := ru_own_n hm HLL.out
  obtain ⟨AM, cM, rfl, hatM⟩ := ru_own_n hown HLM.out
  have HAL := Lib.hid hatL
  have HAM := Lib.hid hatM
  clear hown hgr hwh hb ht hm hatL hatM HO7 HM7 HT7 HBW7
  have hXL : (resZ (clsR L4) (codR L4) b).length = na + 1 + 1 + nb := by rw [HXL.out, clsR_len, HLL.out]
  have hXM : (resZ (clsR M4) (codR M4) b).length = na + 1 + ni + 1 + nb := by rw [HXM.out, clsR_len, HLM.out]
  have HRL := Lib.hid (resolve_any AL _ b (na + 1 + 1 + nb) cL w8 HLL.out HAL.out (by omega))
  have HRM := Lib.hid (fun (V : World) (h : Below w8.heap.size w8 V) => resolve_any AM _ b (na + 1 + ni + 1 + nb) cM V HLM.out (HAM.out.below h) (by omega))
  generalize resZ (clsR L4) (codR L4) b = XL at *
  generalize resZ (clsR M4) (codR M4) b = XM at *
  rw [hXL] at HRL
  rw [hXM] at HRM
  have HXL2 := Lib.hid hXL
  have HXM2 := Lib.hid hXM
  obtain ⟨nL, hnL⟩ : ∃ nL, na + 1 + 1 + nb = nL := ⟨_, rfl⟩
  obtain ⟨nM, hnM⟩ : ∃ nM, na + 1 + ni + 1 + nb = nM := ⟨_, rfl⟩
  rw [hnL] at HRL HXL2 ⊢
  rw [hnM] at HRM HXM2 ⊢
  clear hXL hXM HXL HXM HLL HLM HAL HAM HL1 HL2 HL3 HR1 HR2 HR3
  go_wp2_with fail
  refine HRL.out.mono ?_
  rintro e w9 ⟨AX, cX, rfl, hown, hb⟩
  have HB9 := Lib.hid (bt HBW8.out hb)
  have HX := Lib.hid (own_reads hown HXL2.out)
  have HRM2 := Lib.hid (HRM.out w9 hb)
  clear hown hb HRL HRM
  go_wp2_with fail
  refine HRM2.out.mono ?_
  rintro e w10 ⟨AY, cY, rfl, hown, hb⟩
  have HB10 := Lib.hid (bt HB9.out hb)
  have HX2 := Lib.hid (HX.out.below hb)
  have HY := Lib.hid (own_reads hown HXM2.out)
  clear hown hb HRM2 HX
  go_wp2_with fail
  go_loopw [15] (fun s15 wx => ∃ i : Nat, i ≤ nL ∧ s15 = .int .i64 i ∧ Below w10.heap.size w10 wx) (fun s15 _ => nL - (RowKit.intOf s15).toNat)
  case atStart => exact ⟨0, Nat.zero_le _, rfl, Below.refl _ _⟩
  case round =>
    obtain ⟨i, hi, rfl, hb⟩ := hrel
    have HBR := Lib.hid hb
    by_cases hlt : i < nL
    · have hiX : i < XL.length := by rw [HXL2.out]; exact hlt
      have hs := HSAME.out i
      rw [List.getElem?_eq_getElem hiX] at hs
      obtain ⟨gX, oX, rfl, cX1⟩ := (HX2.out.below hb).at_ hiX
      have hk := (List.getElem?_eq_some_iff.1 hs).1
      obtain ⟨gY, oY, rfl, cY1⟩ := (HY.out.below hb).at_ hk
      rw [(List.getElem?_eq_some_iff.1 hs).2] at cY1
      have hkM : Bi.sh na ni i < nM := by rw [← HXM2.out]; exact hk
      generalize XL[i] = z at *
      have hi0 : (0 : Int) ≤ (i : Int) := by omega
      have hi1 : (i : Int) < (nL : Int) := by omega
      clear hs hk hiX hb
      by_cases hia : na < i
      · rw [sh_gt hia] at cY1 hkM
        have j1 : decide ((na : Int) < (i : Int)) = true := decide_eq_true (by omega)
        have j2 : decide (na < i) = true := decide_eq_true hia
        have hk0 : (0 : Int) ≤ (i : Int) + (ni : Int) := by omega
        have hk1 : (i : Int) + (ni : Int) < (nM : Int) := by omega
        have kw : IntKind.i64.wrap ((i : Int) + (ni : Int)) = (i : Int) + (ni : Int) := IntWalk.i64_in _ (by omega)
        have kv : (0 : Int) ≤ (ni : Int) ∧ (ni : Int) ≤ 150 := by omega
        have kz : (i : Int) ≤ 1000 := by omega
        have kt : ((i : Int) + (ni : Int)).toNat = i + ni := by omega
        clear hia
        go_wp2_with fail
        go_quiet (fail)
        all_goals go_wp2_with fail
        all_goals go_roundw
        case rel => exact ⟨i + 1, by omega, by go_num, by first | exact HBR.out | exact HBR.out.drew | exact HBR.out.trans ((same_ints_drewN wr _).mono HBR.out.size)⟩
        case measure => simp [RowKit.intOf] <;> omega
      · rw [sh_le (by omega)] at cY1 hkM
        have j1 : decide ((na : Int) < (i : Int)) = false := decide_eq_false (by omega)
        have j2 : decide (na < i) = false := decide_eq_false hia
        have hk1 : (i : Int) < (nM : Int) := by omega
        clear hia
        go_wp2_with fail
        go_quiet (fail)
        all_goals go_wp2_with fail
        all_goals go_roundw
        case rel => exact ⟨i + 1, by omega, by go_num, by first | exact HBR.out | exact HBR.out.drew | exact HBR.out.trans ((same_ints_drewN wr _).mono HBR.out.size)⟩
        case measure => simp [RowKit.intOf] <;> omega
    · obtain rfl : i = nL := by omega
      have HBZ := Lib.hid (bt HB10.out hb)
      clear hb
      go_wp2_with fail
      refine (awake_any _).mono ?_
      rintro e w99 ⟨rfl, hb⟩
      have HB99 := Lib.hid (bt HBZ.out hb)
      clear hb
      go_wp2
      go_ret
      exact ⟨by first | rfl | simp, HB99.out⟩
theorem walk (w : World) (A1 : Option Addr) (la : List R3) (c1 : Nat) (hr1 : RuAt w A1 la) (_ : A1 = none → la = [] ∧ c1 = 0) (_ : la.length ≤ 9223372036854775807) (A2 : Option Addr) (li : List R3) (c2 : Nat) (hr2 : RuAt w A2 li) (_ : A2 = none → li = [] ∧ c2 = 0) (_ : li.length ≤ 9223372036854775807) (A3 : Option Addr) (lb : List R3) (c3 : Nat) (hr3 : RuAt w A3 lb) (_ : A3 = none → lb = [] ∧ c3 = 0) (_ : lb.length ≤ 9223372036854775807) (x y : Int) :
    Calls Tryz.prog 7 #[.slice A1 la.length c1, .slice A2 li.length c2, .slice A3 lb.length c3, .int .i64 x, .int .i64 y] w fun e w' => e = .returned (.bool true) ∧ Below w.heap.size w w' := by
  by_cases g0 : 150 < la.length
  · exact out0 w A1 la la.length c1 hr1 rfl A2 li li.length c2 hr2 rfl A3 lb lb.length c3 hr3 rfl x y  g0
  by_cases g1 : 150 < li.length
  · exact out1 w A1 la la.length c1 hr1 rfl A2 li li.length c2 hr2 rfl A3 lb lb.length c3 hr3 rfl x y g0 g1
  by_cases g2 : 150 < lb.length
  · exact out2 w A1 la la.length c1 hr1 rfl A2 li li.length c2 hr2 rfl A3 lb lb.length c3 hr3 rfl x y g0 g1 g2
  cases g3 : closedL (clsR li) 0 with
  | false => exact out3 w A1 la la.length c1 hr1 rfl A2 li li.length c2 hr2 rfl A3 lb lb.length c3 hr3 rfl x y g0 g1 g2 g3
  | true =>
  cases g4 : (clsR la).any (fun x => x == 10) with
  | true => exact out4 w A1 la la.length c1 hr1 rfl A2 li li.length c2 hr2 rfl A3 lb lb.length c3 hr3 rfl x y g0 g1 g2 g3 g4
  | false =>
  cases g5 : (clsR li).any (fun x => x == 10) with
  | true => exact out5 w A1 la la.length c1 hr1 rfl A2 li li.length c2 hr2 rfl A3 lb lb.length c3 hr3 rfl x y g0 g1 g2 g3 g4 g5
  | false =>
  cases g6 : (clsR lb).any (fun x => x == 10) with
  | true => exact out6 w A1 la la.length c1 hr1 rfl A2 li li.length c2 hr2 rfl A3 lb lb.length c3 hr3 rfl x y g0 g1 g2 g3 g4 g5 g6
  | false =>
  by_cases g7 : 60 < deepL (clsR la)
  · exact out7 w A1 la la.length c1 hr1 rfl A2 li li.length c2 hr2 rfl A3 lb lb.length c3 hr3 rfl x y g0 g1 g2 g3 g4 g5 g6 g7
  exact main w A1 la la.length c1 hr1 rfl A2 li li.length c2 hr2 rfl A3 lb lb.length c3 hr3 rfl x y g0 g1 g2 g3 g4 g5 g6 g7
set_option maxRecDepth 100000 in
theorem lifted (os : Os) (started : os.Started) (H : Type) (enc : TypeId × Value → H) :
    ReturnsInHanded {} Tryz.checked os 7 .any (Rows.bidiIsolatesSpec.pre6 enc Tryz.prog Tryz.f7 Rows.bidiIsolatesRow.domain false) (Rows.bidiIsolatesSpec.post enc Tryz.prog Tryz.f7 false true false false) := by
  refine returnsInHanded_of_change (C := Tryz.checked) law_own started (by kernel_rfl) Tryz.func7
    (ChangeSpec.witness6 (enc := enc) (C := Tryz.checked) false ⟨#[], #[.slice none 0 0, .slice none 0 0, .slice none 0 0, .int .i64 0, .int .i64 0], []⟩ 8 (by kernel_rfl) (by kernel_rfl) (by kernel_rfl) (by kernel_rfl)) ?_
  intro W base args ds gs before hval0 hW _ _
  have hval : ∀ (j : Nat) t v, Tryz.f7.params[j]? = some t → args[j]? = some v → Value.okWide Tryz.prog W .any base t v := hval0
  have hW' := hW
  obtain ⟨p, q, hA0, hV, rfl, hfz, hnd⟩ := hW
  have hA : DataW.TrodAll enc Tryz.prog W 0 (fun _ => true) true Tryz.f7.params.toList args.toList ds p := hA0
  rw [Tryz.params7] at hA hval
  obtain ⟨v0, vs0, d0, ds0, p0, q0, hargs, rfl, rfl, h0, r0⟩ := ChangeShapes.trodAll_cons hA
  obtain ⟨v1, vs1, d1, ds1, p1, q1, rfl, rfl, rfl, h1, r1⟩ := ChangeShapes.trodAll_cons r0
  obtain ⟨v2, vs2, d2, ds2, p2, q2, rfl, rfl, rfl, h2, r2⟩ := ChangeShapes.trodAll_cons r1
  obtain ⟨v3, vs3, d3, ds3, p3, q3, rfl, rfl, rfl, h3, r3⟩ := ChangeShapes.trodAll_cons r2
  obtain ⟨v4, vs4, d4, ds4, p4, q4, rfl, rfl, rfl, h4, r4⟩ := ChangeShapes.trodAll_cons r3
  obtain ⟨rfl, rfl, rfl⟩ := ChangeShapes.trodAll_nil r4
  obtain rfl : args = #[v0, v1, v2, v3, v4] := by cases args; simp_all
  obtain ⟨rfl, rfl⟩ := ChangeShapes.trodVars_none hV
  obtain ⟨A0, l0, c0, rfl, hr0, hnil0, hc0, hl0, hz0⟩ := open_runes (hval 0 22 v0 rfl rfl) h0
  obtain ⟨A1, l1, c1, rfl, hr1, hnil1, hc1, hl1, hz1⟩ := open_runes (hval 1 22 v1 rfl rfl) h1
  obtain ⟨A2, l2, c2, rfl, hr2, hnil2, hc2, hl2, hz2⟩ := open_runes (hval 2 22 v2 rfl rfl) h2
  obtain ⟨x3, rfl, rfl, rfl, wx3⟩ := open_int Tryz.underlying3 (hval 3 3 v3 rfl rfl) h3
  obtain ⟨x4, rfl, rfl, rfl, wx4⟩ := open_int Tryz.underlying3 (hval 4 3 v4 rfl rfl) h4
  refine (walk W A0 l0 c0 hr0 hnil0 hl0 A1 l1 c1 hr1 hnil1 hl1 A2 l2 c2 hr2 hnil2 hl2 x3 x4).mono fun e W' ⟨he, hB⟩ => ?_
  subst he
  exact ⟨_, rfl, law_post hW' rfl rfl (by kernel_rfl) rfl hB⟩
theorem holds : Rows.BidiIsolatesSaid :=
  OpenClaim.holds_of_wide 7 Tryz.f7 rfl rfl rfl rfl rfl rfl rfl ⟨rfl, rfl, rfl, rfl, rfl⟩ rfl rfl rfl rfl rfl (by kernel_rfl) Tryz.func7 (by kernel_rfl)
    (of_decide_eq_true (by kernel_rfl)) (by unfold Func.isWrapper; first | (rw [if_pos (by decide +kernel)]; kernel_rfl) | (rw [if_neg (by decide +kernel)]; exact ⟨rfl, rfl⟩))
    (fun os started H enc _ => lifted os started H enc)
end Go.Proofs.YtfclpecbnailgaaGreat.BidiIsolates
