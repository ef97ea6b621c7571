/-
  Proved here: what clip's cut and clipped (methods of a line that is looked at) return: the line that is cut, that is clipped. They leave what was in memory.
-/
import Derived.Test.YtikjchebffohdaaCkFns
import Derived.Lib.MinMax
set_option linter.unusedVariables false
namespace Go.Proofs.Ytikjchebffohdaa.Ck
open Go Go.RowKit Go.Lib Go.Proofs.Ytikjchebffohdaa.Ku Go.Proofs.Ytikjchebffohdaa.Wr Go.Proofs.Ytikjchebffohdaa.Arr

set_option maxHeartbeats 2000000 in
set_option maxRecDepth 100000 in
theorem lcut_any (A : Option Addr) (l : List C6) (n c : Nat) (x : L5) (u : Int) (w : World) (hR : CuAt w A l) (hl : l.length = n) (hnil : A = none → c = 0) (hc : n ≤ c) (hn : n ≤ 1099511627776) (hu : u ≤ 9223372036854775807) (hm : mayB n x = true) :
    Calls Try.prog 18 #[lkV A n c x, .int .i64 u] w fun e w' => e = .returned (lnV (cutP l x u)) ∧ Below w.heap.size w w' := by
  have HE := Lib.hid (fun W (h : Below w.heap.size w W) => end_any A l n c ⟨x.f, x.t, x.s, x.h, 1⟩ (max u 0 - 1) W (hR.below h) hl hnil hc hn (by omega) hm)
  rw [show eP l ⟨x.f, x.t, x.s, x.h, 1⟩ (max u 0 - 1) = eP l x (max u 0 - 1) from rfl] at HE
  unfold cutP
  generalize eP l x (max u 0 - 1) = E at *
  unfold lkV lnV at *
  have HI := Lib.hid infoLs
  obtain ⟨e0, e1, hb0, hs0⟩ := two_newW w (.cells #[.int .i64 x.f, .int .i64 x.t, .int .i64 x.s, .int .i64 x.h, .int .i64 1, .slice A n c] 40) (.cells #[.int .i64 0, .int .i64 0, .int .i64 0, .int .i64 0, .int .i64 0] 24)
  have HW : IntKind.i64.wrap (max u 0 - 1) = max u 0 - 1 := IntWalk.i64_in _ (by omega)
  have HS := Lib.hid (And.intro e0 (And.intro e1 (And.intro hb0 hs0)))
  clear hR hl hnil hc hn hm e0 e1 hb0 hs0
  go_enter Try.func18, Try.ntmps18
  go_wp2_with fail
  refine (HE.out _ HS.out.2.2.1).mono ?_
  rintro e w1 ⟨rfl, hb1⟩
  have hsz := HS.out.2.2.2
  have e0 := (hb1.block w.heap.size (by omega)).trans HS.out.1
  have e1 := (hb1.block (w.heap.size + 1) (by omega)).trans HS.out.2.1
  have HB := Lib.hid (HS.out.2.2.1.trans (hb1.mono HS.out.2.2.1.size))
  obtain ⟨⟨q0, q1, q2, q3, q4, q5⟩, f0, f1, f2, f3, f4, f5⟩ := six_cells e0
  obtain ⟨⟨z0, z1, z2, z3, z4⟩, y0, y1, y2, y3, y4⟩ := cell5 e1
  have H1 := Lib.hid ((heap_setCell_other w1 ⟨w.heap.size, 2, none⟩ (w.heap.size + 1) (.int .i64 E) (by show w.heap.size + 1 ≠ w.heap.size; omega)).trans e1)
  clear hb1 e0 e1 hsz HE HS hu HW
  go_wp2_with fail
  refine bodyPost_ret (results_cell_row Try.results18 _ _ (w.heap.size + 1) 24 _ (0, 0) _ rfl (five_set _ _ _ _ _ H1.out) Try.underlying24 rfl HI.out) rfl ?_
  exact ⟨rfl, below_five (HB.out.setCell (by exact Nat.le_refl _) _) (by omega) _ _ _ _ _⟩

set_option maxHeartbeats 2000000 in
set_option maxRecDepth 100000 in
theorem lclip_any (A : Option Addr) (l : List C6) (n c : Nat) (x : L5) (u : Int) (w : World) (hR : CuAt w A l) (hl : l.length = n) (hnil : A = none → c = 0) (hc : n ≤ c) (hn : n ≤ 1099511627776) (hu : u ≤ 9223372036854775807) (hm : mayB n x = true) :
    Calls Try.prog 17 #[lkV A n c x, .int .i64 u] w fun e w' => e = .returned (lnV (clipP l x u)) ∧ Below w.heap.size w w' := by
  have HF := Lib.hid (fun W (h : Below w.heap.size w W) => lfits_any A l n c x u W (hR.below h) hl hnil hc hn hu hm)
  have HC := Lib.hid (fun W (h : Below w.heap.size w W) => lcut_any A l n c x u W (hR.below h) hl hnil hc hn hu hm)
  have HI := Lib.hid infoLs
  obtain ⟨e0, e1, hb0, hs0⟩ := two_newW w (.cells #[.int .i64 x.f, .int .i64 x.t, .int .i64 x.s, .int .i64 x.h, .int .i64 x.d, .slice A n c] 40) (.cells #[.int .i64 0, .int .i64 0, .int .i64 0, .int .i64 0, .int .i64 0] 24)
  have HS := Lib.hid (And.intro e0 (And.intro e1 (And.intro hb0 hs0)))
  clear hR hl hnil hc hn hm e0 e1 hb0 hs0 hu
  cases hq : fitsP l x u with
  | true =>
    have hcl : clipP l x u = ⟨x.f, x.t, x.s, x.h, 0⟩ := by unfold clipP; rw [if_pos hq]
    rw [hcl]
    rw [hq] at HF
    unfold lkV lnV at *
    clear HC hcl hq
    go_enter Try.func17, Try.ntmps17
    go_wp2_with fail
    refine (HF.out _ HS.out.2.2.1).mono ?_
    rintro e w1 ⟨rfl, hb1⟩
    have hsz := HS.out.2.2.2
    have e0 := (hb1.block w.heap.size (by omega)).trans HS.out.1
    have e1 := (hb1.block (w.heap.size + 1) (by omega)).trans HS.out.2.1
    have HB := Lib.hid (HS.out.2.2.1.trans (hb1.mono HS.out.2.2.1.size))
    obtain ⟨⟨q0, q1, q2, q3, q4, q5⟩, f0, f1, f2, f3, f4, f5⟩ := six_cells e0
    obtain ⟨⟨z0, z1, z2, z3, z4⟩, y0, y1, y2, y3, y4⟩ := cell5 e1
    have H1 := Lib.hid ((heap_setCell_other w1 ⟨w.heap.size, 4, none⟩ (w.heap.size + 1) (.int .i64 0) (by show w.heap.size + 1 ≠ w.heap.size; omega)).trans e1)
    clear hb1 e0 e1 hsz HF HS
    go_wp2_with fail
    refine bodyPost_ret (results_cell_row Try.results17 _ _ (w.heap.size + 1) 24 _ (0, 0) _ rfl (five_set _ _ _ _ _ H1.out) Try.underlying24 rfl HI.out) rfl ?_
    exact ⟨rfl, below_five (HB.out.setCell (by exact Nat.le_refl _) _) (by omega) _ _ _ _ _⟩
  | false =>
    have hcl : clipP l x u = cutP l x u := by unfold clipP; rw [if_neg (by rw [hq]; decide)]
    rw [hcl]
    rw [hq] at HF
    clear hcl hq
    generalize cutP l x u = y at *
    unfold lkV lnV at *
    go_enter Try.func17, Try.ntmps17
    go_wp2_with fail
    refine (HF.out _ HS.out.2.2.1).mono ?_
    rintro e w1 ⟨rfl, hb1⟩
    have hsz := HS.out.2.2.2
    have e0 := (hb1.block w.heap.size (by omega)).trans HS.out.1
    have HB := Lib.hid (HS.out.2.2.1.trans (hb1.mono HS.out.2.2.1.size))
    have HBU := Lib.hid hb1
    obtain ⟨⟨q0, q1, q2, q3, q4, q5⟩, f0, f1, f2, f3, f4, f5⟩ := six_cells e0
    clear hb1 e0 hsz HF
    go_wp2_with fail
    refine (HC.out _ HB.out).mono ?_
    rintro e w2 ⟨rfl, hb2⟩
    have hsz := HS.out.2.2.2
    have e1 := ((HBU.out.trans (hb2.mono HBU.out.size)).block (w.heap.size + 1) (by omega)).trans HS.out.2.1
    have HB2 := Lib.hid (HB.out.trans (hb2.mono HB.out.size))
    obtain ⟨⟨z0, z1, z2, z3, z4⟩, y0, y1, y2, y3, y4⟩ := cell5 e1
    have H1 := Lib.hid e1
    clear hb2 e1 hsz HS HC HBU HB q0 q1 q2 q3 q4 q5 f0 f1 f2 f3 f4 f5
    go_wp2_with fail
    refine bodyPost_ret (results_cell_row Try.results17 _ _ (w.heap.size + 1) 24 _ (0, 0) _ rfl (five_set _ _ _ _ _ H1.out) Try.underlying24 rfl HI.out) rfl ?_
    exact ⟨rfl, below_five HB2.out (by omega) _ _ _ _ _⟩
end Go.Proofs.Ytikjchebffohdaa.Ck
