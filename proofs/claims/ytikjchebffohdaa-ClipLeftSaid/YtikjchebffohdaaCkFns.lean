/-
  Proved here: what clip's look, may, end, fits return: a line with its clusters; the plain ones. They leave what was in memory.
-/
import Derived.Test.YtikjchebffohdaaCkPlain
import Derived.Test.YtikjchebffohdaaLnKit
import Derived.Test.YtikjchebffohdaaWoFits
import Derived.Test.YtikjchebffohdaaArrKit
import Derived.Test.YtikjchebffohdaaRetKit
import Derived.Deep.RegionHeld3
set_option linter.unusedVariables false
namespace Go.Proofs.Ytikjchebffohdaa.Ck
open Go Go.RowKit Go.Lib Go.Proofs.Ytikjchebffohdaa.Ku Go.Proofs.Ytikjchebffohdaa.Wr Go.Proofs.Ytikjchebffohdaa.Arr

/-- A line that is looked at, as a value. -/
def lkV (A : Option Addr) (n c : Nat) (x : L5) : Value := .agg #[.int .i64 x.f, .int .i64 x.t, .int .i64 x.s, .int .i64 x.h, .int .i64 x.d, .slice A n c]
theorem infoLk : (Try.prog.info? 40).map (·.size) = some 6 := by kernel_rfl

set_option maxHeartbeats 1000000 in
set_option maxRecDepth 100000 in
theorem look_any (A : Option Addr) (n c : Nat) (x : L5) (w : World) :
    Calls Try.prog 12 #[.slice A n c, lnV x] w fun e w' => e = .returned (lkV A n c x) ∧ Below w.heap.size w w' := by
  unfold lnV lkV
  have HI := Lib.hid infoLk
  go_enter Try.func12, Try.ntmps12
  go_wp2_with fail
  refine bodyPost_ret (results_cell_row Try.results12 _ _ (w.heap.size + 1) 40 _ (0, 0) _ rfl (heap_alloc2_new w _ _) Try.underlying40 rfl HI.out) rfl ?_
  exact ⟨rfl, ((Below.refl w.heap.size w).alloc (Nat.le_refl _) _).alloc (by rw [World.size_alloc]; omega) _⟩

set_option maxHeartbeats 1000000 in
set_option maxRecDepth 100000 in
theorem may_any (A : Option Addr) (n c : Nat) (x : L5) (w : World) (hn : n ≤ 1099511627776) :
    Calls Try.prog 13 #[lkV A n c x] w fun e w' => e = .returned (.bool (mayB n x)) ∧ Below w.heap.size w w' := by
  unfold lkV mayB
  have hb := (Below.refl w.heap.size w).alloc (Nat.le_refl _) (.cells #[.int .i64 x.f, .int .i64 x.t, .int .i64 x.s, .int .i64 x.h, .int .i64 x.d, .slice A n c] 40)
  have HB := Lib.hid hb
  clear hb
  cases k0 : decide ((0 : Int) ≤ x.f) <;> cases k1 : decide (x.f ≤ x.s) <;> cases k2 : decide (x.s ≤ x.t) <;> cases k3 : decide (x.t ≤ (n : Int))
  all_goals go_enter Try.func13, Try.ntmps13
  all_goals go_wp2_with fail
  all_goals go_ret
  all_goals exact ⟨rfl, HB.out⟩

theorem end_is {l : List C6} {f s : Nat} (h : f ≤ s) (hs : s ≤ l.length) (w : Int) : fitsN (l.take s) f w = endF (Wd l) s f w := by
  have hlen : (l.take s).length = s := by rw [List.length_take]; omega
  unfold fitsN
  rw [hlen]
  split
  · have : s = f := by omega
    subst this
    unfold endF
    rw [Nat.sub_self]
    rfl
  · rw [show (max (f : Int) 0).toNat = f from by omega]
    unfold endF
    rw [fitK_alike (W := Wd (l.take s)) (V := Wd l) (s - f) f w (fun i h1 h2 => by
      unfold Wd
      simp only [List.getD_eq_getElem?_getD]
      rw [List.getElem?_take, if_pos (by omega)])]
theorem fits_any (A : Option Addr) (l : List C6) (n c : Nat) (x s : Int) (w : World) (h1 : CuAt w A l) (h2 : l.length = n) (h3 : n ≤ 1099511627776) (h5 : s ≤ 9223372036854775807) :
    Calls Try.prog 25 #[.slice A n c, .int .i64 x, .int .i64 s] w fun e w' => e = .returned (.int .i64 (fitsN l x s)) ∧ w' = w := by
  unfold fitsN
  rw [h2]
  by_cases h : (n : Int) ≤ max x 0
  · rw [if_pos h]
    exact fits_beyond A n c x s w h
  · rw [if_neg h]
    exact fits_in A l n c (max x 0).toNat x s w h1 h2 h3 h5 (by omega) (by omega)
theorem end_part {A : Option Addr} {l : List C6} {n f s : Nat} {u : Int} {w : World} (hR : CuAt w A l) (hl : l.length = n) (hn : n ≤ 1099511627776) (h1 : f ≤ s) (h2 : s ≤ n) (hu : u ≤ 9223372036854775807) (cc : Nat) :
    Calls Try.prog 25 #[.slice A s cc, .int .i64 f, .int .i64 u] w fun e w' => e = .returned (.int .i64 (endF (Wd l) s f u : Nat)) ∧ w' = w := by
  have h := fits_any A (l.take s) s cc f u w (cu_take hR s) (by rw [List.length_take]; omega) (by omega) hu
  rwa [end_is h1 (by omega)] at h

set_option maxHeartbeats 1000000 in
set_option maxRecDepth 100000 in
theorem end_any (A : Option Addr) (l : List C6) (n c : Nat) (x : L5) (u : Int) (w : World) (hR : CuAt w A l) (hl : l.length = n) (hnil : A = none → c = 0) (hc : n ≤ c) (hn : n ≤ 1099511627776) (hu : u ≤ 9223372036854775807) (hm : mayB n x = true) :
    Calls Try.prog 22 #[lkV A n c x, .int .i64 u] w fun e w' => e = .returned (.int .i64 (eP l x u : Nat)) ∧ Below w.heap.size w w' := by
  obtain ⟨f, s, t, hf, hs, ht, h1, h2, h3⟩ := mayB_is hm
  unfold lkV eP
  rw [hf, hs, Int.toNat_natCast, Int.toNat_natCast]
  have hb := (Below.refl w.heap.size w).alloc (Nat.le_refl _) (.cells #[.int .i64 f, .int .i64 x.t, .int .i64 s, .int .i64 x.h, .int .i64 x.d, .slice A n c] 40)
  have HB := Lib.hid hb
  have HE := Lib.hid (fun W (h : Below w.heap.size w W) (cc : Nat) => end_part (hR.below h) hl hn h1 (by omega) hu cc)
  generalize endF (Wd l) s f u = E at *
  have hsc : s ≤ c := by omega
  have j0 : (0 : Int) ≤ (s : Int) := by omega
  have j1 : (s : Int) ≤ (c : Int) := by omega
  clear hb hm hf hs ht hR h2 h3 hl
  cases A with
  | none =>
    obtain rfl : c = 0 := hnil rfl
    obtain rfl : s = 0 := by omega
    obtain rfl : f = 0 := by omega
    obtain rfl : n = 0 := by omega
    clear hnil hc hn h1 hsc j0 j1
    go_enter Try.func22, Try.ntmps22
    go_wp2_with fail
    go_quiet ((go_at_call 25; exact Calls.quiet_of_same (HE.out _ (below_drewN HB.out _) _)))
    go_wp2_with fail
    go_ret
    exact ⟨rfl, below_drewN HB.out _⟩
  | some a =>
    clear hnil hc hn h1 hsc
    go_enter Try.func22, Try.ntmps22
    go_wp2_with fail
    go_quiet ((go_at_call 25; exact Calls.quiet_of_same (HE.out _ (below_drewN HB.out _) _)))
    go_wp2_with fail
    go_ret
    exact ⟨rfl, below_drewN HB.out _⟩

/-- Two new blocks of a method's line: the line that is looked at, and the result. -/
theorem six_cells {U : World} {b : Nat} {t : TypeId} {a0 a1 a2 a3 a4 a5 : Value} (h : U.heap[b]? = some (.cells #[a0, a1, a2, a3, a4, a5] t (0, 0))) :
    (U.cell? ⟨b, 0, none⟩ = some a0 ∧ U.cell? ⟨b, 1, none⟩ = some a1 ∧ U.cell? ⟨b, 2, none⟩ = some a2 ∧ U.cell? ⟨b, 3, none⟩ = some a3 ∧ U.cell? ⟨b, 4, none⟩ = some a4 ∧ U.cell? ⟨b, 5, none⟩ = some a5) ∧
    U.frozen? ⟨b, 0, none⟩ = false ∧ U.frozen? ⟨b, 1, none⟩ = false ∧ U.frozen? ⟨b, 2, none⟩ = false ∧ U.frozen? ⟨b, 3, none⟩ = false ∧ U.frozen? ⟨b, 4, none⟩ = false ∧ U.frozen? ⟨b, 5, none⟩ = false :=
  ⟨⟨cell_of_row U b 0 _ _ _ h, cell_of_row U b 1 _ _ _ h, cell_of_row U b 2 _ _ _ h, cell_of_row U b 3 _ _ _ h, cell_of_row U b 4 _ _ _ h, cell_of_row U b 5 _ _ _ h⟩, frozen_of_row U b 0 _ _ h, frozen_of_row U b 1 _ _ h, frozen_of_row U b 2 _ _ h, frozen_of_row U b 3 _ _ h, frozen_of_row U b 4 _ _ h, frozen_of_row U b 5 _ _ h⟩

theorem step_below18 {wr V W : World} (h : Below wr.heap.size wr V) (hb : Below V.heap.size V W) : Below wr.heap.size wr W := h.trans (hb.mono h.size)

set_option maxHeartbeats 2000000 in
set_option maxRecDepth 100000 in
theorem lfits_any (A : Option Addr) (l : List C6) (n c : Nat) (x : L5) (u : Int) (w : World) (hR : CuAt w A l) (hl : l.length = n) (hnil : A = none → c = 0) (hc : n ≤ c) (hn : n ≤ 1099511627776) (hu : u ≤ 9223372036854775807) (hm : mayB n x = true) :
    Calls Try.prog 21 #[lkV A n c x, .int .i64 u] w fun e w' => e = .returned (.bool (fitsP l x u)) ∧ Below w.heap.size w w' := by
  have HE := Lib.hid (fun W (h : Below w.heap.size w W) => end_any A l n c x u W (hR.below h) hl hnil hc hn hu hm)
  unfold fitsP
  generalize eP l x u = E at *
  unfold lkV at *
  have hb := (Below.refl w.heap.size w).alloc (Nat.le_refl _) (.cells #[.int .i64 x.f, .int .i64 x.t, .int .i64 x.s, .int .i64 x.h, .int .i64 x.d, .slice A n c] 40)
  have hh := heap_alloc_new w (.cells #[.int .i64 x.f, .int .i64 x.t, .int .i64 x.s, .int .i64 x.h, .int .i64 x.d, .slice A n c] 40)
  have hsz : w.heap.size < (w.alloc (.cells #[.int .i64 x.f, .int .i64 x.t, .int .i64 x.s, .int .i64 x.h, .int .i64 x.d, .slice A n c] 40)).heap.size := by rw [World.size_alloc]; omega
  obtain ⟨hc6, -⟩ := six_cells hh
  have HB := Lib.hid hb
  have HH := Lib.hid (And.intro hh hsz)
  clear hb hR hl hnil hc hn hu hm hh hsz
  by_cases h0 : 0 ≤ u
  · have k0 : decide ((0 : Int) ≤ u) = true := decide_eq_true h0
    have k1 : decide (u ≥ (0 : Int)) = true := decide_eq_true h0
    have k2 : decide ((E : Int) = x.s) = ((E : Int) == x.s) := by rw [Bool.eq_iff_iff]; simp
    rw [k0, Bool.true_and, k2]
    clear k2
    obtain ⟨q0, q1, q2, q3, q4, q5⟩ := hc6
    go_enter Try.func21, Try.ntmps21
    go_wp2_with fail
    generalize w.alloc (.cells #[.int .i64 x.f, .int .i64 x.t, .int .i64 x.s, .int .i64 x.h, .int .i64 x.d, .slice A n c] 40) = V0 at *
    have HC := Lib.hid (fun (V : World) (h : Below V0.heap.size V0 V) => (⟨(h.cell (p := ⟨w.heap.size, 0, none⟩) HH.out.2).trans q0, (h.cell (p := ⟨w.heap.size, 1, none⟩) HH.out.2).trans q1, (h.cell (p := ⟨w.heap.size, 2, none⟩) HH.out.2).trans q2, (h.cell (p := ⟨w.heap.size, 3, none⟩) HH.out.2).trans q3, (h.cell (p := ⟨w.heap.size, 4, none⟩) HH.out.2).trans q4, (h.cell (p := ⟨w.heap.size, 5, none⟩) HH.out.2).trans q5, h⟩ : V.cell? ⟨w.heap.size, 0, none⟩ = some (.int .i64 x.f) ∧ V.cell? ⟨w.heap.size, 1, none⟩ = some (.int .i64 x.t) ∧ V.cell? ⟨w.heap.size, 2, none⟩ = some (.int .i64 x.s) ∧ V.cell? ⟨w.heap.size, 3, none⟩ = some (.int .i64 x.h) ∧ V.cell? ⟨w.heap.size, 4, none⟩ = some (.int .i64 x.d) ∧ V.cell? ⟨w.heap.size, 5, none⟩ = some (.slice A n c) ∧ Below V0.heap.size V0 V))
    have HF := Lib.hid (fun (V : World) (h : Below V0.heap.size V0 V) => HE.out V (HB.out.trans (h.mono HB.out.size)))
    go_region_held3 (fun V => V.cell? ⟨w.heap.size, 0, none⟩ = some (.int .i64 x.f) ∧ V.cell? ⟨w.heap.size, 1, none⟩ = some (.int .i64 x.t) ∧ V.cell? ⟨w.heap.size, 2, none⟩ = some (.int .i64 x.s) ∧ V.cell? ⟨w.heap.size, 3, none⟩ = some (.int .i64 x.h) ∧ V.cell? ⟨w.heap.size, 4, none⟩ = some (.int .i64 x.d) ∧ V.cell? ⟨w.heap.size, 5, none⟩ = some (.slice A n c) ∧ Below V0.heap.size V0 V) (first | exact HC.out _ (Below.refl _ _) | exact HC.out _ (below_drew (Below.refl _ _)) | exact HC.out _ (by assumption))
      (first | (go_at_call 22; ((with_reducible refine (HF.out _ (by first | assumption | exact below_drew (Below.refl _ _))).mono ?_); rintro e w7 ⟨rfl, hb7⟩; have hbx := step_below18 (wr := V0) (by first | assumption | exact below_drew (Below.refl _ _)) hb7; clear hb7)))
    all_goals (rename_i hh8; have HB8 := Lib.hid hh8.2.2.2.2.2.2; clear hh8)
    all_goals go_wp2_with fail
    all_goals go_ret
    all_goals exact ⟨rfl, HB.out.trans (HB8.out.mono HB.out.size)⟩
  · have k0 : decide ((0 : Int) ≤ u) = false := decide_eq_false h0
    have k1 : decide (u ≥ (0 : Int)) = false := decide_eq_false h0
    rw [k0, Bool.false_and]
    go_enter Try.func21, Try.ntmps21
    go_wp2_with fail
    go_quiet (fail)
    go_wp2_with fail
    go_ret
    exact ⟨rfl, below_drewN HB.out _⟩
end Go.Proofs.Ytikjchebffohdaa.Ck
