/-
  Several texts in one, each with its own remark: PoLay, RangeOwn, BlSeq, LvRmv, BcReset, WkClone.
-/
import Derived.RangeFuncNested
import Derived.RangeFuncBound
import Derived.RangeFuncCalls
import Derived.RangeFuncLeaves
import Derived.RangeFuncBox
import Derived.Shelf.Abstract
import Derived.Shelf.RegionOpen
import Derived.WalkKit
import Derived.OwnWalkIn
import Derived.TacticsInMore
import Derived.LoopNIn
import Derived.LoopIn
import Derived.Deep.RegionHeld3
import Derived.WalkSmall
import Derived.IntWalk
import Derived.Test.YtlocnjenkanmpaaDoorMKuOf
import Derived.Test.YtlocnjenkanmpaaDoorM2
import Derived.Test.YtlocnjenkanmpaaDoorRows
import Derived.Test.YtlocnjenkanmpaaDoorM1
import Derived.Test.YtlocnjenkanmpaaDoorM0
import Derived.Test.YtlocnjenkanmpaaDoorShelf

/-
  Proved here: what place.layOut makes of a line, for every row of at most 1000 runes: the line, its clusters, its level; and what (place.laid).may answers. They leave what was in memory.
-/
set_option linter.unusedVariables false
namespace Go.Proofs.YtlocnjenkanmpaaDoor.Pl
open Go Go.RowKit Go.Lib Go.Proofs.YtlocnjenkanmpaaDoor.Ku Go.Proofs.YtlocnjenkanmpaaDoor.Wr Go.Proofs.YtlocnjenkanmpaaDoor.Arr
/-- A line that is laid out: the line, its clusters, its level. -/
def laidV (x : L5) (G : Option Addr) (q e : Nat) (p : Int) : Value := .agg #[.int .i64 x.f, .int .i64 x.t, .int .i64 x.s, .int .i64 x.h, .int .i64 x.d, .slice G q e, .int .i64 p]
def laidC (x : L5) (G : Option Addr) (q e : Nat) (p : Int) : Array Value := #[.int .i64 x.f, .int .i64 x.t, .int .i64 x.s, .int .i64 x.h, .int .i64 x.d, .slice G q e, .int .i64 p]
theorem infoLd : (Tryd.prog.info? 52).map (·.size) = some 7 := by kernel_rfl
theorem cu_room {w : World} {B n : Nat} {t : TypeId} {v : Value} {X : List C6} (h : w.ownsRow B t 6 v n (cellsC X)) (hn : X.length = n) : ∃ A c, v = .slice A n c ∧ CuAt w A X ∧ n ≤ c := by
  subst hn
  obtain ⟨A, c, rfl, hcu⟩ := cuAt_own h
  refine ⟨A, c, rfl, hcu, ?_⟩
  rcases h.2 with ⟨e1, h0⟩ | ⟨g, cap, cur, e1, _, _, hle, _⟩
  · injection e1 with _ e2 _; omega
  · injection e1 with _ _ e2; omega
theorem seven_cells {U : World} {b : Nat} {t : TypeId} {a0 a1 a2 a3 a4 a5 a6 : Value} (h : U.heap[b]? = some (.cells #[a0, a1, a2, a3, a4, a5, a6] t (0, 0))) :
    (U.cell? ⟨b, 0, none⟩ = some a0 ∧ U.cell? ⟨b, 1, none⟩ = some a1 ∧ U.cell? ⟨b, 2, none⟩ = some a2 ∧ U.cell? ⟨b, 3, none⟩ = some a3 ∧ U.cell? ⟨b, 4, none⟩ = some a4 ∧ U.cell? ⟨b, 5, none⟩ = some a5 ∧ U.cell? ⟨b, 6, none⟩ = some a6) ∧
    U.frozen? ⟨b, 0, none⟩ = false ∧ U.frozen? ⟨b, 1, none⟩ = false ∧ U.frozen? ⟨b, 2, none⟩ = false ∧ U.frozen? ⟨b, 3, none⟩ = false ∧ U.frozen? ⟨b, 4, none⟩ = false ∧ U.frozen? ⟨b, 5, none⟩ = false ∧ U.frozen? ⟨b, 6, none⟩ = false :=
  ⟨⟨cell_of_row U b 0 _ _ _ h, cell_of_row U b 1 _ _ _ h, cell_of_row U b 2 _ _ _ h, cell_of_row U b 3 _ _ _ h, cell_of_row U b 4 _ _ _ h, cell_of_row U b 5 _ _ _ h, cell_of_row U b 6 _ _ _ h⟩, frozen_of_row U b 0 _ _ h, frozen_of_row U b 1 _ _ h, frozen_of_row U b 2 _ _ h, frozen_of_row U b 3 _ _ h, frozen_of_row U b 4 _ _ h, frozen_of_row U b 5 _ _ h, frozen_of_row U b 6 _ _ h⟩
set_option maxHeartbeats 2000000 in
theorem seven_set {Z : World} {b : Nat} {t : TypeId} {a0 a1 a2 a3 a4 a5 a6 : Value} (x0 x1 x2 x3 x4 x5 x6 : Value) (h : Z.heap[b]? = some (.cells #[a0, a1, a2, a3, a4, a5, a6] t (0, 0))) :
    (((((((Z.setCell ⟨b, 0, none⟩ x0).setCell ⟨b, 1, none⟩ x1).setCell ⟨b, 2, none⟩ x2).setCell ⟨b, 3, none⟩ x3).setCell ⟨b, 4, none⟩ x4).setCell ⟨b, 5, none⟩ x5).setCell ⟨b, 6, none⟩ x6).heap[b]? = some (.cells #[x0, x1, x2, x3, x4, x5, x6] t (0, 0)) :=
  heap_setCell_same _ b 6 _ _ _ (heap_setCell_same _ b 5 _ _ _ (heap_setCell_same _ b 4 _ _ _ (heap_setCell_same _ b 3 _ _ _ (heap_setCell_same _ b 2 _ _ _ (heap_setCell_same _ b 1 _ _ _ (heap_setCell_same Z b 0 _ _ _ h))))))
theorem own_seven {U : World} {B b n sz : Nat} {e : TypeId} {v : Value} {xs : List Value} (h : U.ownsRow B e sz v n xs) (hb : b < B) (x0 x1 x2 x3 x4 x5 x6 : Value) :
    (((((((U.setCell ⟨b, 0, none⟩ x0).setCell ⟨b, 1, none⟩ x1).setCell ⟨b, 2, none⟩ x2).setCell ⟨b, 3, none⟩ x3).setCell ⟨b, 4, none⟩ x4).setCell ⟨b, 5, none⟩ x5).setCell ⟨b, 6, none⟩ x6).ownsRow B e sz v n xs :=
  ownsRow_setCell_below (ownsRow_setCell_below (ownsRow_setCell_below (ownsRow_setCell_below (ownsRow_setCell_below (ownsRow_setCell_below (ownsRow_setCell_below h (a := ⟨b, 0, none⟩) hb x0) (a := ⟨b, 1, none⟩) hb x1) (a := ⟨b, 2, none⟩) hb x2) (a := ⟨b, 3, none⟩) hb x3) (a := ⟨b, 4, none⟩) hb x4) (a := ⟨b, 5, none⟩) hb x5) (a := ⟨b, 6, none⟩) hb x6
set_option maxHeartbeats 2000000 in
theorem below_seven {w U : World} {b : Nat} (h : Below w.heap.size w U) (hb : w.heap.size ≤ b) (x0 x1 x2 x3 x4 x5 x6 : Value) :
    Below w.heap.size w (((((((U.setCell ⟨b, 0, none⟩ x0).setCell ⟨b, 1, none⟩ x1).setCell ⟨b, 2, none⟩ x2).setCell ⟨b, 3, none⟩ x3).setCell ⟨b, 4, none⟩ x4).setCell ⟨b, 5, none⟩ x5).setCell ⟨b, 6, none⟩ x6) :=
  ((((((h.setCell (by exact hb) _).setCell (by exact hb) _).setCell (by exact hb) _).setCell (by exact hb) _).setCell (by exact hb) _).setCell (by exact hb) _).setCell (by exact hb) _
set_option maxHeartbeats 4000000 in
set_option maxRecDepth 100000 in
theorem layOut_any (A : Option Addr) (l : List R3) (n c : Nat) (x : L5) (p : Int) (w : World) (hH : Ku.Held w) (hA : RuAt w A l) (hl : l.length = n) (hn : n ≤ 1000) :
    Calls Tryd.prog 18 #[.slice A n c, lnV x, .int .i64 p] w fun e w' => ∃ G c', e = .returned (laidV x G (ofC l).length c' p) ∧ CuAt w' G (ofC l) ∧ (ofC l).length ≤ c' ∧ Below w.heap.size w w' := by
  subst hl
  have HOF := Lib.hid (fun V (h : Below w.heap.size w V) => (show Calls Tryd.prog 13 #[.slice A l.length c] V fun e w' => ∃ G c', e = .returned (.slice G (ofC l).length c') ∧ w'.ownsRow V.heap.size 40 6 (.slice G (ofC l).length c') (ofC l).length (cellsC (ofC l)) ∧ (ofC l).length ≤ c' ∧ Below V.heap.size V w' from by
    refine (Ku.of_any A l c V (hA.below h) (hH.below h) (by omega)).mono ?_
    rintro e w' ⟨v, rfl, hown, hb⟩
    obtain ⟨G, c', rfl, hcu, hle⟩ := cu_room hown rfl
    exact ⟨G, c', rfl, hown, hle, hb⟩))
  generalize ofC l = C at *
  have HCQ := Lib.hid (fun (W : World) (B : Nat) (G : Option Addr) (c' : Nat) (h : W.ownsRow B 40 6 (.slice G C.length c') C.length (cellsC C)) => (show CuAt W G C from by
    obtain ⟨G2, c2, e2, hcu⟩ := cuAt_own h
    injection e2 with e3 _ _
    rw [e3]; exact hcu))
  generalize C.length = q at *
  have HI := Lib.hid infoLd
  obtain ⟨e0, e1, hb0, hs0⟩ := two_newW w (.cells #[.int .i64 x.f, .int .i64 x.t, .int .i64 x.s, .int .i64 x.h, .int .i64 x.d] 25) (.cells #[.int .i64 0, .int .i64 0, .int .i64 0, .int .i64 0, .int .i64 0, .slice none 0 0, .int .i64 0] 52)
  unfold lnV laidV at *
  clear hA hH hn
  go_enter Tryd.func18, Tryd.ntmps18
  go_wp2_with fail
  obtain ⟨U, hU⟩ : ∃ U, (w.alloc (.cells #[.int .i64 x.f, .int .i64 x.t, .int .i64 x.s, .int .i64 x.h, .int .i64 x.d] 25)).alloc (.cells #[.int .i64 0, .int .i64 0, .int .i64 0, .int .i64 0, .int .i64 0, .slice none 0 0, .int .i64 0] 52) = U := ⟨_, rfl⟩
  rw [hU] at e0 e1 hb0 hs0 ⊢
  obtain ⟨⟨q0, q1, q2, q3, q4⟩, -⟩ := cell5 e0
  obtain ⟨-, y0, y1, y2, y3, y4, y5, y6⟩ := seven_cells e1
  have HC := Lib.hid (fun (V V' : World) (hV : Below U.heap.size U V) (h : Below V.heap.size V V') => (show V'.heap[w.heap.size]? = _ ∧ V'.heap[w.heap.size + 1]? = _ ∧ Below w.heap.size w V' from And.intro (((hV.trans (h.mono hV.size)).block w.heap.size (by omega)).trans e0) (And.intro (((hV.trans (h.mono hV.size)).block (w.heap.size + 1) (by omega)).trans e1) (hb0.trans ((hV.trans (h.mono hV.size)).mono hb0.size)))))
  have HB0 := Lib.hid hb0
  have HS0 := Lib.hid hs0
  clear e0 e1 hb0 hs0 hU
  go_region_with (go_at_call 13; refine (HOF.out _ (by first | exact HB0.out | exact below_drew HB0.out | exact below_drewN HB0.out _)).mono ?_; rintro e w5 ⟨G, c', rfl, ho5, hle, hb5⟩; obtain ⟨hq1, hq2, hq3⟩ := HC.out _ _ (by first | exact Below.refl _ _ | exact below_drew (Below.refl _ _) | exact below_drewN (Below.refl _ _) _) hb5; obtain ⟨⟨q0, q1, q2, q3, q4⟩, -⟩ := cell5 hq1; obtain ⟨⟨x0, x1, x2, x3, x4, x5, x6⟩, y0, y1, y2, y3, y4, y5, y6⟩ := seven_cells hq2)
  all_goals
    have HO5 := Lib.hid (Cl.ownsRow_mono ho5 (show w.heap.size + 2 ≤ U.heap.size from by rw [HS0.out]; exact Nat.le_refl _))
    have H7 := Lib.hid hq2
    have HB5 := Lib.hid hq3
    have HLE := Lib.hid hle
    clear ho5 hq1 hq2 hq3 hb5 hle q0 q1 q2 q3 q4 x0 x1 x2 x3 x4 x5 x6 y0 y1 y2 y3 y4 y5 y6 HC HOF
    go_wp2_with fail
    refine bodyPost_ret (results_cell_row Tryd.results18 _ _ (w.heap.size + 1) 52 _ (0, 0) _ rfl (seven_set _ _ _ _ _ _ _ H7.out) Tryd.underlying52 rfl HI.out) rfl ?_
    exact ⟨G, c', rfl, HCQ.out _ _ _ _ (own_seven HO5.out (by omega) _ _ _ _ _ _ _), HLE.out, below_seven HB5.out (by omega) _ _ _ _ _ _ _⟩
def mayQ (x : L5) (q : Nat) : Bool := decide (0 ≤ x.f) && decide (x.f ≤ x.s) && decide (x.s ≤ x.t) && decide (x.t ≤ (q : Int))
set_option maxHeartbeats 4000000 in
set_option maxRecDepth 100000 in
theorem may_any (x : L5) (G : Option Addr) (q e : Nat) (p : Int) (w : World) :
    Calls Tryd.prog 19 #[laidV x G q e p] w fun r w' => r = .returned (.bool (mayQ x q)) ∧ Below w.heap.size w w' := by
  have HB := Lib.hid ((Below.refl w.heap.size w).alloc (Nat.le_refl _) (.cells (laidC x G q e p) 52))
  unfold laidV laidC mayQ at *
  by_cases h1 : 0 ≤ x.f
  · have b1 : decide ((0 : Int) ≤ x.f) = true := decide_eq_true h1
    by_cases h2 : x.f ≤ x.s
    · have b2 : decide (x.f ≤ x.s) = true := decide_eq_true h2
      by_cases h3 : x.s ≤ x.t
      · have b3 : decide (x.s ≤ x.t) = true := decide_eq_true h3
        rw [b1, b2, b3, Bool.true_and, Bool.true_and, Bool.true_and]
        clear h1 h2 h3
        go_enter Tryd.func19, Tryd.ntmps19
        go_wp2_with fail
        go_ret
        exact ⟨rfl, HB.out⟩
      · have b3 : decide (x.s ≤ x.t) = false := decide_eq_false h3
        rw [b1, b2, b3, Bool.true_and, Bool.true_and, Bool.false_and]
        clear h1 h2 h3
        go_enter Tryd.func19, Tryd.ntmps19
        go_wp2_with fail
        go_ret
        exact ⟨rfl, HB.out⟩
    · have b2 : decide (x.f ≤ x.s) = false := decide_eq_false h2
      rw [b1, b2, Bool.true_and, Bool.false_and, Bool.false_and]
      clear h1 h2
      go_enter Tryd.func19, Tryd.ntmps19
      go_wp2_with fail
      go_ret
      exact ⟨rfl, HB.out⟩
  · have b1 : decide ((0 : Int) ≤ x.f) = false := decide_eq_false h1
    rw [b1, Bool.false_and, Bool.false_and, Bool.false_and]
    clear h1
    go_enter Tryd.func19, Tryd.ntmps19
    go_wp2_with fail
    go_ret
    exact ⟨rfl, HB.out⟩
end Go.Proofs.YtlocnjenkanmpaaDoor.Pl

/-
  A range over a method value whose rounds always go on, where a round may write what lay ahead of what the iterator reads: the loop's invariant itself says that what it reads is there. No program in it.
-/
set_option linter.unusedVariables false
namespace Go.Proofs.YtlocnjenkanmpaaDoor
open Go Go.RowKit
/-- How a round's body ends: it goes on. -/
def RoundOn (B : Nat) (I : World → Prop) (W : World) : Exit → Act → World → Prop
  | .normal, _, W' => KeepsFrom B W W' ∧ I W'
  | _, _, _ => False
/-- What an iterator by a method value keeps to, as long as H holds. -/
def Yields {α : Type} (n : Nat) (P : Program) (gf : Nat) (la : Array Value) (encs : α → Array Value) (H : World → Prop) (xs : List α) : Prop :=
  ∀ (l : Nat) (J : List α → World → Prop) (W : World), (∀ s A, J s A → H A) →
    (∀ pre x W1, J pre W1 → pre ++ [x] <+: xs → YieldAt Fence.wide (n - 1) P l (encs x) W1 fun e W' => e = .returned (.bool true) ∧ J (pre ++ [x]) W') →
    J [] W → CallsIn Fence.wide n P gf (la ++ #[.func (.yield l) #[] #[]]) W fun e W' => (∃ v, e = .returned v) ∧ J xs W'
theorem wp_rangeOwn {α : Type} {P : Program} {n : Nat} {g : Operand} {ps : Array Tmp} {assign body : Code} {Q : Exit → Act → World → Prop} {a : Act} {w : World}
    (h1 : 1 ≤ n) {gf : Nat} {la : Array Value} (hg : a.eval g = .func (.func gf) la #[]) (eg : ∀ args w, (callFunc gf args).run P w = .ok (.enter gf args) w)
    {encs : α → Array Value} {H : World → Prop} {xs : List α} (hseq : Yields (n - 1) P gf la encs H xs) (hps : ∀ x, (encs x).size = ps.size)
    (I : List α → World → Prop) (hI : OwnFrom w.heap.size I) (hIH : ∀ s V, I s V → H V) (h0 : I [] w) (a₁ : α → Act)
    (hassign : ∀ (l : Nat) (x : α) (W : World) (K : Act → World → Prop), K (a₁ x) W →
      assign.wpIn (Fence.wide.inRound l) (n - 1 - 1) P (Exit.then K (fun _ _ _ => False)) { tmps := (ps.zip (encs x)).foldl (fun t (p, v) => t.setIfInBounds p v) a.tmps, defers := [] } W)
    (hbody : ∀ (l : Nat) (pre : List α) (x : α) (W : World), I pre W → pre ++ [x] <+: xs → body.wpIn (Fence.wide.inRound l) (n - 1 - 1) P (RoundOn w.heap.size (I (pre ++ [x])) W) (a₁ x) W)
    (hdone : ∀ (D : Nat) (W : World), w.heap.size ≤ D → I xs W → W.heap[D]? = some (.deferred (some [])) → Q .normal { a with defers := { target := .collected D, args := #[] } :: a.defers } W) :
    (Code.rangeFunc g ps assign body).wpIn Fence.wide n P Q a w := by
  refine wpIn_rangeFunc ?_
  intro fn hfn
  obtain ⟨rec, hrec⟩ : ∃ rec : LoopState → Loop, rec = fun st => { state := st, pending := none, fn, tmps := a.tmps, params := ps, assign, body, defers := w.heap.size } := ⟨_, rfl⟩
  obtain ⟨W1, hW1⟩ : ∃ W1, (w.alloc (.deferred (some []))).alloc (.loop (rec .ready)) = W1 := ⟨_, rfl⟩
  have hL1 : W1.heap[w.heap.size + 1]? = some (.loop (rec .ready)) := by
    rw [← hW1]; have := World.alloc_heap_new (w.alloc (.deferred (some []))) (.loop (rec .ready)); rwa [World.size_alloc] at this
  have hK1 : W1.heap[w.heap.size]? = some (.deferred (some [])) := by
    rw [← hW1]; exact (Below.heap_alloc _ _ _ (by simp)).trans (World.alloc_heap_new w _)
  have hI1 : I [] W1 := by rw [← hW1]; exact hI.alloc _ (hI.alloc _ h0)
  refine ⟨w.heap.size + 1, [{ target := .collected w.heap.size, args := #[] }], W1, { target := .fn (.func gf) #[], args := la ++ #[.func (.yield (w.heap.size + 1)) #[] #[]] }, W1, gf,
    la ++ #[.func (.yield (w.heap.size + 1)) #[] #[]], W1, ?_, ?_, ?_, ?_, fun _ => h1, ?_⟩
  · rw [← hW1, hrec]; exact run_enterLoop_outer _ _ _ _ _
  · simp only [resolve, hg]
    simp [go_sem]
  · intro f' _; trivial
  · simp [invoke, go_sem, eg]
  · refine (hseq (w.heap.size + 1)
      (fun pre W => I pre W ∧ W.heap[w.heap.size + 1]? = some (.loop (rec .ready)) ∧ W.heap[w.heap.size]? = some (.deferred (some [])))
      W1 (fun s A hs => hIH s A hs.1)
      ?_ ⟨hI1, hL1, hK1⟩).mono ?_
    · rintro pre x W ⟨hi, hl, hk⟩ hpre
      have hlt : w.heap.size + 1 < W.heap.size := (Array.getElem?_eq_some_iff.1 hl).1
      have hy := run_yield (P := P) (args := encs x) hl (by rw [hrec]; exact hps x)
      rw [hrec] at hy
      refine ⟨fn, _, assign, body, hy, roundIn_of_wpIn hfn (hassign _ x W _ ⟨_, run_beginRound hl (by rw [hrec]), ?_⟩)⟩
      have hl2 : (W.putObj (w.heap.size + 1) (.loop { rec .ready with state := .busy })).heap[w.heap.size + 1]? = some (.loop { rec .ready with state := .busy }) := World.putObj_heap_same hlt
      have hk2 : (W.putObj (w.heap.size + 1) (.loop { rec .ready with state := .busy })).heap[w.heap.size]? = some (.deferred (some [])) := (World.putObj_heap_other (by omega)).trans hk
      refine wpIn_mono (hbody _ pre x _ (hI.putObj _ hi (by omega) hl rfl) hpre) ?_
      rintro e a3 W3 hp
      cases e with
      | normal =>
        obtain ⟨hk3, hi3⟩ := hp
        have hl3 := hk3.same _ _ (by omega) hl2 rfl
        have hr := run_endRound (P := P) none hl3
        rw [hrec] at hr
        refine ⟨_, _, hr, rfl, ⟨hI.putObj _ hi3 (by omega) hl3 rfl, ?_, (World.putObj_heap_other (by omega)).trans (hk3.same _ _ (by omega) hk2 rfl)⟩⟩
        rw [hrec]
        exact World.putObj_heap_same (Array.getElem?_eq_some_iff.1 hl3).1
      | _ => exact hp.elim
    · rintro e W2 ⟨⟨v, rfl⟩, hi, hl, hk⟩
      exact ⟨none, _, (by have := run_endLoop (P := P) hl (by rw [hrec]; simp); rw [hrec] at this; exact this), hdone _ _ (Nat.le_refl _) (hI.putObj _ hi (by omega) hl rfl) ((World.putObj_heap_other (by omega)).trans hk)⟩
end Go.Proofs.YtlocnjenkanmpaaDoor

/-
  A line that is gone through backward, plainly: the places that have the paragraph's level, from the last one on; what stands at them is the line's levels. No program in it.
-/
set_option linter.unusedVariables false
namespace Go.Proofs.YtlocnjenkanmpaaDoor.Bi
open Go
/-- Of the d last ones of n places those of which e tells, the last one first. -/
def backS (e : Nat → Bool) (n : Nat) : Nat → List Nat
  | 0 => []
  | d + 1 => backS e n d ++ (if e (n - 1 - d) = true then [n - 1 - d] else [])
theorem backS_prefix (e : Nat → Bool) (n i : Nat) : ∀ (d : Nat), backS e n i <+: backS e n (i + d)
  | 0 => List.prefix_rfl
  | d + 1 => (backS_prefix e n i d).trans (List.prefix_append _ _)
theorem backS_mem (e : Nat → Bool) (n : Nat) : ∀ (d : Nat), d ≤ n → ∀ i, i ∈ backS e n d ↔ (n - d ≤ i ∧ i < n ∧ e i = true)
  | 0, _, i => by simp [backS]; omega
  | d + 1, hd, i => by
    unfold backS
    rw [List.mem_append, backS_mem e n d (by omega) i]
    by_cases he : e (n - 1 - d) = true
    · rw [if_pos he, List.mem_singleton]
      constructor
      · rintro (⟨h1, h2, h3⟩ | rfl)
        · exact ⟨by omega, h2, h3⟩
        · exact ⟨by omega, by omega, he⟩
      · rintro ⟨h1, h2, h3⟩
        by_cases hi : i = n - 1 - d
        · exact .inr hi
        · exact .inl ⟨by omega, h2, h3⟩
    · rw [if_neg he]
      constructor
      · rintro (⟨h1, h2, h3⟩ | h)
        · exact ⟨by omega, h2, h3⟩
        · cases h
      · rintro ⟨h1, h2, h3⟩
        by_cases hi : i = n - 1 - d
        · subst hi; exact absurd h3 he
        · exact .inl ⟨by omega, h2, h3⟩
/-- p stands at each of these places. -/
def putP (p : Int) (L : List Int) (pre : List Nat) : List Int := pre.foldl (fun o i => o.set i p) L
theorem putP_len (p : Int) : ∀ (pre : List Nat) (L : List Int), (putP p L pre).length = L.length
  | [], L => rfl
  | i :: pre, L => by
    show (putP p (L.set i p) pre).length = _
    rw [putP_len p pre]
    simp
theorem putP_snoc (p : Int) (L : List Int) (pre : List Nat) (i : Nat) : putP p L (pre ++ [i]) = (putP p L pre).set i p := by
  unfold putP
  rw [List.foldl_append]
  rfl
theorem putP_at (p : Int) : ∀ (pre : List Nat) (L : List Int) (j : Nat), (putP p L pre)[j]? = if j < L.length then some (if j ∈ pre then p else L.getD j 0) else none
  | [], L, j => by
    show L[j]? = _
    by_cases h : j < L.length
    · rw [if_pos h, if_neg (by simp), List.getElem?_eq_getElem h]
      simp [List.getD, List.getElem?_eq_getElem h]
    · rw [if_neg h, List.getElem?_eq_none (by omega)]
  | i :: pre, L, j => by
    show (putP p (L.set i p) pre)[j]? = _
    rw [putP_at p pre, List.length_set]
    by_cases h : j < L.length
    · rw [if_pos h, if_pos h]
      congr 1
      by_cases hm : j ∈ pre
      · rw [if_pos hm, if_pos (List.mem_cons_of_mem _ hm)]
      · rw [if_neg hm]
        by_cases hi : j = i
        · subst hi
          rw [if_pos (List.mem_cons_self ..)]
          simp [List.getD, h]
        · rw [if_neg (fun x => by rcases List.mem_cons.1 x with e | e; exact hi e; exact hm e)]
          simp [List.getD, List.getElem?_set_ne (Ne.symm hi)]
    · rw [if_neg h, if_neg h]
theorem put_line (p : Int) (C L : List Int) (h : C.length = L.length) : putP p L (backS (fun i => endB (C.drop i)) C.length C.length) = lineP p C L := by
  apply List.ext_getElem?
  intro j
  rw [putP_at]
  by_cases hj : j < L.length
  · rw [if_pos hj, line_at p C L j h hj]
    congr 1
    have e : (j ∈ backS (fun i => endB (C.drop i)) C.length C.length) ↔ endB (C.drop j) = true := by
      rw [backS_mem _ _ _ (Nat.le_refl _)]
      constructor
      · exact fun x => x.2.2
      · exact fun x => ⟨by omega, by omega, x⟩
    by_cases hm : endB (C.drop j) = true
    · rw [if_pos (e.2 hm), if_pos hm]
    · rw [if_neg (fun x => hm (e.1 x)), if_neg hm]
  · rw [if_neg hj, List.getElem?_eq_none (by rw [line_len p C L h]; omega)]
end Go.Proofs.YtlocnjenkanmpaaDoor.Bi

/-
  Proved here: what level.Removed returns, for every number. It leaves what was in memory.
-/
set_option linter.unusedVariables false
namespace Go.Proofs.YtlocnjenkanmpaaDoor.Lv
open Go Go.RowKit Go.Lib Go.Proofs.YtlocnjenkanmpaaDoor.Cl
set_option maxHeartbeats 1000000 in
theorem removed_any (c : Int) (w : World) :
    Calls Tryd.prog 100 #[.int .i64 c] w fun x w' => x = .returned (.bool (remB c)) ∧ w = w' := by
  unfold remB
  cases h1 : (c == 16) <;> cases h2 : (c == 14) <;> cases h3 : (c == 17) <;> cases h4 : (c == 15) <;> cases h5 : (c == 18) <;> cases h6 : (c == 9)
  all_goals
    go_enter Tryd.func100, Tryd.ntmps100
    go_wp2
    go_ret
    exact ⟨rfl, rfl⟩
end Go.Proofs.YtlocnjenkanmpaaDoor.Lv

/-
  Proved here: what bidi's parts and blank return, and what line's reset gives, from the last place on: the places that have the paragraph's level. They leave what was in memory.
-/
set_option linter.unusedVariables false
namespace Go.Proofs.YtlocnjenkanmpaaDoor.Bi
open Go Go.RowKit Go.Lib Go.Proofs.YtlocnjenkanmpaaDoor.Cl Go.Shelf
set_option maxHeartbeats 1000000 in
set_option maxRecDepth 100000 in
theorem parts_any (c : Int) (w : World) : Calls Tryd.prog 90 #[.int .i64 c] w fun e w' => e = .returned (.bool (decide (c = 11 ∨ c = 10))) ∧ w' = w := by
  cases h1 : (c == 11)
  case false =>
    cases h2 : (c == 10)
    case false =>
      have e : decide (c = 11 ∨ c = 10) = false := decide_eq_false (fun h => by rcases h with rfl | rfl <;> simp_all)
      rw [e]
      clear e
      go_enter Tryd.func90, Tryd.ntmps90
      go_wp2
      go_ret
      exact ⟨rfl, rfl⟩
    case true =>
      have e : decide (c = 11 ∨ c = 10) = true := decide_eq_true (.inr (by simpa using h2))
      rw [e]
      clear e
      go_enter Tryd.func90, Tryd.ntmps90
      go_wp2
      go_ret
      exact ⟨rfl, rfl⟩
  case true =>
    have e : decide (c = 11 ∨ c = 10) = true := decide_eq_true (.inl (by simpa using h1))
    rw [e]
    clear e
    go_enter Tryd.func90, Tryd.ntmps90
    go_wp2
    go_ret
    exact ⟨rfl, rfl⟩
set_option maxHeartbeats 2000000 in
set_option maxRecDepth 100000 in
theorem blank_any (c : Int) (w : World) : Calls Tryd.prog 91 #[.int .i64 c] w fun e w' => e = .returned (.bool (blankB c)) ∧ w' = w := by
  have hp : ∀ x : Int, (c == x) = true → c = x := fun x h => by simpa using h
  have HR := Lib.hid (fun W => Lv.removed_any c W)
  cases h1 : (c == 12)
  case' false => cases h2 : (c == 19)
  case' false.false => cases h3 : (c == 20)
  case' false.false.false => cases h4 : (c == 21)
  case' false.false.false.false => cases h5 : (c == 22)
  case false.false.false.false.false =>
    have e : blankB c = Lv.remB c := by
      have n1 : ¬ c = 12 := by simpa using h1
      unfold blankB Ba.isI Ba.isP
      rw [decide_eq_false n1, h2, h3, h4, h5]
      rfl
    rw [e]
    clear e hp
    generalize Lv.remB c = b at *
    go_enter Tryd.func91, Tryd.ntmps91
    go_wp2_with fail
    refine (HR.out _).mono ?_
    rintro e w1 ⟨rfl, rfl⟩
    go_wp2_with fail
    go_ret
    exact ⟨rfl, rfl⟩
  all_goals
    have e : blankB c = true := by
      first
      | (rw [hp 12 h1]; rfl)
      | (rw [hp 19 h2]; rfl)
      | (rw [hp 20 h3]; rfl)
      | (rw [hp 21 h4]; rfl)
      | (rw [hp 22 h5]; rfl)
    rw [e]
    clear e hp HR
    go_enter Tryd.func91, Tryd.ntmps91
    go_wp2
    go_ret
    exact ⟨rfl, rfl⟩
attribute [local go_sem] Oper.semAt_some
set_option maxHeartbeats 2000000 in
set_option maxRecDepth 100000 in
theorem reset_gives (n : Nat) (h1 : 1 ≤ n) (A : Option Addr) (N cp : Nat) (C : List Int) (hl : C.length = N) (hN : N ≤ 1099511627776) :
    Yields n Tryd.prog 68 #[.slice A N cp] (fun i : Nat => #[Value.int .i64 i]) (fun V => IntsAt V A C) (backS (fun i => endB (C.drop i)) N N) := by
  intro l J W hJ hY h0
  have HY := Lib.hid hY
  have HJ := Lib.hid hJ
  have HL := Lib.hid hl
  have H0 := Lib.hid h0
  have e0 : IntKind.i64.wrap ((N : Int) - 1) = (N : Int) - 1 := IntWalk.i64_in _ (by omega)
  clear hY hJ hl h0
  refine callsIn_of_wp Tryd.func68 rfl trivial ?_ rfl
  simp only [Tryd.ntmps68, List.size_toArray, List.length_cons, List.length_nil, Nat.reduceAdd, Nat.reduceSub, Array.replicate_succ, Array.replicate_zero, List.push_toArray, List.append_toArray, List.nil_append, List.cons_append]
  gi_wp2
  gi_loopw [4, 5] (fun s4 s5 wr => ∃ (k : Nat), k ≤ N ∧ s5 = .int .i64 ((k : Int) - 1) ∧ s4 = .bool (endB (C.drop k)) ∧ J (backS (fun i => endB (C.drop i)) N (N - k)) wr) (fun _ s5 _ => (RowKit.intOf s5 + 1).toNat)
  case atStart => exact ⟨N, Nat.le_refl _, rfl, by rw [List.drop_eq_nil_of_le (by rw [HL.out]; exact Nat.le_refl _)]; rfl, by rw [Nat.sub_self]; exact H0.out⟩
  case round =>
    obtain ⟨k, hk, rfl, rfl, hJk⟩ := hrel
    have HK := Lib.hid hJk
    clear hJk
    cases k with
    | zero =>
      gi_wp2
      go_end0
      exact ⟨⟨_, rfl⟩, by have := HK.out; rwa [Nat.sub_zero] at this⟩
    | succ k =>
      have hkz : k < C.length := by rw [HL.out]; omega
      obtain ⟨b, off, rfl, hc⟩ := (HJ.out _ _ HK.out).at_ hkz
      have HE1 := Lib.hid (fun h => endB_blank hkz h)
      have HE2 := Lib.hid (fun h => endB_stop hkz h)
      have hsn : backS (fun i => endB (C.drop i)) N (N - k) = backS (fun i => endB (C.drop i)) N (N - (k + 1)) ++ (if endB (C.drop k) = true then [k] else []) := by
        rw [show N - k = (N - (k + 1)) + 1 from by omega]
        show _ ++ (if endB (C.drop (N - 1 - (N - (k + 1)))) = true then [N - 1 - (N - (k + 1))] else []) = _
        rw [show N - 1 - (N - (k + 1)) = k from by omega]
      have HSN := Lib.hid hsn
      have HPRE := Lib.hid (fun (h : endB (C.drop k) = true) => show backS (fun i => endB (C.drop i)) N (N - (k + 1)) ++ [k] <+: backS (fun i => endB (C.drop i)) N N from by
        have h2 := hsn
        rw [if_pos h] at h2
        rw [← h2]
        have := backS_prefix (fun i => endB (C.drop i)) N (N - k) k
        rwa [show N - k + k = N from by omega] at this)
      have HBK := Lib.hid (fun W => (callsIn_wide (n := n - 1)).2 (blank_any C[k] W))
      have HPT := Lib.hid (fun W => (callsIn_wide (n := n - 1)).2 (parts_any C[k] W))
      clear hsn
      generalize C[k] = x at *
      generalize endB (C.drop (k + 1)) = e1 at *
      have e2 : (((k + 1 : Nat) : Int) - 1) = (k : Int) := by omega
      have hx0 : (0 : Int) ≤ (k : Int) := by omega
      have hx1 : (k : Int) < (N : Int) := by omega
      have e3 : IntKind.i64.wrap ((k : Int) - 1) = (k : Int) - 1 := IntWalk.i64_in _ (by omega)
      rw [e2]
      clear hkz e2
      cases hpx : decide (x = 11 ∨ x = 10) with
      | true =>
        rw [hpx] at HPT
        have HEN := Lib.hid (show endB (C.drop k) = true from by
          rw [HE2.out (by rcases of_decide_eq_true hpx with rfl | rfl <;> rfl)]
          exact hpx)
        clear HE1 HE2 HBK hpx
        obtain ⟨fn, tmps, assign, body, hy, hRn⟩ := HY.out _ k wr HK.out (HPRE.out HEN.out)
        gi_wp2_with fail
        refine ⟨trivial, (HPT.out _).mono ?_⟩
        rintro e W2 ⟨rfl, rfl⟩
        gi_wp2
        refine hRn.mono ?_
        rintro e W3 ⟨rfl, hJ3⟩
        have HJ3 := Lib.hid hJ3
        clear hJ3
        gi_wp2
        go_roundw
        case rel => exact ⟨k, by omega, rfl, by rw [HEN.out], by rw [HSN.out, if_pos HEN.out]; exact HJ3.out⟩
        case measure => simp [RowKit.intOf]
      | false =>
        rw [hpx] at HPT
        cases hbx : blankB x with
        | true =>
          rw [hbx] at HBK
          have HEN := Lib.hid (HE1.out hbx)
          clear HE1 HE2 hpx hbx
          cases e1 with
          | true =>
            obtain ⟨fn, tmps, assign, body, hy, hRn⟩ := HY.out _ k wr HK.out (HPRE.out HEN.out)
            gi_wp2_with fail
            refine ⟨trivial, (HPT.out _).mono ?_⟩
            rintro e W2 ⟨rfl, rfl⟩
            gi_wp2_with fail
            refine ⟨trivial, (HBK.out _).mono ?_⟩
            rintro e W2 ⟨rfl, rfl⟩
            gi_wp2
            refine hRn.mono ?_
            rintro e W3 ⟨rfl, hJ3⟩
            have HJ3 := Lib.hid hJ3
            clear hJ3
            gi_wp2
            go_roundw
            case rel => exact ⟨k, by omega, rfl, by rw [HEN.out], by rw [HSN.out, if_pos HEN.out]; exact HJ3.out⟩
            case measure => simp [RowKit.intOf]
          | false =>
            gi_wp2_with fail
            refine ⟨trivial, (HPT.out _).mono ?_⟩
            rintro e W2 ⟨rfl, rfl⟩
            gi_wp2_with fail
            refine ⟨trivial, (HBK.out _).mono ?_⟩
            rintro e W2 ⟨rfl, rfl⟩
            gi_wp2
            all_goals (try (refine ⟨fun _ h => (by cases h), ?_⟩; gi_wp2))
            go_roundw
            case rel => exact ⟨k, by omega, rfl, by rw [HEN.out], by rw [HSN.out, if_neg (by rw [HEN.out]; decide), List.append_nil]; exact HK.out⟩
            case measure => simp [RowKit.intOf]
        | false =>
          rw [hbx] at HBK
          have HEN := Lib.hid (show endB (C.drop k) = false from by rw [HE2.out hbx]; exact hpx)
          clear HE1 HE2 hpx hbx
          gi_wp2_with fail
          refine ⟨trivial, (HPT.out _).mono ?_⟩
          rintro e W2 ⟨rfl, rfl⟩
          gi_wp2_with fail
          refine ⟨trivial, (HBK.out _).mono ?_⟩
          rintro e W2 ⟨rfl, rfl⟩
          gi_wp2
          all_goals (try (refine ⟨fun _ h => (by cases h), ?_⟩; gi_wp2))
          go_roundw
          case rel => exact ⟨k, by omega, rfl, by rw [HEN.out], by rw [HSN.out, if_neg (by rw [HEN.out]; decide), List.append_nil]; exact HK.out⟩
          case measure => simp [RowKit.intOf]
end Go.Proofs.YtlocnjenkanmpaaDoor.Bi

/-
  Proved here: what slices.Clone returns for a row of ints: a row of the call's own with the same numbers (nil for nil). It leaves what was in memory.
-/
set_option linter.unusedVariables false
namespace Go.Proofs.YtlocnjenkanmpaaDoor.Wk
open Go Go.RowKit Go.Lib Go.Proofs.YtlocnjenkanmpaaDoor.Cl
theorem clone_any (A : Option Addr) (zs : List Int) (n c : Nat) (w : World) (hR : IntsAt w A zs) (hl : zs.length = n) (hn : n ≤ 1099511627776) :
    Calls Tryd.prog 66 #[.slice A n c] w fun e w' => ∃ A' c', e = .returned (.slice A' n c') ∧ w'.ownsRow w.heap.size 3 1 (.slice A' n c') n (icl zs) ∧ Below w.heap.size w w' := by
  cases A with
  | none =>
    have h0 : n = 0 := by rw [← hl]; exact hR.nil_len rfl
    subst h0
    obtain rfl : zs = [] := List.eq_nil_of_length_eq_zero hl
    refine (Tryd.slices_Clone_int_nil 0 c w).mono ?_
    rintro e w' ⟨rfl, rfl⟩
    exact ⟨_, _, rfl, World.ownsRow_nil _ _ _ _, Below.refl _ _⟩
  | some ad =>
    rcases hR with rfl | ⟨b, off, e, hb, hz⟩
    · obtain rfl : n = 0 := hl.symm
      refine (Tryd.slices_Clone_int_zero ad c w).mono ?_
      rintro e w' ⟨v', rfl, h1, -, h2⟩
      obtain ⟨A', c', rfl, -⟩ := intsAt_icl (zs := []) (n := 0) h1 rfl
      exact ⟨_, _, rfl, h1, h2⟩
    · injection e with e
      subst e
      refine (Tryd.slices_Clone_int b off n c zs w (by omega) (by omega) (fun j hj => hz j _ (by rw [List.getElem?_eq_getElem hj, List.getD_eq_getElem?_getD, List.getElem?_eq_getElem hj]; rfl))).mono ?_
      rintro e w' ⟨v', rfl, h1, -, h2⟩
      rw [← hl, List.take_length] at h1
      obtain ⟨A', c', rfl, -⟩ := intsAt_icl (zs := zs) (n := zs.length) h1 rfl
      rw [hl] at h1 ⊢
      exact ⟨_, _, rfl, h1, h2⟩
end Go.Proofs.YtlocnjenkanmpaaDoor.Wk
