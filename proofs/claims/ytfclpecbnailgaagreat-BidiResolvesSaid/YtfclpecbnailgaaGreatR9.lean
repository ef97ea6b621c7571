/-
  Several texts in one, each with its own remark: WkClone, WkWeak, RoundKit, RangeKit, StopsKit, PbDown, PrMore, PrRows, PbFindAt, PbFiFrame.
-/
import Derived.RangeFuncNested
import Derived.RangeFuncBound
import Derived.RangeFuncCalls
import Derived.RangeFuncLeaves
import Derived.RangeFuncBox
import Derived.Shelf.Abstract
import Derived.Shelf.RegionOpen
import Derived.WalkKit
import Derived.OwnWalkIn
import Derived.TacticsInMore
import Derived.LoopNIn
import Derived.LoopIn
import Derived.Deep.RegionHeld3
import Derived.RangeFuncWrites
import Derived.IntWalk
import Derived.Lib.Hide
import Derived.Test.YtfclpecbnailgaaGreatR2
import Derived.Test.YtfclpecbnailgaaGreatShelf
import Derived.Test.YtfclpecbnailgaaGreatRWkRules
import Derived.Test.YtfclpecbnailgaaGreatRows
import Derived.Test.YtfclpecbnailgaaGreatR6
import Derived.Test.YtfclpecbnailgaaGreatR4

/-
 Proved here: what slices.Clone returns for a row of ints: a row of the call's own with the same numbers (nil for nil). It leaves what was in memory.
-/
set_option linter.unusedVariables false
namespace Go.Proofs.YtfclpecbnailgaaGreat.Wk
open Go Go.RowKit Go.Lib Go.Proofs.YtfclpecbnailgaaGreat.Cl
theorem clone_any (A : Option Addr) (zs : List Int) (n c : Nat) (w : World) (hR : IntsAt w A zs) (hl : zs.length = n) (hn : n ≤ 1099511627776) :
  Calls Tryz.prog 37 #[.slice A n c] w fun e w' => ∃ A' c', e = .returned (.slice A' n c') ∧ w'.ownsRow w.heap.size 3 1 (.slice A' n c') n (icl zs) ∧ Below w.heap.size w w' := by
 cases A with
 | none =>
  have h0 : n = 0 := by rw [← hl]; exact hR.nil_len rfl
  subst h0
  obtain rfl : zs = [] := List.eq_nil_of_length_eq_zero hl
  refine (Tryz.slices_Clone_int_nil 0 c w).mono ?_
  rintro e w' ⟨rfl, rfl⟩
  exact ⟨_, _, rfl, World.ownsRow_nil _ _ _ _, Below.refl _ _⟩
 | some ad =>
  rcases hR with rfl | ⟨b, off, e, hb, hz⟩
  ·obtain rfl : n = 0 := hl.symm
   refine (Tryz.slices_Clone_int_zero ad c w).mono ?_
   rintro e w' ⟨v', rfl, h1, -, h2⟩
   obtain ⟨A', c', rfl, -⟩ := intsAt_icl (zs := []) (n := 0) h1 rfl
   exact ⟨_, _, rfl, h1, h2⟩
  ·injection e with e
   subst e
   refine (Tryz.slices_Clone_int b off n c zs w (by omega) (by omega) (fun j hj => hz j _ (by rw [List.getElem?_eq_getElem hj, List.getD_eq_getElem?_getD, List.getElem?_eq_getElem hj]; rfl))).mono ?_
   rintro e w' ⟨v', rfl, h1, -, h2⟩
   rw [← hl, List.take_length] at h1
   obtain ⟨A', c', rfl, -⟩ := intsAt_icl (zs := zs) (n := zs.length) h1 rfl
   rw [hl] at h1 ⊢
   exact ⟨_, _, rfl, h1, h2⟩
end Go.Proofs.YtfclpecbnailgaaGreat.Wk

/-
 Proved here: what weak.Weak returns, for every row of numbers of at most 2^40 and every direction ahead: a new row, by the plain weak. It leaves what was in memory.
-/
set_option linter.unusedVariables false
namespace Go.Proofs.YtfclpecbnailgaaGreat.Wk
open Go Go.RowKit Go.Lib Go.Proofs.YtfclpecbnailgaaGreat.Cl
/-- What the row holds behind so many rules. -/
def upTo (s : Int) (l : List Int) (k : Nat) : List Int := ((theRules s).take k).foldl (fun x r => r x) l
theorem upTo_all (s : Int) (l : List Int) : upTo s l 9 = weak s l := rfl
theorem upTo_step (s : Int) (l : List Int) (k : Nat) (r : List Int → List Int) (h : (theRules s)[k]? = some r) : upTo s l (k + 1) = r (upTo s l k) := by
 unfold upTo
 obtain ⟨hk, rfl⟩ := List.getElem?_eq_some_iff.1 h
 rw [List.take_succ_eq_append_getElem hk, List.foldl_append]
 rfl
set_option maxHeartbeats 2000000 in
set_option maxRecDepth 100000 in
theorem weak_any (A : Option Addr) (zs : List Int) (n c : Nat) (s : Int) (w : World) (hR : IntsAt w A zs) (hl : zs.length = n) (hn : n ≤ 1099511627776) :
  Calls Tryz.prog 55 #[.slice A n c, .int .i64 s] w fun e w' => ∃ A' c', e = .returned (.slice A' n c') ∧ w'.ownsRow w.heap.size 3 1 (.slice A' n c') n (icl (weak s zs)) ∧ Below w.heap.size w w' := by
 have HC := Lib.hid (clone_any A zs n c w hR hl hn)
 have HN := Lib.hid hn
 clear hR hl
 go_enter Tryz.func55, Tryz.ntmps55
 go_wp2_with fail
 refine HC.out.mono ?_
 rintro e w1 ⟨A', c', rfl, hown, hb⟩
 have hu : Under A' n c' w1.heap.size := fun b hb => (hown.lt b hb).2
 have HO := Lib.hid hown
 have HB1 := Lib.hid hb
 have HU := Lib.hid hu
 have HBB := Lib.hid (below_made w1 (.cells #[.slice A' n c', .int .i64 s] 119))
 clear hown hb hu HC
 go_wp2_with fail
 have HUX := Lib.hid (HU.out.mono HBB.out.size)
 have C0 := Lib.hid (newer w1 #[.slice A' n c', .int .i64 s] 119 w1.heap.size 0 _ rfl rfl)
 have N0 := Lib.hid (HU.out.ne (Nat.le_refl w1.heap.size))
 generalize w1.alloc (.cells #[.slice A' n c', .int .i64 s] 119) = w2 at *
 refine (rules_any w.heap.size A' n c' s w2 HUX.out HN.out).mono ?_
 rintro e w3 ⟨fv, rfl, ⟨h, fs, rfl, hle, hrs⟩, hb3⟩
 have HRS := Lib.hid hrs
 have H9 := Lib.hid (show fs.length = 9 from hrs.len)
 have NH := Lib.hid (HUX.out.ne hle)
 have HB3 := Lib.hid (HBB.out.trans (hb3.mono HBB.out.size))
 have C3 := Lib.hid (C0.out |> fun h => (hb3.cell (World.block_lt_of_cell? w2 _ h)).trans h)
 have HROW := Lib.hid (Row.start (HO.out |> fun h => ownsRow_below h HB3.out))
 clear hle hrs hb3
 go_wp2_with fail
 go_loopw [15] (fun s15 wx => ∃ k : Nat, k ≤ 9 ∧ s15 = .int .i64 k ∧ Row w.heap.size A' n c' w3 (upTo s zs k) wx) (fun s15 _ => 9 - (RowKit.intOf s15).toNat)
 case atStart => exact ⟨0, by omega, rfl, HROW.out⟩
 case round =>
  obtain ⟨k, hk, rfl, hrow⟩ := hrel
  have HR := Lib.hid hrow
  by_cases hlt : k < 9
  ·have hfk : fs[k]? = some (fs[k]'(by rw [H9.out]; exact hlt)) := List.getElem?_eq_getElem _
   obtain ⟨f, hf⟩ : ∃ f, fs[k]'(by rw [H9.out]; exact hlt) = f := ⟨_, rfl⟩
   rw [hf] at hfk
   clear hf
   have hrk : (theRules s)[k]? = some ((theRules s)[k]'hlt) := List.getElem?_eq_getElem _
   obtain ⟨r, hr⟩ : ∃ r, (theRules s)[k]'hlt = r := ⟨_, rfl⟩
   rw [hr] at hrk
   clear hr
   have hcell := hrow.cell (HRS.out.cell k f hfk) NH.out
   obtain ⟨q, mid, caps, rfl, henter, hcall⟩ := HRS.out.rule k f r hfk hrk
   have HC := Lib.hid (hcall wr (upTo s zs k) hrow.gr hrow.own)
   have HST := Lib.hid (upTo_step s zs k r hrk)
   have HEN := Lib.hid henter
   clear hrow hfk hrk hcall henter
   go_wp2_with fail
   rw [HEN.out]
   refine Calls.mono HC.out ?_
   rintro e W' ⟨rfl, hrow'⟩
   rw [← HST.out] at hrow'
   have HR' := Lib.hid (show Row w.heap.size A' n c' w3 (upTo s zs (k + 1)) W' from ⟨hrow'.own, grown_trans HR.out.gr hrow'.gr⟩)
   clear hrow' hcell
   go_wp2
   go_roundw
   case rel => exact ⟨k + 1, by omega, by go_num, HR'.out⟩
   case measure => simp [RowKit.intOf]; omega
  ·obtain rfl : k = 9 := by omega
   have C4 := hrow.cell C3.out N0.out
   clear hrow hlt
   go_wp2
   go_ret
   have h1 := HR.out
   rw [upTo_all] at h1
   exact ⟨_, _, rfl, h1.own, (HB1.out.trans (HB3.out.mono HB1.out.size)).grown h1.gr (Nat.le_trans HB1.out.size HB3.out.size) (fun k hk => (h1.base k hk).1)⟩
end Go.Proofs.YtfclpecbnailgaaGreat.Wk

/-
 A loop's body inside a round of a range over a function, at the wide fence: its regions may be walked as everywhere. No program in it.
-/
set_option linter.unusedVariables false
namespace Go.Proofs.YtfclpecbnailgaaGreat
open Go Go.RowKit
theorem rows_round {l n : Nat} {P : Program} {row : String} {args : Array Value} {w : World} {R : Value → World → Prop} (h : Rows P row args w R) : RowsIn (Fence.wide.inRound l) n P row args w R :=
 fun c cs _ => by
  obtain ⟨v, w', h1, h2⟩ := h c cs
  exact ⟨v, w', h1, stepsIn_wide.2 h2⟩
theorem oper_round {l n : Nat} {P : Program} {o : Oper} {a : Act} {w : World} {K : Act → World → Prop} {Q : Exit → Act → World → Prop} (hd : ∀ c, o.op ≠ .defer c) (h : o.wp P a w K Q) : o.wpIn (Fence.wide.inRound l) n P a w K Q := by
 unfold Oper.wpIn
 rw [Oper.semAt_eq _ _ _ hd]
 unfold Oper.wp at h
 refine ⟨fun _ _ => trivial, ?_⟩
 generalize (execOp a.eval o).run P w = r at *
 cases r with
 | ok x w' =>
  cases x with
  | value v => exact h
  | skip => exact h
  | defer d => exact h
  | enter f args => exact ⟨(fun h0 => by cases h0), CallsIn.inRound l (callsIn_wide.2 h)⟩
  | row r args => exact ⟨(fun h0 => by cases h0), rows_round h⟩
  | round _ _ _ _ _ => exact h.elim
  | _ => exact h.elim
 | halt x w' => cases x <;> exact h
def noDefer (ops : Array Oper) : Bool := ops.all fun o => match o.op with
 | .defer _ => false
 | _ => true
theorem noDefer_at {ops : Array Oper} (h : noDefer ops = true) {i : Nat} {o : Oper} (ho : ops[i]? = some o) : ∀ c, o.op ≠ .defer c := by
 intro c e
 unfold noDefer at h
 rw [Array.all_eq_true] at h
 obtain ⟨hi, he⟩ := Array.getElem?_eq_some_iff.1 ho
 have := h i hi
 rw [he, e] at this
 cases this
theorem op_round {l n : Nat} {P : Program} {ops : Array Oper} {Q : Exit → Act → World → Prop} {i : Nat} {K K' : Act → World → Prop} {a : Act} {w : World} (hnd : noDefer ops = true) (hL : ¬ LetsOut Q) (hk : ∀ a w, K a w → K' a w) (h : wpOp P ops Q i K a w) : wpOpIn (Fence.wide.inRound l) n P ops Q i K' a w := by
 unfold wpOp at h
 unfold wpOpIn
 split
 ·rename_i e
  simp only [e] at h
  exact hk _ _ h
 ·rename_i o e
  simp only [e] at h
  split
  ·rename_i hw
   rw [if_pos hw] at h
   rcases h with h | h
   ·exact oper_round (noDefer_at hnd e) (Oper.wp_mono hk h)
   ·exact absurd h.2 hL
  ·rename_i hw
   rw [if_neg hw] at h
   exact ⟨fun _ _ => trivial, hk _ _ h⟩
theorem any_round {l n : Nat} {P : Program} {md : Region.Mode} {ops : Array Oper} {Q : Exit → Act → World → Prop} (hnd : noDefer ops = true) (hL : ¬ LetsOut Q) : ∀ (fuel : Nat) (listed : Array Bool) (a : Act) (w : World), wpAny P md ops Q fuel listed a w → wpAnyIn (Fence.wide.inRound l) n P md ops Q fuel listed a w
 | 0, _, _, _, h => h
 | fuel + 1, _, _, _, h => ⟨h.1, fun i hi => op_round hnd hL (fun a w h' => any_round hnd hL fuel _ a w h') (h.2 i hi)⟩
/-- A region that draws its order. -/
theorem round_drawn {l n : Nat} {P : Program} {ops : Array Oper} {Q : Exit → Act → World → Prop} {S : World → Prop} {id : Nat} {a : Act} {w : World} (hm : P.follows .mixedOrders = true) (hnd : noDefer ops = true) (hL : ¬ LetsOut Q) (hS : S w.drew)
  (h : S w.drew → wpAnyH P .any ops Q S ops.size (Array.replicate ops.size false) a w.drew) : (Code.region id ops true).wpIn (Fence.wide.inRound l) n P Q a w :=
 wpIn_region_any hm (any_round hnd hL _ _ _ _ (wpAny_of_held _ _ _ _ (h hS)))
end Go.Proofs.YtfclpecbnailgaaGreat

/-
 A range over a method value whose rounds always go on: what the loop owes is an invariant and one walk of its body; the body knows what has come. No program in it.
-/
set_option linter.unusedVariables false
namespace Go.Proofs.YtfclpecbnailgaaGreat
open Go Go.RowKit
/-- How a round's body ends: it goes on. -/
def RoundEnd (n₀ B : Nat) (I : World → Prop) (W : World) : Exit → Act → World → Prop
 | .normal, _, W' => KeepsFrom B W W' ∧ Below n₀ W W' ∧ I W'
 | _, _, _ => False
/-- What an iterator by a method value keeps to. -/
def Gives {α : Type} (n : Nat) (P : Program) (gf : Nat) (la : Array Value) (encs : α → Array Value) (n₀ : Nat) (xs : List α) (w : World) : Prop :=
 ∀ (l : Nat) (J : List α → World → Prop) (W : World), Below w.heap.size w W → (∀ s A o, J s A → J s (A.alloc o)) →
  (∀ pre x W1, J pre W1 → pre ++ [x] <+: xs → YieldAt Fence.wide (n - 1) P l (encs x) W1 fun e W' => e = .returned (.bool true) ∧ J (pre ++ [x]) W' ∧ Below n₀ W1 W') →
  J [] W → CallsIn Fence.wide n P gf (la ++ #[.func (.yield l) #[] #[]]) W fun e W' => (∃ v, e = .returned v) ∧ J xs W'
theorem wp_rangeMethod {α : Type} {P : Program} {n : Nat} {g : Operand} {ps : Array Tmp} {assign body : Code} {Q : Exit → Act → World → Prop} {a : Act} {w : World}
  (h1 : 1 ≤ n) {gf : Nat} {la : Array Value} (hg : a.eval g = .func (.func gf) la #[]) (eg : ∀ args w, (callFunc gf args).run P w = .ok (.enter gf args) w)
  {encs : α → Array Value} {n₀ : Nat} {xs : List α} {w0 : World} (hseq : Gives (n - 1) P gf la encs n₀ xs w0) (hb0 : Below w0.heap.size w0 w) (hn₀ : n₀ ≤ w.heap.size) (hps : ∀ x, (encs x).size = ps.size)
  (I : List α → World → Prop) (hI : OwnFrom w.heap.size I) (h0 : I [] w) (a₁ : α → Act)
  (hassign : ∀ (l : Nat) (x : α) (W : World) (K : Act → World → Prop), K (a₁ x) W →
   assign.wpIn (Fence.wide.inRound l) (n - 1 - 1) P (Exit.then K (fun _ _ _ => False)) { tmps := (ps.zip (encs x)).foldl (fun t (p, v) => t.setIfInBounds p v) a.tmps, defers := [] } W)
  (hbody : ∀ (l : Nat) (pre : List α) (x : α) (W : World), I pre W → pre ++ [x] <+: xs → body.wpIn (Fence.wide.inRound l) (n - 1 - 1) P (RoundEnd n₀ w.heap.size (I (pre ++ [x])) W) (a₁ x) W)
  (hdone : ∀ (D : Nat) (W : World), w.heap.size ≤ D → I xs W → W.heap[D]? = some (.deferred (some [])) → Q .normal { a with defers := { target := .collected D, args := #[] } :: a.defers } W) :
  (Code.rangeFunc g ps assign body).wpIn Fence.wide n P Q a w := by
 refine wpIn_rangeFunc ?_
 intro fn hfn
 obtain ⟨rec, hrec⟩ : ∃ rec : LoopState → Loop, rec = fun st => { state := st, pending := none, fn, tmps := a.tmps, params := ps, assign, body, defers := w.heap.size } := ⟨_, rfl⟩
 obtain ⟨W1, hW1⟩ : ∃ W1, (w.alloc (.deferred (some []))).alloc (.loop (rec .ready)) = W1 := ⟨_, rfl⟩
 have hL1 : W1.heap[w.heap.size + 1]? = some (.loop (rec .ready)) := by
  rw [← hW1]; have := World.alloc_heap_new (w.alloc (.deferred (some []))) (.loop (rec .ready)); rwa [World.size_alloc] at this
 have hK1 : W1.heap[w.heap.size]? = some (.deferred (some [])) := by
  rw [← hW1]; exact (Below.heap_alloc _ _ _ (by simp)).trans (World.alloc_heap_new w _)
 have hI1 : I [] W1 := by rw [← hW1]; exact hI.alloc _ (hI.alloc _ h0)
 have hb1 : Below w0.heap.size w0 W1 := by
  rw [← hW1]; exact hb0.trans ((((Below.refl _ w).alloc (Nat.le_refl _) _).alloc (by simp) _).mono hb0.size)
 refine ⟨w.heap.size + 1, [{ target := .collected w.heap.size, args := #[] }], W1, { target := .fn (.func gf) #[], args := la ++ #[.func (.yield (w.heap.size + 1)) #[] #[]] }, W1, gf,
  la ++ #[.func (.yield (w.heap.size + 1)) #[] #[]], W1, ?_, ?_, ?_, ?_, fun _ => h1, ?_⟩
 ·rw [← hW1, hrec]; exact run_enterLoop_outer _ _ _ _ _
 ·simp only [resolve, hg]
  simp [go_sem]
 ·intro f' _; trivial
 ·simp [invoke, go_sem, eg]
 ·refine (hseq (w.heap.size + 1)
   (fun pre W => I pre W ∧ W.heap[w.heap.size + 1]? = some (.loop (rec .ready)) ∧ W.heap[w.heap.size]? = some (.deferred (some [])))
   W1 hb1
   (fun s A o hs => ⟨hI.alloc _ hs.1, (Below.heap_alloc A o _ (Array.getElem?_eq_some_iff.1 hs.2.1).1).trans hs.2.1, (Below.heap_alloc A o _ (Array.getElem?_eq_some_iff.1 hs.2.2).1).trans hs.2.2⟩)
   ?_ ⟨hI1, hL1, hK1⟩).mono ?_
  ·rintro pre x W ⟨hi, hl, hk⟩ hpre
   have hlt : w.heap.size + 1 < W.heap.size := (Array.getElem?_eq_some_iff.1 hl).1
   have hy := run_yield (P := P) (args := encs x) hl (by rw [hrec]; exact hps x)
   rw [hrec] at hy
   refine ⟨fn, _, assign, body, hy, roundIn_of_wpIn hfn (hassign _ x W _ ⟨_, run_beginRound hl (by rw [hrec]), ?_⟩)⟩
   have hl2 : (W.putObj (w.heap.size + 1) (.loop { rec .ready with state := .busy })).heap[w.heap.size + 1]? = some (.loop { rec .ready with state := .busy }) := World.putObj_heap_same hlt
   have hk2 : (W.putObj (w.heap.size + 1) (.loop { rec .ready with state := .busy })).heap[w.heap.size]? = some (.deferred (some [])) := (World.putObj_heap_other (by omega)).trans hk
   have hw2 : Below n₀ W (W.putObj (w.heap.size + 1) (.loop { rec .ready with state := .busy })) := belowK_b hn₀ _ _ _ _ (by omega) hl rfl rfl
   refine wpIn_mono (hbody _ pre x _ (hI.putObj _ hi (by omega) hl rfl) hpre) ?_
   rintro e a3 W3 hp
   cases e with
   | normal =>
    obtain ⟨hk3, hkp3, hi3⟩ := hp
    have hl3 := hk3.same _ _ (by omega) hl2 rfl
    have hr := run_endRound (P := P) none hl3
    rw [hrec] at hr
    refine ⟨_, _, hr, rfl, ⟨hI.putObj _ hi3 (by omega) hl3 rfl, ?_, (World.putObj_heap_other (by omega)).trans (hk3.same _ _ (by omega) hk2 rfl)⟩, (hw2.trans hkp3).trans (belowK_b hn₀ _ _ _ _ (by omega) hl3 rfl rfl)⟩
    rw [hrec]
    exact World.putObj_heap_same (Array.getElem?_eq_some_iff.1 hl3).1
   | _ => exact hp.elim
  ·rintro e W2 ⟨⟨v, rfl⟩, hi, hl, hk⟩
   exact ⟨none, _, (by have := run_endLoop (P := P) hl (by rw [hrec]; simp); rw [hrec] at this; exact this), hdone _ _ (Nat.le_refl _) (hI.putObj _ hi (by omega) hl rfl) ((World.putObj_heap_other (by omega)).trans hk)⟩
end Go.Proofs.YtfclpecbnailgaaGreat

/-
 A range over a method value whose rounds may leave the loop: what the loop owes is an invariant, what holds where a round leaves, and one walk of its body; a function's end behind many such loops. And a region inside a round that draws its order, each operation by its own word. No program in it.
-/
set_option linter.unusedVariables false
namespace Go.Proofs.YtfclpecbnailgaaGreat
open Go Go.RowKit
/-- What an iterator by a method value keeps to, where a round may say that no more is wanted. -/
def Stops {α : Type} (n : Nat) (P : Program) (gf : Nat) (la : Array Value) (encs : α → Array Value) (n₀ : Nat) (xs : List α) (w : World) : Prop :=
 ∀ (l : Nat) (J Jx : List α → World → Prop) (W : World), Below w.heap.size w W → (∀ s A o, J s A → J s (A.alloc o)) →
  (∀ pre x W1, J pre W1 → pre ++ [x] <+: xs → YieldAt Fence.wide (n - 1) P l (encs x) W1 fun e W' => (e = .returned (.bool true) ∧ J (pre ++ [x]) W' ∧ Below n₀ W1 W') ∨ (e = .returned (.bool false) ∧ Jx (pre ++ [x]) W')) →
  J [] W → CallsIn Fence.wide n P gf (la ++ #[.func (.yield l) #[] #[]]) W fun e W' => (∃ v, e = .returned v) ∧ (J xs W' ∨ ∃ pre, Jx pre W')
theorem wp_rangeStops {α : Type} {P : Program} {n : Nat} {g : Operand} {ps : Array Tmp} {assign body : Code} {Q : Exit → Act → World → Prop} {a : Act} {w : World}
  (h1 : 1 ≤ n) {gf : Nat} {la : Array Value} (hg : a.eval g = .func (.func gf) la #[]) (eg : ∀ args w, (callFunc gf args).run P w = .ok (.enter gf args) w)
  {encs : α → Array Value} {n₀ : Nat} {xs : List α} {w0 : World} (hseq : Stops (n - 1) P gf la encs n₀ xs w0) (hb0 : Below w0.heap.size w0 w) (hn₀ : n₀ ≤ w.heap.size) (hps : ∀ x, (encs x).size = ps.size)
  (I : List α → World → Prop) (Ix : Code → List α → World → Prop) (hI : OwnFrom w.heap.size I) (hIx : ∀ c, OwnFrom w.heap.size (Ix c)) (h0 : I [] w) (a₁ : α → Act)
  (hassign : ∀ (l : Nat) (x : α) (W : World) (K : Act → World → Prop), K (a₁ x) W →
   assign.wpIn (Fence.wide.inRound l) (n - 1 - 1) P (Exit.then K (fun _ _ _ => False)) { tmps := (ps.zip (encs x)).foldl (fun t (p, v) => t.setIfInBounds p v) a.tmps, defers := [] } W)
  (hbody : ∀ (l : Nat) (pre : List α) (x : α) (W : World), I pre W → pre ++ [x] <+: xs → body.wpIn (Fence.wide.inRound l) (n - 1 - 1) P (ownPostG w.heap.size (Below n₀) I Ix (pre ++ [x]) W) (a₁ x) W)
  (hdone : ∀ (D : Nat) (W : World), w.heap.size ≤ D → I xs W → W.heap[D]? = some (.deferred (some [])) → Q .normal { a with defers := { target := .collected D, args := #[] } :: a.defers } W)
  (hstop : ∀ (D : Nat) (c : Code) (pre : List α) (W : World), w.heap.size ≤ D → Ix c pre W → W.heap[D]? = some (.deferred (some [])) → c.wpIn Fence.wide n P Q { a with defers := { target := .collected D, args := #[] } :: a.defers } W) :
  (Code.rangeFunc g ps assign body).wpIn Fence.wide n P Q a w := by
 refine wpIn_rangeFunc ?_
 intro fn hfn
 obtain ⟨rec, hrec⟩ : ∃ rec : LoopState → Option Code → Loop, rec = fun st pe => { state := st, pending := pe, fn, tmps := a.tmps, params := ps, assign, body, defers := w.heap.size } := ⟨_, rfl⟩
 obtain ⟨W1, hW1⟩ : ∃ W1, (w.alloc (.deferred (some []))).alloc (.loop (rec .ready none)) = W1 := ⟨_, rfl⟩
 have hL1 : W1.heap[w.heap.size + 1]? = some (.loop (rec .ready none)) := by
  rw [← hW1]; have := World.alloc_heap_new (w.alloc (.deferred (some []))) (.loop (rec .ready none)); rwa [World.size_alloc] at this
 have hK1 : W1.heap[w.heap.size]? = some (.deferred (some [])) := by
  rw [← hW1]; exact (Below.heap_alloc _ _ _ (by simp)).trans (World.alloc_heap_new w _)
 have hI1 : I [] W1 := by rw [← hW1]; exact hI.alloc _ (hI.alloc _ h0)
 have hb1 : Below w0.heap.size w0 W1 := by
  rw [← hW1]; exact hb0.trans ((((Below.refl _ w).alloc (Nat.le_refl _) _).alloc (by simp) _).mono hb0.size)
 refine ⟨w.heap.size + 1, [{ target := .collected w.heap.size, args := #[] }], W1, { target := .fn (.func gf) #[], args := la ++ #[.func (.yield (w.heap.size + 1)) #[] #[]] }, W1, gf,
  la ++ #[.func (.yield (w.heap.size + 1)) #[] #[]], W1, ?_, ?_, ?_, ?_, fun _ => h1, ?_⟩
 ·rw [← hW1, hrec]; exact run_enterLoop_outer _ _ _ _ _
 ·simp only [resolve, hg]
  simp [go_sem]
 ·intro f' _; trivial
 ·simp [invoke, go_sem, eg]
 ·refine (hseq (w.heap.size + 1)
   (fun pre W => I pre W ∧ W.heap[w.heap.size + 1]? = some (.loop (rec .ready none)) ∧ W.heap[w.heap.size]? = some (.deferred (some [])))
   (fun pre W => ∃ c, Ix c pre W ∧ W.heap[w.heap.size + 1]? = some (.loop (rec .done (some c))) ∧ W.heap[w.heap.size]? = some (.deferred (some [])))
   W1 hb1
   (fun s A o hs => ⟨hI.alloc _ hs.1, (Below.heap_alloc A o _ (Array.getElem?_eq_some_iff.1 hs.2.1).1).trans hs.2.1, (Below.heap_alloc A o _ (Array.getElem?_eq_some_iff.1 hs.2.2).1).trans hs.2.2⟩)
   ?_ ⟨hI1, hL1, hK1⟩).mono ?_
  ·rintro pre x W ⟨hi, hl, hk⟩ hpre
   have hlt : w.heap.size + 1 < W.heap.size := (Array.getElem?_eq_some_iff.1 hl).1
   have hy := run_yield (P := P) (args := encs x) hl (by rw [hrec]; exact hps x)
   rw [hrec] at hy
   refine ⟨fn, _, assign, body, hy, roundIn_of_wpIn hfn (hassign _ x W _ ⟨_, run_beginRound hl (by rw [hrec]), ?_⟩)⟩
   have hl2 : (W.putObj (w.heap.size + 1) (.loop { rec .ready none with state := .busy })).heap[w.heap.size + 1]? = some (.loop { rec .ready none with state := .busy }) := World.putObj_heap_same hlt
   have hk2 : (W.putObj (w.heap.size + 1) (.loop { rec .ready none with state := .busy })).heap[w.heap.size]? = some (.deferred (some [])) := (World.putObj_heap_other (by omega)).trans hk
   have hw2 : Below n₀ W (W.putObj (w.heap.size + 1) (.loop { rec .ready none with state := .busy })) := belowK_b hn₀ _ _ _ _ (by omega) hl rfl rfl
   refine wpIn_mono (hbody _ pre x _ (hI.putObj _ hi (by omega) hl rfl) hpre) ?_
   have fin : ∀ (jump : Option Code) (W3 : World), KeepsFrom w.heap.size (W.putObj (w.heap.size + 1) (.loop { rec .ready none with state := .busy })) W3 →
     (Instr.endRound (w.heap.size + 1) jump).run P W3 = .ok (.bool jump.isNone) (W3.putObj (w.heap.size + 1) (.loop (rec (if jump.isNone then .ready else .done) jump))) ∧
     W3.heap[w.heap.size + 1]? = some (.loop { rec .ready none with state := .busy }) ∧
     (W3.putObj (w.heap.size + 1) (.loop (rec (if jump.isNone then .ready else .done) jump))).heap[w.heap.size + 1]? = some (.loop (rec (if jump.isNone then .ready else .done) jump)) ∧
     (W3.putObj (w.heap.size + 1) (.loop (rec (if jump.isNone then .ready else .done) jump))).heap[w.heap.size]? = some (.deferred (some [])) := fun jump W3 hk3 => by
    have hl3 := hk3.same _ _ (by omega) hl2 rfl
    have := run_endRound (P := P) jump hl3
    rw [hrec] at this ⊢
    exact ⟨this, by rw [hrec] at hl3; exact hl3, World.putObj_heap_same (Array.getElem?_eq_some_iff.1 hl3).1, (World.putObj_heap_other (by omega)).trans (hk3.same _ _ (Nat.le_refl _) hk2 rfl)⟩
   rintro e a3 W3 hp
   cases e with
   | normal =>
    obtain ⟨hk3, hkp3, hi3⟩ := hp
    obtain ⟨hr, hl3, hl4, hk4⟩ := fin none W3 hk3
    exact ⟨_, _, hr, .inl ⟨rfl, ⟨hI.putObj _ hi3 (by omega) hl3 rfl, hl4, hk4⟩, (hw2.trans hkp3).trans (belowK_b hn₀ _ _ _ _ (by omega) hl3 rfl rfl)⟩⟩
   | ret =>
    obtain ⟨hk3, hi3⟩ := hp
    obtain ⟨hr, hl3, hl4, hk4⟩ := fin (some .ret) W3 hk3
    exact ⟨_, _, hr, .inr ⟨rfl, .ret, (hIx _).putObj _ hi3 (by omega) hl3 rfl, hl4, hk4⟩⟩
   | exit id =>
    obtain ⟨hk3, hi3⟩ := hp
    obtain ⟨hr, hl3, hl4, hk4⟩ := fin (some (.exit id)) W3 hk3
    exact ⟨_, _, hr, .inr ⟨rfl, .exit id, (hIx _).putObj _ hi3 (by omega) hl3 rfl, hl4, hk4⟩⟩
   | goto t =>
    obtain ⟨hk3, hi3⟩ := hp
    obtain ⟨hr, hl3, hl4, hk4⟩ := fin (some (.goto t)) W3 hk3
    exact ⟨_, _, hr, .inr ⟨rfl, .goto t, (hIx _).putObj _ hi3 (by omega) hl3 rfl, hl4, hk4⟩⟩
   | panic ch => exact hp.elim
   | outgrown => exact hp.elim
  ·rintro e W2 ⟨⟨v, rfl⟩, (⟨hi, hl, hk⟩ | ⟨pre, c, hi, hl, hk⟩)⟩
   ·exact ⟨none, _, by have := run_endLoop (P := P) hl (by rw [hrec]; simp); rw [hrec] at this; exact this, hdone _ _ (Nat.le_refl _) (hI.putObj _ hi (by omega) hl rfl) ((World.putObj_heap_other (by omega)).trans hk)⟩
   ·exact ⟨some c, _, by have := run_endLoop (P := P) hl (by rw [hrec]; simp); rw [hrec] at this; exact this, hstop _ c pre _ (Nat.le_refl _) ((hIx c).putObj _ hi (by omega) hl rfl) ((World.putObj_heap_other (by omega)).trans hk)⟩
theorem foldl_set (f : Nat → Value) : ∀ (ds : List Nat) (arr : Array Value) (i : Nat), (ds.foldl (fun t d => t.setIfInBounds d (f d)) arr)[i]? = if i ∈ ds then (if i < arr.size then some (f i) else none) else arr[i]?
 | [], arr, i => by simp
 | d :: ds, arr, i => by
  rw [List.foldl_cons, foldl_set f ds, Array.size_setIfInBounds, Array.getElem?_setIfInBounds]
  by_cases h1 : i ∈ ds
  ·rw [if_pos h1, if_pos (List.mem_cons_of_mem _ h1)]
  ·rw [if_neg h1]
   by_cases h2 : d = i
   ·subst h2
    rw [if_pos rfl, if_pos (List.mem_cons_self ..)]
   ·rw [if_neg h2, if_neg (fun h => by rcases List.mem_cons.1 h with e | e; exact h2 e.symm; exact h1 e)]
theorem sameBut_sets {ops : Array Oper} {a0 a : Act} (h : Slots.SameBut ops a0 a) (ds : List Nat) (hds : ∀ t, t ∉ ds → (ops.all fun o => o.dst != some t) = true) :
  a = ⟨ds.foldl (fun t d => t.setIfInBounds d (a.tmps.getD d undef)) a0.tmps, a0.defers⟩ := by
 obtain ⟨arr, df⟩ := a
 obtain ⟨hs, hd, hsl⟩ := h
 simp only at hs hd hsl ⊢
 subst hd
 congr 1
 apply Array.ext_getElem?
 intro i
 rw [foldl_set (fun d => arr.getD d undef)]
 by_cases hi : i < arr.size
 ·by_cases h1 : i ∈ ds
  ·rw [if_pos h1, if_pos (by omega), Array.getElem?_eq_getElem hi]
   simp [hi]
  ·rw [if_neg h1]
   have := hsl i (hds i h1)
   rw [Array.getElem?_eq_getElem hi, Array.getElem?_eq_getElem (by omega)]
   simp [hi, show i < a0.tmps.size by omega] at this
   rw [this]
 ·rw [Array.getElem?_eq_none (by omega)]
  by_cases h1 : i ∈ ds
  ·rw [if_pos h1, if_neg (by omega)]
  ·rw [if_neg h1, Array.getElem?_eq_none (by omega)]
def markOf (D : Nat) : Deferred := { target := .collected D, args := #[] }
theorem leaves_marks {P : Program} {n : Nat} {fn : Func} {tmps : Array Value} {R : Ending → World → Prop} (J : World → Prop) (B : Nat) (step : ∀ W D, J W → B ≤ D → W.heap[D]? = some (.deferred (some [])) → J (W.putObj D (.deferred none)))
  (fin : ∀ W, J W → ∃ v, (results fn tmps).run P W = .ok v W ∧ R (.returned v) W) : ∀ (Ds : List Nat) (W : World), Ds.Nodup → (∀ D ∈ Ds, B ≤ D ∧ W.heap[D]? = some (.deferred (some []))) → J W →
  LeavesInM Fence.wide n P fn tmps R (Ds.map markOf) .returning W
 | [], W, _, _, hJ => fin W hJ
 | D :: Ds, W, hn, hd, hJ => by
  obtain ⟨hn1, hn2⟩ := List.nodup_cons.1 hn
  obtain ⟨hB, hD⟩ := hd D (by simp)
  refine ⟨by simp, .inl ⟨D, _, rfl, run_takeDeferred hD, ?_⟩⟩
  refine leaves_marks J B step fin Ds _ hn2 (fun D' hD' => ?_) (step W D hJ hB hD)
  obtain ⟨h1, h2⟩ := hd D' (List.mem_cons_of_mem _ hD')
  exact ⟨h1, (World.putObj_heap_other (fun e => by subst e; exact hn1 hD')).trans h2⟩
end Go.Proofs.YtfclpecbnailgaaGreat

/-
 Proved here: what pairs' stack.down gives, from the top down: each place with how many stand below it, until a round wants no more. It leaves what was in memory.
-/
set_option linter.unusedVariables false
namespace Go.Proofs.YtfclpecbnailgaaGreat.Pb
open Go Go.RowKit Go.Lib Go.Proofs.YtfclpecbnailgaaGreat.Cl Go.Shelf
attribute [local go_sem] Oper.semAt_some
/-- From the top down, those below a height. -/
def downFrom (zs : List Int) : Nat → List (Nat × Int)
 | 0 => []
 | k + 1 => (k, zs.getD k 0) :: downFrom zs k
def downL (zs : List Int) : List (Nat × Int) := downFrom zs zs.length
set_option maxHeartbeats 2000000 in
set_option maxRecDepth 100000 in
theorem down_stops (n : Nat) (h1 : 1 ≤ n) (A : Option Addr) (N cp : Nat) (zs : List Int) (w0 w : World) (hl : zs.length = N) (hR : IntsAt w0 A zs) (hN : N ≤ 1099511627776) (hw : Below w0.heap.size w0 w) :
  Stops n Tryz.prog 140 #[.slice A N cp] (fun x : Nat × Int => #[Value.int .i64 x.1, Value.int .i64 x.2]) w0.heap.size (downL zs) w := by
 intro l J Jx W hbW hJ hY h0
 have HY := Lib.hid hY
 have HR := Lib.hid hR
 have HL := Lib.hid hl
 have HW := Lib.hid (hw.trans (hbW.mono hw.size))
 have H0 := Lib.hid h0
 have e0 : IntKind.i64.wrap ((N : Int) - 1) = (N : Int) - 1 := IntWalk.i64_in _ (by omega)
 clear hY hR hJ hl hw hbW h0
 refine callsIn_of_wp Tryz.func140 rfl trivial ?_ rfl
 simp only [Tryz.ntmps140, List.size_toArray, List.length_cons, List.length_nil, Nat.reduceAdd, Nat.reduceSub, Array.replicate_succ, Array.replicate_zero, List.push_toArray, List.append_toArray, List.nil_append, List.cons_append]
 gi_wp2
 gi_loopw [4] (fun s4 wr => ∃ (k : Nat) (pre : List (Nat × Int)), k ≤ N ∧ s4 = .int .i64 ((k : Int) - 1) ∧ downL zs = pre ++ downFrom zs k ∧ J pre wr ∧ Below w0.heap.size w0 wr) (fun s4 _ => (RowKit.intOf s4 + 1).toNat)
 case atStart => exact ⟨N, [], Nat.le_refl _, rfl, by rw [← HL.out]; rfl, H0.out, HW.out⟩
 case round =>
  obtain ⟨k, pre, hk, rfl, heq, hJk, hbk⟩ := hrel
  have HB := Lib.hid hbk
  have HK := Lib.hid hJk
  have HE := Lib.hid heq
  clear hbk hJk heq
  cases k with
  | zero =>
   gi_wp2
   go_end0
   refine ⟨⟨_, rfl⟩, .inl ?_⟩
   have h := HE.out
   rw [downFrom, List.append_nil] at h
   rw [h]
   exact HK.out
  | succ k =>
   have hkz : k < zs.length := by rw [HL.out]; omega
   obtain ⟨b, off, hA, hc⟩ := (HR.out.below HB.out).at_ hkz
   subst hA
   have hg : zs.getD k 0 = zs[k] := by simp [List.getD, List.getElem?_eq_getElem hkz]
   have HEQ := Lib.hid (show downL zs = (pre ++ [(k, zs[k])]) ++ downFrom zs k from by rw [HE.out, downFrom, hg]; simp)
   generalize zs[k] = x at *
   have hpre : pre ++ [(k, x)] <+: downL zs := ⟨downFrom zs k, HEQ.out.symm⟩
   obtain ⟨fn, tmps, assign, body, hy, hRn⟩ := HY.out _ (k, x) wr HK.out hpre
   dsimp only at hy
   have e1 : (((k + 1 : Nat) : Int) - 1) = (k : Int) := by omega
   have hx0 : (0 : Int) ≤ (k : Int) := by omega
   have hx1 : (k : Int) < (N : Int) := by omega
   have e2 : IntKind.i64.wrap ((k : Int) - 1) = (k : Int) - 1 := IntWalk.i64_in _ (by omega)
   rw [e1]
   clear hg hkz hpre e1
   gi_wp2
   refine hRn.mono ?_
   rintro e W3 (⟨rfl, hJ3, hk3⟩ | ⟨rfl, hJx3⟩)
   ·have HJ3 := Lib.hid hJ3
    have HK3 := Lib.hid hk3
    clear hJ3 hk3
    gi_wp2
    go_roundw
    case rel => exact ⟨k, pre ++ [(k, x)], by omega, rfl, HEQ.out, HJ3.out, HB.out.trans HK3.out⟩
    case measure => simp [RowKit.intOf]
   ·have HJ3 := Lib.hid hJx3
    clear hJx3
    gi_wp2
    refine bodyPost_ret (results_none rfl _ _ _) rfl ?_
    exact ⟨⟨_, rfl⟩, .inr ⟨_, HJ3.out⟩⟩
end Go.Proofs.YtfclpecbnailgaaGreat.Pb

/-
 Brackets, plainly, place by place: what walks over the document's answer keep: the stack as a row of places, pairs put in order one place behind the other, letters told one class behind the other, places set one behind the other, marks. No program in it.
-/
set_option linter.unusedVariables false
namespace Go.Proofs.YtfclpecbnailgaaGreat.Pr
open Go.Proofs.YtfclpecbnailgaaGreat.Mi
theorem zip_drop {T C : List Int} {i : Nat} {t c : Int} (hT : T[i]? = some t) (hC : C[i]? = some c) : (T.zip C).drop i = (t, c) :: (T.zip C).drop (i + 1) := by
 obtain ⟨h1, rfl⟩ := List.getElem?_eq_some_iff.1 hT
 obtain ⟨h2, rfl⟩ := List.getElem?_eq_some_iff.1 hC
 rw [List.drop_eq_getElem_cons (by rw [List.length_zip]; omega)]
 simp
/-- The stack as a row of places, from the bottom up. -/
def stI (st : List (Nat × Int)) : List Int := (st.map fun x => (x.1 : Int)).reverse
theorem stI_len (st : List (Nat × Int)) : (stI st).length = st.length := by simp [stI]
theorem stI_push (i : Nat) (c : Int) (st : List (Nat × Int)) : stI ((i, c) :: st) = stI st ++ [(i : Int)] := by simp [stI]
theorem stI_split (s1 s2 : List (Nat × Int)) : stI (s1 ++ s2) = stI s2 ++ stI s1 := by simp [stI]
theorem stI_at (s1 s2 : List (Nat × Int)) (k : Nat) (o : Int) : (stI (s1 ++ (k, o) :: s2))[s2.length]? = some (k : Int) := by
 rw [stI_split, List.getElem?_append_left (by rw [stI_len]; simp), stI_push, List.getElem?_append_right (by rw [stI_len]; exact Nat.le_refl _), stI_len, Nat.sub_self]
 rfl
theorem stI_take (s1 s2 : List (Nat × Int)) (k : Nat) (o : Int) : (stI (s1 ++ (k, o) :: s2)).take s2.length = stI s2 := by
 rw [stI_split, stI_push, List.append_assoc, List.take_append_of_le_length (by rw [stI_len]; exact Nat.le_refl _), List.take_of_length_le (by rw [stI_len]; exact Nat.le_refl _)]
theorem inOrder_succ (n : Nat) (L : List (Nat × Nat)) : inOrder (n + 1) L = inOrder n L ++ L.filter fun p => decide (p.1 = n) := by
 unfold inOrder
 rw [List.range_succ, List.flatMap_append]
 simp
theorem filter_step {L : List (Nat × Nat)} {i : Nat} {p : Nat × Nat} (h : L[i]? = some p) (a : Nat) : (L.take (i + 1)).filter (fun p => decide (p.1 = a)) = (L.take i).filter (fun p => decide (p.1 = a)) ++ (if p.1 = a then [p] else []) := by
 obtain ⟨hi, rfl⟩ := List.getElem?_eq_some_iff.1 h
 rw [List.take_succ_eq_append_getElem hi, List.filter_append]
 congr 1
 by_cases e : L[i].1 = a
 ·rw [if_pos e]; simp [e]
 ·rw [if_neg e]; simp [e]
theorem filter_lt (n : Nat) : ∀ L : List (Nat × Nat), (L.filter fun p => decide (p.1 < n + 1)).length = (L.filter fun p => decide (p.1 < n)).length + (L.filter fun p => decide (p.1 = n)).length
 | [] => rfl
 | p :: L => by
  have ih := filter_lt n L
  rw [List.filter_cons, List.filter_cons, List.filter_cons]
  by_cases h1 : p.1 < n
  ·rw [if_pos (by simp; omega), if_pos (by simpa using h1), if_neg (by simp; omega), List.length_cons, List.length_cons, ih]
   omega
  ·by_cases h2 : p.1 = n
   ·rw [if_pos (by simp; omega), if_neg (by simpa using h1), if_pos (by simpa using h2), List.length_cons, List.length_cons, ih]
    omega
   ·rw [if_neg (by simp; omega), if_neg (by simpa using h1), if_neg (by simpa using h2), ih]
theorem inOrder_count (L : List (Nat × Nat)) : ∀ n, (inOrder n L).length = (L.filter fun p => decide (p.1 < n)).length
 | 0 => by
  have : (L.filter fun p => decide (p.1 < 0)) = [] := List.filter_eq_nil_iff.2 (by simp)
  rw [this]
  rfl
 | n + 1 => by rw [inOrder_succ, List.length_append, inOrder_count L n, filter_lt]
theorem inOrder_len (n : Nat) (L : List (Nat × Nat)) : (inOrder n L).length ≤ L.length := by
 rw [inOrder_count]
 exact List.length_filter_le _ _
theorem aheadZ_snoc (l : List Int) (c s : Int) : aheadZ (l ++ [c]) s = if 0 ≤ letZ c then letZ c else aheadZ l s := by simp [aheadZ]
theorem hasZ_snoc (l : List Int) (c x : Int) : hasZ (l ++ [c]) x = (hasZ l x || decide (letZ c = x)) := by simp [hasZ]
theorem hasZ_yes {l : List Int} {x c : Int} (h : c ∈ l) (hc : letZ c = x) : hasZ l x = true := List.any_eq_true.2 ⟨c, h, by simpa using hc⟩
def setUp (own : List Int) (p : Nat × Nat) (c : Int) (l : List Int) (k : Nat) : List Int := (setZ own p c l).take k ++ l.drop k
theorem setUp_zero (own : List Int) (p : Nat × Nat) (c : Int) (l : List Int) : setUp own p c l 0 = l := by simp [setUp]
theorem setUp_all (own : List Int) (p : Nat × Nat) (c : Int) (l : List Int) : setUp own p c l l.length = setZ own p c l := by
 unfold setUp
 rw [List.drop_length, List.append_nil, List.take_of_length_le (by rw [setZ_len]; exact Nat.le_refl _)]
theorem setUp_parts (own : List Int) (p : Nat × Nat) (c : Int) (l : List Int) {k : Nat} {x : Int} (h : l[k]? = some x) : setUp own p c l k = (setZ own p c l).take k ++ x :: l.drop (k + 1) := by
 obtain ⟨hk, rfl⟩ := List.getElem?_eq_some_iff.1 h
 unfold setUp
 rw [List.drop_eq_getElem_cons hk]
theorem setUp_step (own : List Int) (p : Nat × Nat) (c : Int) (l : List Int) {k : Nat} {x : Int} (h : l[k]? = some x) : setUp own p c l (k + 1) = (setZ own p c l).take k ++ (if mayZ own p k = true then c else x) :: l.drop (k + 1) := by
 have h2 := setZ_at own p c l k x h
 obtain ⟨hk, h3⟩ := List.getElem?_eq_some_iff.1 h2
 unfold setUp
 rw [List.take_succ_eq_append_getElem hk, h3, List.append_assoc]
 rfl
theorem marksZ_iff {own : List Int} {a t : Nat} (ht : t < own.length) : marksZ own a t = true ↔ a < t ∧ ∀ i, a < i → i ≤ t → own[i]? = some 8 := by
 unfold marksZ
 rw [Bool.and_eq_true, decide_eq_true_eq, List.all_eq_true]
 constructor
 ·rintro ⟨h1, h2⟩
  refine ⟨h1, fun i hi hit => ?_⟩
  have hin : i < own.length := by omega
  have hm : own[i] ∈ (own.take (t + 1)).drop (a + 1) := by
   rw [List.mem_iff_getElem?]
   refine ⟨i - (a + 1), ?_⟩
   rw [List.getElem?_drop, List.getElem?_take, if_pos (by omega), show a + 1 + (i - (a + 1)) = i from by omega]
   exact List.getElem?_eq_getElem hin
  rw [List.getElem?_eq_getElem hin]
  have := h2 _ hm
  simp only [decide_eq_true_eq] at this
  rw [this]
 ·rintro ⟨h1, h2⟩
  refine ⟨h1, fun c hc => ?_⟩
  obtain ⟨j, hj⟩ := List.mem_iff_getElem?.1 hc
  rw [List.getElem?_drop, List.getElem?_take] at hj
  by_cases hjt : a + 1 + j < t + 1
  ·rw [if_pos hjt, h2 (a + 1 + j) (by omega) (by omega)] at hj
   injection hj with hj
   simp [← hj]
  ·rw [if_neg hjt] at hj
   cases hj
theorem marksZ_no {own : List Int} {a t i : Nat} {c : Int} (ht : t < own.length) (h1 : a < i) (h2 : i ≤ t) (hc : own[i]? = some c) (h8 : c ≠ 8) : marksZ own a t = false := by
 cases h : marksZ own a t with
 | false => rfl
 | true =>
  have := ((marksZ_iff ht).1 h).2 i h1 h2
  rw [hc] at this
  injection this with this
  exact absurd this h8
theorem marksZ_short {own : List Int} {a t : Nat} (h : t ≤ a) : marksZ own a t = false := by
 unfold marksZ
 rw [decide_eq_false (by omega), Bool.false_and]
end Go.Proofs.YtfclpecbnailgaaGreat.Pr

/-
 Rows of pairs of places in memory (a struct of two ints), of the call's own or as they are read: small facts. No program in it.
-/
set_option linter.unusedVariables false
namespace Go.Proofs.YtfclpecbnailgaaGreat.Pr
open Go Go.RowKit Go.Lib
def cellsP (l : List (Nat × Nat)) : List Value := l.flatMap fun p => [.int .i64 p.1, .int .i64 p.2]
theorem cellsP_len (l : List (Nat × Nat)) : (cellsP l).length = l.length * 2 := by
 induction l with
 | nil => rfl
 | cons r l ih => simp [cellsP] at ih ⊢; omega
theorem cellsP_snoc (l : List (Nat × Nat)) (p : Nat × Nat) : cellsP (l ++ [p]) = cellsP l ++ [.int .i64 p.1, .int .i64 p.2] := by simp [cellsP]
theorem cellsP_at : ∀ (l : List (Nat × Nat)) (k : Nat) (p : Nat × Nat), l[k]? = some p → (cellsP l)[k * 2]? = some (.int .i64 p.1) ∧ (cellsP l)[k * 2 + 1]? = some (.int .i64 p.2)
 | [], k, p, h => by simp at h
 | r :: l, 0, p, h => by
  obtain rfl : r = p := by simpa using h
  exact ⟨rfl, rfl⟩
 | r :: l, k + 1, p, h => by
  have := cellsP_at l k p (by simpa using h)
  rw [show (k + 1) * 2 = k * 2 + 2 from by omega]
  exact this
/-- A row of pairs: nothing, or cells below the heap's end. -/
def PaAt (w : World) (A : Option Addr) (l : List (Nat × Nat)) : Prop :=
 l = [] ∨ ∃ b off, A = some ⟨b, off, none⟩ ∧ b < w.heap.size ∧ ∀ k p, l[k]? = some p → w.cell? ⟨b, off + k * 2, none⟩ = some (.int .i64 p.1) ∧ w.cell? ⟨b, off + k * 2 + 1, none⟩ = some (.int .i64 p.2)
theorem PaAt.below {w w' : World} {A : Option Addr} {l : List (Nat × Nat)} (h : PaAt w A l) (hb : Below w.heap.size w w') : PaAt w' A l := by
 rcases h with h | ⟨b, off, hA, hlt, hc⟩
 ·exact .inl h
 ·refine .inr ⟨b, off, hA, Nat.lt_of_lt_of_le hlt hb.size, fun k p hk => ?_⟩
  obtain ⟨h0, h1⟩ := hc k p hk
  exact ⟨(hb.cell (p := ⟨b, off + k * 2, none⟩) hlt).trans h0, (hb.cell (p := ⟨b, off + k * 2 + 1, none⟩) hlt).trans h1⟩
theorem PaAt.heap {w w' : World} {A : Option Addr} {l : List (Nat × Nat)} (h : PaAt w A l) (e : w'.heap = w.heap) : PaAt w' A l := by
 unfold PaAt World.cell? at h ⊢
 rw [e]
 exact h
theorem PaAt.at_ {w : World} {A : Option Addr} {l : List (Nat × Nat)} (h : PaAt w A l) {k : Nat} {p : Nat × Nat} (hk : l[k]? = some p) :
  ∃ b off, A = some ⟨b, off, none⟩ ∧ b < w.heap.size ∧ w.cell? ⟨b, off + k * 2, none⟩ = some (.int .i64 p.1) ∧ w.cell? ⟨b, off + k * 2 + 1, none⟩ = some (.int .i64 p.2) := by
 rcases h with rfl | ⟨b, off, hA, hlt, hc⟩
 ·simp at hk
 ·obtain ⟨h0, h1⟩ := hc k p hk
  exact ⟨b, off, hA, hlt, h0, h1⟩
theorem add_offP (b off k : Nat) : (⟨b, off, none⟩ : Addr).add k = ⟨b, off + k, none⟩ := by unfold Addr.add; split <;> simp_all
theorem paAt_own {w : World} {B : Nat} {t : TypeId} {v : Value} {l : List (Nat × Nat)} {n : Nat} (h : w.ownsRow B t 2 v n (cellsP l)) (hn : l.length = n) : ∃ A c, v = .slice A n c ∧ PaAt w A l := by
 subst hn
 have hc := @World.ownsRow.cells _ _ _ _ _ _ _ h
 rcases h.2 with ⟨rfl, hn⟩ | ⟨g, cap, cur, rfl, _, hg, _⟩
 ·exact ⟨none, 0, by rw [hn], .inl (List.eq_nil_of_length_eq_zero hn)⟩
 ·refine ⟨_, cap, rfl, .inr ⟨g, 0, rfl, (Array.getElem?_eq_some_iff.1 hg).1, fun k p hk => ?_⟩⟩
  obtain ⟨h0, h1⟩ := cellsP_at l k p hk
  refine ⟨?_, ?_⟩
  ·have := hc (g := g) rfl _ _ h0; rw [add_offP] at this; exact this
  ·have := hc (g := g) rfl _ _ h1; rw [add_offP] at this; exact this
theorem PaAt.news {w : World} {ad : Addr} {l : List (Nat × Nat)} (h : PaAt w (some ad) l) : ∀ j u, (cellsP l)[j]? = some u → w.cell? (ad.add j) = some u := by
 intro j u hu
 rcases h with rfl | ⟨b, off, hA, hlt, hc⟩
 ·simp [cellsP] at hu
 ·injection hA with hA
  subst hA
  have hlen := cellsP_len l
  have hj : j < l.length * 2 := by
   have := (List.getElem?_eq_some_iff.1 hu).1
   omega
  have hk : j / 2 < l.length := by omega
  obtain ⟨h0, h1⟩ := hc (j / 2) _ (List.getElem?_eq_getElem hk)
  obtain ⟨g0, g1⟩ := cellsP_at l (j / 2) _ (List.getElem?_eq_getElem hk)
  rw [add_offP]
  have : j = j / 2 * 2 ∨ j = j / 2 * 2 + 1 := by omega
  rcases this with e | e
  ·rw [e, g0] at hu; rw [e]; rw [← hu]; exact h0
  ·rw [e, g1] at hu; rw [e]; rw [← hu]; exact h1
end Go.Proofs.YtfclpecbnailgaaGreat.Pr

/-
 What lies in memory while pairs.Find goes over the places: the codes, the pairs that were found, the stack of what is open, each in its variable; and what is gone over from the stack's top down. 
-/
set_option linter.unusedVariables false
namespace Go.Proofs.YtfclpecbnailgaaGreat.Pb
open Go Go.RowKit Go.Lib Go.Proofs.YtfclpecbnailgaaGreat.Cl Go.Proofs.YtfclpecbnailgaaGreat.Pr Go.Proofs.YtfclpecbnailgaaGreat.Mi
def tops : List (Nat × Int) → List (Nat × Int)
 | [] => []
 | (k, _) :: s => (s.length, (k : Int)) :: tops s
theorem tops_len : ∀ s, (tops s).length = s.length
 | [] => rfl
 | _ :: s => by rw [tops, List.length_cons, List.length_cons, tops_len s]
theorem tops_at : ∀ (s1 : List (Nat × Int)) (k : Nat) (o : Int) (s2 : List (Nat × Int)), (tops (s1 ++ (k, o) :: s2))[s1.length]? = some (s2.length, (k : Int))
 | [], k, o, s2 => rfl
 | x :: s1, k, o, s2 => by
  rw [List.cons_append, List.length_cons]
  show ((_ :: tops (s1 ++ (k, o) :: s2)) : List (Nat × Int))[s1.length + 1]? = _
  rw [List.getElem?_cons_succ]
  exact tops_at s1 k o s2
theorem downFrom_app (zs : List Int) (z : Int) : ∀ k, k ≤ zs.length → downFrom (zs ++ [z]) k = downFrom zs k
 | 0, _ => rfl
 | k + 1, h => by
  rw [downFrom, downFrom, downFrom_app zs z k (by omega)]
  congr 2
  simp [List.getD, List.getElem?_append_left (show k < zs.length by omega)]
theorem down_tops : ∀ st : List (Nat × Int), downL (stI st) = tops st
 | [] => rfl
 | (k, o) :: st => by
  have ih := down_tops st
  unfold downL at ih ⊢
  rw [stI_push, List.length_append, List.length_singleton, downFrom, downFrom_app _ _ _ (Nat.le_refl _), ih, tops]
  congr 2
  ·exact stI_len st
  ·simp [List.getD]
/-- What has been gone over does not meet. -/
def Gone (st : List (Nat × Int)) (c : Int) (pre : List (Nat × Int)) : Prop := ∃ s1 s2 : List (Nat × Int), st = s1 ++ s2 ∧ pre = (tops st).take s1.length ∧ ∀ y : Nat × Int, y ∈ s1 → meetT y.2 c = false
theorem Gone.nil (st : List (Nat × Int)) (c : Int) : Gone st c [] := ⟨[], st, rfl, by simp, by simp⟩
theorem Gone.next {st : List (Nat × Int)} {c : Int} {pre : List (Nat × Int)} {x : Nat × Int} (h : Gone st c pre) (hx : pre ++ [x] <+: downL (stI st)) :
  ∃ (s1 : List (Nat × Int)) (k : Nat) (o : Int) (s2 : List (Nat × Int)), st = s1 ++ (k, o) :: s2 ∧ x = (s2.length, (k : Int)) ∧ (∀ y : Nat × Int, y ∈ s1 → meetT y.2 c = false) ∧ (meetT o c = false → Gone st c (pre ++ [x])) := by
 rw [down_tops] at hx
 obtain ⟨s1, s2, rfl, rfl, hn⟩ := h
 have hlen := hx.length_le
 rw [List.length_append, List.length_take, tops_len, List.length_append, List.length_singleton] at hlen
 cases s2 with
 | nil => simp at hlen; omega
 | cons y s2 =>
  obtain ⟨k, o⟩ := y
  obtain ⟨r, hr⟩ := hx
  have h2 := tops_at s1 k o s2
  have h3 : (tops (s1 ++ (k, o) :: s2))[s1.length]? = some x := by
   rw [← hr]
   have hl : ((tops (s1 ++ (k, o) :: s2)).take s1.length).length = s1.length := by rw [List.length_take, tops_len]; simp
   rw [List.getElem?_append_left (by rw [List.length_append, hl]; simp), List.getElem?_append_right (by rw [hl]; exact Nat.le_refl _), hl]
   simp
  rw [h2] at h3
  injection h3 with h3
  refine ⟨s1, k, o, s2, rfl, h3.symm, hn, fun hm => ⟨s1 ++ [(k, o)], s2, by simp, ?_, ?_⟩⟩
  ·rw [List.length_append, List.length_singleton, List.take_add_one, h2, ← h3]
   rfl
  ·intro y hy
   rcases List.mem_append.1 hy with hy | hy
   ·exact hn y hy
   ·obtain rfl : y = (k, o) := by simpa using hy
    exact hm
theorem Gone.all {st : List (Nat × Int)} {c : Int} (h : Gone st c (downL (stI st))) : dropTo c st = none := by
 obtain ⟨s1, s2, rfl, he, hn⟩ := h
 rw [down_tops] at he
 have := congrArg List.length he
 rw [List.length_take, tops_len, List.length_append] at this
 have h0 : s2 = [] := List.eq_nil_of_length_eq_zero (by omega)
 subst h0
 rw [List.append_nil]
 exact dropTo_none hn
structure FindAt (w W : World) (cs vl vo : Value) (L : List (Nat × Nat)) (Z : List Int) : Prop where
 bc : Boxed W w.heap.size 25 cs
 bl : Boxed W (w.heap.size + 1) 91 vl
 bo : Boxed W (w.heap.size + 2) 150 vo
 ol : W.ownsRow w.heap.size 95 2 vl L.length (cellsP L)
 oo : W.ownsRow w.heap.size 3 1 vo Z.length (icl Z)
 below : Below w.heap.size w W
theorem own_not {W : World} {b1 e1 s1 n1 b2 e2 s2 n2 : Nat} {v1 v2 : Value} {x1 x2 : List Value} (h1 : W.ownsRow b1 e1 s1 v1 n1 x1) (h2 : W.ownsRow b2 e2 s2 v2 n2 x2) (he : e1 ≠ e2) : v1.ownBlock = none ∨ v1.ownBlock ≠ v2.ownBlock := by
 rcases h1.2 with ⟨rfl, _⟩ | ⟨g, cap, cur, rfl, _, hg, _⟩
 ·exact .inl rfl
 ·refine .inr fun e => ?_
  rcases h2.2 with ⟨rfl, _⟩ | ⟨g', cap', cur', rfl, _, hg', _⟩
  ·cases e
  ·obtain rfl : g = g' := by simpa [Value.ownBlock] using e
   rw [hg] at hg'
   injection hg' with hg'
   injection hg' with _ h3
   exact he h3
theorem own_cells {W : World} {b e s n : Nat} {v : Value} {xs : List Value} (h : W.ownsRow b e s v n xs) {row : Option Nat} (hr : ∀ r, row = some r → ∃ o : Obj, W.heap[r]? = some o ∧ o.isCells = false) : v.ownBlock = none ∨ v.ownBlock ≠ row := by
 rcases h.2 with ⟨rfl, _⟩ | ⟨g, cap, cur, rfl, _, hg, _⟩
 ·exact .inl rfl
 ·refine .inr fun e => ?_
  obtain ⟨o, ho, hc⟩ := hr g (by rw [← e]; rfl)
  rw [hg] at ho
  cases ho
  cases hc
theorem box_cells {W : World} {B : Nat} {t : TypeId} {v : Value} (h : Boxed W B t v) {row : Option Nat} (hr : ∀ r, row = some r → ∃ o : Obj, W.heap[r]? = some o ∧ o.isCells = false) : some B ≠ row := fun e => by
 obtain ⟨o, ho, hc⟩ := hr B e.symm
 rw [show W.heap[B]? = _ from h] at ho
 cases ho
 cases hc
section
variable {w W W' w1 : World} {cs vl vo v' : Value} {L L' : List (Nat × Nat)} {Z Z' : List Int} {row : Option Nat}
theorem FindAt.kept (h : FindAt w W cs vl vo L Z) (hg : W.grownBy W' row) (hr : ∀ r, row = some r → w.heap.size ≤ r ∧ ∃ o : Obj, W.heap[r]? = some o ∧ o.isCells = false) : FindAt w W' cs vl vo L Z :=
 have hc := fun r e => (hr r e).2
 ⟨h.bc.kept hg (box_cells h.bc hc), h.bl.kept hg (box_cells h.bl hc), h.bo.kept hg (box_cells h.bo hc), h.ol.kept hg (own_cells h.ol hc), h.oo.kept hg (own_cells h.oo hc), h.below.grown hg h.below.size (fun k e => (hr k e).1)⟩
theorem FindAt.later (h : FindAt w W cs vl vo L Z) (hb : Below W.heap.size W W') : FindAt w W' cs vl vo L Z :=
 h.kept (row := none) ⟨hb.os, hb.tape, hb.output, hb.size, fun k hk _ => hb.block k hk⟩ (fun r e => by cases e)
theorem FindAt.putObj (h : FindAt w W cs vl vo L Z) {D : Nat} {o : Obj} (o' : Obj) (hD : w.heap.size ≤ D) (ho : W.heap[D]? = some o) (hc : o.isCells = false) : FindAt w (W.putObj D o') cs vl vo L Z :=
 h.kept (grownBy_putObj' W D o') (fun r e => by cases e; exact ⟨hD, o, ho, hc⟩)
theorem FindAt.alloc (h : FindAt w W cs vl vo L Z) (o : Obj) : FindAt w (W.alloc o) cs vl vo L Z := h.later (below_made W o)
theorem FindAt.pushed (h : FindAt w W cs vl vo L Z) (hown : w1.ownsRow w.heap.size 3 1 v' Z'.length (icl Z')) (hg : W.grownBy w1 vo.ownBlock) :
  Boxed w1 (w.heap.size + 2) 150 vo ∧ FindAt w (w1.setCell ⟨w.heap.size + 2, 0, none⟩ v') cs vl v' L Z' ∧ KeepsOthers W (w1.setCell ⟨w.heap.size + 2, 0, none⟩ v') := by
 have hbo := h.bo.kept hg (h.bo.not_row (by decide) h.oo)
 have hbc := h.bc.kept hg (h.bc.not_row (by decide) h.oo)
 have hbl := h.bl.kept hg (h.bl.not_row (by decide) h.oo)
 have hol := h.ol.kept hg (own_not h.ol h.oo (by decide))
 have hs := grownBy_setCell' w1 (w.heap.size + 2) v'
 refine ⟨hbo, ⟨hbc.kept hs (by simp), hbl.kept hs (by simp), hbo.set v', hol.kept hs (.inr (hbo.not_row (by decide) hol).symm), hown.kept hs (.inr (hbo.not_row (by decide) hown).symm), ?_⟩, ?_⟩
 ·refine (h.below.grown hg h.below.size (fun k e => (h.oo.lt k e).1)).setCell (p := ⟨w.heap.size + 2, 0, none⟩) (by show w.heap.size ≤ w.heap.size + 2; omega) v'
 ·refine (KeepsOthers.of_grownBy hg fun j o ej hj => ?_).trans (KeepsOthers.setCell _ _ _)
  rcases h.oo.2 with ⟨rfl, _⟩ | ⟨g, cap, cur, rfl, _, hgb, _⟩
  ·cases ej
  ·obtain rfl : g = j := by simpa [Value.ownBlock] using ej
   rw [hgb] at hj; cases hj; rfl
theorem FindAt.paired (h : FindAt w W cs vl vo L Z) (hown : w1.ownsRow w.heap.size 95 2 v' L'.length (cellsP L')) (hg : W.grownBy w1 vl.ownBlock) :
  Boxed w1 (w.heap.size + 1) 91 vl ∧ FindAt w (w1.setCell ⟨w.heap.size + 1, 0, none⟩ v') cs v' vo L' Z ∧ KeepsOthers W (w1.setCell ⟨w.heap.size + 1, 0, none⟩ v') := by
 have hbo := h.bo.kept hg (h.bo.not_row (by decide) h.ol)
 have hbc := h.bc.kept hg (h.bc.not_row (by decide) h.ol)
 have hbl := h.bl.kept hg (h.bl.not_row (by decide) h.ol)
 have hoo := h.oo.kept hg (own_not h.oo h.ol (by decide))
 have hs := grownBy_setCell' w1 (w.heap.size + 1) v'
 refine ⟨hbl, ⟨hbc.kept hs (by simp), hbl.set v', hbo.kept hs (by simp), hown.kept hs (.inr (hbl.not_row (by decide) hown).symm), hoo.kept hs (.inr (hbl.not_row (by decide) hoo).symm), ?_⟩, ?_⟩
 ·refine (h.below.grown hg h.below.size (fun k e => (h.ol.lt k e).1)).setCell (p := ⟨w.heap.size + 1, 0, none⟩) (by show w.heap.size ≤ w.heap.size + 1; omega) v'
 ·refine (KeepsOthers.of_grownBy hg fun j o ej hj => ?_).trans (KeepsOthers.setCell _ _ _)
  rcases h.ol.2 with ⟨rfl, _⟩ | ⟨g, cap, cur, rfl, _, hgb, _⟩
  ·cases ej
  ·obtain rfl : g = j := by simpa [Value.ownBlock] using ej
   rw [hgb] at hj; cases hj; rfl
theorem FindAt.cut {g n cap : Nat} (h : FindAt w W cs vl (.slice (some ⟨g, 0, none⟩) n cap) L Z) {k : Nat} (hk : k ≤ Z.length) :
  FindAt w (W.setCell ⟨w.heap.size + 2, 0, none⟩ (.slice (some ⟨g, 0, none⟩) k cap)) cs vl (.slice (some ⟨g, 0, none⟩) k cap) L (Z.take k) ∧ KeepsOthers W (W.setCell ⟨w.heap.size + 2, 0, none⟩ (.slice (some ⟨g, 0, none⟩) k cap)) := by
 have hs := grownBy_setCell' W (w.heap.size + 2) (.slice (some ⟨g, 0, none⟩) k cap)
 have hrow : W.ownsRow w.heap.size 3 1 (.slice (some ⟨g, 0, none⟩) k cap) (Z.take k).length (icl (Z.take k)) := by
  have hl := h.oo.1
  rw [icl_len] at hl
  rcases h.oo.2 with ⟨e, _⟩ | ⟨g', cap', cur, e, hB, hg, hle, hmax, hsz, htk⟩
  ·cases e
  ·injection e with e1 e2 e3
   injection e1 with e1
   injection e1 with e1
   subst e1 e3
   have hkl : (Z.take k).length = k := by rw [List.length_take]; omega
   rw [hkl]
   refine ⟨by rw [icl_len, hkl]; omega, .inr ⟨g, cap, cur, rfl, hB, hg, by omega, hmax, hsz, ?_⟩⟩
   have := congrArg (List.take k) htk
   rw [List.take_take] at this
   rw [Nat.mul_one]
   rw [Nat.mul_one, Nat.min_eq_left hk] at this
   rw [this, icl, icl, List.map_take]
 exact ⟨⟨h.bc.kept hs (by simp), h.bl.kept hs (by simp), h.bo.set _, h.ol.kept hs (.inr (h.bo.not_row (by decide) h.ol).symm), hrow.kept hs (.inr (h.bo.not_row (by decide) hrow).symm), h.below.setCell (p := ⟨w.heap.size + 2, 0, none⟩) (by show w.heap.size ≤ w.heap.size + 2; omega) _⟩, KeepsOthers.setCell _ _ _⟩
end
end Go.Proofs.YtfclpecbnailgaaGreat.Pb

/-
 The frame of pairs.Find at its label: which slots are known there; the others are a row of values.
-/
set_option linter.unusedVariables false
namespace Go.Proofs.YtfclpecbnailgaaGreat.Pb
open Go Go.RowKit
structure FitPbFi (t : Act) (ds : List Deferred) (tv pc rv pl po cs nv iv : Value) : Prop where
 size : t.tmps.size = 70
 defers : t.defers = ds
 s0 : t.tmps.getD 0 undef = tv
 s3 : t.tmps.getD 3 undef = pc
 s4 : t.tmps.getD 4 undef = rv
 s5 : t.tmps.getD 5 undef = pl
 s6 : t.tmps.getD 6 undef = po
 s18 : t.tmps.getD 18 undef = cs
 s19 : t.tmps.getD 19 undef = nv
 s20 : t.tmps.getD 20 undef = iv
theorem list_range_PbFi (l : List Value) : l = (List.range l.length).map fun i => l.getD i undef := by
 apply List.ext_getElem
 ·simp
 ·intro i h1 h2
  simp [h1]
theorem FitPbFi.opened {t : Act} {ds : List Deferred} {tv pc rv pl po cs nv iv : Value} (h : FitPbFi t ds tv pc rv pl po cs nv iv) : ∃ g : Nat → Value, t = ⟨#[tv, g 1, g 2, pc, rv, pl, po, g 7, g 8, g 9, g 10, g 11, g 12, g 13, g 14, g 15, g 16, g 17, cs, nv, iv, g 21, g 22, g 23, g 24, g 25, g 26, g 27, g 28, g 29, g 30, g 31, g 32, g 33, g 34, g 35, g 36, g 37, g 38, g 39, g 40, g 41, g 42, g 43, g 44, g 45, g 46, g 47, g 48, g 49, g 50, g 51, g 52, g 53, g 54, g 55, g 56, g 57, g 58, g 59, g 60, g 61, g 62, g 63, g 64, g 65, g 66, g 67, g 68, g 69], ds⟩ := by
 obtain ⟨hs, hd, h0, h3, h4, h5, h6, h18, h19, h20⟩ := h
 obtain ⟨⟨l⟩, d⟩ := t
 simp only at hd hs
 subst hd
 have hl : l.length = 70 := hs
 have e := list_range_PbFi l
 rw [hl] at e
 have e0 : l.getD 0 undef = tv := by rw [← h0]; simp [Array.getD, List.getD, hl]
 have e3 : l.getD 3 undef = pc := by rw [← h3]; simp [Array.getD, List.getD, hl]
 have e4 : l.getD 4 undef = rv := by rw [← h4]; simp [Array.getD, List.getD, hl]
 have e5 : l.getD 5 undef = pl := by rw [← h5]; simp [Array.getD, List.getD, hl]
 have e6 : l.getD 6 undef = po := by rw [← h6]; simp [Array.getD, List.getD, hl]
 have e18 : l.getD 18 undef = cs := by rw [← h18]; simp [Array.getD, List.getD, hl]
 have e19 : l.getD 19 undef = nv := by rw [← h19]; simp [Array.getD, List.getD, hl]
 have e20 : l.getD 20 undef = iv := by rw [← h20]; simp [Array.getD, List.getD, hl]
 generalize hg : (fun i => l.getD i undef) = g at e
 have c0 : g 0 = tv := by rw [← hg]; exact e0
 have c3 : g 3 = pc := by rw [← hg]; exact e3
 have c4 : g 4 = rv := by rw [← hg]; exact e4
 have c5 : g 5 = pl := by rw [← hg]; exact e5
 have c6 : g 6 = po := by rw [← hg]; exact e6
 have c18 : g 18 = cs := by rw [← hg]; exact e18
 have c19 : g 19 = nv := by rw [← hg]; exact e19
 have c20 : g 20 = iv := by rw [← hg]; exact e20
 refine ⟨g, ?_⟩
 rw [e, ← c0, ← c3, ← c4, ← c5, ← c6, ← c18, ← c19, ← c20]
 rfl
end Go.Proofs.YtfclpecbnailgaaGreat.Pb
