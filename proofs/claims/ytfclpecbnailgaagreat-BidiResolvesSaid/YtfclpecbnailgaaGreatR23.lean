/-
  Several texts in one, each with its own remark: RangeOwn, BlPlain, BlSeq, BcReset, BcLine, BoPlain, BoSwap, BcRev, BcTurn, BoTurn, BcOrder.
-/
import Derived.IntWalk
import Derived.RegionTactic
import Derived.ChangeAlike
import Derived.BigRegion
import Derived.Test.YtfclpecbnailgaaGreatR9
import Derived.Test.YtfclpecbnailgaaGreatR2
import Derived.Test.YtfclpecbnailgaaGreatR1
import Derived.Test.YtfclpecbnailgaaGreatR4
import Derived.Test.YtfclpecbnailgaaGreatR17
import Derived.Test.YtfclpecbnailgaaGreatR5
import Derived.Test.YtfclpecbnailgaaGreatRows
import Derived.Test.YtfclpecbnailgaaGreatR3

/-
 A range over a method value whose rounds always go on, where a round may write what lay ahead of what the iterator reads: the loop's invariant itself says that what it reads is there. No program in it.
-/
set_option linter.unusedVariables false
namespace Go.Proofs.YtfclpecbnailgaaGreat
open Go Go.RowKit
/-- How a round's body ends: it goes on. -/
def RoundOn (B : Nat) (I : World → Prop) (W : World) : Exit → Act → World → Prop
 | .normal, _, W' => KeepsFrom B W W' ∧ I W'
 | _, _, _ => False
/-- What an iterator by a method value keeps to, as long as H holds. -/
def Yields {α : Type} (n : Nat) (P : Program) (gf : Nat) (la : Array Value) (encs : α → Array Value) (H : World → Prop) (xs : List α) : Prop :=
 ∀ (l : Nat) (J : List α → World → Prop) (W : World), (∀ s A, J s A → H A) →
  (∀ pre x W1, J pre W1 → pre ++ [x] <+: xs → YieldAt Fence.wide (n - 1) P l (encs x) W1 fun e W' => e = .returned (.bool true) ∧ J (pre ++ [x]) W') →
  J [] W → CallsIn Fence.wide n P gf (la ++ #[.func (.yield l) #[] #[]]) W fun e W' => (∃ v, e = .returned v) ∧ J xs W'
theorem wp_rangeOwn {α : Type} {P : Program} {n : Nat} {g : Operand} {ps : Array Tmp} {assign body : Code} {Q : Exit → Act → World → Prop} {a : Act} {w : World}
  (h1 : 1 ≤ n) {gf : Nat} {la : Array Value} (hg : a.eval g = .func (.func gf) la #[]) (eg : ∀ args w, (callFunc gf args).run P w = .ok (.enter gf args) w)
  {encs : α → Array Value} {H : World → Prop} {xs : List α} (hseq : Yields (n - 1) P gf la encs H xs) (hps : ∀ x, (encs x).size = ps.size)
  (I : List α → World → Prop) (hI : OwnFrom w.heap.size I) (hIH : ∀ s V, I s V → H V) (h0 : I [] w) (a₁ : α → Act)
  (hassign : ∀ (l : Nat) (x : α) (W : World) (K : Act → World → Prop), K (a₁ x) W →
   assign.wpIn (Fence.wide.inRound l) (n - 1 - 1) P (Exit.then K (fun _ _ _ => False)) { tmps := (ps.zip (encs x)).foldl (fun t (p, v) => t.setIfInBounds p v) a.tmps, defers := [] } W)
  (hbody : ∀ (l : Nat) (pre : List α) (x : α) (W : World), I pre W → pre ++ [x] <+: xs → body.wpIn (Fence.wide.inRound l) (n - 1 - 1) P (RoundOn w.heap.size (I (pre ++ [x])) W) (a₁ x) W)
  (hdone : ∀ (D : Nat) (W : World), w.heap.size ≤ D → I xs W → W.heap[D]? = some (.deferred (some [])) → Q .normal { a with defers := { target := .collected D, args := #[] } :: a.defers } W) :
  (Code.rangeFunc g ps assign body).wpIn Fence.wide n P Q a w := by
 refine wpIn_rangeFunc ?_
 intro fn hfn
 obtain ⟨rec, hrec⟩ : ∃ rec : LoopState → Loop, rec = fun st => { state := st, pending := none, fn, tmps := a.tmps, params := ps, assign, body, defers := w.heap.size } := ⟨_, rfl⟩
 obtain ⟨W1, hW1⟩ : ∃ W1, (w.alloc (.deferred (some []))).alloc (.loop (rec .ready)) = W1 := ⟨_, rfl⟩
 have hL1 : W1.heap[w.heap.size + 1]? = some (.loop (rec .ready)) := by
  rw [← hW1]; have := World.alloc_heap_new (w.alloc (.deferred (some []))) (.loop (rec .ready)); rwa [World.size_alloc] at this
 have hK1 : W1.heap[w.heap.size]? = some (.deferred (some [])) := by
  rw [← hW1]; exact (Below.heap_alloc _ _ _ (by simp)).trans (World.alloc_heap_new w _)
 have hI1 : I [] W1 := by rw [← hW1]; exact hI.alloc _ (hI.alloc _ h0)
 refine ⟨w.heap.size + 1, [{ target := .collected w.heap.size, args := #[] }], W1, { target := .fn (.func gf) #[], args := la ++ #[.func (.yield (w.heap.size + 1)) #[] #[]] }, W1, gf,
  la ++ #[.func (.yield (w.heap.size + 1)) #[] #[]], W1, ?_, ?_, ?_, ?_, fun _ => h1, ?_⟩
 ·rw [← hW1, hrec]; exact run_enterLoop_outer _ _ _ _ _
 ·simp only [resolve, hg]
  simp [go_sem]
 ·intro f' _; trivial
 ·simp [invoke, go_sem, eg]
 ·refine (hseq (w.heap.size + 1)
   (fun pre W => I pre W ∧ W.heap[w.heap.size + 1]? = some (.loop (rec .ready)) ∧ W.heap[w.heap.size]? = some (.deferred (some [])))
   W1 (fun s A hs => hIH s A hs.1)
   ?_ ⟨hI1, hL1, hK1⟩).mono ?_
  ·rintro pre x W ⟨hi, hl, hk⟩ hpre
   have hlt : w.heap.size + 1 < W.heap.size := (Array.getElem?_eq_some_iff.1 hl).1
   have hy := run_yield (P := P) (args := encs x) hl (by rw [hrec]; exact hps x)
   rw [hrec] at hy
   refine ⟨fn, _, assign, body, hy, roundIn_of_wpIn hfn (hassign _ x W _ ⟨_, run_beginRound hl (by rw [hrec]), ?_⟩)⟩
   have hl2 : (W.putObj (w.heap.size + 1) (.loop { rec .ready with state := .busy })).heap[w.heap.size + 1]? = some (.loop { rec .ready with state := .busy }) := World.putObj_heap_same hlt
   have hk2 : (W.putObj (w.heap.size + 1) (.loop { rec .ready with state := .busy })).heap[w.heap.size]? = some (.deferred (some [])) := (World.putObj_heap_other (by omega)).trans hk
   refine wpIn_mono (hbody _ pre x _ (hI.putObj _ hi (by omega) hl rfl) hpre) ?_
   rintro e a3 W3 hp
   cases e with
   | normal =>
    obtain ⟨hk3, hi3⟩ := hp
    have hl3 := hk3.same _ _ (by omega) hl2 rfl
    have hr := run_endRound (P := P) none hl3
    rw [hrec] at hr
    refine ⟨_, _, hr, rfl, ⟨hI.putObj _ hi3 (by omega) hl3 rfl, ?_, (World.putObj_heap_other (by omega)).trans (hk3.same _ _ (by omega) hk2 rfl)⟩⟩
    rw [hrec]
    exact World.putObj_heap_same (Array.getElem?_eq_some_iff.1 hl3).1
   | _ => exact hp.elim
  ·rintro e W2 ⟨⟨v, rfl⟩, hi, hl, hk⟩
   exact ⟨none, _, (by have := run_endLoop (P := P) hl (by rw [hrec]; simp); rw [hrec] at this; exact this), hdone _ _ (Nat.le_refl _) (hI.putObj _ hi (by omega) hl rfl) ((World.putObj_heap_other (by omega)).trans hk)⟩
end Go.Proofs.YtfclpecbnailgaaGreat

/-
 A line's levels, and the sign by which a code point is shown, plainly. No program in it.
-/
set_option linter.unusedVariables false
namespace Go.Proofs.YtfclpecbnailgaaGreat.Bi
open Go
def shownP (c l : Int) : Int := if l.tmod 2 = 0 then c else Mi.glyphT c
def lineZ (c l : List Int) (p : Int) : List Int := if c.length = l.length then lineP p c l else []
theorem endB_blank {c : List Int} {k : Nat} (h : k < c.length) (hb : blankB c[k] = true) : endB (c.drop k) = endB (c.drop (k + 1)) := by
 rw [List.drop_eq_getElem_cons h]
 conv => lhs; unfold endB
 rw [if_pos hb]
theorem endB_stop {c : List Int} {k : Nat} (h : k < c.length) (hb : blankB c[k] = false) : endB (c.drop k) = decide (c[k] = 11 ∨ c[k] = 10) := by
 rw [List.drop_eq_getElem_cons h]
 conv => lhs; unfold endB
 rw [if_neg (by rw [hb]; decide)]
end Go.Proofs.YtfclpecbnailgaaGreat.Bi

/-
 A line that is gone through backward, plainly: the places that have the paragraph's level, from the last one on; what stands at them is the line's levels. No program in it.
-/
set_option linter.unusedVariables false
namespace Go.Proofs.YtfclpecbnailgaaGreat.Bi
open Go
/-- Of the d last ones of n places those of which e tells, the last one first. -/
def backS (e : Nat → Bool) (n : Nat) : Nat → List Nat
 | 0 => []
 | d + 1 => backS e n d ++ (if e (n - 1 - d) = true then [n - 1 - d] else [])
theorem backS_prefix (e : Nat → Bool) (n i : Nat) : ∀ (d : Nat), backS e n i <+: backS e n (i + d)
 | 0 => List.prefix_rfl
 | d + 1 => (backS_prefix e n i d).trans (List.prefix_append _ _)
theorem backS_mem (e : Nat → Bool) (n : Nat) : ∀ (d : Nat), d ≤ n → ∀ i, i ∈ backS e n d ↔ (n - d ≤ i ∧ i < n ∧ e i = true)
 | 0, _, i => by simp [backS]; omega
 | d + 1, hd, i => by
  unfold backS
  rw [List.mem_append, backS_mem e n d (by omega) i]
  by_cases he : e (n - 1 - d) = true
  ·rw [if_pos he, List.mem_singleton]
   constructor
   ·rintro (⟨h1, h2, h3⟩ | rfl)
    ·exact ⟨by omega, h2, h3⟩
    ·exact ⟨by omega, by omega, he⟩
   ·rintro ⟨h1, h2, h3⟩
    by_cases hi : i = n - 1 - d
    ·exact .inr hi
    ·exact .inl ⟨by omega, h2, h3⟩
  ·rw [if_neg he]
   constructor
   ·rintro (⟨h1, h2, h3⟩ | h)
    ·exact ⟨by omega, h2, h3⟩
    ·cases h
   ·rintro ⟨h1, h2, h3⟩
    by_cases hi : i = n - 1 - d
    ·subst hi; exact absurd h3 he
    ·exact .inl ⟨by omega, h2, h3⟩
/-- p stands at each of these places. -/
def putP (p : Int) (L : List Int) (pre : List Nat) : List Int := pre.foldl (fun o i => o.set i p) L
theorem putP_len (p : Int) : ∀ (pre : List Nat) (L : List Int), (putP p L pre).length = L.length
 | [], L => rfl
 | i :: pre, L => by
  show (putP p (L.set i p) pre).length = _
  rw [putP_len p pre]
  simp
theorem putP_snoc (p : Int) (L : List Int) (pre : List Nat) (i : Nat) : putP p L (pre ++ [i]) = (putP p L pre).set i p := by
 unfold putP
 rw [List.foldl_append]
 rfl
theorem putP_at (p : Int) : ∀ (pre : List Nat) (L : List Int) (j : Nat), (putP p L pre)[j]? = if j < L.length then some (if j ∈ pre then p else L.getD j 0) else none
 | [], L, j => by
  show L[j]? = _
  by_cases h : j < L.length
  ·rw [if_pos h, if_neg (by simp), List.getElem?_eq_getElem h]
   simp [List.getD, List.getElem?_eq_getElem h]
  ·rw [if_neg h, List.getElem?_eq_none (by omega)]
 | i :: pre, L, j => by
  show (putP p (L.set i p) pre)[j]? = _
  rw [putP_at p pre, List.length_set]
  by_cases h : j < L.length
  ·rw [if_pos h, if_pos h]
   congr 1
   by_cases hm : j ∈ pre
   ·rw [if_pos hm, if_pos (List.mem_cons_of_mem _ hm)]
   ·rw [if_neg hm]
    by_cases hi : j = i
    ·subst hi
     rw [if_pos (List.mem_cons_self ..)]
     simp [List.getD, h]
    ·rw [if_neg (fun x => by rcases List.mem_cons.1 x with e | e; exact hi e; exact hm e)]
     simp [List.getD, List.getElem?_set_ne (Ne.symm hi)]
  ·rw [if_neg h, if_neg h]
theorem put_line (p : Int) (C L : List Int) (h : C.length = L.length) : putP p L (backS (fun i => endB (C.drop i)) C.length C.length) = lineP p C L := by
 apply List.ext_getElem?
 intro j
 rw [putP_at]
 by_cases hj : j < L.length
 ·rw [if_pos hj, line_at p C L j h hj]
  congr 1
  have e : (j ∈ backS (fun i => endB (C.drop i)) C.length C.length) ↔ endB (C.drop j) = true := by
   rw [backS_mem _ _ _ (Nat.le_refl _)]
   constructor
   ·exact fun x => x.2.2
   ·exact fun x => ⟨by omega, by omega, x⟩
  by_cases hm : endB (C.drop j) = true
  ·rw [if_pos (e.2 hm), if_pos hm]
  ·rw [if_neg (fun x => hm (e.1 x)), if_neg hm]
 ·rw [if_neg hj, List.getElem?_eq_none (by rw [line_len p C L h]; omega)]
end Go.Proofs.YtfclpecbnailgaaGreat.Bi

/-
 Proved here: what bidi's parts and blank return, and what line's reset gives, from the last place on: the places that have the paragraph's level. They leave what was in memory.
-/
set_option linter.unusedVariables false
namespace Go.Proofs.YtfclpecbnailgaaGreat.Bi
open Go Go.RowKit Go.Lib Go.Proofs.YtfclpecbnailgaaGreat.Cl Go.Shelf
set_option maxHeartbeats 1000000 in
set_option maxRecDepth 100000 in
theorem parts_any (c : Int) (w : World) : Calls Tryz.prog 77 #[.int .i64 c] w fun e w' => e = .returned (.bool (decide (c = 11 ∨ c = 10))) ∧ w' = w := by
 cases h1 : (c == 11)
 case false =>
  cases h2 : (c == 10)
  case false =>
   have e : decide (c = 11 ∨ c = 10) = false := decide_eq_false (fun h => by rcases h with rfl | rfl <;> simp_all)
   rw [e]
   clear e
   go_enter Tryz.func77, Tryz.ntmps77
   go_wp2
   go_ret
   exact ⟨rfl, rfl⟩
  case true =>
   have e : decide (c = 11 ∨ c = 10) = true := decide_eq_true (.inr (by simpa using h2))
   rw [e]
   clear e
   go_enter Tryz.func77, Tryz.ntmps77
   go_wp2
   go_ret
   exact ⟨rfl, rfl⟩
 case true =>
  have e : decide (c = 11 ∨ c = 10) = true := decide_eq_true (.inl (by simpa using h1))
  rw [e]
  clear e
  go_enter Tryz.func77, Tryz.ntmps77
  go_wp2
  go_ret
  exact ⟨rfl, rfl⟩
set_option maxHeartbeats 2000000 in
set_option maxRecDepth 100000 in
theorem blank_any (c : Int) (w : World) : Calls Tryz.prog 78 #[.int .i64 c] w fun e w' => e = .returned (.bool (blankB c)) ∧ w' = w := by
 have hp : ∀ x : Int, (c == x) = true → c = x := fun x h => by simpa using h
 have HR := Lib.hid (fun W => Lv.removed_any c W)
 cases h1 : (c == 12)
 case' false => cases h2 : (c == 19)
 case' false.false => cases h3 : (c == 20)
 case' false.false.false => cases h4 : (c == 21)
 case' false.false.false.false => cases h5 : (c == 22)
 case false.false.false.false.false =>
  have e : blankB c = Lv.remB c := by
   have n1 : ¬ c = 12 := by simpa using h1
   unfold blankB Ba.isI Ba.isP
   rw [decide_eq_false n1, h2, h3, h4, h5]
   rfl
  rw [e]
  clear e hp
  generalize Lv.remB c = b at *
  go_enter Tryz.func78, Tryz.ntmps78
  go_wp2_with fail
  refine (HR.out _).mono ?_
  rintro e w1 ⟨rfl, rfl⟩
  go_wp2_with fail
  go_ret
  exact ⟨rfl, rfl⟩
 all_goals
  have e : blankB c = true := by
   first
   | (rw [hp 12 h1]; rfl)
   | (rw [hp 19 h2]; rfl)
   | (rw [hp 20 h3]; rfl)
   | (rw [hp 21 h4]; rfl)
   | (rw [hp 22 h5]; rfl)
  rw [e]
  clear e hp HR
  go_enter Tryz.func78, Tryz.ntmps78
  go_wp2
  go_ret
  exact ⟨rfl, rfl⟩
attribute [local go_sem] Oper.semAt_some
set_option maxHeartbeats 2000000 in
set_option maxRecDepth 100000 in
theorem reset_gives (n : Nat) (h1 : 1 ≤ n) (A : Option Addr) (N cp : Nat) (C : List Int) (hl : C.length = N) (hN : N ≤ 1099511627776) :
  Yields n Tryz.prog 39 #[.slice A N cp] (fun i : Nat => #[Value.int .i64 i]) (fun V => IntsAt V A C) (backS (fun i => endB (C.drop i)) N N) := by
 intro l J W hJ hY h0
 have HY := Lib.hid hY
 have HJ := Lib.hid hJ
 have HL := Lib.hid hl
 have H0 := Lib.hid h0
 have e0 : IntKind.i64.wrap ((N : Int) - 1) = (N : Int) - 1 := IntWalk.i64_in _ (by omega)
 clear hY hJ hl h0
 refine callsIn_of_wp Tryz.func39 rfl trivial ?_ rfl
 simp only [Tryz.ntmps39, List.size_toArray, List.length_cons, List.length_nil, Nat.reduceAdd, Nat.reduceSub, Array.replicate_succ, Array.replicate_zero, List.push_toArray, List.append_toArray, List.nil_append, List.cons_append]
 gi_wp2
 gi_loopw [4, 5] (fun s4 s5 wr => ∃ (k : Nat), k ≤ N ∧ s5 = .int .i64 ((k : Int) - 1) ∧ s4 = .bool (endB (C.drop k)) ∧ J (backS (fun i => endB (C.drop i)) N (N - k)) wr) (fun _ s5 _ => (RowKit.intOf s5 + 1).toNat)
 case atStart => exact ⟨N, Nat.le_refl _, rfl, by rw [List.drop_eq_nil_of_le (by rw [HL.out]; exact Nat.le_refl _)]; rfl, by rw [Nat.sub_self]; exact H0.out⟩
 case round =>
  obtain ⟨k, hk, rfl, rfl, hJk⟩ := hrel
  have HK := Lib.hid hJk
  clear hJk
  cases k with
  | zero =>
   gi_wp2
   go_end0
   exact ⟨⟨_, rfl⟩, by have := HK.out; rwa [Nat.sub_zero] at this⟩
  | succ k =>
   have hkz : k < C.length := by rw [HL.out]; omega
   obtain ⟨b, off, rfl, hc⟩ := (HJ.out _ _ HK.out).at_ hkz
   have HE1 := Lib.hid (fun h => endB_blank hkz h)
   have HE2 := Lib.hid (fun h => endB_stop hkz h)
   have hsn : backS (fun i => endB (C.drop i)) N (N - k) = backS (fun i => endB (C.drop i)) N (N - (k + 1)) ++ (if endB (C.drop k) = true then [k] else []) := by
    rw [show N - k = (N - (k + 1)) + 1 from by omega]
    show _ ++ (if endB (C.drop (N - 1 - (N - (k + 1)))) = true then [N - 1 - (N - (k + 1))] else []) = _
    rw [show N - 1 - (N - (k + 1)) = k from by omega]
   have HSN := Lib.hid hsn
   have HPRE := Lib.hid (fun (h : endB (C.drop k) = true) => show backS (fun i => endB (C.drop i)) N (N - (k + 1)) ++ [k] <+: backS (fun i => endB (C.drop i)) N N from by
    have h2 := hsn
    rw [if_pos h] at h2
    rw [← h2]
    have := backS_prefix (fun i => endB (C.drop i)) N (N - k) k
    rwa [show N - k + k = N from by omega] at this)
   have HBK := Lib.hid (fun W => (callsIn_wide (n := n - 1)).2 (blank_any C[k] W))
   have HPT := Lib.hid (fun W => (callsIn_wide (n := n - 1)).2 (parts_any C[k] W))
   clear hsn
   generalize C[k] = x at *
   generalize endB (C.drop (k + 1)) = e1 at *
   have e2 : (((k + 1 : Nat) : Int) - 1) = (k : Int) := by omega
   have hx0 : (0 : Int) ≤ (k : Int) := by omega
   have hx1 : (k : Int) < (N : Int) := by omega
   have e3 : IntKind.i64.wrap ((k : Int) - 1) = (k : Int) - 1 := IntWalk.i64_in _ (by omega)
   rw [e2]
   clear hkz e2
   cases hpx : decide (x = 11 ∨ x = 10) with
   | true =>
    rw [hpx] at HPT
    have HEN := Lib.hid (show endB (C.drop k) = true from by
     rw [HE2.out (by rcases of_decide_eq_true hpx with rfl | rfl <;> rfl)]
     exact hpx)
    clear HE1 HE2 HBK hpx
    obtain ⟨fn, tmps, assign, body, hy, hRn⟩ := HY.out _ k wr HK.out (HPRE.out HEN.out)
    gi_wp2_with fail
    refine ⟨trivial, (HPT.out _).mono ?_⟩
    rintro e W2 ⟨rfl, rfl⟩
    gi_wp2
    refine hRn.mono ?_
    rintro e W3 ⟨rfl, hJ3⟩
    have HJ3 := Lib.hid hJ3
    clear hJ3
    gi_wp2
    go_roundw
    case rel => exact ⟨k, by omega, rfl, by rw [HEN.out], by rw [HSN.out, if_pos HEN.out]; exact HJ3.out⟩
    case measure => simp [RowKit.intOf]
   | false =>
    rw [hpx] at HPT
    cases hbx : blankB x with
    | true =>
     rw [hbx] at HBK
     have HEN := Lib.hid (HE1.out hbx)
     clear HE1 HE2 hpx hbx
     cases e1 with
     | true =>
      obtain ⟨fn, tmps, assign, body, hy, hRn⟩ := HY.out _ k wr HK.out (HPRE.out HEN.out)
      gi_wp2_with fail
      refine ⟨trivial, (HPT.out _).mono ?_⟩
      rintro e W2 ⟨rfl, rfl⟩
      gi_wp2_with fail
      refine ⟨trivial, (HBK.out _).mono ?_⟩
      rintro e W2 ⟨rfl, rfl⟩
      gi_wp2
      refine hRn.mono ?_
      rintro e W3 ⟨rfl, hJ3⟩
      have HJ3 := Lib.hid hJ3
      clear hJ3
      gi_wp2
      go_roundw
      case rel => exact ⟨k, by omega, rfl, by rw [HEN.out], by rw [HSN.out, if_pos HEN.out]; exact HJ3.out⟩
      case measure => simp [RowKit.intOf]
     | false =>
      gi_wp2_with fail
      refine ⟨trivial, (HPT.out _).mono ?_⟩
      rintro e W2 ⟨rfl, rfl⟩
      gi_wp2_with fail
      refine ⟨trivial, (HBK.out _).mono ?_⟩
      rintro e W2 ⟨rfl, rfl⟩
      gi_wp2
      all_goals (try (refine ⟨fun _ h => (by cases h), ?_⟩; gi_wp2))
      go_roundw
      case rel => exact ⟨k, by omega, rfl, by rw [HEN.out], by rw [HSN.out, if_neg (by rw [HEN.out]; decide), List.append_nil]; exact HK.out⟩
      case measure => simp [RowKit.intOf]
    | false =>
     rw [hbx] at HBK
     have HEN := Lib.hid (show endB (C.drop k) = false from by rw [HE2.out hbx]; exact hpx)
     clear HE1 HE2 hpx hbx
     gi_wp2_with fail
     refine ⟨trivial, (HPT.out _).mono ?_⟩
     rintro e W2 ⟨rfl, rfl⟩
     gi_wp2_with fail
     refine ⟨trivial, (HBK.out _).mono ?_⟩
     rintro e W2 ⟨rfl, rfl⟩
     gi_wp2
     all_goals (try (refine ⟨fun _ h => (by cases h), ?_⟩; gi_wp2))
     go_roundw
     case rel => exact ⟨k, by omega, rfl, by rw [HEN.out], by rw [HSN.out, if_neg (by rw [HEN.out]; decide), List.append_nil]; exact HK.out⟩
     case measure => simp [RowKit.intOf]
end Go.Proofs.YtfclpecbnailgaaGreat.Bi

/-
 Proved here: what bidi.Line returns, for every row of runes and of levels of at most 2^40, and every number as the paragraph's level: the plain levels of a line. It leaves what was in memory.
-/
set_option linter.unusedVariables false
namespace Go.Proofs.YtfclpecbnailgaaGreat.Bi
open Go Go.RowKit Go.Lib Go.Proofs.YtfclpecbnailgaaGreat.Cl Go.Shelf
attribute [local go_sem] Oper.semAt_some
theorem line_cells {W W' : World} {row : Option Nat} (hg : W.grownBy W' row) (hr : ∀ r, row = some r → ∃ o : Obj, W.heap[r]? = some o ∧ o.isCells = false) {k : Nat} {b : Array Value} {t : TypeId} {f : Nat × Nat} (h : W.heap[k]? = some (.cells b t f)) : W'.heap[k]? = some (.cells b t f) :=
 (grownBy_keeps_cells hg hr h rfl).trans h
theorem line_no {W : World} {row : Option Nat} (hr : ∀ r, row = some r → ∃ o : Obj, W.heap[r]? = some o ∧ o.isCells = false) : ∀ r, row = some r → ∀ b t' f, W.heap[r]? ≠ some (.cells b t' f) := by
 intro r e b t f h
 obtain ⟨o, ho, hc⟩ := hr r e
 rw [h] at ho
 cases ho
 cases hc
/-- What lies in memory behind each place. -/
structure LineAt (p : Int) (A B : Option Addr) (n c d b5 b7 : Nat) (lv C : List Int) (w : World) (pre : List Nat) (W : World) : Prop where
 h5 : W.heap[b5]? = some (.cells #[.int .i64 p] 3 (0, 0))
 h7 : W.heap[b7]? = some (.cells #[.slice A n c] 25 (0, 0))
 own : W.ownsRow (w.heap.size + 1) 3 1 (.slice A n c) n (icl (putP p lv pre))
 cls : W.ownsRow (b7 + 1) 3 1 (.slice B n d) n (icl C)
 below : Below w.heap.size w W
theorem LineAt.keeps {p : Int} {A B : Option Addr} {n c d b5 b7 : Nat} {lv C : List Int} {w : World} (k : Nat) (hk : w.heap.size ≤ k) : OwnFrom k (LineAt p A B n c d b5 b7 lv C w) := by
 rintro pre W W' row ⟨h1, h2, h3, h4, h5⟩ hg hr
 have hr' : ∀ r, row = some r → ∃ o : Obj, W.heap[r]? = some o ∧ o.isCells = false := fun r e => (hr r e).2
 exact ⟨line_cells hg hr' h1, line_cells hg hr' h2, Sq.own_other h3 hg (line_no hr'), Sq.own_other h4 hg (line_no hr'), h5.grown hg h5.size (fun k e => by have := (hr k e).1; omega)⟩
theorem LineAt.put {p : Int} {B : Option Addr} {n c d b5 b7 g : Nat} {lv C : List Int} {w W : World} {pre : List Nat} (h : LineAt p (some ⟨g, 0, none⟩) B n c d b5 b7 lv C w pre W) (h5 : b5 = w.heap.size) (hg : g < b7) (x : Nat) : LineAt p (some ⟨g, 0, none⟩) B n c d b5 b7 lv C w (pre ++ [x]) (W.setCell ⟨g, x, none⟩ (.int .i64 p)) := by
 have hlt := h.own.lt g rfl
 refine ⟨(heap_setCell_other W ⟨g, x, none⟩ b5 _ (by show b5 ≠ g; omega)).trans h.h5, (heap_setCell_other W ⟨g, x, none⟩ b7 _ (by show b7 ≠ g; omega)).trans h.h7, ?_, ?_, h.below.setCell (p := ⟨g, x, none⟩) (by show w.heap.size ≤ g; omega) _⟩
 ·have := (h.own.stored x (.int .i64 p)).1
  rw [show (icl (putP p lv pre)).set x (.int .i64 p) = icl (putP p lv (pre ++ [x])) from by rw [putP_snoc]; simp [icl]] at this
  exact this
 ·refine ownsRow_setCell_other h.cls (a := ⟨g, x, none⟩) (fun e => ?_) _
  have := (h.cls.lt g e).1
  omega
set_option maxHeartbeats 4000000 in
set_option maxRecDepth 100000 in
theorem line_any (A1 A2 : Option Addr) (l : List Ku.R3) (lv : List Int) (n m c1 c2 : Nat) (p : Int) (w : World) (hR : Ku.RuAt w A1 l) (hI : IntsAt w A2 lv) (hl : l.length = n) (hm : lv.length = m) (hn : n ≤ 1099511627776) :
  Calls Tryz.prog 15 #[.slice A1 n c1, .slice A2 m c2, .int .i64 p] w fun e w' => ∃ A c, e = .returned (.slice A (lineZ (clsR l) lv p).length c) ∧ w'.ownsRow w.heap.size 3 1 (.slice A (lineZ (clsR l) lv p).length c) (lineZ (clsR l) lv p).length (icl (lineZ (clsR l) lv p)) ∧ Below w.heap.size w w' := by
 by_cases hnm : n = m
 ·have hlen : (lineZ (clsR l) lv p).length = n := by
   unfold lineZ
   rw [if_pos (by rw [clsR_len, hl, hm, hnm]), line_len p _ _ (by rw [clsR_len, hl, hm, hnm]), hm, hnm]
  rw [hlen]
  have e0 : lineZ (clsR l) lv p = putP p lv (backS (fun i => endB ((clsR l).drop i)) n n) := by
   unfold lineZ
   rw [if_pos (by rw [clsR_len, hl, hm, hnm]), ← put_line p (clsR l) lv (by rw [clsR_len, hl, hm, hnm]), clsR_len, hl]
  rw [e0]
  subst hnm
  subst hl
  have hb0 : Below w.heap.size w (w.alloc (.cells #[.int .i64 p] 3)) := (Below.refl _ _).alloc (Nat.le_refl _) _
  have hx0 : (w.alloc (.cells #[.int .i64 p] 3)).heap[w.heap.size]? = some (.cells #[.int .i64 p] 3 (0, 0)) := heap_alloc_last _ _
  have hs0 : (w.alloc (.cells #[.int .i64 p] 3)).heap.size = w.heap.size + 1 := World.size_alloc _ _
  have HCLN := Lib.hid (fun W (h : Below w.heap.size w W) => Wk.clone_any A2 lv l.length c2 W (hI.below h) hm hn)
  have HALL := Lib.hid (fun W (h : Below w.heap.size w W) => allR_any A1 l c1 W (hR.below h) hn)
  obtain ⟨C, hC⟩ : ∃ C, clsR l = C := ⟨_, rfl⟩
  have HCL := Lib.hid (show C.length = l.length from by rw [← hC]; exact clsR_len l)
  rw [hC] at HALL ⊢
  have HM := Lib.hid hm
  clear hR hI hm hC e0 hlen
  generalize l.length = n at *
  have HX0 := Lib.hid hx0
  have HS0 := Lib.hid hs0
  have HB0 := Lib.hid hb0
  clear hx0 hs0 hb0
  refine (callsIn_wide (n := 6)).1 ?_
  refine callsIn_of_wp_marks Tryz.func15 rfl trivial (wpIn_wide.2 ?_) rfl
  simp only [Tryz.ntmps15, List.size_toArray, List.length_cons, List.length_nil, Nat.reduceAdd, Nat.reduceSub, Array.replicate_succ, Array.replicate_zero, List.push_toArray, List.append_toArray, List.nil_append, List.cons_append]
  go_wp2_with fail
  generalize w.alloc (.cells #[.int .i64 p] 3) = w1 at *
  refine (HCLN.out _ HB0.out).mono ?_
  rintro e w2 ⟨A, c, rfl, ho2, hb2⟩
  have HO2 := Lib.hid ho2
  have HB2 := Lib.hid (HB0.out.trans (hb2.mono HB0.out.size))
  have HX2 := Lib.hid ((hb2.block w.heap.size (by rw [HS0.out]; omega)).trans HX0.out)
  have HS2 := Lib.hid hb2.size
  rw [HS0.out] at HO2 HS2
  clear ho2 hb2 HCLN HB0 HX0
  have hb3 : Below w2.heap.size w2 (w2.alloc (.cells #[.slice A n c] 25)) := (Below.refl _ _).alloc (Nat.le_refl _) _
  have HX3 := Lib.hid (show (w2.alloc (.cells #[.slice A n c] 25)).heap[w2.heap.size]? = some (.cells #[.slice A n c] 25 (0, 0)) from heap_alloc_last _ _)
  have HS3 := Lib.hid (show (w2.alloc (.cells #[.slice A n c] 25)).heap.size = w2.heap.size + 1 from World.size_alloc _ _)
  have HB3 := Lib.hid (HB2.out.trans (hb3.mono HB2.out.size))
  have HO3 := Lib.hid (ownsRow_below HO2.out hb3)
  have HX23 := Lib.hid ((hb3.block w.heap.size (by have := HS2.out; omega)).trans HX2.out)
  have HLT := Lib.hid (fun g h => (HO2.out.lt g h).2)
  clear hb3 HO2 HB2 HX2
  go_wp2_with fail
  generalize w2.alloc (.cells #[.slice A n c] 25) = w3 at *
  refine (HALL.out _ HB3.out).mono ?_
  rintro e w4 ⟨v, rfl, ho4, hb4⟩
  obtain ⟨B, d, rfl, i4⟩ := intsAt_icl (zs := C) ho4 HCL.out
  have hsz3 := HS3.out
  have HLA := Lib.hid (show LineAt p A B n c d w.heap.size w2.heap.size lv C w [] w4 from ⟨(hb4.block w.heap.size (by have := HS2.out; omega)).trans HX23.out, (hb4.block w2.heap.size (by omega)).trans HX3.out, ownsRow_below HO3.out hb4, ownsRow_mono ho4 (by omega), HB3.out.trans (hb4.mono HB3.out.size)⟩)
  have hs4 := HLA.out.below.size
  clear ho4 i4 hb4 HALL HB3 HO3 HX3 HX23
  go_wp2_with fail
  refine wpIn_wide.1 (wp_rangeOwn (n := 6) (by omega) (gf := 39) (la := #[.slice B n d]) rfl (enters_of Tryz.func39 (by kernel_rfl) rfl) (reset_gives _ (by omega) B n d C HCL.out hn) (fun _ => rfl)
   (LineAt p A B n c d w.heap.size w2.heap.size lv C w) (LineAt.keeps _ hs4) (fun s V h => by
    obtain ⟨B', d', e, hi⟩ := intsAt_icl h.cls HCL.out
    injection e with e1 e2 e3
    subst e1
    exact hi) HLA.out
   (fun x : Nat => { tmps := #[.slice A1 n c1, .slice A2 n c2, .int .i64 p, undef, undef, .pointer (some ⟨w.heap.size, 0, none⟩), .slice none 0 0, .pointer (some ⟨w2.heap.size, 0, none⟩), .int .i64 x, .slice A1 n c1, .int .i64 n, .slice A2 n c2, .int .i64 n, .bool false, .slice A2 n c2, .slice A n c, .slice A1 n c1, .slice B n d, .func (.func 39) #[.slice B n d] #[], .int .i64 x, undef, undef, undef, undef, undef], defers := [] }) ?assign ?body ?done)
  case assign =>
   intro l0 x V K hK
   gi_wp2_with fail
   exact hK
  case done =>
   rintro D V hD h hK
   have hc := cell_of_row V w2.heap.size 0 _ _ _ h.h7
   go_wp2_with fail
   refine ⟨by simp, .inl ⟨_, _, rfl, run_takeDeferred hK, ?_⟩⟩
   exact ⟨_, results_tmp rfl _ _ _, A, c, rfl, (Sq.own_other h.own (grownBy_putObj' V D _) (fun r e => by cases e; exact fun b t f h => by rw [hK] at h; cases h)).mono (by omega), h.below.trans (belowK_b (w := w) (Nat.le_refl _) V D _ _ (by omega) hK rfl rfl)⟩
  case body =>
   rintro l0 pre x V h hpre
   have hx : x < n := ((backS_mem _ _ _ (Nat.le_refl _) x).1 (hpre.subset (by simp))).2.1
   obtain ⟨g, rfl⟩ := own_head h.own (by omega)
   have hc5 := cell_of_row V w.heap.size 0 _ _ _ h.h5
   have hc7 := cell_of_row V w2.heap.size 0 _ _ _ h.h7
   have hxl : x < (putP p lv pre).length := by rw [putP_len, HM.out]; exact hx
   obtain ⟨p1, q1⟩ := own_int h.own (List.getElem?_eq_getElem hxl)
   have HPUT := Lib.hid (h.put rfl (HLT.out g rfl) x)
   have hk0 : (0 : Int) ≤ (x : Int) := by omega
   have hk1 : (x : Int) < (n : Int) := by omega
   generalize (putP p lv pre)[x] = y at *
   clear h hpre
   gi_wp2_with fail
   exact ⟨(KeepsOthers.setCell V ⟨g, x, none⟩ _).from _, HPUT.out⟩
 ·have e0 : lineZ (clsR l) lv p = [] := by unfold lineZ; rw [if_neg (by rw [clsR_len, hl, hm]; exact hnm)]
  rw [e0]
  have hne : ((n : Int) != (m : Int)) = true := bne_iff_ne.2 (by omega)
  have hne2 : (n != m) = true := bne_iff_ne.2 hnm
  clear hR hI hl hm e0
  go_enter Tryz.func15, Tryz.ntmps15
  go_wp2
  go_ret
  exact ⟨none, 0, rfl, World.ownsRow_nil _ _ _ _, (Below.refl _ _).alloc (Nat.le_refl _) _⟩
end Go.Proofs.YtfclpecbnailgaaGreat.Bi

/-
 The order of levels, plainly: for each level from 126 down to 1 each stretch of places at that level or above is turned round; each place is there once; places of one level that stand side by side stay side by side, as they are if it is even, turned round if it is odd; levels that are all 0 leave the text's order. No program in it.
-/
set_option linter.unusedVariables false
namespace Go.Proofs.YtfclpecbnailgaaGreat.Bo
/-- Each stretch of what p says is turned round; acc: the stretch so far, the last one first. -/
def revGo (p : Nat → Bool) (acc : List Nat) : List Nat → List Nat
 | [] => acc
 | x :: r => if p x then revGo p (x :: acc) r else acc ++ x :: revGo p [] r
def cutL (n : Int) : Int := min (max n 0) 126
def lvAt (L : List Int) (j : Nat) : Int := cutL (L.getD j 0)
/-- Level by level, from k down to 1. -/
def ordFrom (f : Nat → Int) : Nat → List Nat → List Nat
 | 0, o => o
 | k + 1, o => ordFrom f k (revGo (fun j => decide ((k : Int) + 1 ≤ f j)) [] o)
def orderP (L : List Int) : List Nat := ordFrom (lvAt L) 126 (List.range L.length)
theorem revGo_len (p : Nat → Bool) (l : List Nat) : ∀ acc, (revGo p acc l).length = acc.length + l.length := by
 induction l with
 | nil => intro acc; simp [revGo]
 | cons x r ih =>
  intro acc; unfold revGo; split
  ·rw [ih]; simp; omega
  ·rw [List.length_append, List.length_cons, ih]; simp
theorem revGo_none (p : Nat → Bool) (l : List Nat) (h : ∀ x ∈ l, p x = false) : revGo p [] l = l := by
 induction l with
 | nil => rfl
 | cons x r ih =>
  unfold revGo
  rw [if_neg (by rw [h x (by simp)]; simp), ih (fun y hy => h y (by simp [hy]))]
  rfl
end Go.Proofs.YtfclpecbnailgaaGreat.Bo

/-
 An exchange of two places of a row, plainly; a row of places of the call's own: what it holds, and what is stored into it. No program in it but its types.
-/
set_option linter.unusedVariables false
namespace Go.Proofs.YtfclpecbnailgaaGreat.Bi
open Go Go.RowKit Go.Lib Go.Proofs.YtfclpecbnailgaaGreat.Cl Go.Proofs.YtfclpecbnailgaaGreat.Bo
theorem swap_set (D R Y M X : List Nat) (x y : Nat) (t : Nat) (hY : Y.length = t) :
  (((D ++ (Y ++ (x :: M ++ [y]) ++ X) ++ R).set (D.length + t) y).set (D.length + t + M.length + 1) x) = D ++ ((Y ++ [y]) ++ M ++ (x :: X)) ++ R := by
 subst hY
 have e1 : D ++ (Y ++ (x :: M ++ [y]) ++ X) ++ R = (D ++ Y) ++ x :: (M ++ [y] ++ X ++ R) := by simp
 have e2 : (D ++ Y) ++ y :: (M ++ [y] ++ X ++ R) = (D ++ Y ++ [y] ++ M) ++ y :: (X ++ R) := by simp
 rw [e1, List.set_append_right _ _ (by simp), show D.length + Y.length - (D ++ Y).length = 0 from by simp, List.set_cons_zero, e2, List.set_append_right _ _ (by simp; omega),
  show D.length + Y.length + M.length + 1 - (D ++ Y ++ [y] ++ M).length = 0 from by simp; omega, List.set_cons_zero]
 simp
theorem swap_at (D R Y M X : List Nat) (x y : Nat) (t : Nat) (hY : Y.length = t) :
  (D ++ (Y ++ (x :: M ++ [y]) ++ X) ++ R)[D.length + t]? = some x ∧ (D ++ (Y ++ (x :: M ++ [y]) ++ X) ++ R)[D.length + t + M.length + 1]? = some y := by
 subst hY
 have e1 : D ++ (Y ++ (x :: M ++ [y]) ++ X) ++ R = (D ++ Y) ++ x :: (M ++ [y] ++ X ++ R) := by simp
 have e2 : D ++ (Y ++ (x :: M ++ [y]) ++ X) ++ R = (D ++ Y ++ [x] ++ M) ++ y :: (X ++ R) := by simp
 constructor
 ·rw [e1, List.getElem?_append_right (by simp), show D.length + Y.length - (D ++ Y).length = 0 from by simp]; rfl
 ·rw [e2, List.getElem?_append_right (by simp; omega), show D.length + Y.length + M.length + 1 - (D ++ Y ++ [x] ++ M).length = 0 from by simp; omega]; rfl
theorem two_ends {α : Type} : ∀ (M : List α), 2 ≤ M.length → ∃ x M' y, M = x :: M' ++ [y]
 | [], h => by simp at h
 | [x], h => by simp at h
 | x :: z :: r, _ => by
  obtain ⟨M', y, h⟩ : ∃ M' y, z :: r = M' ++ [y] := ⟨(z :: r).dropLast, (z :: r).getLast (by simp), (List.dropLast_concat_getLast (by simp)).symm⟩
  exact ⟨x, M', y, by rw [h]; simp⟩
theorem rev_short {α : Type} (M : List α) (h : M.length ≤ 1) : M.reverse = M := by
 match M, h with
 | [], _ => rfl
 | [x], _ => rfl
theorem own_nat {V : World} {base g n c : Nat} {O : List Nat} (h : V.ownsRow base 3 1 (.slice (some ⟨g, 0, none⟩) n c) n (icl (Sq.ns O))) {i x : Nat} (hx : O[i]? = some x) : V.cell? ⟨g, i, none⟩ = some (.int .i64 (x : Int)) ∧ V.frozen? ⟨g, i, none⟩ = false := by
 have hi := (List.getElem?_eq_some_iff.1 hx).1
 have hl : (icl (Sq.ns O)).length = n * 1 := h.1
 rw [icl_len, Sq.ns_len] at hl
 refine ⟨?_, h.frozenAt _⟩
 rw [h.cellAt _ (by omega)]
 simp [icl, Sq.ns, hx]
theorem own_put {V : World} {base g n c : Nat} {O : List Nat} (h : V.ownsRow base 3 1 (.slice (some ⟨g, 0, none⟩) n c) n (icl (Sq.ns O))) (i x : Nat) : (V.setCell ⟨g, i, none⟩ (.int .i64 (x : Int))).ownsRow base 3 1 (.slice (some ⟨g, 0, none⟩) n c) n (icl (Sq.ns (O.set i x))) := by
 have := (h.stored i (.int .i64 (x : Int))).1
 rw [show (icl (Sq.ns O)).set i (.int .i64 (x : Int)) = icl (Sq.ns (O.set i x)) from by simp [icl, Sq.ns]] at this
 exact this
theorem range_snoc (k : Nat) : Sq.ns (List.range (k + 1)) = Sq.ns (List.range k) ++ [(k : Int)] := by simp [Sq.ns, List.range_succ]
end Go.Proofs.YtfclpecbnailgaaGreat.Bi

/-
 Proved here: what slices.Reverse does to a stretch of a row of places of the call's own: it is turned round; nothing else of memory changes.
-/
set_option linter.unusedVariables false
namespace Go.Proofs.YtfclpecbnailgaaGreat.Bi
open Go Go.RowKit Go.Lib Go.Proofs.YtfclpecbnailgaaGreat.Cl Go.Proofs.YtfclpecbnailgaaGreat.Bo
set_option maxHeartbeats 2000000 in
set_option maxRecDepth 100000 in
theorem reverse_none (A : Option Addr) (c2 : Nat) (w : World) :
  Calls Tryz.prog 79 #[.slice A 0 c2] w fun e w' => e = .returned (.tuple #[]) ∧ w' = w := by
 go_enter Tryz.func79, Tryz.ntmps79
 go_wp2_with fail
 go_loopw [2, 3] (fun s2 s3 wx => s2 = .int .i64 0 ∧ s3 = .int .i64 (-1) ∧ wx = w) (fun _ _ _ => 0)
 case atStart => exact ⟨rfl, rfl, rfl⟩
 case round =>
  obtain ⟨rfl, rfl, rfl⟩ := hrel
  go_wp2
  go_end0
  exact ⟨rfl, rfl⟩
set_option maxHeartbeats 4000000 in
set_option maxRecDepth 100000 in
theorem reverse_own (base g n c len c2 k0 : Nat) (D S R : List Nat) (w0 w : World) (hD : D.length = k0) (hS : S.length = len) (hO : w.ownsRow base 3 1 (.slice (some ⟨g, 0, none⟩) n c) n (icl (Sq.ns (D ++ S ++ R)))) (hn : n ≤ 1099511627776) (hb : Below w0.heap.size w0 w) (hg : w0.heap.size ≤ g) :
  Calls Tryz.prog 79 #[.slice (some ⟨g, k0, none⟩) len c2] w fun e w' => e = .returned (.tuple #[]) ∧ w'.ownsRow base 3 1 (.slice (some ⟨g, 0, none⟩) n c) n (icl (Sq.ns (D ++ S.reverse ++ R))) ∧ Below w0.heap.size w0 w' := by
 have hnl : k0 + len + R.length = n := by
  have := hO.1
  rw [icl_len, Sq.ns_len] at this
  simp at this
  omega
 have HO1 := Lib.hid hO
 have HB1 := Lib.hid hb
 have HD := Lib.hid hD
 have HS := Lib.hid hS
 have HG := Lib.hid hg
 have HNL := Lib.hid hnl
 have hln : len ≤ 1099511627776 := by omega
 clear hO hb hD hS hnl hg
 go_enter Tryz.func79, Tryz.ntmps79
 go_wp2_with fail
 go_loopw [2, 3] (fun s2 s3 wx => ∃ (t mm : Nat) (Y M X : List Nat), s2 = .int .i64 t ∧ s3 = .int .i64 ((mm : Int) - 1) ∧ mm = t + M.length ∧ Y.length = t ∧ X.length = t ∧ Y ++ M.reverse ++ X = S.reverse ∧ wx.ownsRow base 3 1 (.slice (some ⟨g, 0, none⟩) n c) n (icl (Sq.ns (D ++ (Y ++ M ++ X) ++ R))) ∧ Below w0.heap.size w0 wx) (fun s2 s3 _ => ((RowKit.intOf s3).toNat + 1) - (RowKit.intOf s2).toNat)
 case atStart => exact ⟨0, len, [], S, [], rfl, rfl, by have := HS.out; omega, rfl, rfl, by simp, by simpa using HO1.out, HB1.out⟩
 case round =>
  obtain ⟨t, mm, Y, M, X, rfl, rfl, hmm, hY, hX, hrev, hown2, hb2⟩ := hrel
  have HO2 := Lib.hid hown2
  have HB2 := Lib.hid hb2
  have HY := Lib.hid hY
  have HX := Lib.hid hX
  have HREV := Lib.hid hrev
  have HSL := Lib.hid (show t + M.length + t = S.length from by have := congrArg List.length hrev; simp at this; omega)
  clear hown2 hb2 hrev
  by_cases hM : 2 ≤ M.length
  ·obtain ⟨x', M', y', rfl⟩ := two_ends M hM
   obtain ⟨b2, hb2⟩ : ∃ b2, t + M'.length + 1 = b2 := ⟨_, rfl⟩
   have hmb : ((mm : Int) - 1) = (b2 : Int) := by simp at hmm; omega
   rw [hmb]
   have hab : t < b2 := by omega
   have hbk : b2 < len := by have := HSL.out; have := HS.out; simp at *; omega
   have hO2 := HO2.out
   obtain ⟨s1, s2⟩ := swap_at D R Y M' X x' y' t hY
   have hset := swap_set D R Y M' X x' y' t hY
   have e2 : D.length + t + M'.length + 1 = k0 + b2 := by have := HD.out; omega
   rw [HD.out] at s1
   rw [e2] at s2
   rw [e2, HD.out] at hset
   obtain ⟨p1, q1⟩ := own_nat hO2 s1
   obtain ⟨p2, q2⟩ := own_nat hO2 s2
   have hO3 := own_put hO2 (k0 + t) y'
   have s3 : ((D ++ (Y ++ (x' :: M' ++ [y']) ++ X) ++ R).set (k0 + t) y')[k0 + b2]? = some y' := by rw [List.getElem?_set_ne (by omega)]; exact s2
   obtain ⟨p3, q3⟩ := own_nat hO3 s3
   have hO4 := own_put hO3 (k0 + b2) x'
   rw [hset] at hO4
   have HB4 := Lib.hid ((HB2.out.setCell (p := ⟨g, k0 + t, none⟩) HG.out (.int .i64 (y' : Int))).setCell (p := ⟨g, k0 + b2, none⟩) HG.out (.int .i64 (x' : Int)))
   have HO4 := Lib.hid hO4
   have j1 : decide ((t : Int) < (b2 : Int)) = true := decide_eq_true (by omega)
   have j2 : decide (t < b2) = true := decide_eq_true hab
   have ja0 : (0 : Int) ≤ (t : Int) := by omega
   have ja1 : (t : Int) < (len : Int) := by omega
   have jb0 : (0 : Int) ≤ (b2 : Int) := by omega
   have jb1 : (b2 : Int) < (len : Int) := by omega
   have t1 : decide ((t : Int) < 0) = false := decide_eq_false (by omega)
   have t2 : decide ((b2 : Int) < 0) = false := decide_eq_false (by omega)
   have t3 : decide ((len : Int) ≤ (t : Int)) = false := decide_eq_false (by omega)
   have t4 : decide ((len : Int) ≤ (b2 : Int)) = false := decide_eq_false (by omega)
   have t5 : decide (len ≤ t) = false := decide_eq_false (by omega)
   have t6 : decide (len ≤ b2) = false := decide_eq_false (by omega)
   have HX1 := Lib.hid (show (b2 : Int) - 1 = ((b2 : Nat) : Int) - 1 ∧ b2 = (t + 1) + M'.length from ⟨rfl, by omega⟩)
   clear hO2 hO3 hO4 hset s1 s2 s3 hmb hM hmm hb2 hY hX e2
   go_wp2_with fail
   go_region
   all_goals go_wp2_with fail
   all_goals go_roundw
   case rel => exact ⟨t + 1, b2, Y ++ [y'], M', x' :: X, by go_num, by first | rfl | go_num, HX1.out.2, by simp [HY.out], by simp [HX.out], by rw [← HREV.out]; simp, HO4.out, HB4.out.drew⟩
   case measure => simp [RowKit.intOf] <;> omega
  ·have HRS := Lib.hid (rev_short M (by omega))
   have j1 : decide ((t : Int) < (mm : Int) - 1) = false := decide_eq_false (by omega)
   have HO5 := Lib.hid (show wr.ownsRow base 3 1 (.slice (some ⟨g, 0, none⟩) n c) n (icl (Sq.ns (D ++ S.reverse ++ R))) from by
    have e : Y ++ M ++ X = S.reverse := by rw [← HREV.out, HRS.out]
    rw [← e]
    exact HO2.out)
   clear hmm hY hX hM
   go_wp2_with fail
   go_end0
   exact ⟨rfl, HO5.out, HB2.out⟩
end Go.Proofs.YtfclpecbnailgaaGreat.Bi

/-
 Proved here: what bidi.turn does to a row of places of the call's own: each stretch of places at that level or above is turned round; nothing else of memory changes.
-/
set_option linter.unusedVariables false
namespace Go.Proofs.YtfclpecbnailgaaGreat.Bi
open Go Go.RowKit Go.Lib Go.Proofs.YtfclpecbnailgaaGreat.Cl Go.Proofs.YtfclpecbnailgaaGreat.Bo
theorem turn_out (p : Nat → Bool) (D S R2 O : List Nat) (x : Nat) (h : D ++ revGo p S.reverse (x :: R2) = revGo p [] O) (hp : p x = false) : (D ++ S.reverse ++ [x]) ++ revGo p [] R2 = revGo p [] O := by
 rw [← h]
 conv => rhs; unfold revGo
 rw [if_neg (by rw [hp]; decide)]
 simp
theorem turn_in (p : Nat → Bool) (D S R2 O : List Nat) (x : Nat) (h : D ++ revGo p S.reverse (x :: R2) = revGo p [] O) (hp : p x = true) : D ++ revGo p (S ++ [x]).reverse R2 = revGo p [] O := by
 rw [← h]
 congr 1
 conv => rhs; unfold revGo
 rw [if_pos hp, List.reverse_append]
 rfl
set_option maxHeartbeats 4000000 in
set_option maxRecDepth 100000 in
theorem turn_any (base g n q cp : Nat) (O : List Nat) (A0 : Option Addr) (T : List Int) (w0 w : World) (p : Nat → Bool) (hO : w.ownsRow base 3 1 (.slice (some ⟨g, 0, none⟩) n n) n (icl (Sq.ns O))) (hol : O.length = n) (hA : IntsAt w0 A0 T) (hl : T.length = n) (hn : n ≤ 1099511627776) (hb : Below w0.heap.size w0 w) (hg : w0.heap.size ≤ g)
  (hp : ∀ i (h1 : i < T.length) (h2 : i < O.length), decide (T[i] < (q : Int)) = !(p O[i])) :
  Calls Tryz.prog 41 #[.slice (some ⟨g, 0, none⟩) n n, .slice A0 n cp, .int .i64 q] w fun e w' => e = .returned (.tuple #[]) ∧ w'.ownsRow base 3 1 (.slice (some ⟨g, 0, none⟩) n n) n (icl (Sq.ns (revGo p [] O))) ∧ Below w0.heap.size w0 w' := by
 have HREV := Lib.hid (fun (V : World) (D S R : List Nat) (k0 len c2 : Nat) h1 h2 h3 h4 => reverse_own base g n n len c2 k0 D S R w0 V h1 h2 h3 hn h4 hg)
 have HRN := Lib.hid (fun (V : World) (A : Option Addr) (c2 : Nat) => reverse_none A c2 V)
 have HO0 := Lib.hid hO
 have HB0 := Lib.hid hb
 have HA := Lib.hid hA
 have HL := Lib.hid hl
 have HOL := Lib.hid hol
 have HP := Lib.hid hp
 clear hO hb hA hl hol hp hg
 go_enter Tryz.func41, Tryz.ntmps41
 go_wp2_with fail
 go_loopw [6, 11] (fun s6 s11 wx => ∃ (i fr : Nat) (D S R : List Nat), s11 = .int .i64 i ∧ s6 = .int .i64 fr ∧ D.length = fr ∧ fr + S.length = i ∧ i ≤ n ∧ R = O.drop i ∧ D ++ revGo p S.reverse R = revGo p [] O ∧ wx.ownsRow base 3 1 (.slice (some ⟨g, 0, none⟩) n n) n (icl (Sq.ns (D ++ S ++ R))) ∧ Below w0.heap.size w0 wx) (fun _ s11 _ => n - (RowKit.intOf s11).toNat)
 case atStart => exact ⟨0, 0, [], [], O, rfl, rfl, rfl, rfl, Nat.zero_le _, rfl, rfl, by simpa using HO0.out, HB0.out⟩
 case round =>
  obtain ⟨i, fr, D, S, R, rfl, rfl, hD, hS, hi, hR, heq, hown, hb⟩ := hrel
  have HO1 := Lib.hid hown
  have HB1 := Lib.hid hb
  have HD := Lib.hid hD
  have HS := Lib.hid hS
  have HEQ := Lib.hid heq
  have hfi : fr ≤ i := by omega
  clear HO0 HB0 hown hb hD hS heq
  by_cases hin : i < n
  ·have hiO : i < O.length := by rw [HOL.out]; exact hin
   have hiT : i < T.length := by rw [HL.out]; exact hin
   rw [List.drop_eq_getElem_cons hiO] at hR
   subst hR
   have hpp := HP.out i hiT hiO
   obtain ⟨g0, o0, rfl, hc0⟩ := (HA.out.below HB1.out).at_ hiT
   have HD2 := Lib.hid (show (O.drop (i + 1)) = O.drop (i + 1) from rfl)
   generalize T[i] = tx at *
   generalize O[i] = x at *
   generalize hR2 : O.drop (i + 1) = R2 at *
   have HR2 := Lib.hid hR2
   have hi0 : (0 : Int) ≤ (i : Int) := by omega
   have hi1 : (i : Int) < (n : Int) := by omega
   clear hiO hiT hR2 HD2
   cases hpx : p x with
   | true =>
    rw [hpx] at hpp
    have hpq : decide (tx < (q : Int)) = false := hpp
    have HE := Lib.hid (turn_in p D S R2 O x HEQ.out hpx)
    clear hpp
    go_wp2_with fail
    go_roundw
    case rel => exact ⟨i + 1, fr, D, S ++ [x], R2, by go_num, rfl, HD.out, by have := HS.out; simp; omega, by omega, HR2.out.symm, HE.out, by simpa using HO1.out, HB1.out⟩
    case measure => simp [RowKit.intOf] <;> omega
   | false =>
    rw [hpx] at hpp
    have hpq : decide (tx < (q : Int)) = true := hpp
    have HE := Lib.hid (turn_out p D S R2 O x HEQ.out hpx)
    have jf0 : (0 : Int) ≤ (fr : Int) := by omega
    have jf1 : (fr : Int) ≤ (i : Int) := by omega
    have jf2 : (i : Int) ≤ (n : Int) := by omega
    have jf3 : (fr : Int) < (n : Int) := by omega
    have jf4 : fr < n := by omega
    clear hpp
    go_wp2_with fail
    refine (HREV.out _ D S (x :: R2) fr (i - fr) _ HD.out (by have := HS.out; omega) HO1.out HB1.out).mono ?_
    rintro e w2 ⟨rfl, ho2, hb2⟩
    have HO2 := Lib.hid ho2
    have HB2 := Lib.hid hb2
    clear ho2 hb2
    go_wp2_with fail
    go_roundw
    case rel => exact ⟨i + 1, i + 1, D ++ S.reverse ++ [x], [], R2, by go_num, by go_num, by have := HS.out; have := HD.out; simp; omega, rfl, by omega, HR2.out.symm, HE.out, by simpa using HO2.out, HB2.out⟩
    case measure => simp [RowKit.intOf] <;> omega
  ·obtain rfl : i = n := by omega
   obtain rfl : R = [] := by rw [hR, List.drop_eq_nil_of_le (by rw [HOL.out]; exact Nat.le_refl _)]
   have HE := Lib.hid (show D ++ S.reverse = revGo p [] O from by rw [← HEQ.out]; rfl)
   have jf0 : (0 : Int) ≤ (fr : Int) := by omega
   have jf1 : (fr : Int) ≤ (i : Int) := by omega
   clear hR hin
   by_cases hfe : fr = i
   ·subst hfe
    obtain rfl : S = [] := List.eq_nil_of_length_eq_zero (by have := HS.out; omega)
    have HO3 := Lib.hid (show wr.ownsRow base 3 1 (.slice (some ⟨g, 0, none⟩) fr fr) fr (icl (Sq.ns (revGo p [] O))) from by rw [← HE.out]; simpa using HO1.out)
    go_wp2_with fail
    refine (HRN.out _ _ _).mono ?_
    rintro e w2 ⟨rfl, rfl⟩
    go_wp2_with fail
    go_end0
    exact ⟨rfl, HO3.out, HB1.out⟩
   ·have jf3 : (fr : Int) < (i : Int) := by omega
    have jf4 : fr < i := by omega
    go_wp2_with fail
    refine (HREV.out _ D S [] fr (i - fr) _ HD.out (by have := HS.out; omega) HO1.out HB1.out).mono ?_
    rintro e w2 ⟨rfl, ho2, hb2⟩
    have HO2 := Lib.hid ho2
    have HB2 := Lib.hid hb2
    clear ho2 hb2
    go_wp2_with fail
    go_end0
    exact ⟨rfl, by rw [← HE.out]; simpa using HO2.out, HB2.out⟩
end Go.Proofs.YtfclpecbnailgaaGreat.Bi

/-
 The order of levels, plainly: what is turned round at a level stands within one stretch of each level below it, so that the stretches are told by where a place stands as well as by the place; above the highest level nothing is turned round. No program in it.
-/
set_option linter.unusedVariables false
namespace Go.Proofs.YtfclpecbnailgaaGreat.Bo
theorem revGo_map (p r : Nat → Bool) (hpr : ∀ x, p x = true → r x = true) : ∀ (l acc : List Nat), (∀ x ∈ acc, r x = true) → (revGo p acc l).map r = acc.map r ++ l.map r
 | [], acc, _ => by simp [revGo]
 | x :: l, acc, h => by
  unfold revGo
  by_cases hp : p x = true
  ·have hx := hpr x hp
   have h2 : ∀ y ∈ x :: acc, r y = true := fun y hy => by
    rcases List.mem_cons.1 hy with rfl | hy
    ·exact hx
    ·exact h y hy
   rw [if_pos hp, revGo_map p r hpr l (x :: acc) h2]
   have ha : acc.map r = List.replicate acc.length true := List.map_eq_replicate_iff.2 h
   simp only [List.map_cons, hx, ha]
   rw [← List.replicate_succ, List.replicate_succ']
   simp
  ·rw [if_neg hp, List.map_append, List.map_cons, revGo_map p r hpr l [] (fun y hy => by cases hy), List.map_cons]
   simp
/-- As far as k, what is told of the place that stands anywhere is told of where it stands. -/
def Alike (f : Nat → Int) (k : Nat) (O : List Nat) : Prop := ∀ q : Nat, 1 ≤ q → q ≤ k → O.map (fun j => decide ((q : Int) ≤ f j)) = (List.range O.length).map (fun j => decide ((q : Int) ≤ f j))
theorem Alike.range (f : Nat → Int) (k n : Nat) : Alike f k (List.range n) := fun q _ _ => by rw [List.length_range]
theorem Alike.step {f : Nat → Int} {k : Nat} {O : List Nat} (h : Alike f (k + 1) O) : Alike f k (revGo (fun j => decide ((k : Int) + 1 ≤ f j)) [] O) := fun q h1 h2 => by
 have e := revGo_map (fun j => decide ((k : Int) + 1 ≤ f j)) (fun j => decide ((q : Int) ≤ f j)) (fun x hx => by
  have := of_decide_eq_true hx
  exact decide_eq_true (by omega)) O [] (fun y hy => by cases hy)
 rw [e, revGo_len]
 simpa using h q h1 (by omega)
theorem Alike.at_ {f : Nat → Int} {k : Nat} {O : List Nat} (h : Alike f k O) {q : Nat} (h1 : 1 ≤ q) (h2 : q ≤ k) {i : Nat} (hi : i < O.length) : decide ((q : Int) ≤ f O[i]) = decide ((q : Int) ≤ f i) := by
 have e := congrArg (fun l => l[i]?) (h q h1 h2)
 simpa [hi] using e
/-- Above the highest level. -/
theorem ord_top (f : Nat → Int) (o : List Nat) (t : Nat) (h : ∀ x ∈ o, f x ≤ t) : ∀ k : Nat, ordFrom f (t + k) o = ordFrom f t o
 | 0 => rfl
 | k + 1 => by
  show ordFrom f (t + k) (revGo (fun j => decide (((t + k : Nat) : Int) + 1 ≤ f j)) [] o) = _
  rw [revGo_none _ _ (fun x hx => by have := h x hx; exact decide_eq_false (by omega))]
  exact ord_top f o t h k
theorem order_top {T : List Int} {t : Nat} (ht : t ≤ 126) (h : ∀ j, j < T.length → lvAt T j ≤ t) : orderP T = ordFrom (lvAt T) t (List.range T.length) := by
 unfold orderP
 rw [show 126 = t + (126 - t) from by omega]
 exact ord_top _ _ _ (fun x hx => h x (List.mem_range.1 hx)) _
/-- A level from 1 to 126 is told of a number as it is. -/
theorem cut_ge {x : Int} {q : Nat} (h1 : 1 ≤ q) (h2 : q ≤ 126) : decide ((q : Int) ≤ cutL x) = decide ((q : Int) ≤ x) := by
 rw [decide_eq_decide]
 unfold cutL
 omega
end Go.Proofs.YtfclpecbnailgaaGreat.Bo

/-
 Proved here: what bidi.Order returns, for every row of numbers of at most 2^40: the plain order of levels. It leaves what was in memory.
-/
set_option linter.unusedVariables false
namespace Go.Proofs.YtfclpecbnailgaaGreat.Bi
open Go Go.RowKit Go.Lib Go.Proofs.YtfclpecbnailgaaGreat.Cl Go.Proofs.YtfclpecbnailgaaGreat.Bo
theorem set_range (Z : List Int) (k : Nat) (h : k < Z.length) (hz : Z.take k = Sq.ns (List.range k)) : (Z.set k (k : Int)).take (k + 1) = Sq.ns (List.range (k + 1)) := by
 have hl : (Z.take k).length = k := by simp; omega
 rw [List.take_set, List.take_succ_eq_append_getElem h, List.set_append_right _ _ (by omega), hl, Nat.sub_self, hz, range_snoc]
 rfl
theorem lvAt_get {T : List Int} {k : Nat} (h : k < T.length) : lvAt T k = cutL T[k] := by
 unfold lvAt
 simp [List.getD, List.getElem?_eq_getElem h]
set_option maxHeartbeats 4000000 in
set_option maxRecDepth 100000 in
theorem order_any (A0 : Option Addr) (T : List Int) (n cp : Nat) (w : World) (hA : IntsAt w A0 T) (hl : T.length = n) (hn : n ≤ 1099511627776) :
  Calls Tryz.prog 17 #[.slice A0 n cp] w fun e w' => ∃ A c, e = .returned (.slice A n c) ∧ w'.ownsRow w.heap.size 3 1 (.slice A n c) n (icl (Sq.ns (orderP T))) ∧ Below w.heap.size w w' := by
 obtain ⟨i0, hi0, hq0, hq1, hq2⟩ := info_parts infoInt
 have HI := Lib.hid hi0
 have HQ0 := Lib.hid hq0
 have HQ1 := Lib.hid hq1
 have HQ2 := Lib.hid hq2
 have HA := Lib.hid hA
 have HL := Lib.hid hl
 clear hi0 hq0 hq1 hq2 hA hl
 go_enter Tryz.func17, Tryz.ntmps17
 go_wp2_with (refine wpList_make_full _ rfl _ _ 25 rfl w.heap.size 3 i0 (.int .i64 0) 1 Tryz.underlying25 HI.out HQ0.out HQ1.out .i64 .i64 _ _ n rfl rfl rfl rfl ?c1 ?c2 ?c3 ?_)
 case c1 => rw [HQ2.out]; omega
 case c2 => unfold maxLen; omega
 case c3 => exact Nat.le_refl _
 intro w1 hown hgr
 have hown1 : w1.ownsRow w.heap.size 3 1 (.slice (some ⟨w.heap.size, 0, none⟩) n n) n (icl (List.replicate n 0)) := by
  have h := hown
  rw [toList_madeCells_one] at h
  rw [show icl (List.replicate n 0) = List.replicate n (.int .i64 0) from by simp [icl]]
  exact h
 have hb1 : Below w.heap.size w w1 := (Below.refl _ _).grown hgr (Nat.le_refl _) (fun k h => by cases h)
 have HO := Lib.hid hown1
 have HB1 := Lib.hid hb1
 clear hown hgr hown1 hb1 HI HQ0 HQ1 HQ2
 go_wp2_with fail
 go_loopw [4, 13] (fun s4 s13 wx => ∃ (k t : Nat) (Z : List Int), k ≤ n ∧ s13 = .int .i64 k ∧ s4 = .int .i64 t ∧ t ≤ 126 ∧ (∀ j, j < k → lvAt T j ≤ t) ∧ Z.take k = Sq.ns (List.range k) ∧ Z.length = n ∧ wx.ownsRow w.heap.size 3 1 (.slice (some ⟨w.heap.size, 0, none⟩) n n) n (icl Z) ∧ Below w.heap.size w wx) (fun _ s13 _ => n - (RowKit.intOf s13).toNat)
 case atStart => exact ⟨0, 0, List.replicate n 0, Nat.zero_le _, rfl, rfl, by omega, fun j h => by omega, rfl, by simp, HO.out, HB1.out⟩
 case round =>
  obtain ⟨k, t, Z, hk, rfl, rfl, ht, htop, hz, hzl, hown, hb⟩ := hrel
  have HZ := Lib.hid hz
  have HZL := Lib.hid hzl
  have HW := Lib.hid hown
  have HB := Lib.hid hb
  have HTOP := Lib.hid htop
  clear hz hown HO HB1 htop
  by_cases hlt : k < n
  ·have hkz : k < T.length := by rw [HL.out]; exact hlt
   have hkl : k < Z.length := by rw [HZL.out]; exact hlt
   obtain ⟨g, off, rfl, hc⟩ := (HA.out.below hb).at_ hkz
   have hcr : wr.cell? ⟨w.heap.size, k, none⟩ = some (.int .i64 Z[k]) := by
    rw [HW.out.cellAt _ (by omega)]
    simp [icl, hkl]
   have hfr := HW.out.frozenAt k
   obtain ⟨h1, h2⟩ := HW.out.stored k (.int .i64 (k : Int))
   rw [show (icl Z).set k (.int .i64 (k : Int)) = icl (Z.set k (k : Int)) from by simp [icl]] at h1
   have HST := Lib.hid (set_range Z k hkl HZ.out)
   have HLV := Lib.hid (lvAt_get hkz)
   generalize T[k] = z at *
   generalize Z[k] = y at *
   have HOW := Lib.hid h1
   have hk0 : (0 : Int) ≤ (k : Int) := by omega
   have hk1 : (k : Int) < (n : Int) := by omega
   obtain ⟨m, hm⟩ : ∃ m : Int, min z 126 = m := ⟨_, rfl⟩
   obtain ⟨t2, ht2⟩ : ∃ t2 : Nat, max (t : Int) m = (t2 : Int) := ⟨(max (t : Int) m).toNat, by omega⟩
   have HT2 := Lib.hid (show t2 ≤ 126 ∧ ∀ j, j < k + 1 → lvAt T j ≤ t2 from by
    refine ⟨by omega, fun j hj => ?_⟩
    by_cases e : j = k
    ·subst e
     rw [HLV.out]
     unfold cutL
     omega
    ·have := HTOP.out j (by omega)
     omega)
   have HOB := Lib.hid (HB.out.setCell (p := ⟨w.heap.size, k, none⟩) (Nat.le_refl _) (.int .i64 (k : Int)))
   clear h1 h2 hkz hkl hb hzl
   go_wp2_with fail
   go_roundw
   case rel => exact ⟨k + 1, t2, Z.set k (k : Int), by omega, by go_num, by rw [← ht2, ← hm]; try (congr 1; split <;> split <;> omega), HT2.out.1, HT2.out.2, HST.out, by rw [List.length_set]; exact HZL.out, HOW.out, HOB.out⟩
   case measure => simp [RowKit.intOf]; omega
  ·obtain rfl : k = n := by omega
   have HE := Lib.hid (show Z = Sq.ns (List.range k) from by
    have h := HZ.out
    rw [List.take_of_length_le (by rw [hzl]; exact Nat.le_refl _)] at h
    exact h)
   rw [HE.out] at HW
   have HOT := Lib.hid (show ordFrom (lvAt T) t (List.range k) = orderP T from by rw [order_top ht (fun j hj => HTOP.out j (by rw [← HL.out]; exact hj)), HL.out])
   clear hb hzl HTOP HZ HE hlt
   go_wp2_with fail
   go_loopw [7] (fun s7 wx => ∃ (q : Nat) (O : List Nat), q ≤ 126 ∧ s7 = .int .i64 q ∧ O.length = k ∧ Bo.Alike (lvAt T) q O ∧ ordFrom (lvAt T) q O = orderP T ∧ wx.ownsRow w.heap.size 3 1 (.slice (some ⟨w.heap.size, 0, none⟩) k k) k (icl (Sq.ns O)) ∧ Below w.heap.size w wx) (fun s7 _ => (RowKit.intOf s7).toNat)
   case atStart => exact ⟨t, List.range k, ht, rfl, by simp, Bo.Alike.range _ _ _, HOT.out, HW.out, HB.out⟩
   case round =>
    obtain ⟨q, O, hq, rfl, hol, hal, hof, hown, hb⟩ := hrel
    have HW2 := Lib.hid hown
    have HB2 := Lib.hid hb
    have HOL := Lib.hid hol
    have HAL := Lib.hid hal
    have HOF := Lib.hid hof
    clear HW HB HOT hol hal hof hown hb
    cases q with
    | zero =>
     have HE := Lib.hid (show O = orderP T from HOF.out)
     go_wp2_with fail
     go_ret
     exact ⟨_, _, rfl, by rw [← HE.out]; exact HW2.out, HB2.out⟩
    | succ q =>
     have HP := Lib.hid (show ∀ i (h1 : i < T.length) (h2 : i < O.length), decide (T[i] < ((q + 1 : Nat) : Int)) = !((fun j => decide ((q : Int) + 1 ≤ lvAt T j)) O[i]) from fun i h1 h2 => by
      have e1 := HAL.out.at_ (q := q + 1) (by omega) (Nat.le_refl _) h2
      have e2 := cut_ge (x := T[i]) (q := q + 1) (by omega) hq
      rw [← lvAt_get h1] at e2
      show _ = !(decide (((q + 1 : Nat) : Int) ≤ lvAt T O[i]))
      rw [e1, e2]
      by_cases hh : T[i] < ((q + 1 : Nat) : Int)
      ·rw [decide_eq_true hh, decide_eq_false (by omega)]; rfl
      ·rw [decide_eq_false hh, decide_eq_true (by omega)]; rfl)
     have HT := Lib.hid (turn_any w.heap.size w.heap.size k (q + 1) cp O A0 T w wr (fun j => decide ((q : Int) + 1 ≤ lvAt T j)) HW2.out HOL.out HA.out HL.out hn HB2.out (Nat.le_refl _) HP.out)
     have HAL2 := Lib.hid HAL.out.step
     have HLN := Lib.hid (revGo_len (fun j => decide ((q : Int) + 1 ≤ lvAt T j)) O [])
     have HOF2 := Lib.hid (show ordFrom (lvAt T) q (revGo (fun j => decide ((q : Int) + 1 ≤ lvAt T j)) [] O) = orderP T from HOF.out)
     generalize revGo (fun j => decide ((q : Int) + 1 ≤ lvAt T j)) [] O = O2 at *
     clear HAL HOF HP
     have jq0 : (0 : Int) ≤ (q : Int) := by omega
     go_wp2_with fail
     refine HT.out.mono ?_
     rintro e w3 ⟨rfl, ho3, hb3⟩
     have HO3 := Lib.hid ho3
     have HB3 := Lib.hid hb3
     clear ho3 hb3 HT
     go_wp2_with fail
     go_roundw
     case rel => exact ⟨q, O2, by omega, by go_num, by rw [HLN.out]; simpa using HOL.out, HAL2.out, HOF2.out, HO3.out, HB3.out⟩
     case measure => simp [RowKit.intOf] <;> omega
end Go.Proofs.YtfclpecbnailgaaGreat.Bi
