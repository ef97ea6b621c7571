/-
  Several texts in one, each with its own remark: WoPart, WoFits, WoMade, WoLine, RoundKit, KeepKit, WoIter.
-/
import Derived.Lib.MinMax
import Derived.BigQuiet
import Derived.Laws.EntriesVeiled
import Derived.Deep.RegionHeld3
import Derived.LoopTactic
import Derived.Deep.QuietTactic
import Derived.RangeFuncNested
import Derived.RangeFuncBound
import Derived.RangeFuncCalls
import Derived.RangeFuncLeaves
import Derived.RangeFuncBox
import Derived.Shelf.Abstract
import Derived.Shelf.RegionOpen
import Derived.WalkKit
import Derived.OwnWalkIn
import Derived.TacticsInMore
import Derived.LoopNIn
import Derived.LoopIn
import Derived.Test.YtfbjgibjlppjoaaM14
import Derived.Test.YtfbjgibjlppjoaaM0
import Derived.Test.YtfbjgibjlppjoaaM12
import Derived.Test.YtfbjgibjlppjoaaRows

/-
  Proved here: what wrap's parted returns, for a line in which not all fits: up to where it is shown, up to where it goes: the plain ones; these are the document's first line. It leaves what was in memory.
-/
set_option linter.unusedVariables false
namespace Go.Proofs.Ytfbjgibjlppjoaa.Wr
open Go Go.RowKit Go.Lib Go.Proofs.Ytfbjgibjlppjoaa.Ku Go.Proofs.Ytfbjgibjlppjoaa.Arr

/-- Where the line ends that is shown from f, in which m is the first that does not fit. -/
def showN (B : Nat → Bool) (f m : Nat) : Nat := backQ (fun k => !(B k)) f (backQ B f (m + 1))
theorem showN_le (B : Nat → Bool) {f m : Nat} (h : f ≤ m) : f ≤ showN B f m ∧ showN B f m ≤ m + 1 := by
  obtain ⟨a1, a2, _⟩ := backQ_is B f (m + 1) (by omega)
  obtain ⟨b1, b2, _⟩ := backQ_is (fun k => !(B k)) f (backQ B f (m + 1)) a1
  unfold showN
  omega
/-- No blank has a word ahead of it: the line ends within one. -/
theorem first_cut {W : Nat → Int} {B : Nat → Bool} {n f : Nat} {w : Int} (he : endF W n f w < n) (hf : f ≤ n) (hs : showN B f (endF W n f w) = f) : First W B n f w (max (endF W n f w) (f + 1)) (max (endF W n f w) (f + 1)) := by
  have hle := endF_le W w hf
  refine .cut he fun i hg => ?_
  obtain ⟨g1, g2, g3, j, g4, g5, g6⟩ := hg
  unfold showN at hs
  obtain ⟨a1, a2, a3, a4⟩ := backQ_is B f (endF W n f w + 1) (by omega)
  obtain ⟨b1, b2, b3, b4⟩ := backQ_is (fun k => !(B k)) f (backQ B f (endF W n f w + 1)) a1
  rw [hs] at b3
  by_cases hi : backQ B f (endF W n f w + 1) ≤ i
  · have := a3 i hi (by omega)
    rw [g3] at this
    cases this
  · have := b3 j g4 (by omega)
    rw [g6] at this
    cases this
/-- The last blank that has a word ahead of it. -/
theorem first_gap {W : Nat → Int} {B : Nat → Bool} {n f : Nat} {w : Int} (he : endF W n f w < n) (hf : f ≤ n) (hs : showN B f (endF W n f w) ≠ f) : First W B n f w (fwdB B (n - showN B f (endF W n f w)) (showN B f (endF W n f w))) (showN B f (endF W n f w)) ∧ showN B f (endF W n f w) < n := by
  have hle := endF_le W w hf
  obtain ⟨a1, a2, a3, a4⟩ := backQ_is B f (endF W n f w + 1) (by omega)
  obtain ⟨b1, b2, b3, b4⟩ := backQ_is (fun k => !(B k)) f (backQ B f (endF W n f w + 1)) a1
  rw [show backQ (fun k => !(B k)) f (backQ B f (endF W n f w + 1)) = showN B f (endF W n f w) from rfl] at b1 b2 b3 b4
  generalize showN B f (endF W n f w) = s at *
  have hz : B (s - 1) = false := by
    have := b4 (by omega)
    simpa using this
  -- what stands from s up to there is blank, and something does
  obtain ⟨b, hb⟩ : ∃ b, backQ B f (endF W n f w + 1) = b + 1 := ⟨backQ B f (endF W n f w + 1) - 1, by omega⟩
  rw [hb] at a1 a2 a3 a4 b2 b3
  have hbb : B b = true := a4 (by omega)
  have hsb : s ≤ b := by
    by_cases h : s = b + 1
    · rw [h, Nat.add_sub_cancel, hbb] at hz
      cases hz
    · omega
  obtain ⟨m1, m2, m3, m4⟩ := fwdB_is B (n - s) s
  have hsn : s + (n - s) = n := by omega
  rw [hsn] at m2 m4
  have hall : ∀ k, s ≤ k → k < b + 1 → B k = true := fun k k1 k2 => by simpa using b3 k k1 k2
  have hbt : b < fwdB B (n - s) s := by
    by_cases h : fwdB B (n - s) s ≤ b
    · have h1 := m4 (by omega)
      rw [hall _ m1 (by omega)] at h1
      cases h1
    · omega
  refine ⟨.gap b _ _ he ⟨by omega, by omega, hbb, s - 1, by omega, by omega, hz⟩ (fun i h1 h2 => ?_) hsb (fun k k1 k2 => m3 k k1 k2) (by omega) hz hbt m2 m4, by omega⟩
  have := a3 i (by omega) (by have := h2.2.1; omega)
  rw [h2.2.2.1] at this
  cases this

theorem two_newW (w : World) (o1 o2 : Obj) : ((w.alloc o1).alloc o2).heap[w.heap.size]? = some o1 ∧ ((w.alloc o1).alloc o2).heap[w.heap.size + 1]? = some o2 ∧ Below w.heap.size w ((w.alloc o1).alloc o2) ∧ ((w.alloc o1).alloc o2).heap.size = w.heap.size + 2 := by
  have s1 : (w.alloc o1).heap.size = w.heap.size + 1 := by simp
  refine ⟨(Below.heap_alloc _ _ _ (by simp)).trans (heap_alloc_last _ _), ?_, ((Below.refl _ _).alloc (Nat.le_refl _) _).alloc (by simp) _, by simp⟩
  have := heap_alloc_last (w.alloc o1) o2
  rw [s1] at this
  exact this
theorem step_belowW {wr V W : World} (h : Below wr.heap.size wr V) (hb : Below V.heap.size V W) : Below wr.heap.size wr W := h.trans (hb.mono h.size)

set_option maxHeartbeats 4000000 in
set_option maxRecDepth 100000 in
theorem parted_any (B : Nat → Bool) (A : Option Addr) (l : List C6) (n c sh f m : Nat) (w : World) (hB : ∀ k, k < sh → Bl l k = B k) (hR : CuAt w A l) (hl : l.length = n) (hn : n ≤ 1099511627776) (hsh : sh ≤ n) (hfm : f ≤ m) (hm : m < sh) :
    Calls Try.prog 40 #[.agg #[.slice A n c, .int .i64 sh, .int .i64 f], .int .i64 m] w fun e w' => (e = .returned (.tuple #[.int .i64 (if showN B f m = f then max m (f + 1) else showN B f m : Nat), .int .i64 (if showN B f m = f then max m (f + 1) else fwdB B (sh - showN B f m) (showN B f m) : Nat)])) ∧ Below w.heap.size w w' := by
  have hw := showN_le B hfm
  have hb1 := backQ_is B f (m + 1) (by omega)
  obtain ⟨e0, e1, hb0, hs0⟩ := two_newW w (.cells #[.slice A n c, .int .i64 sh, .int .i64 f] 61) (.cells #[.nilFunc] 78)
  obtain ⟨U, hU⟩ : ∃ U, (w.alloc (.cells #[.slice A n c, .int .i64 sh, .int .i64 f] 61)).alloc (.cells #[.nilFunc] 78) = U := ⟨_, rfl⟩
  rw [hU] at e0 e1 hb0 hs0
  have u3 := cell_of_row U (w.heap.size + 1) 0 _ _ _ e1
  have uf := frozen_of_row U (w.heap.size + 1) 0 _ _ e1
  obtain ⟨V, hV⟩ : ∃ V, U.setCell ⟨w.heap.size + 1, 0, none⟩ (.func (.func 44) #[] #[.pointer (some ⟨w.heap.size, 0, none⟩)]) = V := ⟨_, rfl⟩
  have e0' : V.heap[w.heap.size]? = some (.cells #[.slice A n c, .int .i64 sh, .int .i64 f] 61 (0, 0)) := by
    rw [← hV]
    exact (heap_setCell_other U ⟨w.heap.size + 1, 0, none⟩ _ _ (by show w.heap.size ≠ w.heap.size + 1; omega)).trans e0
  have e1' : V.heap[w.heap.size + 1]? = some (.cells #[.func (.func 44) #[] #[.pointer (some ⟨w.heap.size, 0, none⟩)]] 78 (0, 0)) := by
    rw [← hV]
    exact heap_setCell_same U (w.heap.size + 1) 0 _ _ _ e1
  have q0 : V.cell? ⟨w.heap.size, 0, none⟩ = some (.slice A n c) := cell_of_row V _ 0 _ _ _ e0'
  have q1 : V.cell? ⟨w.heap.size, 1, none⟩ = some (.int .i64 sh) := cell_of_row V _ 1 _ _ _ e0'
  have q2 : V.cell? ⟨w.heap.size, 2, none⟩ = some (.int .i64 f) := cell_of_row V _ 2 _ _ _ e0'
  have q3 : V.cell? ⟨w.heap.size + 1, 0, none⟩ = some (.func (.func 44) #[] #[.pointer (some ⟨w.heap.size, 0, none⟩)]) := cell_of_row V _ 0 _ _ _ e1'
  have hsz : w.heap.size + 1 < V.heap.size := (Array.getElem?_eq_some_iff.1 e1').1
  have hwV : Below w.heap.size w V := by
    rw [← hV]
    exact hb0.setCell (by show w.heap.size ≤ w.heap.size + 1; omega) _
  clear e0 e1 hb0 hs0 e0' e1'
  have HWV := Lib.hid hwV
  have HC := Lib.hid (fun (W : World) (h : Below V.heap.size V W) => And.intro ((h.cell (p := ⟨w.heap.size, 0, none⟩) (show w.heap.size < V.heap.size by omega)).trans q0) (And.intro ((h.cell (p := ⟨w.heap.size, 1, none⟩) (show w.heap.size < V.heap.size by omega)).trans q1) (And.intro ((h.cell (p := ⟨w.heap.size, 2, none⟩) (show w.heap.size < V.heap.size by omega)).trans q2) (And.intro ((h.cell (p := ⟨w.heap.size + 1, 0, none⟩) hsz).trans q3) h))))
  have hRV := hR.below hwV
  have C1 := Lib.hid (fun (W : World) (h : Below V.heap.size V W) => back_of 44 enters_blank B (.pointer (some ⟨w.heap.size, 0, none⟩)) A n c sh f (m + 1) W (by omega) (by omega) (fun k W2 k1 k2 h2 => hB k (by omega) ▸ blank_at A l n c k w.heap.size W2 ((hRV.below h).below h2) hl (by omega) (HC.out W2 (h.trans (h2.mono h.size))).1))
  have C2 := Lib.hid (fun (W : World) (h : Below V.heap.size V W) => back_of 45 enters_word (fun k => !(B k)) (.pointer (some ⟨w.heap.size + 1, 0, none⟩)) A n c sh f (backQ B f (m + 1)) W hb1.1 (by omega) (fun k W2 k1 k2 h2 => hB k (by omega) ▸ word_at A l n c k w.heap.size (w.heap.size + 1) W2 ((hRV.below h).below h2) hl (by omega) (HC.out W2 (h.trans (h2.mono h.size))).1 (HC.out W2 (h.trans (h2.mono h.size))).2.2.2.1))
  have C3 := Lib.hid (fun (hs : showN B f m ≤ sh) (W : World) (h : Below V.heap.size V W) => on_of 45 enters_word B (.pointer (some ⟨w.heap.size + 1, 0, none⟩)) A n c sh f (showN B f m) W hs (by omega) (fun k W2 k1 k2 h2 => hB k (by omega) ▸ word_at A l n c k w.heap.size (w.heap.size + 1) W2 ((hRV.below h).below h2) hl (by omega) (HC.out W2 (h.trans (h2.mono h.size))).1 (HC.out W2 (h.trans (h2.mono h.size))).2.2.2.1))
  rw [show backQ (fun k => !(B k)) f (backQ B f (m + 1)) = showN B f m from rfl] at C2
  clear hR hRV hb1 hwV
  generalize showN B f m = s at *
  generalize backQ B f (m + 1) = b1 at *
  generalize fwdB B (sh - s) s = t at *
  have w1 : IntKind.i64.wrap ((m : Int) + 1) = ((m + 1 : Nat) : Int) := by rw [IntKind.wrap_i64]; omega
  have w2 : IntKind.i64.wrap ((f : Int) + 1) = ((f + 1 : Nat) : Int) := by rw [IntKind.wrap_i64]; omega
  obtain ⟨m1, hm1⟩ : ∃ m1, m + 1 = m1 := ⟨_, rfl⟩
  obtain ⟨f1, hf1⟩ : ∃ f1, f + 1 = f1 := ⟨_, rfl⟩
  rw [hm1] at w1 C1
  rw [hf1] at w2 ⊢
  have HM1 := Lib.hid hm1
  have HF1 := Lib.hid hf1
  obtain ⟨S1, hS1⟩ : ∃ S1, (if s = f then max m f1 else s) = S1 := ⟨_, rfl⟩
  obtain ⟨T1, hT1⟩ : ∃ T1, (if s = f then max m f1 else t) = T1 := ⟨_, rfl⟩
  rw [hS1, hT1]
  have HS1 := Lib.hid hS1
  have HT1 := Lib.hid hT1
  clear hS1 hT1
  have HL := Lib.hid hl
  have HN := Lib.hid (And.intro hn (And.intro hsh (And.intro hfm (And.intro hm hw))))
  clear hm1 hf1 hl hn hsh hfm hm hw
  go_enter Try.func40, Try.ntmps40
  go_wp2_with fail
  clear hV hU u3 uf q0 q1 q2 q3
  go_region_held3 (fun W => W.cell? ⟨w.heap.size, 0, none⟩ = some (.slice A n c) ∧ W.cell? ⟨w.heap.size, 1, none⟩ = some (.int .i64 sh) ∧ W.cell? ⟨w.heap.size, 2, none⟩ = some (.int .i64 f) ∧ W.cell? ⟨w.heap.size + 1, 0, none⟩ = some (.func (.func 44) #[] #[.pointer (some ⟨w.heap.size, 0, none⟩)]) ∧ Below V.heap.size V W) (first | exact HC.out _ (Below.refl _ _) | exact HC.out _ (below_drew (Below.refl _ _)) | exact HC.out _ (by assumption))
    (first
      | (go_at_call 46
         first
         | ((with_reducible refine (C1.out _ (by first | assumption | exact below_drew (Below.refl _ _))).mono ?_); rintro e w7 ⟨rfl, hb7⟩; have hbx := step_belowW (wr := V) (by first | assumption | exact below_drew (Below.refl _ _)) hb7; clear hb7)
         | ((with_reducible refine (C2.out _ (by first | assumption | exact below_drew (Below.refl _ _))).mono ?_); rintro e w7 ⟨rfl, hb7⟩; have hbx := step_belowW (wr := V) (by first | assumption | exact below_drew (Below.refl _ _)) hb7; clear hb7)))
  all_goals (rename_i hh8; have HB8 := Lib.hid hh8.2.2.2.2; obtain ⟨z0, z1, z2, z3, -⟩ := hh8)
  all_goals
    by_cases hs : s = f
    · have hS := HS1.out
      have hT := HT1.out
      rw [if_pos hs] at hS hT
      have t1 : ((s : Int) == (f : Int)) = true := beq_iff_eq.2 (by omega)
      have hzI : max (m : Int) (f1 : Int) = (S1 : Int) := by omega
      have HTS := Lib.hid (show T1 = S1 by omega)
      clear hs hS hT C1 C2 C3
      go_wp2_with fail
      all_goals go_ret2
      all_goals exact ⟨by rw [HTS.out]; rfl, HWV.out.trans (HB8.out.mono HWV.out.size)⟩
    · have hS := HS1.out
      have hT := HT1.out
      rw [if_neg hs] at hS hT
      have t1 : ((s : Int) == (f : Int)) = false := beq_eq_false_iff_ne.2 (by omega)
      have hle : s ≤ sh := by have := HN.out; omega
      have HC3 := Lib.hid (fun W h => C3.out hle W h)
      have HST := Lib.hid (And.intro hS hT)
      clear hs hS hT C1 C2 C3 hle
      go_wp2_with fail
      refine (HC3.out _ HB8.out).mono ?_
      rintro e w9 ⟨rfl, hb9⟩
      have HB9 := Lib.hid (HB8.out.trans (hb9.mono HB8.out.size))
      clear hb9
      go_wp2_with fail
      go_ret2
      exact ⟨by rw [← HST.out.1, ← HST.out.2]; rfl, HWV.out.trans (HB9.out.mono HWV.out.size)⟩
end Go.Proofs.Ytfbjgibjlppjoaa.Wr

/-
  Proved here: what wrap.Fits returns, for every row of clusters of at most 2^40, every two numbers: the plain place. It leaves what was in memory.
-/
set_option linter.unusedVariables false
namespace Go.Proofs.Ytfbjgibjlppjoaa.Wr
open Go Go.RowKit Go.Lib Go.Proofs.Ytfbjgibjlppjoaa.Ku

set_option maxHeartbeats 2000000 in
set_option maxRecDepth 100000 in
theorem fits_beyond (A : Option Addr) (n c : Nat) (x s : Int) (w : World) (hx : (n : Int) ≤ max x 0) :
    Calls Try.prog 15 #[.slice A n c, .int .i64 x, .int .i64 s] w fun e w' => e = .returned (.int .i64 n) ∧ w' = w := by
  obtain ⟨z, hz⟩ : ∃ z, max x 0 = z := ⟨_, rfl⟩
  rw [hz] at hx
  have t1 : decide (z < (n : Int)) = false := decide_eq_false (by omega)
  clear hx
  go_enter Try.func15, Try.ntmps15
  go_wp2_with fail
  go_loopw [7] (fun s7 wx => s7 = .int .i64 z ∧ wx = w) (fun _ _ => 0)
  case atStart => exact ⟨by first | rfl | (congr 1; omega), rfl⟩
  case round =>
    obtain ⟨rfl, rfl⟩ := hrel
    clear hz
    go_wp2_with fail
    go_ret
    exact ⟨rfl, rfl⟩

set_option maxHeartbeats 2000000 in
set_option maxRecDepth 100000 in
theorem fits_in (A : Option Addr) (l : List C6) (n c f : Nat) (x s : Int) (w : World) (hR : CuAt w A l) (hl : l.length = n) (hn : n ≤ 1099511627776) (hs : s ≤ 9223372036854775807) (hf : f < n) (hx : max x 0 = (f : Int)) :
    Calls Try.prog 15 #[.slice A n c, .int .i64 x, .int .i64 s] w fun e w' => e = .returned (.int .i64 (endF (Wd l) n f s : Nat)) ∧ w' = w := by
  have HR := Lib.hid hR
  have HL := Lib.hid hl
  obtain ⟨R, hr⟩ : ∃ R, endF (Wd l) n f s = R := ⟨_, rfl⟩
  have HRR := Lib.hid hr
  rw [hr]
  clear hR hl hr
  go_enter Try.func15, Try.ntmps15
  go_wp2_with fail
  go_loopw [2, 7] (fun s2 s7 wx => ∃ (k : Nat) (v : Int), k ≤ n ∧ s7 = .int .i64 k ∧ s2 = .int .i64 v ∧ v ≤ 9223372036854775807 ∧ k + fitK (Wd l) (n - k) k v = R ∧ wx = w) (fun _ s7 _ => n - (RowKit.intOf s7).toNat)
  case atStart => exact ⟨f, s, Nat.le_of_lt hf, by first | rfl | (congr 1; omega), rfl, hs, HRR.out, rfl⟩
  case round =>
    obtain ⟨k, v, hk, rfl, rfl, hv, hm, rfl⟩ := hrel
    clear hx
    by_cases hlt : k < n
    · have hkl : k < l.length := by rw [HL.out]; exact hlt
      obtain ⟨g, off, rfl, hg, c0, c1, c2, c3, c4, c5⟩ := HR.out.at_ hkl
      rw [show n - k = (n - (k + 1)) + 1 from by omega] at hm
      unfold fitK at hm
      rw [Wd_at hkl] at hm
      generalize l[k] = x at *
      obtain ⟨q, hq⟩ : ∃ q, max x.w 0 = q := ⟨_, rfl⟩
      have hq0 : 0 ≤ q := by omega
      rw [hq] at hm
      have hk0 : (0 : Int) ≤ (k : Int) := by omega
      have hk1 : (k : Int) < (n : Int) := by omega
      by_cases hvq : v < q
      · rw [if_pos hvq] at hm
        have HM := Lib.hid hm
        have t1 : decide (v < q) = true := decide_eq_true hvq
        clear hm
        go_wp2_with fail
        all_goals go_ret
        all_goals exact ⟨by rw [← HM.out]; rfl, rfl⟩
      · rw [if_neg hvq] at hm
        have HM := Lib.hid (show k + 1 + fitK (Wd l) (n - (k + 1)) (k + 1) (v - q) = R by omega)
        have t1 : decide (v < q) = false := decide_eq_false hvq
        have t2 : IntKind.i64.wrap (v - q) = v - q := IntWalk.i64_in _ (by omega)
        clear hm
        go_wp2_with fail
        all_goals go_roundw
        case rel => exact ⟨k + 1, v - q, by omega, by go_num, by first | rfl | (congr 1; split <;> omega), by omega, HM.out, by first | rfl | trivial⟩
        case measure => simp [RowKit.intOf]; omega
    · obtain rfl : k = n := by omega
      rw [Nat.sub_self] at hm
      have HM := Lib.hid (show k = R from hm)
      clear hm
      have t1 : decide ((k : Int) < (k : Int)) = false := decide_eq_false (by omega)
      go_wp2_with fail
      all_goals go_ret
      all_goals exact ⟨by rw [← HM.out]; rfl, rfl⟩
end Go.Proofs.Ytfbjgibjlppjoaa.Wr

/-
  Proved here: what wrap's hard, rest, misfit, made return: lines; the document's first line from a place on. They leave what was in memory.
-/
set_option linter.unusedVariables false
namespace Go.Proofs.Ytfbjgibjlppjoaa.Wr
open Go Go.RowKit Go.Lib Go.Proofs.Ytfbjgibjlppjoaa.Ku Go.Proofs.Ytfbjgibjlppjoaa.Arr

def lnV (x : L5) : Value := .agg #[.int .i64 x.f, .int .i64 x.t, .int .i64 x.s, .int .i64 x.h, .int .i64 x.d]
theorem infoLs : (Try.prog.info? 36).map (·.size) = some 5 := by kernel_rfl
theorem five_set {Z : World} {b : Nat} {t : TypeId} {a0 a1 a2 a3 a4 : Value} (x0 x1 x2 x3 x4 : Value) (h : Z.heap[b]? = some (.cells #[a0, a1, a2, a3, a4] t (0, 0))) :
    (((((Z.setCell ⟨b, 0, none⟩ x0).setCell ⟨b, 1, none⟩ x1).setCell ⟨b, 2, none⟩ x2).setCell ⟨b, 3, none⟩ x3).setCell ⟨b, 4, none⟩ x4).heap[b]? = some (.cells #[x0, x1, x2, x3, x4] t (0, 0)) :=
  heap_setCell_same _ b 4 _ _ _ (heap_setCell_same _ b 3 _ _ _ (heap_setCell_same _ b 2 _ _ _ (heap_setCell_same _ b 1 _ _ _ (heap_setCell_same Z b 0 _ _ _ h))))

theorem cell5 {U : World} {b : Nat} {t : TypeId} {a0 a1 a2 a3 a4 : Value} (h : U.heap[b]? = some (.cells #[a0, a1, a2, a3, a4] t (0, 0))) :
    (U.cell? ⟨b, 0, none⟩ = some a0 ∧ U.cell? ⟨b, 1, none⟩ = some a1 ∧ U.cell? ⟨b, 2, none⟩ = some a2 ∧ U.cell? ⟨b, 3, none⟩ = some a3 ∧ U.cell? ⟨b, 4, none⟩ = some a4) ∧
    U.frozen? ⟨b, 0, none⟩ = false ∧ U.frozen? ⟨b, 1, none⟩ = false ∧ U.frozen? ⟨b, 2, none⟩ = false ∧ U.frozen? ⟨b, 3, none⟩ = false ∧ U.frozen? ⟨b, 4, none⟩ = false :=
  ⟨⟨cell_of_row U b 0 _ _ _ h, cell_of_row U b 1 _ _ _ h, cell_of_row U b 2 _ _ _ h, cell_of_row U b 3 _ _ _ h, cell_of_row U b 4 _ _ _ h⟩, frozen_of_row U b 0 _ _ h, frozen_of_row U b 1 _ _ h, frozen_of_row U b 2 _ _ h, frozen_of_row U b 3 _ _ h, frozen_of_row U b 4 _ _ h⟩
theorem below_five {w U : World} {b : Nat} (h : Below w.heap.size w U) (hb : w.heap.size ≤ b) (x0 x1 x2 x3 x4 : Value) :
    Below w.heap.size w (((((U.setCell ⟨b, 0, none⟩ x0).setCell ⟨b, 1, none⟩ x1).setCell ⟨b, 2, none⟩ x2).setCell ⟨b, 3, none⟩ x3).setCell ⟨b, 4, none⟩ x4) :=
  ((((h.setCell (by exact hb) _).setCell (by exact hb) _).setCell (by exact hb) _).setCell (by exact hb) _).setCell (by exact hb) _

set_option maxHeartbeats 1000000 in
set_option maxRecDepth 100000 in
theorem hard_any (A : Option Addr) (n c : Nat) (sh f s : Int) (w : World) :
    Calls Try.prog 32 #[.agg #[.slice A n c, .int .i64 sh], .int .i64 f, .int .i64 s] w fun e w' => e = .returned (lnV ⟨f, n, s, 1, 0⟩) ∧ Below w.heap.size w w' := by
  have HI := Lib.hid infoLs
  unfold lnV
  obtain ⟨e0, e1, hb0, hs0⟩ := two_newW w (.cells #[.slice A n c, .int .i64 sh] 41) (.cells #[.int .i64 0, .int .i64 0, .int .i64 0, .int .i64 0, .int .i64 0] 36)
  obtain ⟨U, hU⟩ : ∃ U, (w.alloc (.cells #[.slice A n c, .int .i64 sh] 41)).alloc (.cells #[.int .i64 0, .int .i64 0, .int .i64 0, .int .i64 0, .int .i64 0] 36) = U := ⟨_, rfl⟩
  rw [hU] at e0 e1 hb0 hs0
  have q0 := cell_of_row U w.heap.size 0 _ _ _ e0
  obtain ⟨⟨z0, z1, z2, z3, z4⟩, y0, y1, y2, y3, y4⟩ := cell5 e1
  have H1 := Lib.hid e1
  have HB := Lib.hid hb0
  clear e0 e1 hb0 hs0
  go_enter Try.func32, Try.ntmps32
  go_wp2_with fail
  refine bodyPost_ret (results_cell_row Try.results32 _ _ (w.heap.size + 1) 36 _ (0, 0) _ rfl (five_set _ _ _ _ _ H1.out) Try.underlying36 rfl HI.out) rfl ?_
  exact ⟨rfl, below_five HB.out (by omega) _ _ _ _ _⟩

set_option maxHeartbeats 1000000 in
set_option maxRecDepth 100000 in
theorem rest_any (A : Option Addr) (n c : Nat) (sh f : Int) (w : World) :
    Calls Try.prog 25 #[.agg #[.slice A n c, .int .i64 sh], .int .i64 f] w fun e w' => e = .returned (lnV ⟨f, n, sh, 1, 0⟩) ∧ Below w.heap.size w w' := by
  have HI := Lib.hid infoLs
  have HH := Lib.hid (fun W => hard_any A n c sh f sh W)
  unfold lnV at *
  obtain ⟨e0, e1, hb0, hs0⟩ := two_newW w (.cells #[.slice A n c, .int .i64 sh] 41) (.cells #[.int .i64 0, .int .i64 0, .int .i64 0, .int .i64 0, .int .i64 0] 36)
  obtain ⟨U, hU⟩ : ∃ U, (w.alloc (.cells #[.slice A n c, .int .i64 sh] 41)).alloc (.cells #[.int .i64 0, .int .i64 0, .int .i64 0, .int .i64 0, .int .i64 0] 36) = U := ⟨_, rfl⟩
  rw [hU] at e0 e1 hb0 hs0
  have q0 := cell_of_row U w.heap.size 0 _ _ _ e0
  have q1 := cell_of_row U w.heap.size 1 _ _ _ e0
  have HC := Lib.hid (fun (W : World) (h : Below U.heap.size U W) => (h.block (w.heap.size + 1) (by omega)).trans e1)
  have HB := Lib.hid hb0
  clear e0 e1 hb0 hs0
  go_enter Try.func25, Try.ntmps25
  go_wp2_with fail
  refine (HH.out _).mono ?_
  rintro e w1 ⟨rfl, hb1⟩
  have e1 := HC.out w1 hb1
  have HB1 := Lib.hid (HB.out.trans (hb1.mono HB.out.size))
  obtain ⟨⟨z0, z1, z2, z3, z4⟩, y0, y1, y2, y3, y4⟩ := cell5 e1
  have H1 := Lib.hid e1
  clear e1 hb1 hU q0 q1
  go_wp2_with fail
  refine bodyPost_ret (results_cell_row Try.results25 _ _ (w.heap.size + 1) 36 _ (0, 0) _ rfl (five_set _ _ _ _ _ H1.out) Try.underlying36 rfl HI.out) rfl ?_
  exact ⟨rfl, below_five HB1.out (by omega) _ _ _ _ _⟩

theorem cu_take {w : World} {A : Option Addr} {l : List C6} (h : CuAt w A l) (k : Nat) : CuAt w A (l.take k) := by
  rcases h with rfl | ⟨b, off, e, hlt, hc⟩
  · exact .inl (by simp)
  · refine .inr ⟨b, off, e, hlt, fun i hi => ?_⟩
    have hil : i < l.length := by
      rw [List.length_take] at hi
      omega
    rw [List.getElem_take]
    exact hc i hil

set_option maxHeartbeats 1000000 in
set_option maxRecDepth 100000 in
theorem misfit_any (A : Option Addr) (l : List C6) (n c sh f : Nat) (s : Int) (w : World) (hR : CuAt w A l) (hl : l.length = n) (hc : n ≤ c) (hn : n ≤ 1099511627776) (hs : s ≤ 9223372036854775807) (hf : f < sh) (hsh : sh ≤ n) :
    Calls Try.prog 39 #[.agg #[.slice A n c, .int .i64 sh], .int .i64 f, .int .i64 s] w fun e w' => e = .returned (.int .i64 (endF (Wd (l.take sh)) sh f s : Nat)) ∧ Below w.heap.size w w' := by
  obtain ⟨g, off, rfl, -⟩ := hR.at_ (k := 0) (by omega)
  have hb := (Below.refl w.heap.size w).alloc (Nat.le_refl _) (.cells #[.slice (some ⟨g, off, none⟩) n c, .int .i64 sh] 41)
  have HF := Lib.hid (fun W (h : Below w.heap.size w W) (cc : Nat) => fits_in (some ⟨g, off, none⟩) (l.take sh) sh cc f f s W (cu_take (hR.below h) sh) (by rw [List.length_take]; omega) (by omega) hs hf (by omega))
  have HB := Lib.hid hb
  generalize endF (Wd (l.take sh)) sh f s = E at *
  have j0 : (0 : Int) ≤ (sh : Int) := by omega
  have j1 : (sh : Int) ≤ (c : Int) := by omega
  clear hR hb hl
  go_enter Try.func39, Try.ntmps39
  go_wp2_with fail
  refine (HF.out _ HB.out _).mono ?_
  rintro e w1 ⟨rfl, rfl⟩
  go_wp2_with fail
  go_ret
  exact ⟨rfl, HB.out⟩
end Go.Proofs.Ytfbjgibjlppjoaa.Wr

/-
  Proved here: what wrap's made returns: the document's first line from a place on. It leaves what was in memory.
-/
set_option linter.unusedVariables false
namespace Go.Proofs.Ytfbjgibjlppjoaa.Wr
open Go Go.RowKit Go.Lib Go.Proofs.Ytfbjgibjlppjoaa.Ku Go.Proofs.Ytfbjgibjlppjoaa.Arr

set_option maxHeartbeats 4000000 in
set_option maxRecDepth 100000 in
theorem made_any (A : Option Addr) (l : List C6) (n c sh f : Nat) (s : Int) (w : World) (hR : CuAt w A l) (hl : l.length = n) (hc : n ≤ c) (hn : n ≤ 1099511627776) (hs : s ≤ 9223372036854775807) (hf : f < sh) (hsh : sh ≤ n) (t sw : Nat) (hF : First (Wd (l.take sh)) (Bl (l.take sh)) sh f s t sw) :
    Calls Try.prog 34 #[.agg #[.slice A n c, .int .i64 sh, .int .i64 f], .int .i64 s] w fun e w' => e = .returned (lnV (lineOf n sh (f, t, sw))) ∧ Below w.heap.size w w' := by
  have HI := Lib.hid infoLs
  have hle := endF_le (Wd (l.take sh)) s (Nat.le_of_lt hf)
  have HM := Lib.hid (fun W (h : Below w.heap.size w W) => misfit_any A l n c sh f s W (hR.below h) hl hc hn hs hf hsh)
  have HR := Lib.hid (fun W => rest_any A n c sh f W)
  have HH := Lib.hid (fun (x : Nat) W => hard_any A n c sh f x W)
  have hB : ∀ k, k < sh → Bl l k = Bl (l.take sh) k := fun k hk => by
    unfold Bl
    simp only [List.getD_eq_getElem?_getD]
    rw [List.getElem?_take, if_pos hk]
  have HP := Lib.hid (fun (h : endF (Wd (l.take sh)) sh f s < sh) W (hb : Below w.heap.size w W) => parted_any (Bl (l.take sh)) A l n c sh f (endF (Wd (l.take sh)) sh f s) W hB (hR.below hb) hl hn hsh hle.1 h)
  have HFA := Lib.hid (fun (h : endF (Wd (l.take sh)) sh f s = sh) => hF.unique (.all h))
  have HFP := Lib.hid (fun (h : endF (Wd (l.take sh)) sh f s < sh) => (show t = (if showN (Bl (l.take sh)) f (endF (Wd (l.take sh)) sh f s) = f then max (endF (Wd (l.take sh)) sh f s) (f + 1) else fwdB (Bl (l.take sh)) (sh - showN (Bl (l.take sh)) f (endF (Wd (l.take sh)) sh f s)) (showN (Bl (l.take sh)) f (endF (Wd (l.take sh)) sh f s))) ∧ sw = (if showN (Bl (l.take sh)) f (endF (Wd (l.take sh)) sh f s) = f then max (endF (Wd (l.take sh)) sh f s) (f + 1) else showN (Bl (l.take sh)) f (endF (Wd (l.take sh)) sh f s)) by
    by_cases hz : showN (Bl (l.take sh)) f (endF (Wd (l.take sh)) sh f s) = f
    · rw [if_pos hz, if_pos hz]
      exact hF.unique (first_cut h (Nat.le_of_lt hf) hz)
    · rw [if_neg hz, if_neg hz]
      exact hF.unique (first_gap h (Nat.le_of_lt hf) hz).1))
  obtain ⟨e0, e1, hb0, hs0⟩ := two_newW w (.cells #[.slice A n c, .int .i64 sh, .int .i64 f] 61) (.cells #[.int .i64 0, .int .i64 0, .int .i64 0, .int .i64 0, .int .i64 0] 36)
  obtain ⟨U, hU⟩ : ∃ U, (w.alloc (.cells #[.slice A n c, .int .i64 sh, .int .i64 f] 61)).alloc (.cells #[.int .i64 0, .int .i64 0, .int .i64 0, .int .i64 0, .int .i64 0] 36) = U := ⟨_, rfl⟩
  rw [hU] at e0 e1 hb0 hs0
  have HC := Lib.hid (fun (W : World) (h : Below U.heap.size U W) => And.intro ((h.block w.heap.size (by omega)).trans e0) (And.intro ((h.block (w.heap.size + 1) (by omega)).trans e1) (hb0.trans (h.mono (by omega)))))
  have q0 := cell_of_row U w.heap.size 0 _ _ _ e0
  have q1 := cell_of_row U w.heap.size 1 _ _ _ e0
  have q2 := cell_of_row U w.heap.size 2 _ _ _ e0
  have HB := Lib.hid hb0
  clear e0 e1 hb0 hs0 hR hB hF
  unfold lnV at *
  rcases Nat.lt_or_ge (endF (Wd (l.take sh)) sh f s) sh with hlt | hge
  · obtain ⟨ht, hw⟩ := HFP.out hlt
    have HP1 := Lib.hid (fun W hb => HP.out hlt W hb)
    rw [← ht, ← hw] at HP1
    clear ht hw HP HFP HFA HR
    generalize endF (Wd (l.take sh)) sh f s = m at *
    have t1 : ((m : Int) == (sh : Int)) = false := beq_eq_false_iff_ne.2 (by omega)
    clear hlt hle
    go_enter Try.func34, Try.ntmps34
    go_wp2_with fail
    refine (HM.out _ HB.out).mono ?_
    rintro e w1 ⟨rfl, hb1⟩
    obtain ⟨e0, e1, hbw⟩ := HC.out w1 hb1
    have p0 := cell_of_row w1 w.heap.size 0 _ _ _ e0
    have p1 := cell_of_row w1 w.heap.size 1 _ _ _ e0
    have p2 := cell_of_row w1 w.heap.size 2 _ _ _ e0
    have HB1 := Lib.hid hb1
    have HBW := Lib.hid hbw
    clear q0 q1 q2 hU hb1 e0 e1 hbw HM
    go_wp2_with fail
    refine (HP1.out _ HBW.out).mono ?_
    rintro e w2 ⟨rfl, hb2⟩
    obtain ⟨e0, e1, hbw⟩ := HC.out w2 (HB1.out.trans (hb2.mono HB1.out.size))
    have q0 := cell_of_row w2 w.heap.size 0 _ _ _ e0
    have q1 := cell_of_row w2 w.heap.size 1 _ _ _ e0
    have q2 := cell_of_row w2 w.heap.size 2 _ _ _ e0
    have HB2 := Lib.hid (HB1.out.trans (hb2.mono HB1.out.size))
    have HBW2 := Lib.hid hbw
    clear p0 p1 p2 hb2 HP1
    by_cases hts : t = sh
    · have t2 : ((t : Int) == (sh : Int)) = true := beq_iff_eq.2 (by omega)
      have HLO := Lib.hid (show lineOf n sh (f, t, sw) = ⟨f, n, sw, 1, 0⟩ from by unfold lineOf; rw [if_pos hts])
      clear hts e0 e1 hbw
      go_wp2_with fail
      refine (HH.out sw _).mono ?_
      rintro e w3 ⟨rfl, hb3⟩
      obtain ⟨-, e1, hbw⟩ := HC.out w3 (HB2.out.trans (hb3.mono HB2.out.size))
      obtain ⟨⟨z0, z1, z2, z3, z4⟩, y0, y1, y2, y3, y4⟩ := cell5 e1
      have H1 := Lib.hid e1
      have HB3 := Lib.hid hbw
      clear q0 q1 q2 hb3 e1 hbw
      go_wp2_with fail
      refine bodyPost_ret (results_cell_row Try.results34 _ _ (w.heap.size + 1) 36 _ (0, 0) _ rfl (five_set _ _ _ _ _ H1.out) Try.underlying36 rfl HI.out) rfl ?_
      exact ⟨by rw [HLO.out], below_five HB3.out (by omega) _ _ _ _ _⟩
    · have t2 : ((t : Int) == (sh : Int)) = false := beq_eq_false_iff_ne.2 (by omega)
      have HLO := Lib.hid (show lineOf n sh (f, t, sw) = ⟨f, t, sw, 0, 0⟩ from by unfold lineOf; rw [if_neg hts])
      obtain ⟨⟨z0, z1, z2, z3, z4⟩, y0, y1, y2, y3, y4⟩ := cell5 e1
      have H1 := Lib.hid e1
      clear hts e0 e1 hbw
      go_wp2_with fail
      refine bodyPost_ret (results_cell_row Try.results34 _ _ (w.heap.size + 1) 36 _ (0, 0) _ rfl (five_set _ _ _ _ _ H1.out) Try.underlying36 rfl HI.out) rfl ?_
      exact ⟨by rw [HLO.out], below_five HBW2.out (by omega) _ _ _ _ _⟩
  · have hm : endF (Wd (l.take sh)) sh f s = sh := by omega
    obtain ⟨ht, hw⟩ := HFA.out hm
    rw [ht, hw]
    rw [hm] at HM
    clear ht hw
    have HLO := Lib.hid (show lineOf n sh (f, sh, sh) = ⟨f, n, sh, 1, 0⟩ from by unfold lineOf; rw [if_pos rfl])
    have t1 : ((sh : Int) == (sh : Int)) = true := beq_iff_eq.2 rfl
    clear hm hge hle HP HFA HFP HH
    go_enter Try.func34, Try.ntmps34
    go_wp2_with fail
    refine (HM.out _ HB.out).mono ?_
    rintro e w1 ⟨rfl, hb1⟩
    obtain ⟨e0, e1, hbw⟩ := HC.out w1 hb1
    have p0 := cell_of_row w1 w.heap.size 0 _ _ _ e0
    have p1 := cell_of_row w1 w.heap.size 1 _ _ _ e0
    have p2 := cell_of_row w1 w.heap.size 2 _ _ _ e0
    have HB1 := Lib.hid hb1
    clear q0 q1 q2 hU hb1 e0 e1 hbw HM
    go_wp2_with fail
    refine (HR.out _).mono ?_
    rintro e w3 ⟨rfl, hb3⟩
    obtain ⟨-, e1, hbw⟩ := HC.out w3 (HB1.out.trans (hb3.mono HB1.out.size))
    obtain ⟨⟨z0, z1, z2, z3, z4⟩, y0, y1, y2, y3, y4⟩ := cell5 e1
    have H1 := Lib.hid e1
    have HB3 := Lib.hid hbw
    clear p0 p1 p2 hb3 e1 hbw
    go_wp2_with fail
    refine bodyPost_ret (results_cell_row Try.results34 _ _ (w.heap.size + 1) 36 _ (0, 0) _ rfl (five_set _ _ _ _ _ H1.out) Try.underlying36 rfl HI.out) rfl ?_
    exact ⟨by rw [HLO.out], below_five HB3.out (by omega) _ _ _ _ _⟩
end Go.Proofs.Ytfbjgibjlppjoaa.Wr

/-
  A loop's body inside a round of a range over a function, at the wide fence: its regions may be walked as everywhere. No program in it.
-/
set_option linter.unusedVariables false
namespace Go.Proofs.Ytfbjgibjlppjoaa
open Go Go.RowKit

theorem rows_round {l n : Nat} {P : Program} {row : String} {args : Array Value} {w : World} {R : Value → World → Prop} (h : Rows P row args w R) : RowsIn (Fence.wide.inRound l) n P row args w R :=
  fun c cs _ => by
    obtain ⟨v, w', h1, h2⟩ := h c cs
    exact ⟨v, w', h1, stepsIn_wide.2 h2⟩
theorem oper_round {l n : Nat} {P : Program} {o : Oper} {a : Act} {w : World} {K : Act → World → Prop} {Q : Exit → Act → World → Prop} (hd : ∀ c, o.op ≠ .defer c) (h : o.wp P a w K Q) : o.wpIn (Fence.wide.inRound l) n P a w K Q := by
  unfold Oper.wpIn
  rw [Oper.semAt_eq _ _ _ hd]
  unfold Oper.wp at h
  refine ⟨fun _ _ => trivial, ?_⟩
  generalize (execOp a.eval o).run P w = r at *
  cases r with
  | ok x w' =>
    cases x with
    | value v => exact h
    | skip => exact h
    | defer d => exact h
    | enter f args => exact ⟨(fun h0 => by cases h0), CallsIn.inRound l (callsIn_wide.2 h)⟩
    | row r args => exact ⟨(fun h0 => by cases h0), rows_round h⟩
    | round _ _ _ _ _ => exact h.elim
    | _ => exact h.elim
  | halt x w' => cases x <;> exact h
def noDefer (ops : Array Oper) : Bool := ops.all fun o => match o.op with
  | .defer _ => false
  | _ => true
theorem noDefer_at {ops : Array Oper} (h : noDefer ops = true) {i : Nat} {o : Oper} (ho : ops[i]? = some o) : ∀ c, o.op ≠ .defer c := by
  intro c e
  unfold noDefer at h
  rw [Array.all_eq_true] at h
  obtain ⟨hi, he⟩ := Array.getElem?_eq_some_iff.1 ho
  have := h i hi
  rw [he, e] at this
  cases this
theorem op_round {l n : Nat} {P : Program} {ops : Array Oper} {Q : Exit → Act → World → Prop} {i : Nat} {K K' : Act → World → Prop} {a : Act} {w : World} (hnd : noDefer ops = true) (hL : ¬ LetsOut Q) (hk : ∀ a w, K a w → K' a w) (h : wpOp P ops Q i K a w) : wpOpIn (Fence.wide.inRound l) n P ops Q i K' a w := by
  unfold wpOp at h
  unfold wpOpIn
  split
  · rename_i e
    simp only [e] at h
    exact hk _ _ h
  · rename_i o e
    simp only [e] at h
    split
    · rename_i hw
      rw [if_pos hw] at h
      rcases h with h | h
      · exact oper_round (noDefer_at hnd e) (Oper.wp_mono hk h)
      · exact absurd h.2 hL
    · rename_i hw
      rw [if_neg hw] at h
      exact ⟨fun _ _ => trivial, hk _ _ h⟩
theorem any_round {l n : Nat} {P : Program} {md : Region.Mode} {ops : Array Oper} {Q : Exit → Act → World → Prop} (hnd : noDefer ops = true) (hL : ¬ LetsOut Q) : ∀ (fuel : Nat) (listed : Array Bool) (a : Act) (w : World), wpAny P md ops Q fuel listed a w → wpAnyIn (Fence.wide.inRound l) n P md ops Q fuel listed a w
  | 0, _, _, _, h => h
  | fuel + 1, _, _, _, h => ⟨h.1, fun i hi => op_round hnd hL (fun a w h' => any_round hnd hL fuel _ a w h') (h.2 i hi)⟩
/-- A region that draws its order. -/
theorem round_drawn {l n : Nat} {P : Program} {ops : Array Oper} {Q : Exit → Act → World → Prop} {S : World → Prop} {id : Nat} {a : Act} {w : World} (hm : P.follows .mixedOrders = true) (hnd : noDefer ops = true) (hL : ¬ LetsOut Q) (hS : S w.drew)
    (h : S w.drew → wpAnyH P .any ops Q S ops.size (Array.replicate ops.size false) a w.drew) : (Code.region id ops true).wpIn (Fence.wide.inRound l) n P Q a w :=
  wpIn_region_any hm (any_round hnd hL _ _ _ _ (wpAny_of_held _ _ _ _ (h hS)))
theorem list_round {l n : Nat} {P : Program} {ops : Array Oper} {Q : Exit → Act → World → Prop} (hL : ¬ LetsOut Q) : ∀ (rest : List Oper) (a : Act) (w : World), (∀ o ∈ rest, ∀ c, o.op ≠ .defer c) → wpList P ops Q rest a w → wpListIn (Fence.wide.inRound l) n P ops Q rest a w
  | [], _, _, _, h => h
  | o :: rest, a, w, hnd, h => by
    have ih : ∀ a w, wpList P ops Q rest a w → wpListIn (Fence.wide.inRound l) n P ops Q rest a w := fun a w => list_round hL rest a w (fun x hx => hnd x (List.mem_cons_of_mem _ hx))
    unfold wpList at h
    unfold wpListIn
    split
    · rename_i hw
      rw [if_pos hw] at h
      rcases h with h | h
      · exact oper_round (hnd o List.mem_cons_self) (Oper.wp_mono ih h)
      · exact absurd h.2 hL
    · rename_i hw
      rw [if_neg hw] at h
      exact ⟨fun _ _ => trivial, ih _ _ h⟩
theorem round_list {l n : Nat} {P : Program} {ops : List Oper} {Q : Exit → Act → World → Prop} {id : Nat} {a : Act} {w : World} (hnd : noDefer ops.toArray = true) (hL : ¬ LetsOut Q) (h : wpList P ops.toArray Q ops a w) : (Code.region id ops.toArray false).wpIn (Fence.wide.inRound l) n P Q a w :=
  wpIn_region_lit (list_round hL _ _ _ (fun o ho => by
    obtain ⟨i, hi⟩ := List.getElem?_of_mem ho
    exact noDefer_at hnd (i := i) (by simpa using hi)) h)
end Go.Proofs.Ytfbjgibjlppjoaa

/-
  What a round of a range over a function keeps that appends to a row held by one variable: every block of cells but that variable's and the row's. No program in it.
-/
set_option linter.unusedVariables false
namespace Go.Proofs.Ytfbjgibjlppjoaa
open Go Go.RowKit

theorem grown_belowK {w w' : World} (h : Below w.heap.size w w') (row : Option Nat) : w.grownBy w' row := ⟨h.os, h.tape, h.output, h.size, fun k hk _ => h.block k hk⟩
/-- The variable in block Bx holds a slice of the row in block k. -/
def Aims (Bx : Nat) (W : World) (k : Nat) : Prop := ∃ ad n c, W.cell? ⟨Bx, 0, none⟩ = some (.slice (some ad) n c) ∧ ad.block = k
structure KpR (Bx : Nat) (A B : World) : Prop where
  size : A.heap.size ≤ B.heap.size
  block : ∀ k o, A.heap[k]? = some o → o.isCells = true → k ≠ Bx → ¬ Aims Bx A k → B.heap[k]? = some o ∧ ¬ Aims Bx B k
  low : (∀ k, Aims Bx A k → k < A.heap.size) → ∀ k, Aims Bx B k → k < B.heap.size
theorem Aims.same {Bx : Nat} {A B : World} (h : B.heap[Bx]? = A.heap[Bx]?) (k : Nat) : Aims Bx B k ↔ Aims Bx A k := by
  unfold Aims
  rw [World.cell?_of_block (a := ⟨Bx, 0, none⟩) h]
theorem KpR.refl (Bx : Nat) (A : World) : KpR Bx A A := ⟨Nat.le_refl _, fun _ _ h _ _ hn => ⟨h, hn⟩, fun h => h⟩
theorem KpR.trans {Bx : Nat} {A B C : World} (h : KpR Bx A B) (k : KpR Bx B C) : KpR Bx A C :=
  ⟨Nat.le_trans h.size k.size, fun i o h1 h2 h3 h4 => k.block i o (h.block i o h1 h2 h3 h4).1 h2 h3 (h.block i o h1 h2 h3 h4).2, fun hl => k.low (h.low hl)⟩
theorem KpR.below {Bx : Nat} {A B : World} (hb : Below A.heap.size A B) (hBx : Bx < A.heap.size) : KpR Bx A B := by
  have hs := Aims.same (hb.block Bx hBx)
  exact ⟨hb.size, fun k o h1 _ _ h4 => ⟨(hb.block k (Array.getElem?_eq_some_iff.1 h1).1).trans h1, fun h => h4 ((hs k).1 h)⟩, fun hl k h => Nat.lt_of_lt_of_le (hl k ((hs k).1 h)) hb.size⟩
theorem KpR.putObj {Bx : Nat} {W : World} {l : Nat} {o : Obj} (o' : Obj) (hl : W.heap[l]? = some o) (ho : o.isCells = false) (hBx : Bx ≠ l) : KpR Bx W (W.putObj l o') := by
  have hs := Aims.same (A := W) (B := W.putObj l o') (World.putObj_heap_other hBx)
  refine ⟨by simp, fun k o2 h1 h2 _ h4 => ⟨(World.putObj_heap_other (fun e => ?_)).trans h1, fun h => h4 ((hs k).1 h)⟩, fun hl2 k h => by simpa using hl2 k ((hs k).1 h)⟩
  subst e
  rw [hl] at h1
  injection h1 with h1
  subst h1
  rw [ho] at h2
  cases h2
/-- A row appended to, behind which the variable holds it again. -/
theorem KpR.pushed {Bx : Nat} {A B : World} {v v' : Value} {n c n' c' : Nat} (hBx : Bx < A.heap.size) (hv : A.cell? ⟨Bx, 0, none⟩ = some v) (hg : A.grownBy B v.ownBlock) (hat : v'.ownBlock = v.ownBlock ∨ v'.ownBlock = some A.heap.size)
    (hsl : ∀ ad n c, v = .slice (some ad) n c → v.ownBlock = some ad.block) (hsl' : ∀ ad n c, v' = .slice (some ad) n c → v'.ownBlock = some ad.block) (hlt : ∀ k, v'.ownBlock = some k → k < B.heap.size) (hc : ∀ u, (B.setCell ⟨Bx, 0, none⟩ v').cell? ⟨Bx, 0, none⟩ = some u → u = v') :
    KpR Bx A (B.setCell ⟨Bx, 0, none⟩ v') := by
  have aim : ∀ k, Aims Bx (B.setCell ⟨Bx, 0, none⟩ v') k → v'.ownBlock = some k := fun k h => by
    obtain ⟨ad, n, c, h1, rfl⟩ := h
    have := hc _ h1
    exact hsl' ad n c this.symm
  have aimA : ∀ k, v.ownBlock = some k → (∃ ad n c, v = .slice (some ad) n c) → Aims Bx A k := fun k h ⟨ad, n, c, e⟩ => by
    have h2 := hsl ad n c e
    rw [h] at h2
    injection h2 with h2
    exact ⟨ad, n, c, by rw [hv, e], h2.symm⟩
  refine ⟨by simpa using hg.size, fun k o h1 h2 h3 h4 => ?_, fun _ k h => by simpa using hlt k (aim k h)⟩
  have hk : k < A.heap.size := (Array.getElem?_eq_some_iff.1 h1).1
  have hne : v.ownBlock ≠ some k := fun e => by
    refine h4 ?_
    cases v with
    | slice a n c =>
      cases a with
      | some ad => exact aimA k e ⟨ad, n, c, rfl⟩
      | none => cases e
    | _ => cases e
  refine ⟨?_, fun h => ?_⟩
  · rw [heap_setCell_other B ⟨Bx, 0, none⟩ k v' (by exact h3)]
    exact (hg.block k hk (fun e => hne e.symm)).trans h1
  · have h5 := aim k h
    rcases hat with e | e
    · rw [e] at h5
      exact hne h5
    · rw [e] at h5
      injection h5 with h5
      omega
theorem cells_block {w : World} {a : Addr} {v : Value} (h : w.cell? a = some v) : ∃ o, w.heap[a.block]? = some o ∧ o.isCells = true := by
  unfold World.cell? at h
  split at h
  · rename_i c e f ho
    exact ⟨_, ho, rfl⟩
  · cases h
/-- A cell that such a round leaves. -/
theorem KpR.cell {Bx : Nat} {A B : World} (h : KpR Bx A B) {a : Addr} {v : Value} (hc : A.cell? a = some v) (hne : a.block ≠ Bx) (hn : ¬ Aims Bx A a.block) : B.cell? a = some v := by
  obtain ⟨o, h1, h2⟩ := cells_block hc
  rw [World.cell?_of_block (a := a) ((h.block _ o h1 h2 hne hn).1.trans h1.symm)]
  exact hc
end Go.Proofs.Ytfbjgibjlppjoaa

/-
  Proved here: what wrap's lines answers: a function that yields the document's lines, one by one, as long as rounds go on and leave what it reads.
-/
set_option linter.unusedVariables false
namespace Go.Proofs.Ytfbjgibjlppjoaa.Wr
open Go Go.RowKit Go.Lib Go.Proofs.Ytfbjgibjlppjoaa.Ku Go.Proofs.Ytfbjgibjlppjoaa.Arr Go.Shelf

set_option maxHeartbeats 1000000 in
set_option maxRecDepth 100000 in
theorem linesFn_any (A : Option Addr) (n c : Nat) (sh s : Int) (w : World) :
    Calls Try.prog 26 #[.agg #[.slice A n c, .int .i64 sh], .int .i64 s] w fun e w' => e = .returned (.func (.func 33) #[] #[.pointer (some ⟨w.heap.size, 0, none⟩), .pointer (some ⟨w.heap.size + 1, 0, none⟩)]) ∧
      w'.heap[w.heap.size]? = some (.cells #[.slice A n c, .int .i64 sh] 41 (0, 0)) ∧ w'.heap[w.heap.size + 1]? = some (.cells #[.int .i64 s] 3 (0, 0)) ∧ Below w.heap.size w w' ∧ w'.heap.size = w.heap.size + 2 := by
  obtain ⟨e0, e1, hb0, hs0⟩ := two_newW w (.cells #[.slice A n c, .int .i64 sh] 41) (.cells #[.int .i64 s] 3)
  obtain ⟨U, hU⟩ : ∃ U, (w.alloc (.cells #[.slice A n c, .int .i64 sh] 41)).alloc (.cells #[.int .i64 s] 3) = U := ⟨_, rfl⟩
  rw [hU] at e0 e1 hb0 hs0
  have HB := Lib.hid (And.intro e0 (And.intro e1 (And.intro hb0 hs0)))
  clear e0 e1 hb0 hs0
  go_enter Try.func26, Try.ntmps26
  go_wp2_with fail
  go_ret
  exact ⟨rfl, HB.out⟩

theorem cu_kept {Bx : Nat} {w W : World} {A : Option Addr} {l : List C6} (h : CuAt w A l) (hk : KpR Bx w W) (hne : ∀ ad, A = some ad → ad.block ≠ Bx) (hn : ∀ k, ¬ Aims Bx w k) : CuAt W A l := by
  rcases h with h | ⟨b, off, rfl, hlt, hc⟩
  · exact .inl h
  · have hb := hne _ rfl
    refine .inr ⟨b, off, rfl, Nat.lt_of_lt_of_le hlt hk.size, fun k hkl => ?_⟩
    obtain ⟨h0, h1, h2, h3, h4, h5⟩ := hc k hkl
    exact ⟨hk.cell h0 hb (hn _), hk.cell h1 hb (hn _), hk.cell h2 hb (hn _), hk.cell h3 hb (hn _), hk.cell h4 hb (hn _), hk.cell h5 hb (hn _)⟩

theorem lns_step {W : Nat → Int} {B : Nat → Bool} {n : Nat} {w : Int} {f : Nat} {L : List (Nat × Nat × Nat)} (h : Lns W B n w f L) : ∃ t s r, First W B n f w t s ∧ L = (f, t, s) :: r ∧ ((t = n ∧ r = []) ∨ (t < n ∧ Lns W B n w t r)) := by
  cases h with
  | last f s h1 => exact ⟨n, s, [], h1, rfl, .inl ⟨rfl, rfl⟩⟩
  | more f t s r h1 h2 h3 => exact ⟨t, s, r, h1, rfl, .inr ⟨h2, h3⟩⟩
attribute [local go_sem] Oper.semAt_some
set_option maxHeartbeats 4000000 in
set_option maxRecDepth 100000 in
theorem lines_stops (n' : Nat) (hn' : 1 ≤ n') (gp Bx : Nat) (A : Option Addr) (l : List C6) (n c sh : Nat) (s : Int) (w : World) (hR : CuAt w A l) (hl : l.length = n) (hc : n ≤ c) (hn : n ≤ 1099511627776) (hs : s ≤ 9223372036854775807) (h0 : 0 < sh) (hsh : sh ≤ n)
    (hp0 : w.heap[gp]? = some (.cells #[.slice A n c, .int .i64 sh] 41 (0, 0))) (hp1 : w.heap[gp + 1]? = some (.cells #[.int .i64 s] 3 (0, 0))) (hBx : Bx < w.heap.size) (hgp : gp ≠ Bx) (hgp1 : gp + 1 ≠ Bx) (hA : ∀ ad, A = some ad → ad.block ≠ Bx) (hna : ∀ k, ¬ Aims Bx w k)
    (R : List (Nat × Nat × Nat)) (hRL : Lns (Wd (l.take sh)) (Bl (l.take sh)) sh s 0 R) :
    SeqStopsK Fence.wide n' Try.prog 33 #[.pointer (some ⟨gp, 0, none⟩), .pointer (some ⟨gp + 1, 0, none⟩)] (fun x : L5 => #[lnV x]) (KpR Bx) (fun xs => xs = R.map (lineOf n sh)) (fun _ => True) (n + 1) w := by
  intro l0 J Jx W hW hJ hJx hY hj0
  have hlen := hRL.len h0
  have HY := Lib.hid hY
  have HJ := Lib.hid hJ
  have HJ0 := Lib.hid hj0
  have HKW := Lib.hid (KpR.below hW hBx)
  have HP := Lib.hid (fun (V : World) (h : KpR Bx w V) => And.intro (h.block _ _ hp0 rfl hgp (hna _)).1 (And.intro (h.block _ _ hp1 rfl hgp1 (hna _)).1 (cu_kept hR h hA hna)))
  have HAL := Lib.hid (fun (V : World) (h : KpR Bx w V) => h.low (fun k hk => absurd hk (hna k)))
  have HM := Lib.hid (fun (f t sw : Nat) (V : World) (h : KpR Bx w V) (hf : f < sh) (hF : First (Wd (l.take sh)) (Bl (l.take sh)) sh f s t sw) => (callsIn_wide (n := n' - 1)).2 (made_any A l n c sh f s V (cu_kept hR h hA hna) hl hc hn hs hf hsh t sw hF))
  have HR := Lib.hid hRL
  clear hY hJ hJx hj0 hW hp0 hp1 hRL hR hA hna
  refine callsIn_of_wp Try.func33 rfl trivial ?_ rfl
  simp only [Try.ntmps33, List.size_toArray, List.length_cons, List.length_nil, Nat.reduceAdd, Nat.reduceSub, Array.replicate_succ, Array.replicate_zero, List.push_toArray, List.append_toArray, List.nil_append, List.cons_append]
  gi_wp2
  gi_loopw [4] (fun s4 wr => ∃ (pre : List L5) (f : Nat), f ≤ n ∧ s4 = .int .i64 f ∧ J pre wr ∧ KpR Bx w wr ∧ ((pre = R.map (lineOf n sh) ∧ sh ≤ f) ∨ (f < sh ∧ ∃ R2, Lns (Wd (l.take sh)) (Bl (l.take sh)) sh s f R2 ∧ pre ++ R2.map (lineOf n sh) = R.map (lineOf n sh)))) (fun s4 _ => n - (RowKit.intOf s4).toNat)
  case atStart => exact ⟨[], 0, Nat.zero_le _, rfl, HJ0.out, HKW.out, .inr ⟨h0, R, HR.out, rfl⟩⟩
  case round =>
    obtain ⟨pre, f, hfn, rfl, hj, hk, hcase⟩ := hrel
    obtain ⟨b0, b1, -⟩ := HP.out wr hk
    have p0 := cell_of_row wr gp 0 _ _ _ b0
    have p1 := cell_of_row wr gp 1 _ _ _ b0
    have p2 := cell_of_row wr (gp + 1) 0 _ _ _ b1
    clear b0 b1
    rcases hcase with ⟨hpre, hge⟩ | ⟨hlt, R2, hR2, hpre⟩
    · have t1 : decide ((f : Int) < (sh : Int)) = false := decide_eq_false (by omega)
      have t2 : decide (f < sh) = false := decide_eq_false (by omega)
      have HF := Lib.hid (And.intro hpre hj)
      clear hpre hj hk
      gi_wp2
      go_end0
      exact ⟨⟨_, rfl⟩, .inl ⟨_, rfl, by rw [← HF.out.1]; exact HF.out.2⟩⟩
    · obtain ⟨t, sw, R3, hF, rfl, hrest⟩ := lns_step hR2
      obtain ⟨g1, g2, g3, g4, g5⟩ := hF.goes hlt
      have hMF := HM.out f t sw wr hk hlt hF
      have hxt : (lineOf n sh (f, t, sw)).t = ((if t = sh then n else t : Nat) : Int) := by
        unfold lineOf
        by_cases h : t = sh
        · rw [if_pos h, if_pos h]
        · rw [if_neg h, if_neg h]
      have hpl : pre.length < n + 1 := by
        have h1 := congrArg List.length hpre
        simp at h1
        omega
      rw [List.map_cons] at hpre
      generalize lineOf n sh (f, t, sw) = x at *
      obtain ⟨xf, xt, xs, xh, xd⟩ := x
      unfold lnV at hMF
      simp only at hMF hxt
      have HMF := Lib.hid hMF
      have t1 : decide ((f : Int) < (sh : Int)) = true := decide_eq_true (by omega)
      have t2 : decide (f < sh) = true := decide_eq_true hlt
      have HK := Lib.hid hk
      have HAW := Lib.hid (fun k h => HAL.out wr hk k h)
      have HJR := Lib.hid hj
      have HPRE := Lib.hid (And.intro hpre (And.intro hrest (And.intro hxt hpl)))
      have hwsz := hk.size
      clear hMF hR2 hF hpre hrest hxt hpl hk hj HM
      gi_wp2_with fail
      refine ⟨trivial, HMF.out.mono ?_⟩
      rintro e w5 ⟨rfl, hb5⟩
      have hb6 : Below wr.heap.size wr (w5.alloc (.cells #[.int .i64 xf, .int .i64 xt, .int .i64 xs, .int .i64 xh, .int .i64 xd] 36)) := hb5.alloc hb5.size _
      have hc6 : (w5.alloc (.cells #[.int .i64 xf, .int .i64 xt, .int .i64 xs, .int .i64 xh, .int .i64 xd] 36)).cell? ⟨w5.heap.size, 1, none⟩ = some (.int .i64 xt) := by simp
      have hj6 := HJ.out pre wr _ none HJR.out (grown_belowK hb6 none) (fun r h => by cases h)
      obtain ⟨fn, tmps, assign, body, hy, hRn⟩ := HY.out pre ⟨xf, xt, xs, xh, xd⟩ _ hj6 HPRE.out.2.2.2
      have hk6 := HK.out.trans (KpR.below hb6 (by omega))
      have hna6 : ¬ Aims Bx (w5.alloc (.cells #[.int .i64 xf, .int .i64 xt, .int .i64 xs, .int .i64 xh, .int .i64 xd] 36)) w5.heap.size := fun h => by
        have h1 := HAW.out _ ((Aims.same (hb6.block Bx (by omega)) _).1 h)
        have := hb5.size
        omega
      have hs5 := hb5.size
      have HK7 := Lib.hid (fun V (h : KpR Bx (w5.alloc (.cells #[.int .i64 xf, .int .i64 xt, .int .i64 xs, .int .i64 xh, .int .i64 xd] 36)) V) => And.intro (h.cell hc6 (by show w5.heap.size ≠ Bx; omega) hna6) (hk6.trans h))
      unfold lnV at hy
      dsimp only at hy
      clear hb5 hb6 hc6 hj6 hk6 hna6 p0 p1 p2
      gi_wp2_with fail
      refine hRn.mono ?_
      rintro e W7 (⟨rfl, hJ7, hk7⟩ | ⟨rfl, hx7⟩)
      · obtain ⟨c7, hk7⟩ := HK7.out _ hk7
        have HJ7 := Lib.hid hJ7
        have HKK := Lib.hid hk7
        clear hJ7 hk7
        gi_wp2
        go_roundw
        case rel =>
          obtain ⟨hpre, hrest, hxt, hpl⟩ := HPRE.out
          refine ⟨pre ++ [⟨xf, xt, xs, xh, xd⟩], if t = sh then n else t, by split <;> omega, by rw [hxt], HJ7.out, HKK.out, ?_⟩
          rcases hrest with ⟨h1, h2⟩ | ⟨h1, h2⟩
          · subst h2
            exact .inl ⟨by rw [← hpre]; rfl, by rw [if_pos h1]; exact hsh⟩
          · refine .inr ⟨by rw [if_neg (by omega)]; exact h1, R3, by rw [if_neg (by omega)]; exact h2, by rw [← hpre, List.append_assoc]; rfl⟩
        case measure =>
          have := HPRE.out.2.2.1
          simp only [RowKit.intOf]
          split at this <;> omega
      · have HX7 := Lib.hid hx7
        clear hx7
        gi_wp2
        refine bodyPost_ret (results_none (by kernel_rfl) _ _ _) rfl ?_
        exact ⟨⟨_, rfl⟩, .inr ⟨_, trivial, HX7.out⟩⟩
end Go.Proofs.Ytfbjgibjlppjoaa.Wr
