/-
  Several texts in one, each with its own remark: MrFns, MrGlyph, BrSmall, LawInts, RuOpen, RuSame, ClearInts, BrOrder.
-/
import Derived.ChangeSlices
import Derived.Laws.IdiomAt
import Derived.Laws.IdiomElems
import Derived.Deep.Slices
import Derived.RegionTactic
import Derived.ChangeAlike
import Derived.BigRegion
import Derived.Test.YtfclpecbnailgaaGreatM24
import Derived.Test.YtfclpecbnailgaaGreatM11
import Derived.Test.YtfclpecbnailgaaGreatM23
import Derived.Test.YtfclpecbnailgaaGreatM4
import Derived.Test.YtfclpecbnailgaaGreatM5
import Derived.Test.YtfclpecbnailgaaGreatM7

/-
  Proved here: what parquetryref03.Pair, Form, Meet return, for every number: what mirror's do; they leave what was in memory. No condition.
-/
set_option linter.unusedVariables false
namespace Go.Proofs.YtfclpecbnailgaaGreat.Mr
open Go.RowKit Go.Lib Go.Proofs.YtfclpecbnailgaaGreat.Mi Go.Proofs.YtfclpecbnailgaaGreat.Tab
theorem brRows_ok : ∀ r ∈ brRows, rowB r = true := by decide +kernel
theorem brPairs_ok : ∀ r ∈ brPairs, twoB r = true := by decide +kernel
theorem sgRows_ok : ∀ r ∈ sgRows, rowB r = true := by decide +kernel
theorem sgPairs_ok : ∀ r ∈ sgPairs, twoB r = true := by decide +kernel
set_option maxHeartbeats 1000000 in
set_option maxRecDepth 100000 in
theorem refPair_any (c : Int) (w : World) :
    Calls Tryz.prog 83 #[.int .i64 c] w fun e w' => e = .returned (.tuple #[.int .i64 (pairT c).1, .int .i64 (pairT c).2]) ∧ Below w.heap.size w w' := by
  have HP := Lib.hid (fun (g : Nat) (W : World) (h : LitAt W g (flatR brRows)) => inRows_any g brRows c 44 W (by kernel_rfl) h (by decide +kernel) brRows_ok)
  have HQ := Lib.hid (fun (g : Nat) (W : World) (h : LitAt W g (flatR brPairs)) => inPairs_any g brPairs c 8 W (by kernel_rfl) h (by decide +kernel) brPairs_ok)
  have he : pairT c = if (inR brRows c).1 = 0 then inR brPairs c else inR brRows c := inR_append brRows brPairs c
  rw [he]
  clear he
  generalize inR brRows c = p at *
  generalize inR brPairs c = q at *
  obtain ⟨k, o⟩ := p
  obtain ⟨m, x⟩ := q
  simp only at HP HQ ⊢
  by_cases h1 : k = 0
  · subst h1
    rw [if_pos rfl]
    go_enter Tryz.func83, Tryz.ntmps83
    go_wp2_with fail
    refine (brackets_any _).mono ?_
    rintro e w1 ⟨rfl, hL1, hb1⟩
    go_wp2_with fail
    refine (HP.out _ _ hL1).mono ?_
    rintro e w2 ⟨rfl, rfl⟩
    go_wp2_with fail
    refine (lone_true _).mono ?_
    rintro e w3 ⟨rfl, hL3, hb3⟩
    go_wp2_with fail
    refine (HQ.out _ _ hL3).mono ?_
    rintro e w4 ⟨rfl, hb4⟩
    go_wp2
    go_ret2
    have hb13 := hb1.trans (hb3.mono hb1.size)
    exact ⟨rfl, hb13.trans (hb4.mono hb13.size)⟩
  · rw [if_neg h1]
    have d1 : (k == 0) = false := by simpa using h1
    clear h1
    go_enter Tryz.func83, Tryz.ntmps83
    go_wp2_with fail
    refine (brackets_any _).mono ?_
    rintro e w1 ⟨rfl, hL1, hb1⟩
    go_wp2_with fail
    refine (HP.out _ _ hL1).mono ?_
    rintro e w2 ⟨rfl, rfl⟩
    go_wp2
    go_ret2
    exact ⟨rfl, hb1⟩
end Go.Proofs.YtfclpecbnailgaaGreat.Mr

/-
  Proved here: what parquetryref03.Glyph returns, for every number: what mirror's does; it leaves what was in memory. No condition.
-/
set_option linter.unusedVariables false
namespace Go.Proofs.YtfclpecbnailgaaGreat.Mr
open Go.RowKit Go.Lib Go.Proofs.YtfclpecbnailgaaGreat.Mi Go.Proofs.YtfclpecbnailgaaGreat.Tab
set_option maxRecDepth 100000 in
theorem others_any (w : World) :
    Calls Tryz.prog 85 #[] w fun e w' => e = .returned (.slice (some ⟨w.heap.size, 0, none⟩) 14 14) ∧ LitAt w' w.heap.size (flatR sgRows) ∧ Below w.heap.size w w' := by
  go_enter Tryz.func85, Tryz.ntmps85
  refine wp_seq (wp_region_lit (l := [_]) (wpList_assignTo rfl _ rfl ?_))
  show Exit.then _ _ _ _ _
  refine wp_seq ?_
  refine wp_ints 1 0 25 3 (flatR sgRows) 14 Tryz.underlying25 infoI1 infoI2 (by kernel_rfl) (by decide) (by decide) (by kernel_rfl) ?_
  refine wp_ret ?_
  go_ret
  exact ⟨rfl, litAt_made _ _ _, (Below.refl _ _).alloc (Nat.le_refl _) _⟩
set_option maxHeartbeats 1000000 in
set_option maxRecDepth 100000 in
theorem refGlyph_any (c : Int) (w : World) :
    Calls Tryz.prog 44 #[.int .i64 c] w fun e w' => e = .returned (.int .i64 (glyphT c)) ∧ Below w.heap.size w w' := by
  have CA := Lib.hid (fun W => refPair_any c W)
  have HP := Lib.hid (fun (g : Nat) (W : World) (h : LitAt W g (flatR sgRows)) => inRows_any g sgRows c 14 W (by kernel_rfl) h (by decide +kernel) sgRows_ok)
  have HQ := Lib.hid (fun (g : Nat) (W : World) (h : LitAt W g (flatR sgPairs)) => inPairs_any g sgPairs c 18 W (by kernel_rfl) h (by decide +kernel) sgPairs_ok)
  have he : inR sgL c = if (inR sgRows c).1 = 0 then inR sgPairs c else inR sgRows c := inR_append sgRows sgPairs c
  unfold glyphT
  rw [he]
  clear he
  generalize pairT c = r at *
  generalize inR sgRows c = p at *
  generalize inR sgPairs c = q at *
  obtain ⟨k, o⟩ := r
  obtain ⟨m, x⟩ := p
  obtain ⟨l, y⟩ := q
  simp only at CA HP HQ ⊢
  by_cases h1 : k = 0
  · subst h1
    rw [if_pos rfl]
    by_cases h2 : m = 0
    · subst h2
      rw [if_pos rfl]
      simp only
      have main : ∀ v : Int, (if l = 0 then c else y) = v → Calls Tryz.prog 44 #[.int .i64 c] w fun e w' => e = .returned (.int .i64 v) ∧ Below w.heap.size w w' := by
        intro v hv
        by_cases h3 : l = 0
        · obtain rfl : c = v := by rwa [if_pos h3] at hv
          subst h3
          clear hv
          go_enter Tryz.func44, Tryz.ntmps44
          go_wp2_with fail
          refine (CA.out _).mono ?_
          rintro e w0 ⟨rfl, hb0⟩
          go_wp2_with fail
          refine (others_any _).mono ?_
          rintro e w1 ⟨rfl, hL1, hb1⟩
          go_wp2_with fail
          refine (HP.out _ _ hL1).mono ?_
          rintro e w2 ⟨rfl, rfl⟩
          go_wp2_with fail
          refine (lone_false _).mono ?_
          rintro e w3 ⟨rfl, hL3, hb3⟩
          go_wp2_with fail
          refine (HQ.out _ _ hL3).mono ?_
          rintro e w4 ⟨rfl, hb4⟩
          go_wp2
          go_ret
          have hb11 := hb0.trans (hb1.mono hb0.size)
          have hb13 := hb11.trans (hb3.mono hb11.size)
          exact ⟨rfl, hb13.trans (hb4.mono hb13.size)⟩
        · obtain rfl : y = v := by rwa [if_neg h3] at hv
          have d3 : (l == 0) = false := by simpa using h3
          clear hv h3
          go_enter Tryz.func44, Tryz.ntmps44
          go_wp2_with fail
          refine (CA.out _).mono ?_
          rintro e w0 ⟨rfl, hb0⟩
          go_wp2_with fail
          refine (others_any _).mono ?_
          rintro e w1 ⟨rfl, hL1, hb1⟩
          go_wp2_with fail
          refine (HP.out _ _ hL1).mono ?_
          rintro e w2 ⟨rfl, rfl⟩
          go_wp2_with fail
          refine (lone_false _).mono ?_
          rintro e w3 ⟨rfl, hL3, hb3⟩
          go_wp2_with fail
          refine (HQ.out _ _ hL3).mono ?_
          rintro e w4 ⟨rfl, hb4⟩
          go_wp2
          go_ret
          have hb11 := hb0.trans (hb1.mono hb0.size)
          have hb13 := hb11.trans (hb3.mono hb11.size)
          exact ⟨rfl, hb13.trans (hb4.mono hb13.size)⟩
      exact main _ rfl
    · rw [if_neg h2, if_neg (show ¬ m = 0 from h2)]
      have d2 : (m == 0) = false := by simpa using h2
      clear h2
      go_enter Tryz.func44, Tryz.ntmps44
      go_wp2_with fail
      refine (CA.out _).mono ?_
      rintro e w0 ⟨rfl, hb0⟩
      go_wp2_with fail
      refine (others_any _).mono ?_
      rintro e w1 ⟨rfl, hL1, hb1⟩
      go_wp2_with fail
      refine (HP.out _ _ hL1).mono ?_
      rintro e w2 ⟨rfl, rfl⟩
      go_wp2
      go_ret
      exact ⟨rfl, hb0.trans (hb1.mono hb0.size)⟩
  · rw [if_neg h1]
    have d1 : (k == 0) = false := by simpa using h1
    clear h1
    go_enter Tryz.func44, Tryz.ntmps44
    go_wp2_with fail
    refine (CA.out _).mono ?_
    rintro e w0 ⟨rfl, hb0⟩
    go_wp2
    go_ret
    exact ⟨rfl, hb0⟩
end Go.Proofs.YtfclpecbnailgaaGreat.Mr

/-
  Proved here: what parquetryref16's blank, Cut, Shown, pick return: the plain ones. They leave what was in memory.
-/
set_option linter.unusedVariables false
namespace Go.Proofs.YtfclpecbnailgaaGreat.Bi
open Go Go.RowKit Go.Lib Go.Proofs.YtfclpecbnailgaaGreat.Cl
set_option maxHeartbeats 2000000 in
set_option maxRecDepth 100000 in
theorem rblank_any (c : Int) (w : World) : Calls Tryz.prog 40 #[.int .i64 c] w fun e w' => e = .returned (.bool (blankB c)) ∧ w' = w := by
  have hp : ∀ x : Int, (c == x) = true → c = x := fun x h => by simpa using h
  have HR := Lib.hid (fun W => Lv.nRemoved_any c W)
  cases h1 : (c == 12)
  case' false => cases h2 : (c == 19)
  case' false.false => cases h3 : (c == 20)
  case' false.false.false => cases h4 : (c == 21)
  case' false.false.false.false => cases h5 : (c == 22)
  case false.false.false.false.false =>
    have e : blankB c = Lv.remB c := by
      have n1 : ¬ c = 12 := by simpa using h1
      have n2 : ¬ c = 19 := by simpa using h2
      have n3 : ¬ c = 20 := by simpa using h3
      have n4 : ¬ c = 21 := by simpa using h4
      have n5 : ¬ c = 22 := by simpa using h5
      unfold blankB Ba.isI Ba.isP
      rw [decide_eq_false n1, h2, h3, h4, h5]
      rfl
    rw [e]
    clear e hp
    generalize Lv.remB c = b at *
    go_enter Tryz.func40, Tryz.ntmps40
    go_wp2_with fail
    refine (HR.out _).mono ?_
    rintro e w1 ⟨rfl, rfl⟩
    go_wp2_with fail
    go_ret
    exact ⟨rfl, rfl⟩
  case true =>
    have e : blankB c = true := by rw [hp 12 h1]; rfl
    rw [e]
    clear e hp HR
    go_enter Tryz.func40, Tryz.ntmps40
    go_wp2
    go_ret
    exact ⟨rfl, rfl⟩
  case false.true =>
    have e : blankB c = true := by rw [hp 19 h2]; rfl
    rw [e]
    clear e hp HR
    go_enter Tryz.func40, Tryz.ntmps40
    go_wp2
    go_ret
    exact ⟨rfl, rfl⟩
  case false.false.true =>
    have e : blankB c = true := by rw [hp 20 h3]; rfl
    rw [e]
    clear e hp HR
    go_enter Tryz.func40, Tryz.ntmps40
    go_wp2
    go_ret
    exact ⟨rfl, rfl⟩
  case false.false.false.true =>
    have e : blankB c = true := by rw [hp 21 h4]; rfl
    rw [e]
    clear e hp HR
    go_enter Tryz.func40, Tryz.ntmps40
    go_wp2
    go_ret
    exact ⟨rfl, rfl⟩
  case false.false.false.false.true =>
    have e : blankB c = true := by rw [hp 22 h5]; rfl
    rw [e]
    clear e hp HR
    go_enter Tryz.func40, Tryz.ntmps40
    go_wp2
    go_ret
    exact ⟨rfl, rfl⟩
set_option maxHeartbeats 1000000 in
theorem rcut_any (n : Int) (w : World) : Calls Tryz.prog 42 #[.int .i64 n] w fun e w' => e = .returned (.int .i64 (Bo.cutL n)) ∧ w' = w := by
  first
  | (
    unfold Bo.cutL
    go_enter Tryz.func42, Tryz.ntmps42
    go_wp2
    go_ret
    exact ⟨rfl, rfl⟩)
  | (
    by_cases h0 : n < 0
    · rw [show Bo.cutL n = 0 from by unfold Bo.cutL; omega]
      go_enter Tryz.func42, Tryz.ntmps42
      go_wp2
      go_ret
      exact ⟨rfl, rfl⟩
    · by_cases h1 : 126 < n
      · rw [show Bo.cutL n = 126 from by unfold Bo.cutL; omega]
        go_enter Tryz.func42, Tryz.ntmps42
        go_wp2
        go_ret
        exact ⟨rfl, rfl⟩
      · rw [show Bo.cutL n = n from by unfold Bo.cutL; omega]
        go_enter Tryz.func42, Tryz.ntmps42
        go_wp2
        go_ret
        exact ⟨rfl, rfl⟩)
set_option maxHeartbeats 1000000 in
theorem rshown_any (c l : Int) (w : World) : Calls Tryz.prog 20 #[.int .i64 c, .int .i64 l] w fun e w' => e = .returned (.int .i64 (shownP c l)) ∧ Below w.heap.size w w' := by
  have HG := Lib.hid (fun W => Mr.refGlyph_any c W)
  by_cases hm : l.tmod 2 = 0
  · have m1 : (l.tmod 2 != 0) = false := by simpa using hm
    rw [show shownP c l = c from if_pos hm]
    clear hm
    go_enter Tryz.func20, Tryz.ntmps20
    go_wp2
    go_ret
    exact ⟨rfl, Below.refl _ _⟩
  · have m1 : (l.tmod 2 != 0) = true := by simpa using hm
    rw [show shownP c l = Mi.glyphT c from if_neg hm]
    clear hm
    generalize Mi.glyphT c = v at *
    go_enter Tryz.func20, Tryz.ntmps20
    go_wp2_with fail
    refine (HG.out _).mono ?_
    rintro e w1 ⟨rfl, hb⟩
    go_wp2_with fail
    go_ret
    exact ⟨rfl, hb⟩
end Go.Proofs.YtfclpecbnailgaaGreat.Bi

/-
  A row of ints that a statement's function is called with, as its walk reads it: nil, or cells of memory.
-/
namespace Go.Proofs.YtfclpecbnailgaaGreat
open Go.ChangeShapes Go.WideShapes Go.ChangeAt Go.RowKit
set_option maxRecDepth 100000 in
theorem open_introwc {H : Type} {enc : TypeId × Value → H} {W : World} {r : Reach} {b0 base : Nat} {v : Value} {d : DataW H} {p : List MemPlace}
    (hv : Value.okWide Tryz.prog W r b0 25 v) (h : DataW.Trod enc Tryz.prog W base (fun _ => true) true 25 v d p) :
    ∃ (A : Option Addr) (zs : List Int) (c : Nat), v = .slice A zs.length c ∧ Cl.IntsAt W A zs ∧ (A = none → zs = [] ∧ c = 0) ∧ zs.length ≤ 9223372036854775807 ∧ (∀ z ∈ zs, -9223372036854775808 ≤ z ∧ z ≤ 9223372036854775807) ∧ zs.length ≤ c := by
  obtain ⟨fuel, hf⟩ := h
  rcases open_ints Tryz.underlying25 Tryz.underlying3 (by kernel_rfl) hf with ⟨hcs, hx⟩ | ⟨a, len, cap, zs, hcs, _, hl, hm, hz, hx, hcell, hwz⟩
  · obtain ⟨a, n, c, rfl⟩ := okWide_slice Tryz.underlying25 hv
    simp [Value.cells] at hcs
    obtain ⟨rfl, rfl, rfl⟩ := hcs
    exact ⟨none, [], 0, rfl, .inl rfl, fun _ => ⟨rfl, rfl⟩, by decide, by simp, by simp⟩
  · obtain ⟨a', n, c, rfl⟩ := okWide_slice Tryz.underlying25 hv
    simp [Value.cells] at hcs
    obtain ⟨rfl, rfl, rfl⟩ := hcs
    simp only [if_true] at hz
    unfold maxLen at hm
    have hlen : (zs.take n).length = n := by simp; omega
    refine ⟨some a, zs.take n, c, by rw [hlen], ?_, (fun h => by cases h), by omega, fun z hz' => ?_, by omega⟩
    · by_cases h0 : n = 0
      · exact .inl (by subst h0; simp)
      · right
        obtain ⟨b, off, spot⟩ := a
        have hspot : spot = none := by simpa [Addr.add] using World.cell?_spot (hcell 0 (by omega))
        subst hspot
        refine ⟨b, off, rfl, ?_, fun j z hj => ?_⟩
        · have := World.block_lt_of_cell? W _ (hcell 0 (by omega))
          simpa [Addr.add] using this
        · have hj' : j < n := by
            have := (List.getElem?_eq_some_iff.1 hj).1
            omega
          have hadd : (⟨b, off, none⟩ : Addr).add j = ⟨b, off + j, none⟩ := by unfold Addr.add; split <;> simp_all
          rw [← hadd, hcell j (by omega)]
          rw [List.getElem?_take, if_pos hj'] at hj
          simp [List.getD, hj]
    · have := hwz z (List.mem_of_mem_take hz')
      have h1 : IntKind.i64.min = -9223372036854775808 := rfl
      have h2 : IntKind.i64.max = 9223372036854775807 := rfl
      simp only [Lit.wf, Bool.and_eq_true, decide_eq_true_eq] at this
      omega
set_option maxRecDepth 100000 in
theorem open_introw {H : Type} {enc : TypeId × Value → H} {W : World} {r : Reach} {b0 base : Nat} {v : Value} {d : DataW H} {p : List MemPlace}
    (hv : Value.okWide Tryz.prog W r b0 25 v) (h : DataW.Trod enc Tryz.prog W base (fun _ => true) true 25 v d p) :
    ∃ (A : Option Addr) (zs : List Int) (c : Nat), v = .slice A zs.length c ∧ Cl.IntsAt W A zs ∧ (A = none → zs = [] ∧ c = 0) ∧ zs.length ≤ 9223372036854775807 ∧ ∀ z ∈ zs, -9223372036854775808 ≤ z ∧ z ≤ 9223372036854775807 := by
  obtain ⟨A, zs, c, h1, h2, h3, h4, h5, _⟩ := open_introwc hv h
  exact ⟨A, zs, c, h1, h2, h3, h4, h5⟩
end Go.Proofs.YtfclpecbnailgaaGreat

/-
  A row of runes that a statement's function is called with, as its walk reads it; a field of ints of a struct.
-/
set_option linter.unusedVariables false
set_option maxRecDepth 100000
namespace Go.Proofs.YtfclpecbnailgaaGreat
open Go.ChangeShapes Go.WideShapes Go.ChangeAt Go.RowKit Go.Deep
/-- A field of ints of a struct. -/
theorem field_int {H : Type} {enc : TypeId × Value → H} {P : Program} {w : World} {base : Nat} {spare : Nat → Bool} {held : Bool} {fuel : Nat} {t : TypeId} {fs : Array Field} {cs : List Value} {x : DataW H × List MemPlace} (ht : P.underlying t = some (.struct fs))
    (h : DataW.trod enc P w base spare held fuel t cs = some x) (i : Nat) (f : Field) (hf : fs[i]? = some f) (hty : P.underlying f.type = some (.int .i64)) (hc : P.cellsOf f.type = 1) : ∃ n, cs[f.offset]? = some (.int .i64 n) ∧ Ku.okN n := by
  obtain ⟨xs, m, _, _, _, hxl, hel⟩ := DataW.trod_struct ht h
  have hE := hel i f hf
  have hi : i < fs.size := (Array.getElem?_eq_some_iff.1 hf).1
  rw [hc, List.getElem?_eq_getElem (by omega)] at hE
  obtain ⟨n, e1, _, e3⟩ := DataW.trod_int hty hE
  refine ⟨n, ?_, ?_⟩
  · have h0 : ((cs.drop f.offset).take 1)[0]? = some (.int .i64 n) := by rw [e1]; rfl
    simpa using h0
  · have h1 : IntKind.i64.min = -9223372036854775808 := rfl
    have h2 : IntKind.i64.max = 9223372036854775807 := rfl
    simp only [Lit.wf, Bool.and_eq_true, decide_eq_true_eq] at e3
    unfold Ku.okN
    omega
theorem open_runes {H : Type} {enc : TypeId × Value → H} {W : World} {r : Reach} {b0 base : Nat} {v : Value} {d : DataW H} {p : List MemPlace}
    (hv : Value.okWide Tryz.prog W r b0 22 v) (h : DataW.Trod enc Tryz.prog W base (fun _ => true) true 22 v d p) :
    ∃ (A : Option Addr) (l : List Ku.R3) (c : Nat), v = .slice A l.length c ∧ Ku.RuAt W A l ∧ (A = none → l = [] ∧ c = 0) ∧ l.length ≤ c ∧ l.length ≤ 9223372036854775807 ∧ ∀ q ∈ l, Ku.okN q.1 ∧ Ku.okN q.2.1 ∧ Ku.okN q.2.2 := by
  obtain ⟨fuel, hf⟩ := h
  rcases open_slice Tryz.underlying22 hf with ⟨hcs, hx⟩ | ⟨a, len, cap, m, n, D, Pl, hcs, hb, hl, hm, hmm, hx, hel⟩
  · obtain ⟨a, n, c, rfl⟩ := okWide_slice Tryz.underlying22 hv
    simp [Value.cells] at hcs
    obtain ⟨rfl, rfl, rfl⟩ := hcs
    exact ⟨none, [], 0, rfl, .inl rfl, fun _ => ⟨rfl, rfl⟩, by simp, by simp, by simp⟩
  · obtain ⟨a', n', c, rfl⟩ := okWide_slice Tryz.underlying22 hv
    simp [Value.cells] at hcs
    obtain ⟨rfl, rfl, rfl⟩ := hcs
    unfold maxLen at hm
    simp only [if_true] at hmm
    have c3 : Tryz.prog.cellsOf 38 = 3 := by kernel_rfl
    have c1 : Tryz.prog.cellsOf 3 = 1 := by kernel_rfl
    have each : ∀ i, i < n' → ∃ q : Ku.R3, W.cell? (a.add (i * 3)) = some (.int .i64 q.1) ∧ W.cell? (a.add (i * 3 + 1)) = some (.int .i64 q.2.1) ∧ W.cell? (a.add (i * 3 + 2)) = some (.int .i64 q.2.2) ∧ (Ku.okN q.1 ∧ Ku.okN q.2.1 ∧ Ku.okN q.2.2) := by
      intro i hi
      obtain ⟨cs', h1, h2⟩ := hel i (by omega)
      rw [c3] at h1
      obtain ⟨_, hlen, hcell⟩ := World.cells?_some h1
      obtain ⟨x0, e0, k0⟩ := field_int Tryz.underlying38 h2 0 _ rfl Tryz.underlying3 c1
      obtain ⟨x1, e1, k1⟩ := field_int Tryz.underlying38 h2 1 _ rfl Tryz.underlying3 c1
      obtain ⟨x2, e2, k2⟩ := field_int Tryz.underlying38 h2 2 _ rfl Tryz.underlying3 c1
      have g0 := (hcell 0 (by omega)).trans e0
      have g1 := (hcell 1 (by omega)).trans e1
      have g2 := (hcell 2 (by omega)).trans e2
      rw [Deep.add_add] at g0
      rw [Deep.add_add] at g1
      rw [Deep.add_add] at g2
      refine ⟨(x0, x1, x2), by simpa using g0, by simpa using g1, by simpa using g2, k0, k1, k2⟩
    obtain ⟨q, hq⟩ := choose_lt each
    have hlen : ((List.range n').map q).length = n' := by simp
    refine ⟨some a, (List.range n').map q, c, by rw [hlen], ?_, (fun h => by cases h), by omega, by omega, fun y hy => ?_⟩
    · by_cases h0 : n' = 0
      · exact .inl (by subst h0; rfl)
      · right
        obtain ⟨b, off, spot⟩ := a
        have hspot : spot = none := by simpa [Addr.add] using World.cell?_spot (hq 0 (by omega)).1
        subst hspot
        refine ⟨b, off, rfl, ?_, fun k hk => ?_⟩
        · have := World.block_lt_of_cell? W _ (hq 0 (by omega)).1
          simpa [Addr.add] using this
        · have hk' : k < n' := by simpa using hk
          obtain ⟨g0, g1, g2, _⟩ := hq k hk'
          have hg : ((List.range n').map q)[k]'hk = q k := by simp
          rw [hg]
          rw [Ku.add_off] at g0 g1 g2
          exact ⟨g0, g1, g2⟩
    · simp only [List.mem_map, List.mem_range] at hy
      obtain ⟨k, hk, rfl⟩ := hy
      exact (hq k hk).2.2.2
end Go.Proofs.YtfclpecbnailgaaGreat

/-
  Proved here: parquetryref01.Same of two rows of the same runes is true; it leaves what was in memory.
-/
set_option linter.unusedVariables false
namespace Go.Proofs.YtfclpecbnailgaaGreat.Ku
open Go.RowKit Go.Lib Go.Proofs.YtfclpecbnailgaaGreat.Arr
set_option maxHeartbeats 1000000 in
set_option maxRecDepth 1000000 in
theorem rsame_yes (A B : Option Addr) (l : List R3) (n c d : Nat) (w : World) (hl : l.length = n) (ha : RuAt w A l) (hb : RuAt w B l) (hn : n ≤ 1099511627776) :
    Calls Tryz.prog 14 #[.slice A n c, .slice B n d] w fun e w' => e = .returned (.bool true) ∧ Below w.heap.size w w' := by
  have HA := Lib.hid ha
  have HB := Lib.hid hb
  have HL := Lib.hid hl
  clear ha hb hl
  go_enter Tryz.func14, Tryz.ntmps14
  go_wp2_with fail
  go_loopw [5] (fun s5 wx => ∃ k : Nat, k ≤ n ∧ s5 = .int .i64 k ∧ Below w.heap.size w wx) (fun s5 _ => n - (RowKit.intOf s5).toNat)
  case atStart => exact ⟨0, Nat.zero_le _, rfl, Below.refl _ _⟩
  case round =>
    obtain ⟨k, hk, rfl, hbw⟩ := hrel
    by_cases hlt : k < n
    · have hkl : k < l.length := by rw [HL.out]; exact hlt
      obtain ⟨g, off, rfl, hg, c0, c1, c2⟩ := (HA.out.below hbw).at_ hkl
      obtain ⟨g', off', rfl, hg', d0, d1, d2⟩ := (HB.out.below hbw).at_ hkl
      clear HA HB
      generalize l[k] = r at *
      go_wp2_with fail
      go_quiet (fail)
      go_wp2_with fail
      go_roundw
      case rel => exact ⟨k + 1, by omega, by go_num, hbw.trans ((below_drewN (Below.refl _ _) _).mono hbw.size)⟩
      case measure => simp [RowKit.intOf]; omega
    · go_wp2
      go_ret
      exact ⟨rfl, hbw⟩
end Go.Proofs.YtfclpecbnailgaaGreat.Ku

/-
  The built-in clear of a row of ints of the call's own: no other block changes.
-/
set_option linter.unusedVariables false
namespace Go.Proofs.YtfclpecbnailgaaGreat
open Go.RowKit Go.Lib
theorem clr_grown (w : World) (g : Nat) (cs : Array Value) : w.grownBy (w.setRow g cs) (some g) := by
  refine ⟨rfl, rfl, rfl, by simp [World.setRow], fun k _ hne => ?_⟩
  simp only [World.setRow, Array.getElem?_modify]
  rw [if_neg (fun e => hne (by rw [e]))]
theorem clr_one (n : Nat) : ∀ v ∈ (Builtin.zeroCells (Value.int .i64 0).cells n).toList, v.oneCell' = true := by
  intro v hv
  simp [Builtin.zeroCells, Value.cells] at hv
  first
  | (obtain ⟨_, rfl⟩ := hv; rfl)
  | (obtain ⟨a, _, rfl⟩ := hv; rw [Nat.mod_one]; rfl)
theorem clr_len (n : Nat) : (Builtin.zeroCells (Value.int .i64 0).cells n).toList.length = n := by
  simp [Builtin.zeroCells, Value.cells]
theorem clear_ints {w : World} {B : Nat} {v : Value} {n : Nat} {xs : List Value} (h : w.ownsRow B 3 1 v n xs) :
    ∃ w', (∀ ty, (Builtin.clear_ #[25] ty #[v]).run Tryz.prog w = .ok (.tuple #[]) w') ∧ w.grownBy w' v.ownBlock := by
  rcases h.2 with ⟨rfl, hn⟩ | ⟨g, cap, cur, rfl, _, hg, hnc, _, hsz, _⟩
  · exact ⟨w, fun ty => by simp [Builtin.clear_, run_underlying Tryz.underlying25], World.grownBy.refl w _⟩
  · rcases Nat.eq_zero_or_pos n with h0 | h0
    · subst h0
      exact ⟨w, fun ty => by simp [Builtin.clear_, run_underlying Tryz.underlying25], World.grownBy.refl w _⟩
    · obtain ⟨CS, hst⟩ : ∃ CS, (storeCells ⟨g, 0, none⟩ (Builtin.zeroCells (Value.int .i64 0).cells n).toList 0).run Tryz.prog w = .ok () (w.setRow g CS) :=
        ⟨_, run_storeCells_at Tryz.prog g 0 3 _ 0 cur w hg (by rw [clr_len, hsz]; omega) (clr_one n)⟩
      have hzv : ∀ w, (zeroValue 3).run Tryz.prog w = .ok (.int .i64 0) w := fun _ => by kernel_rfl
      refine ⟨w.setRow g CS, fun ty => ?_, clr_grown w g CS⟩
      obtain ⟨m, rfl⟩ : ∃ m, n = m + 1 := ⟨n - 1, by omega⟩
      simp [Builtin.clear_, run_underlying Tryz.underlying25, hzv, hst]
end Go.Proofs.YtfclpecbnailgaaGreat

/-
  Proved here: what parquetryref16.Order returns, for every row of numbers of at most 2^40: the plain order of levels. It leaves what was in memory.
-/
set_option linter.unusedVariables false
namespace Go.Proofs.YtfclpecbnailgaaGreat.Bi
open Go Go.RowKit Go.Lib Go.Proofs.YtfclpecbnailgaaGreat.Cl Go.Proofs.YtfclpecbnailgaaGreat.Bo
set_option maxHeartbeats 4000000 in
set_option maxRecDepth 100000 in
theorem rorder_any (A0 : Option Addr) (T : List Int) (n cp : Nat) (w : World) (hA : IntsAt w A0 T) (hl : T.length = n) (hn : n ≤ 1099511627776) :
    Calls Tryz.prog 18 #[.slice A0 n cp] w fun e w' => ∃ A c, e = .returned (.slice A n c) ∧ w'.ownsRow w.heap.size 3 1 (.slice A n c) n (icl (Sq.ns (orderP T))) ∧ Below w.heap.size w w' := by
  have HA := Lib.hid hA
  have HL := Lib.hid hl
  have HFP := Lib.hid (show orderP T = ordFrom (lvAt T) 126 (List.range n) from by unfold orderP; rw [hl])
  generalize orderP T = OP at *
  clear hA hl
  go_enter Tryz.func18, Tryz.ntmps18
  go_wp2_with fail
  go_loopw [3, 4] (fun s3 s4 wx => ∃ k : Nat, k ≤ n ∧ s4 = .int .i64 k ∧ wx.ownsRow w.heap.size 3 1 s3 k (icl (Sq.ns (List.range k))) ∧ Below w.heap.size w wx) (fun _ s4 _ => n - (RowKit.intOf s4).toNat)
  case atStart => exact ⟨0, Nat.zero_le _, rfl, World.ownsRow_nil _ _ _ _, Below.refl _ _⟩
  case round =>
    obtain ⟨k, hk, rfl, hown, hb⟩ := hrel
    have HO := Lib.hid hown
    have HB := Lib.hid hb
    clear hown
    by_cases hlt : k < n
    · have hsz := HB.out.size
      clear hb
      go_wp2_with (at_builtin; refine wpList_add rfl _ _ rfl w.heap.size _ k (Sq.ns (List.range k)) rfl (ownsRow_below HO.out (below_made _ _)) (some ⟨wr.heap.size, 0, none⟩) 1 1 [(k : Int)] rfl (made_ints [(k : Int)] _ _ _ rfl) rfl (by omega) (by simp; omega) ?_)
      intro v' w2 hown2 hb2
      have hb3 := (HB.out.trans ((below_made wr (.cells #[.int .i64 (k : Int)] 3)).mono hsz)).trans hb2
      have HO2 := Lib.hid (show w2.ownsRow w.heap.size 3 1 v' (k + 1) (icl (Sq.ns (List.range (k + 1)))) from by rw [range_snoc]; exact hown2)
      have HB2 := Lib.hid hb3
      clear hown2 hb2 hb3
      go_wp2_with fail
      go_roundw
      case rel => exact ⟨k + 1, by omega, by go_num, HO2.out, HB2.out⟩
      case measure => simp [RowKit.intOf] <;> omega
    · obtain rfl : k = n := by omega
      obtain ⟨A, c, rfl, -⟩ := intsAt_icl HO.out (by simp [Sq.ns])
      clear hb
      go_wp2_with fail
      go_loopw [5, 6, 7] (fun s5 s6 s7 wx => ∃ (q : Nat) (O : List Nat), q ≤ 126 ∧ s5 = .int .i64 q ∧ O.length = k ∧ (∀ x ∈ O, x < k) ∧ ordFrom (lvAt T) q O = OP ∧ wx.ownsRow w.heap.size 3 1 (.slice A k c) k (icl (Sq.ns O)) ∧ Below w.heap.size w wx) (fun s5 _ _ _ => (RowKit.intOf s5).toNat)
      case atStart => exact ⟨126, List.range k, Nat.le_refl _, rfl, by simp, fun x hx => List.mem_range.1 hx, HFP.out.symm, HO.out, HB.out⟩
      case round =>
        obtain ⟨q, O, hq, rfl, hol, hox, hof, hown, hb⟩ := hrel
        have HW := Lib.hid hown
        have HBW := Lib.hid hb
        have HOL := Lib.hid hol
        have HOX := Lib.hid hox
        have HOF := Lib.hid hof
        clear HO HB HFP hol hox hof hown hb
        cases q with
        | zero =>
          have HE := Lib.hid (show O = OP from HOF.out)
          go_wp2_with fail
          go_ret
          exact ⟨A, c, rfl, by rw [← HE.out]; exact HW.out, HBW.out⟩
        | succ q =>
          obtain ⟨pr, hpr⟩ : ∃ pr : Nat → Bool, pr = fun j => decide ((q : Int) + 1 ≤ lvAt T j) := ⟨_, rfl⟩
          have HPR := Lib.hid hpr
          have HRV := Lib.hid (show ordFrom (lvAt T) q (revGo pr [] O) = OP from by rw [hpr]; exact HOF.out)
          have HMEM := Lib.hid (fun y => revGo_mem pr O [] y)
          have HLEN := Lib.hid (revGo_len pr O [])
          clear hpr HOF
          rw [show (((q + 1 : Nat) : Int)) = (q : Int) + 1 from rfl]
          have k1 : decide ((1 : Int) ≤ (q : Int) + 1) = true := decide_eq_true (by omega)
          have k1b : (0 : Int) ≤ (q : Int) := by omega
          go_wp2_with fail
          go_loopw [6, 7] (fun s6 s7 wx => ∃ (i fr : Nat) (D S R : List Nat), s7 = .int .i64 i ∧ s6 = .int .i64 fr ∧ (∀ x ∈ D ++ (S ++ R), x < k) ∧ ((D.length = fr ∧ fr + S.length = i ∧ i + R.length = k ∧ D ++ revGo pr S.reverse R = revGo pr [] O) ∨ (i = k + 1 ∧ S = [] ∧ R = [] ∧ D = revGo pr [] O)) ∧ wx.ownsRow w.heap.size 3 1 (.slice A k c) k (icl (Sq.ns (D ++ (S ++ R)))) ∧ Below w.heap.size w wx) (fun _ s7 _ => k + 1 - (RowKit.intOf s7).toNat)
          case atStart => exact ⟨0, 0, [], [], O, rfl, rfl, by simpa using HOX.out, .inl ⟨rfl, rfl, by simpa using HOL.out, rfl⟩, by simpa using HW.out, HBW.out⟩
          case round =>
            obtain ⟨i, fr, D, S, R, rfl, rfl, hmem, hcase, hown, hb⟩ := hrel
            have HO1 := Lib.hid hown
            have HB1 := Lib.hid hb
            have HM1 := Lib.hid hmem
            clear HW HBW hown hb hmem k1
            rcases hcase with ⟨hD, hS, hR, heq⟩ | ⟨rfl, rfl, rfl, heq⟩
            · have HD := Lib.hid hD
              clear hD
              have HS := Lib.hid hS
              have HRl := Lib.hid hR
              have HEQ := Lib.hid heq
              clear heq
              by_cases hik : i < k
              · obtain ⟨x, R2, rfl⟩ : ∃ x R2, R = x :: R2 := by
                  cases R with
                  | nil => simp at hR; omega
                  | cons x R2 => exact ⟨x, R2, rfl⟩
                have hxk : x < k := HM1.out x (by simp)
                have hat : (D ++ (S ++ x :: R2))[i]? = some x := by
                  have e : D ++ (S ++ x :: R2) = (D ++ S) ++ x :: R2 := by simp
                  rw [e, List.getElem?_append_right (by simp; have := HD.out; omega), show i - (D ++ S).length = 0 from by simp; have := HD.out; omega]
                  rfl
                obtain ⟨g, rfl⟩ : ∃ g, A = some ⟨g, 0, none⟩ := by
                  rcases HO1.out.2 with ⟨e, h0⟩ | ⟨g, cap, cur, e, _⟩
                  · omega
                  · injection e with e1 _ _
                    exact ⟨g, e1⟩
                obtain ⟨hc1, -⟩ := own_nat HO1.out hat
                have hxT : x < T.length := by rw [HL.out]; exact hxk
                obtain ⟨g0, o0, rfl, hc0⟩ := (HA.out.below HB1.out).at_ hxT
                have hlv : Bo.cutL T[x] = lvAt T x := by unfold lvAt; simp [List.getD, List.getElem?_eq_getElem hxT]
                have HCUT := Lib.hid (fun (V : World) => show Calls Tryz.prog 42 #[.int .i64 T[x]] V fun e w' => e = .returned (.int .i64 (lvAt T x)) ∧ w' = V from by rw [← hlv]; exact rcut_any T[x] V)
                have hi0 : (0 : Int) ≤ (i : Int) := by omega
                have hi1 : (i : Int) < (k : Int) := by omega
                have hi2 : decide ((i : Int) ≤ (k : Int)) = true := decide_eq_true (by omega)
                have hx0 : (0 : Int) ≤ (x : Int) := by omega
                have hx1 : (x : Int) < (k : Int) := by omega
                have HPX := Lib.hid (show pr x = decide ((q : Int) + 1 ≤ lvAt T x) from by rw [HPR.out])
                generalize T[x] = tx at *
                generalize lvAt T x = lx at *
                clear hat hxT hlv hS hR
                cases hp : decide ((q : Int) + 1 ≤ lx) with
                | true =>
                  have HE := Lib.hid (show D ++ revGo pr (S ++ [x]).reverse R2 = revGo pr [] O from by
                    rw [← HEQ.out]
                    congr 1
                    conv => rhs; unfold revGo
                    rw [if_pos (by rw [HPX.out]; exact hp), List.reverse_append]
                    rfl)
                  go_wp2_with fail
                  refine (HCUT.out _).mono ?_
                  rintro e w3 ⟨rfl, rfl⟩
                  clear HCUT
                  go_wp2_with fail
                  go_roundw
                  case rel =>
                    refine ⟨i + 1, fr, D, S ++ [x], R2, by go_num, rfl, by simpa using HM1.out, .inl ⟨HD.out, by have := HS.out; simp; omega, by have := HRl.out; simp at this; omega, HE.out⟩, by simpa using HO1.out, HB1.out⟩
                  case measure => simp [RowKit.intOf] <;> omega
                | false =>
                  have HE := Lib.hid (show (D ++ S.reverse ++ [x]) ++ revGo pr [] R2 = revGo pr [] O from by
                    rw [← HEQ.out]
                    conv => rhs; unfold revGo
                    rw [if_neg (by rw [HPX.out, hp]; decide)]
                    simp)
                  go_wp2_with fail
                  refine (HCUT.out _).mono ?_
                  rintro e w3 ⟨rfl, rfl⟩
                  clear HCUT
                  go_wp2_with fail
                  go_loopw [8, 9] (fun s8 s9 wx => ∃ (t a mm : Nat) (Y M X : List Nat), s8 = .int .i64 a ∧ s9 = .int .i64 ((mm : Int) - 1) ∧ a = fr + t ∧ mm = fr + t + M.length ∧ Y.length = t ∧ X.length = t ∧ Y ++ M.reverse ++ X = S.reverse ∧ wx.ownsRow w.heap.size 3 1 (.slice (some ⟨g, 0, none⟩) k c) k (icl (Sq.ns (D ++ (Y ++ M ++ X) ++ (x :: R2)))) ∧ Below w.heap.size w wx) (fun s8 s9 _ => ((RowKit.intOf s9).toNat + 1) - (RowKit.intOf s8).toNat)
                  case atStart => exact ⟨0, fr, i, [], S, [], rfl, rfl, rfl, by have := HS.out; omega, rfl, rfl, by simp, by simpa using HO1.out, HB1.out⟩
                  case round =>
                    obtain ⟨t, a, mm, Y, M, X, rfl, rfl, ha, hmm, hY, hX, hrev, hown2, hb2⟩ := hrel
                    have HO2 := Lib.hid hown2
                    have HB2 := Lib.hid hb2
                    have HY := Lib.hid hY
                    have HX := Lib.hid hX
                    have HREV := Lib.hid hrev
                    have HSL := Lib.hid (show t + M.length + t = S.length from by have := congrArg List.length hrev; simp at this; omega)
                    clear hown2 hb2 hrev
                    by_cases hM : 2 ≤ M.length
                    · obtain ⟨x', M', y', rfl⟩ := two_ends M hM
                      obtain ⟨b2, hb2⟩ : ∃ b2, fr + t + M'.length + 1 = b2 := ⟨_, rfl⟩
                      have hmb : ((mm : Int) - 1) = (b2 : Int) := by simp at hmm; omega
                      rw [hmb]
                      have hab : a < b2 := by omega
                      have hbk : b2 < k := by have := HSL.out; have := HS.out; have := HRl.out; simp at *; omega
                      have hgA : ∃ g1, (some ⟨g, 0, none⟩ : Option Addr) = some ⟨g1, 0, none⟩ := by
                        rcases HO2.out.2 with ⟨e, h0⟩ | ⟨g1, cap, cur, e, _⟩
                        · omega
                        · injection e with e1 _ _
                          exact ⟨g1, e1⟩
                      obtain ⟨g1, hg1⟩ := hgA
                      have hO2 := HO2.out
                      rw [hg1] at hO2
                      obtain ⟨s1, s2⟩ := swap_at D (x :: R2) Y M' X x' y' t hY
                      have hset := swap_set D (x :: R2) Y M' X x' y' t hY
                      rw [HD.out, ← ha] at s1
                      rw [HD.out, hb2] at s2
                      rw [HD.out, hb2, ← ha] at hset
                      obtain ⟨p1, q1⟩ := own_nat hO2 s1
                      obtain ⟨p2, q2⟩ := own_nat hO2 s2
                      have hO3 := own_put hO2 a y'
                      have s3 : ((D ++ (Y ++ (x' :: M' ++ [y']) ++ X) ++ (x :: R2)).set a y')[b2]? = some y' := by rw [List.getElem?_set_ne (by omega)]; exact s2
                      obtain ⟨p3, q3⟩ := own_nat hO3 s3
                      have hO4 := own_put hO3 b2 x'
                      rw [hset] at hO4
                      have hgw := (hO2.lt g1 rfl).1
                      have HB4 := Lib.hid ((HB2.out.setCell (p := ⟨g1, a, none⟩) hgw (.int .i64 (y' : Int))).setCell (p := ⟨g1, b2, none⟩) hgw (.int .i64 (x' : Int)))
                      have HO4 := Lib.hid hO4
                      have HG1 := Lib.hid hg1
                      have j1 : decide ((a : Int) < (b2 : Int)) = true := decide_eq_true (by omega)
                      have j2 : decide (a < b2) = true := decide_eq_true hab
                      have ja0 : (0 : Int) ≤ (a : Int) := by omega
                      have ja1 : (a : Int) < (k : Int) := by omega
                      have jb0 : (0 : Int) ≤ (b2 : Int) := by omega
                      have jb1 : (b2 : Int) < (k : Int) := by omega
                      have t1 : decide ((a : Int) < 0) = false := decide_eq_false (by omega)
                      have t2 : decide ((b2 : Int) < 0) = false := decide_eq_false (by omega)
                      have t3 : decide ((k : Int) ≤ (a : Int)) = false := decide_eq_false (by omega)
                      have t4 : decide ((k : Int) ≤ (b2 : Int)) = false := decide_eq_false (by omega)
                      have t5 : decide (k ≤ a) = false := decide_eq_false (by omega)
                      have t6 : decide (k ≤ b2) = false := decide_eq_false (by omega)
                      have HX1 := Lib.hid (show a + 1 = fr + (t + 1) ∧ (b2 : Int) - 1 = ((b2 : Nat) : Int) - 1 ∧ b2 = fr + (t + 1) + M'.length from ⟨by omega, rfl, by omega⟩)
                      clear hO2 hO3 hO4 hset s1 s2 s3 hgw hmb hM hmm ha hb2 hY hX
                      obtain rfl : g = g1 := by have := HG1.out; injection this with e; injection e
                      go_wp2_with fail
                      go_region
                      all_goals go_wp2_with fail
                      all_goals go_roundw
                      case rel => exact ⟨t + 1, a + 1, b2, Y ++ [y'], M', x' :: X, by go_num, by first | rfl | go_num, HX1.out.1, HX1.out.2.2, by simp [HY.out], by simp [HX.out], by rw [← HREV.out]; simp, HO4.out, HB4.out.drew⟩
                      case measure => simp [RowKit.intOf] <;> omega
                    · have HRS := Lib.hid (rev_short M (by omega))
                      have j1 : decide ((a : Int) < (mm : Int) - 1) = false := decide_eq_false (by omega)
                      have HO5 := Lib.hid (show wr.ownsRow w.heap.size 3 1 (.slice (some ⟨g, 0, none⟩) k c) k (icl (Sq.ns (D ++ S.reverse ++ (x :: R2)))) from by
                        have e : Y ++ M ++ X = S.reverse := by rw [← HREV.out, HRS.out]
                        rw [← e]
                        exact HO2.out)
                      clear ha hmm hY hX hM
                      go_wp2_with fail
                      go_roundw
                      case rel => exact ⟨i + 1, i + 1, D ++ S.reverse ++ [x], [], R2, by go_num, by go_num, by simpa using HM1.out, .inl ⟨by have := HS.out; have := HD.out; simp <;> omega, by simp, by have := HRl.out; simp at this; omega, HE.out⟩, by simpa using HO5.out, HB2.out⟩
                      case measure => simp [RowKit.intOf] <;> omega
              · obtain rfl : k = i := by omega
                obtain rfl : R = [] := by cases R with
                  | nil => rfl
                  | cons x R2 => simp at hR
                have HE := Lib.hid (show D ++ S.reverse = revGo pr [] O from by rw [← HEQ.out]; rfl)
                clear hS hR hik
                go_wp2_with fail
                go_loopw [8, 9] (fun s8 s9 wx => ∃ (t a mm : Nat) (Y M X : List Nat), s8 = .int .i64 a ∧ s9 = .int .i64 ((mm : Int) - 1) ∧ a = fr + t ∧ mm = fr + t + M.length ∧ Y.length = t ∧ X.length = t ∧ Y ++ M.reverse ++ X = S.reverse ∧ wx.ownsRow w.heap.size 3 1 (.slice A k c) k (icl (Sq.ns (D ++ (Y ++ M ++ X) ++ []))) ∧ Below w.heap.size w wx) (fun s8 s9 _ => ((RowKit.intOf s9).toNat + 1) - (RowKit.intOf s8).toNat)
                case atStart => exact ⟨0, fr, k, [], S, [], rfl, rfl, rfl, by have := HS.out; omega, rfl, rfl, by simp, by simpa using HO1.out, HB1.out⟩
                case round =>
                  obtain ⟨t, a, mm, Y, M, X, rfl, rfl, ha, hmm, hY, hX, hrev, hown2, hb2⟩ := hrel
                  have HO2 := Lib.hid hown2
                  have HB2 := Lib.hid hb2
                  have HY := Lib.hid hY
                  have HX := Lib.hid hX
                  have HREV := Lib.hid hrev
                  have HSL := Lib.hid (show t + M.length + t = S.length from by have := congrArg List.length hrev; simp at this; omega)
                  clear hown2 hb2 hrev
                  by_cases hM : 2 ≤ M.length
                  · obtain ⟨x', M', y', rfl⟩ := two_ends M hM
                    obtain ⟨b2, hb2⟩ : ∃ b2, fr + t + M'.length + 1 = b2 := ⟨_, rfl⟩
                    have hmb : ((mm : Int) - 1) = (b2 : Int) := by simp at hmm; omega
                    rw [hmb]
                    have hab : a < b2 := by omega
                    have hbk : b2 < k := by have := HSL.out; have := HS.out; have := HRl.out; simp at *; omega
                    have hgA : ∃ g1, A = some ⟨g1, 0, none⟩ := by
                      rcases HO2.out.2 with ⟨e, h0⟩ | ⟨g1, cap, cur, e, _⟩
                      · omega
                      · injection e with e1 _ _
                        exact ⟨g1, e1⟩
                    obtain ⟨g1, hg1⟩ := hgA
                    have hO2 := HO2.out
                    rw [hg1] at hO2
                    obtain ⟨s1, s2⟩ := swap_at D [] Y M' X x' y' t hY
                    have hset := swap_set D [] Y M' X x' y' t hY
                    rw [HD.out, ← ha] at s1
                    rw [HD.out, hb2] at s2
                    rw [HD.out, hb2, ← ha] at hset
                    obtain ⟨p1, q1⟩ := own_nat hO2 s1
                    obtain ⟨p2, q2⟩ := own_nat hO2 s2
                    have hO3 := own_put hO2 a y'
                    have s3 : ((D ++ (Y ++ (x' :: M' ++ [y']) ++ X) ++ []).set a y')[b2]? = some y' := by rw [List.getElem?_set_ne (by omega)]; exact s2
                    obtain ⟨p3, q3⟩ := own_nat hO3 s3
                    have hO4 := own_put hO3 b2 x'
                    rw [hset] at hO4
                    have hgw := (hO2.lt g1 rfl).1
                    have HB4 := Lib.hid ((HB2.out.setCell (p := ⟨g1, a, none⟩) hgw (.int .i64 (y' : Int))).setCell (p := ⟨g1, b2, none⟩) hgw (.int .i64 (x' : Int)))
                    have HO4 := Lib.hid hO4
                    have HG1 := Lib.hid hg1
                    have j1 : decide ((a : Int) < (b2 : Int)) = true := decide_eq_true (by omega)
                    have j2 : decide (a < b2) = true := decide_eq_true hab
                    have ja0 : (0 : Int) ≤ (a : Int) := by omega
                    have ja1 : (a : Int) < (k : Int) := by omega
                    have jb0 : (0 : Int) ≤ (b2 : Int) := by omega
                    have jb1 : (b2 : Int) < (k : Int) := by omega
                    have t1 : decide ((a : Int) < 0) = false := decide_eq_false (by omega)
                    have t2 : decide ((b2 : Int) < 0) = false := decide_eq_false (by omega)
                    have t3 : decide ((k : Int) ≤ (a : Int)) = false := decide_eq_false (by omega)
                    have t4 : decide ((k : Int) ≤ (b2 : Int)) = false := decide_eq_false (by omega)
                    have t5 : decide (k ≤ a) = false := decide_eq_false (by omega)
                    have t6 : decide (k ≤ b2) = false := decide_eq_false (by omega)
                    have HX1 := Lib.hid (show a + 1 = fr + (t + 1) ∧ (b2 : Int) - 1 = ((b2 : Nat) : Int) - 1 ∧ b2 = fr + (t + 1) + M'.length from ⟨by omega, rfl, by omega⟩)
                    clear hO2 hO3 hO4 hset s1 s2 s3 hgw hmb hM hmm ha hb2 hY hX
                    subst hg1
                    go_wp2_with fail
                    go_region
                    all_goals go_wp2_with fail
                    all_goals go_roundw
                    case rel => exact ⟨t + 1, a + 1, b2, Y ++ [y'], M', x' :: X, by go_num, by first | rfl | go_num, HX1.out.1, HX1.out.2.2, by simp [HY.out], by simp [HX.out], by rw [← HREV.out]; simp, HO4.out, HB4.out.drew⟩
                    case measure => simp [RowKit.intOf] <;> omega
                  · have HRS := Lib.hid (rev_short M (by omega))
                    have j1 : decide ((a : Int) < (mm : Int) - 1) = false := decide_eq_false (by omega)
                    have HO5 := Lib.hid (show wr.ownsRow w.heap.size 3 1 (.slice A k c) k (icl (Sq.ns (D ++ S.reverse ++ []))) from by
                      have e : Y ++ M ++ X = S.reverse := by rw [← HREV.out, HRS.out]
                      rw [← e]
                      exact HO2.out)
                    clear ha hmm hY hX hM
                    go_wp2_with fail
                    go_roundw
                    case rel => exact ⟨k + 1, k + 1, D ++ S.reverse, [], [], by go_num, by go_num, by simpa using HM1.out, .inr ⟨rfl, rfl, rfl, HE.out⟩, by simpa using HO5.out, HB2.out⟩
                    case measure => simp [RowKit.intOf] <;> omega
            · have HE := Lib.hid (show D = revGo pr [] O from heq)
              have hi2 : decide ((k : Int) + 1 ≤ (k : Int)) = false := decide_eq_false (by omega)
              clear heq
              go_wp2_with fail
              go_roundw
              case rel =>
                refine ⟨q, revGo pr [] O, by omega, by go_num, ?_, ?_, HRV.out, ?_, HB1.out⟩
                · rw [HLEN.out]; simpa using HOL.out
                · intro y hy
                  rw [HMEM.out] at hy
                  rcases hy with hy | hy
                  · cases hy
                  · exact HOX.out y hy
                · rw [← HE.out]; simpa using HO1.out
              case measure => simp [RowKit.intOf] <;> omega
end Go.Proofs.YtfclpecbnailgaaGreat.Bi
