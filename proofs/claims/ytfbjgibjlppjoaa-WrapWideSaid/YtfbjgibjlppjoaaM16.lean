/-
  Several texts in one, each with its own remark: WoLines, WrOks, LawKit, RuOpen, CuOpen, LawInts, WrLaw3, WrAll.
-/
import Derived.Maps.OwnIn
import Derived.Carry
import Derived.ProofKit
import Derived.OpenShut
import Derived.Below
import Derived.Deep.Slices
import Derived.ChangeSlices
import Derived.Laws.IdiomAt
import Derived.Laws.IdiomElems
import Derived.Test.YtfbjgibjlppjoaaM15
import Derived.Test.YtfbjgibjlppjoaaM14
import Derived.Test.YtfbjgibjlppjoaaRows
import Derived.Test.YtfbjgibjlppjoaaM0
import Derived.Test.YtfbjgibjlppjoaaM12
import Derived.Test.YtfbjgibjlppjoaaM13

/-
  Proved here: what wrap.Lines returns, for every row of clusters of at most 2^40 and every two numbers: the plain lines, in new memory. It leaves what was in memory.
-/
set_option linter.unusedVariables false
namespace Go.Proofs.Ytfbjgibjlppjoaa.Wr
open Go Go.RowKit Go.Lib Go.Proofs.Ytfbjgibjlppjoaa.Ku Go.Proofs.Ytfbjgibjlppjoaa.Arr Go.Shelf

/-- What a round leaves: the variable holds the lines that have come. -/
def RowI (Bx : Nat) (w : World) (pre : List L5) (W : World) : Prop := (∃ v, Boxed W Bx 31 v ∧ W.ownsRow w.heap.size 36 5 v pre.length (cellsL pre) ∧ True) ∧ Below w.heap.size w W
theorem rowI_own (Bx B : Nat) (w : World) (hB : w.heap.size ≤ B) : OwnFrom B (RowI Bx w) := fun s X Y row h hg hr =>
  ⟨((holdsRow_own w.heap.size Bx 31 36 5 List.length cellsL (fun _ _ => True)).from B) s X Y row h.1 hg hr, h.2.grown hg h.2.size (fun k e => Nat.le_trans hB (hr k e).1)⟩

attribute [local go_sem] Oper.semAt_some
set_option maxHeartbeats 4000000 in
set_option maxRecDepth 100000 in
theorem lines_any (A : Option Addr) (l : List C6) (m c : Nat) (s how : Int) (w : World) (hR : CuAt w A l) (hl : l.length = m) (hn : m ≤ 1099511627776) (hc : m ≤ c) (hs : s ≤ 9223372036854775807) :
    Calls Try.prog 17 #[.slice A m c, .int .i64 s, .int .i64 how] w fun e w' => ∃ A' c', e = .returned (.slice A' (linesP l s how).length c') ∧ w'.ownsRow w.heap.size 36 5 (.slice A' (linesP l s how).length c') (linesP l s how).length (cellsL (linesP l s how)) ∧ Below w.heap.size w w' := by
  obtain ⟨i0, hi, hz0, hz1, hz2⟩ := Cl.info_parts infoL
  have HS := Lib.hid (fun (V : World) (h : Below w.heap.size w V) => shown_any A l m c V (hR.below h) hl hn)
  have HSN := Lib.hid (shownN_le l)
  have hnm : shownN l ≤ m := by rw [← hl]; exact HSN.out
  by_cases h1 : how = 0 ∨ shownN l = 0
  · rw [linesP_one h1, hl]
    have hRS := fun W => rest_any A m c (shownN l) 0 W
    unfold lnV at hRS
    have HRS := Lib.hid hRS
    clear hRS
    generalize shownN l = n at *
    have hfin : ∀ (W : World), Below w.heap.size w W → ∃ A' c', (Ending.returned (.slice (some ⟨W.heap.size, 0, none⟩) 1 1)) = .returned (.slice A' ([(⟨0, m, n, 1, 0⟩ : L5)]).length c') ∧ (W.alloc (.cells #[.int .i64 0, .int .i64 m, .int .i64 n, .int .i64 1, .int .i64 0] 36)).ownsRow w.heap.size 36 5 (.slice A' ([(⟨0, m, n, 1, 0⟩ : L5)]).length c') ([(⟨0, m, n, 1, 0⟩ : L5)]).length (cellsL [(⟨0, m, n, 1, 0⟩ : L5)]) ∧ Below w.heap.size w (W.alloc (.cells #[.int .i64 0, .int .i64 m, .int .i64 n, .int .i64 1, .int .i64 0] 36)) := fun W hW =>
      ⟨_, _, rfl, (made_line W ⟨0, m, n, 1, 0⟩ _).mono hW.size, hW.trans ((Cl.below_made W _).mono hW.size)⟩
    have HFIN := Lib.hid hfin
    clear hfin
    by_cases hh : how = 0
    · subst hh
      clear h1
      go_enter Try.func17, Try.ntmps17
      go_wp2_with fail
      refine (HS.out _ (Below.refl _ _)).mono ?_
      rintro e w1 ⟨rfl, hb1⟩
      have HB1 := Lib.hid (hb1.alloc hb1.size (.cells #[.slice A m c, .int .i64 n] 41))
      clear hb1
      go_wp2_with fail
      refine (HRS.out _).mono ?_
      rintro e w3 ⟨rfl, hb3⟩
      have HB3 := Lib.hid (HB1.out.trans (hb3.mono HB1.out.size))
      clear hb3
      go_wp2_with fail
      go_ret
      exact HFIN.out _ HB3.out
    · obtain rfl : n = 0 := by omega
      have k1 : (how == 0) = false := by simpa using hh
      clear h1
      go_enter Try.func17, Try.ntmps17
      go_wp2_with fail
      refine (HS.out _ (Below.refl _ _)).mono ?_
      rintro e w1 ⟨rfl, hb1⟩
      have HB1 := Lib.hid (hb1.alloc hb1.size (.cells #[.slice A m c, .int .i64 (0 : Nat)] 41))
      clear hb1
      go_wp2_with fail
      refine (HRS.out _).mono ?_
      rintro e w3 ⟨rfl, hb3⟩
      have HB3 := Lib.hid (HB1.out.trans (hb3.mono HB1.out.size))
      clear hb3
      go_wp2_with fail
      go_ret
      exact HFIN.out _ HB3.out
  · obtain ⟨R, hRL, hPR⟩ := linesP_lns (l := l) (w := s) (how := how) h1
    rw [hPR, hl]
    have h0 : ¬ how = 0 := fun e => h1 (.inl e)
    have h2 : 0 < shownN l := by omega
    obtain ⟨z, hz⟩ : ∃ z, max s 1 = z := ⟨_, rfl⟩
    rw [hz] at hRL
    have hz1' : z ≤ 9223372036854775807 := by omega
    have HFN := Lib.hid (fun (V : World) => linesFn_any A m c (shownN l) z V)
    have HRL := Lib.hid hRL
    have HR := Lib.hid hR
    have HLL := Lib.hid hl
    have k1 : (how == 0) = false := by simpa using h0
    have k2 : ((shownN l : Int) == 0) = false := beq_eq_false_iff_ne.2 (by omega)
    have HLP := Lib.hid (show l ≠ [] from fun e => by rw [e, shownN_nil] at h2; omega)
    clear hRL hPR h1 hR
    generalize shownN l = n at *
    refine (callsIn_wide (n := 6)).1 ?_
    refine callsIn_of_wp_marks Try.func17 rfl trivial (wpIn_wide.2 ?_) rfl
    simp only [Try.ntmps17, List.size_toArray, List.length_cons, List.length_nil, Nat.reduceAdd, Nat.reduceSub, Array.replicate_succ, Array.replicate_zero, List.push_toArray, List.append_toArray, List.nil_append, List.cons_append]
    go_wp2_with fail
    refine (HS.out _ (Below.refl _ _)).mono ?_
    rintro e w1 ⟨rfl, hb1⟩
    obtain ⟨e0, e1, hb2, hs2⟩ := two_newW w1 (.cells #[.slice A m c, .int .i64 n] 41) (.cells #[.slice none 0 0] 31)
    obtain ⟨U, hU⟩ : ∃ U, (w1.alloc (.cells #[.slice A m c, .int .i64 n] 41)).alloc (.cells #[.slice none 0 0] 31) = U := ⟨_, rfl⟩
    rw [hU] at e0 e1 hb2 hs2
    have q0 := cell_of_row U w1.heap.size 0 _ _ _ e0
    have q1 := cell_of_row U w1.heap.size 1 _ _ _ e0
    have HBU := Lib.hid (hb1.trans (hb2.mono hb1.size))
    have HE1 := Lib.hid e1
    have hw1 := hb1.size
    have HWS := Lib.hid (And.intro hs2 hw1)
    clear hb1 e0 e1 hb2 hs2 hw1
    go_wp2_with fail
    refine (HFN.out _).mono ?_
    rintro e w3 ⟨rfl, p0, p1, hb3, hs3⟩
    obtain ⟨hs2, hw1⟩ := HWS.out
    clear hU q0 q1
    obtain ⟨Bx, hBx⟩ : ∃ Bx, w1.heap.size + 1 = Bx := ⟨_, rfl⟩
    obtain ⟨gp, hgp⟩ : ∃ gp, U.heap.size = gp := ⟨_, rfl⟩
    have hbx : Boxed w3 Bx 31 (.slice none 0 0) := by
      rw [← hBx]
      exact (hb3.block _ (by omega)).trans HE1.out
    have hna : ∀ k, ¬ Aims Bx w3 k := fun k ⟨ad, n1, c1, h, _⟩ => by
      rw [hbx.cell] at h
      cases h
    rw [hBx, hgp]
    rw [hgp] at p0 p1 hs3
    have hA : ∀ ad, A = some ad → ad.block < w.heap.size := fun ad e => by
      rcases HR.out with h | ⟨b, off, e2, hlt, -⟩
      · exact absurd h HLP.out
      · rw [e2] at e
        injection e with e
        rw [← e]
        exact hlt
    have hbw3 := HBU.out.trans (hb3.mono HBU.out.size)
    go_wp2_with fail
    have hi9 : w.heap.size ≤ w3.heap.size := by omega
    refine wpIn_wide.1 (wpIn_rangeFunc_ownH (F := Fence.wide) (n := 6) rfl (by omega) (gf := 33) (lb := #[.pointer (some ⟨gp, 0, none⟩), .pointer (some ⟨gp + 1, 0, none⟩)]) rfl trivial (enters_of Try.func33 (by kernel_rfl) rfl)
      (lines_stops _ (by omega) gp Bx A l m c n z w3 (HR.out.below hbw3) HLL.out hc hn hz1' h2 hnm p0 p1 (by omega) (by omega) (by omega) (fun ad e => by have := hA ad e; omega) hna R HRL.out) (fun h1 h2 => h1.trans h2) (fun W l0 o o' hB hl0 ho _ => KpR.putObj o' hl0 ho (by omega)) (Below.refl _ _) (fun _ => rfl)
      (RowI Bx w) (fun _ _ _ => False) (rowI_own Bx _ w hi9) (fun _ _ _ _ _ h => h.elim) ⟨⟨_, hbx, World.ownsRow_nil _ _ _ _, trivial⟩, hbw3⟩
      (fun x a' W => ∃ b9, W.heap[b9]? = some (.cells #[.int .i64 x.f, .int .i64 x.t, .int .i64 x.s, .int .i64 x.h, .int .i64 x.d] 36 (0, 0)) ∧ a' = { tmps := #[.slice A m c, .int .i64 s, .int .i64 how, undef, undef, undef, .slice none 0 0, .pointer (some ⟨w1.heap.size, 0, none⟩), .pointer (some ⟨Bx, 0, none⟩), .pointer (some ⟨b9, 0, none⟩), .slice A m c, .slice A m c, .int .i64 n, .agg #[.slice A m c, .int .i64 n], .int .i64 how, .bool false, .bool false, .pointer (some ⟨w1.heap.size, 1, none⟩), .int .i64 n, .bool false, .bool false, undef, undef, undef, .agg #[.slice A m c, .int .i64 n], .int .i64 s, .int .i64 z, .func (.func 33) #[] #[.pointer (some ⟨gp, 0, none⟩), .pointer (some ⟨gp + 1, 0, none⟩)], lnV x, undef, undef, undef, undef, undef], defers := [] })
      (fun x a' s0 X Y row h hg hr => by
        obtain ⟨b9, h9, e⟩ := h
        refine ⟨b9, (hg.block b9 (Array.getElem?_eq_some_iff.1 h9).1 (fun e' => ?_)).trans h9, e⟩
        obtain ⟨_, o, ho, hc'⟩ := hr b9 e'.symm
        rw [h9] at ho
        cases ho
        cases hc') ?assign ?body ?done ?stop)
    case stop => exact fun _ _ _ _ _ _ h => h.elim
    case assign =>
      rintro l0 pre ⟨xf, xt, xs, xh, xd⟩ W K hi0 hK
      have hlt := hi0.1
      obtain ⟨v, hv, ho, -⟩ := hlt
      have HK1 := Lib.hid (hK { tmps := #[.slice A m c, .int .i64 s, .int .i64 how, undef, undef, undef, .slice none 0 0, .pointer (some ⟨w1.heap.size, 0, none⟩), .pointer (some ⟨Bx, 0, none⟩), .pointer (some ⟨W.heap.size, 0, none⟩), .slice A m c, .slice A m c, .int .i64 n, .agg #[.slice A m c, .int .i64 n], .int .i64 how, .bool false, .bool false, .pointer (some ⟨w1.heap.size, 1, none⟩), .int .i64 n, .bool false, .bool false, undef, undef, undef, .agg #[.slice A m c, .int .i64 n], .int .i64 s, .int .i64 z, .func (.func 33) #[] #[.pointer (some ⟨gp, 0, none⟩), .pointer (some ⟨gp + 1, 0, none⟩)], lnV ⟨xf, xt, xs, xh, xd⟩, undef, undef, undef, undef, undef], defers := [] } (W.alloc (.cells #[.int .i64 xf, .int .i64 xt, .int .i64 xs, .int .i64 xh, .int .i64 xd] 36)) ((KeepsOthers.alloc _ _).from _) (KpR.below ((Below.refl _ _).alloc (Nat.le_refl _) _) hv.lt) ((rowI_own Bx W.heap.size w hi0.2.size).alloc _ hi0) ⟨W.heap.size, World.alloc_heap_new W _, rfl⟩)
      clear hK hi0 ho hv
      unfold lnV at *
      gi_wp2_with fail
      exact HK1.out
    case done =>
      rintro D xs W hD hS ⟨⟨v, hv, ho, -⟩, hb⟩ hK
      subst hS
      obtain ⟨r, hr⟩ : ∃ r, (R.map (lineOf m n)).length = r + 1 := ⟨(R.map (lineOf m n)).length - 1, by
        have : 0 < R.length := by
          have := HRL.out
          cases this <;> simp
        rw [List.length_map]; omega⟩
      have HRR := Lib.hid hr
      rw [hr] at ho
      clear hr
      obtain ⟨g, cap, rfl⟩ := ownsRow_succ ho
      have hc8 := hv.cell
      go_wp2_with fail
      refine ⟨by simp, .inl ⟨_, _, rfl, run_takeDeferred hK, ?_⟩⟩
      refine ⟨_, results_tmp rfl _ _ _, ?_⟩
      rw [HRR.out]
      exact ⟨_, _, rfl, ownsRow_putObj ho _ hK rfl, hb.trans (belowK_b (w := w) (Nat.le_refl _) W D _ _ (by omega) hK rfl rfl)⟩
    case body =>
      rintro l0 pre ⟨xf, xt, xs, xh, xd⟩ a' W hl0 - ⟨⟨v, hv, ho, -⟩, hb⟩ ⟨b9, h9, rfl⟩ hlt
      simp only at h9
      have hc8 := hv.cell
      obtain ⟨⟨z0, z1, z2, z3, z4⟩, -⟩ := cell5 h9
      have hBW := hv.lt
      have HBW := Lib.hid hBW
      have HV := Lib.hid hv
      have HO := Lib.hid ho
      have HB := Lib.hid hb
      have hsz := hb.size
      have hsl : ∀ ad n1 c1, v = .slice (some ad) n1 c1 → v.ownBlock = some ad.block := fun ad n1 c1 e => by subst e; rfl
      have HSL := Lib.hid hsl
      clear h9 hv ho hb hsl
      gi_wp2_with (gi_at_builtin; refine wpListIn_append_own_at _ rfl _ _ 31 rfl w.heap.size 36 i0 _ 5 40 Try.underlying31 hi hz0 hz1 hz2 rfl (by decide) v pre.length (cellsL pre) rfl (HO.out.alloc _) ⟨W.heap.size, 0, none⟩ 1 1 [.int .i64 xf, .int .i64 xt, .int .i64 xs, .int .i64 xh, .int .i64 xd] rfl rfl (line_news W ⟨xf, xt, xs, xh, xd⟩ _) (line_one ⟨xf, xt, xs, xh, xd⟩) (by unfold maxLen; omega) (by omega) (by rw [World.size_alloc]; omega) ?_; intro v' w2 hown' hgrow hnil hat; clear hnil; obtain ⟨g', cap', rfl⟩ := ownsRow_succ hown'; obtain ⟨hx1, hx2, hx3, hx4, hx5⟩ := HV.out.appended (by decide) HO.out (by omega) (by omega) hown' hgrow; have hc9 := hx1.cell; have hf9 := hx1.frozen; have HFIN := Lib.hid (show KeepsFrom w3.heap.size W (w2.setCell ⟨Bx, 0, none⟩ (.slice (some ⟨g', 0, none⟩) (pre.length + 1) cap')) ∧ KpR Bx W (w2.setCell ⟨Bx, 0, none⟩ (.slice (some ⟨g', 0, none⟩) (pre.length + 1) cap')) ∧ RowI Bx w (pre ++ [⟨xf, xt, xs, xh, xd⟩]) (w2.setCell ⟨Bx, 0, none⟩ (.slice (some ⟨g', 0, none⟩) (pre.length + 1) cap')) from ⟨hx4.from _, (KpR.below ((Below.refl W.heap.size W).alloc (Nat.le_refl _) _) HBW.out).trans (KpR.pushed (n := 0) (c := 0) (n' := 0) (c' := 0) (by rw [World.size_alloc]; omega) (HV.out.alloc _).cell hgrow hat HSL.out (fun ad n1 c1 e => by cases e; rfl) (fun k e => by cases e; exact (hown'.lt _ rfl).2) (fun u hu => by have h := hx2.cell; rw [hu] at h; injection h)), ⟨⟨_, hx2, by rw [cellsL_snoc, List.length_append]; exact hx3, trivial⟩, HB.out.trans hx5⟩⟩); clear hx1 hx2 hx3 hx4 hx5 hown' hgrow hat)
      exact HFIN.out
end Go.Proofs.Ytfbjgibjlppjoaa.Wr

/-
  Proved here: the landed program keeps to the contracts of stage 17's laws: what its Break, Blank, Shown, Fits and Lines answer are the plain ones.
-/
set_option linter.unusedVariables false
namespace Go.Proofs.Ytfbjgibjlppjoaa.Wr
open Go Go.RowKit Go.Lib Go.Proofs.Ytfbjgibjlppjoaa.Ku Go.Proofs.Ytfbjgibjlppjoaa.Arr

theorem break_ok : BreakOk := fun x w => break_any x w
theorem blank_ok : BlankOk := fun x w => blank_any x w
theorem shown_ok : ShownOk := fun A l n c w h1 h2 h3 => shown_any A l n c w h1 h2 h3
theorem fits_ok : FitsOk := fun A l n c x s w h1 h2 h3 _ h5 => by
  unfold fitsN
  rw [h2]
  by_cases h : (n : Int) ≤ max x 0
  · rw [if_pos h]
    refine (fits_beyond A n c x s w h).mono ?_
    rintro e w' ⟨rfl, rfl⟩
    exact ⟨rfl, Below.refl _ _⟩
  · rw [if_neg h]
    refine (fits_in A l n c (max x 0).toNat x s w h1 h2 h3 h5 (by omega) (by omega)).mono ?_
    rintro e w' ⟨rfl, rfl⟩
    exact ⟨rfl, Below.refl _ _⟩
theorem lines_ok : LinesOk := fun A l m c s how w h1 h2 h3 h4 h5 => lines_any A l m c s how w h1 h2 h3 h4 h5
end Go.Proofs.Ytfbjgibjlppjoaa.Wr

/-
  A lemma for every statement of the form 'the call returns true and each argument reads as before': a call that leaves all old memory as it was meets the statement's conclusion.
-/
namespace Go.Proofs.Ytfbjgibjlppjoaa
open Go.ChangeShapes Go.WideShapes Go.ChangeAt Go.RowKit

theorem law_own : ownKnob Try.prog.godebug = none := by kernel_rfl
theorem law_laidOut : laidOutB Try.prog = true := by kernel_rfl

def rowed (P : Program) (ts : List TypeId) : Bool := ts.all fun t => P.readableRec t && decide (t < P.types.size)

theorem below_trodAll {H : Type} {enc : TypeId × Value → H} {P : Program} (hl : laidOutB P = true) {W W' : World} (hb : Below W.heap.size W W') :
    ∀ (ts : List TypeId) (vs : List Value) (ds : List (DataW H)) (ps : List MemPlace), rowed P ts = true → DataW.TrodAll enc P W 0 (fun _ => true) true ts vs ds ps → (∀ x ∈ ps, x.block < W.heap.size) →
      DataW.TrodAll enc P W' 0 (fun b => decide (b < W.heap.size)) true ts vs ds ps
  | [], [], [], _, _, h, _ => h
  | [], _ :: _, _, _, _, h, _ => h.elim
  | [], [], _ :: _, _, _, h, _ => h.elim
  | _ :: _, [], _, _, _, h, _ => h.elim
  | _ :: _, _ :: _, [], _, _, h, _ => h.elim
  | t :: ts, v :: vs, d :: ds, ps, hr, h, hlt => by
    obtain ⟨p, q, h1, h2, rfl⟩ := h
    simp only [rowed, List.all_cons, Bool.and_eq_true, decide_eq_true_eq] at hr
    exact ⟨p, q, Below.trod hl hr.1.1 hr.1.2 h1 hb (fun x hx => hlt x (List.mem_append_left _ hx)), below_trodAll hl hb ts vs ds q hr.2 h2 (fun x hx => hlt x (List.mem_append_right _ hx)), rfl⟩

theorem law_post {H : Type} {enc : TypeId × Value → H} {f : Func} {s : ChangeSpec} {W W' : World} {args : Array Value} {ds gs : List (DataW H)} {before : List MemPlace}
    (hW : DataW.Whole enc Try.prog f.params.toList s.vars false W args.toList ds gs before) (hv : s.vars = []) (hres : f.resultTypes = #[4]) (hrow : rowed Try.prog f.params.toList = true)
    (hfn : s.fn H (ds ++ gs) = { results := [.lit (.bool true)], args := ds }) (hB : Below W.heap.size W W') :
    s.post enc Try.prog f false true false false W args (.bool true) W' := by
  have hW' := hW
  obtain ⟨p, q, hA, hV, rfl, _, _⟩ := hW
  rw [hv] at hV
  obtain ⟨rfl, rfl⟩ := trodVars_none hV
  have hlt : ∀ x ∈ p, x.block < W.heap.size := fun x hx => hW'.lt x (List.mem_append_left _ hx)
  refine ⟨ds, [], p ++ [], [], p, [], hW', ?_, ?_, ?_, hB.frame _, fun h => by cases h⟩
  · rw [hfn, hres]
    exact trodAll_mk1 (shut_bool Try.underlying4 true)
  · rw [hfn]
    exact below_trodAll law_laidOut hB _ _ _ _ hrow hA hlt
  · rw [hfn, hv]
    rfl
end Go.Proofs.Ytfbjgibjlppjoaa

/-
  A row of runes that a statement's function is called with, as its walk reads it; a field of ints of a struct.
-/
set_option linter.unusedVariables false
set_option maxRecDepth 100000
namespace Go.Proofs.Ytfbjgibjlppjoaa
open Go.ChangeShapes Go.WideShapes Go.ChangeAt Go.RowKit Go.Deep

/-- A field of ints of a struct. -/
theorem field_int {H : Type} {enc : TypeId × Value → H} {P : Program} {w : World} {base : Nat} {spare : Nat → Bool} {held : Bool} {fuel : Nat} {t : TypeId} {fs : Array Field} {cs : List Value} {x : DataW H × List MemPlace} (ht : P.underlying t = some (.struct fs))
    (h : DataW.trod enc P w base spare held fuel t cs = some x) (i : Nat) (f : Field) (hf : fs[i]? = some f) (hty : P.underlying f.type = some (.int .i64)) (hc : P.cellsOf f.type = 1) : ∃ n, cs[f.offset]? = some (.int .i64 n) ∧ Ku.okN n := by
  obtain ⟨xs, m, _, _, _, hxl, hel⟩ := DataW.trod_struct ht h
  have hE := hel i f hf
  have hi : i < fs.size := (Array.getElem?_eq_some_iff.1 hf).1
  rw [hc, List.getElem?_eq_getElem (by omega)] at hE
  obtain ⟨n, e1, _, e3⟩ := DataW.trod_int hty hE
  refine ⟨n, ?_, ?_⟩
  · have h0 : ((cs.drop f.offset).take 1)[0]? = some (.int .i64 n) := by rw [e1]; rfl
    simpa using h0
  · have h1 : IntKind.i64.min = -9223372036854775808 := rfl
    have h2 : IntKind.i64.max = 9223372036854775807 := rfl
    simp only [Lit.wf, Bool.and_eq_true, decide_eq_true_eq] at e3
    unfold Ku.okN
    omega

theorem open_runes {H : Type} {enc : TypeId × Value → H} {W : World} {r : Reach} {b0 base : Nat} {v : Value} {d : DataW H} {p : List MemPlace}
    (hv : Value.okWide Try.prog W r b0 63 v) (h : DataW.Trod enc Try.prog W base (fun _ => true) true 63 v d p) :
    ∃ (A : Option Addr) (l : List Ku.R3) (c : Nat), v = .slice A l.length c ∧ Ku.RuAt W A l ∧ (A = none → l = [] ∧ c = 0) ∧ l.length ≤ c ∧ l.length ≤ 9223372036854775807 ∧ ∀ q ∈ l, Ku.okN q.1 ∧ Ku.okN q.2.1 ∧ Ku.okN q.2.2 := by
  obtain ⟨fuel, hf⟩ := h
  rcases open_slice Try.underlying63 hf with ⟨hcs, hx⟩ | ⟨a, len, cap, m, n, D, Pl, hcs, hb, hl, hm, hmm, hx, hel⟩
  · obtain ⟨a, n, c, rfl⟩ := okWide_slice Try.underlying63 hv
    simp [Value.cells] at hcs
    obtain ⟨rfl, rfl, rfl⟩ := hcs
    exact ⟨none, [], 0, rfl, .inl rfl, fun _ => ⟨rfl, rfl⟩, by simp, by simp, by simp⟩
  · obtain ⟨a', n', c, rfl⟩ := okWide_slice Try.underlying63 hv
    simp [Value.cells] at hcs
    obtain ⟨rfl, rfl, rfl⟩ := hcs
    unfold maxLen at hm
    simp only [if_true] at hmm
    have c3 : Try.prog.cellsOf 73 = 3 := by kernel_rfl
    have c1 : Try.prog.cellsOf 3 = 1 := by kernel_rfl
    have each : ∀ i, i < n' → ∃ q : Ku.R3, W.cell? (a.add (i * 3)) = some (.int .i64 q.1) ∧ W.cell? (a.add (i * 3 + 1)) = some (.int .i64 q.2.1) ∧ W.cell? (a.add (i * 3 + 2)) = some (.int .i64 q.2.2) ∧ (Ku.okN q.1 ∧ Ku.okN q.2.1 ∧ Ku.okN q.2.2) := by
      intro i hi
      obtain ⟨cs', h1, h2⟩ := hel i (by omega)
      rw [c3] at h1
      obtain ⟨_, hlen, hcell⟩ := World.cells?_some h1
      obtain ⟨x0, e0, k0⟩ := field_int Try.underlying73 h2 0 _ rfl Try.underlying3 c1
      obtain ⟨x1, e1, k1⟩ := field_int Try.underlying73 h2 1 _ rfl Try.underlying3 c1
      obtain ⟨x2, e2, k2⟩ := field_int Try.underlying73 h2 2 _ rfl Try.underlying3 c1
      have g0 := (hcell 0 (by omega)).trans e0
      have g1 := (hcell 1 (by omega)).trans e1
      have g2 := (hcell 2 (by omega)).trans e2
      rw [Deep.add_add] at g0
      rw [Deep.add_add] at g1
      rw [Deep.add_add] at g2
      refine ⟨(x0, x1, x2), by simpa using g0, by simpa using g1, by simpa using g2, k0, k1, k2⟩
    obtain ⟨q, hq⟩ := choose_lt each
    have hlen : ((List.range n').map q).length = n' := by simp
    refine ⟨some a, (List.range n').map q, c, by rw [hlen], ?_, (fun h => by cases h), by omega, by omega, fun y hy => ?_⟩
    · by_cases h0 : n' = 0
      · exact .inl (by subst h0; rfl)
      · right
        obtain ⟨b, off, spot⟩ := a
        have hspot : spot = none := by simpa [Addr.add] using World.cell?_spot (hq 0 (by omega)).1
        subst hspot
        refine ⟨b, off, rfl, ?_, fun k hk => ?_⟩
        · have := World.block_lt_of_cell? W _ (hq 0 (by omega)).1
          simpa [Addr.add] using this
        · have hk' : k < n' := by simpa using hk
          obtain ⟨g0, g1, g2, _⟩ := hq k hk'
          have hg : ((List.range n').map q)[k]'hk = q k := by simp
          rw [hg]
          rw [Ku.add_off] at g0 g1 g2
          exact ⟨g0, g1, g2⟩
    · simp only [List.mem_map, List.mem_range] at hy
      obtain ⟨k, hk, rfl⟩ := hy
      exact (hq k hk).2.2.2
end Go.Proofs.Ytfbjgibjlppjoaa

/-
  A row of clusters that a statement's function is called with, as its walk reads it (as in KuLaid, for a seat without the package of clusters).
-/
set_option linter.unusedVariables false
set_option maxRecDepth 100000
namespace Go.Proofs.Ytfbjgibjlppjoaa.Wr
open Go.ChangeShapes Go.WideShapes Go.ChangeAt Go.RowKit Go.Deep

instance : Inhabited Ku.C6 := ⟨⟨0, 0, 0, 0, 0, 0⟩⟩
theorem open_clusters {H : Type} {enc : TypeId × Value → H} {W : World} {r : Reach} {b0 base : Nat} {v : Value} {d : DataW H} {p : List MemPlace}
    (hv : Value.okWide Try.prog W r b0 22 v) (h : DataW.Trod enc Try.prog W base (fun _ => true) true 22 v d p) :
    ∃ (A : Option Addr) (l : List Ku.C6) (c : Nat), v = .slice A l.length c ∧ Ku.CuAt W A l ∧ (A = none → l = [] ∧ c = 0) ∧ l.length ≤ c ∧ l.length ≤ 9223372036854775807 ∧ ∀ q ∈ l, Ku.okN q.a ∧ Ku.okN q.z ∧ Ku.okN q.f ∧ Ku.okN q.t ∧ Ku.okN q.w ∧ Ku.okN q.c := by
  obtain ⟨fuel, hf⟩ := h
  rcases open_slice Try.underlying22 hf with ⟨hcs, hx⟩ | ⟨a, len, cap, m, n, D, Pl, hcs, hb, hl, hm, hmm, hx, hel⟩
  · obtain ⟨a, n, c, rfl⟩ := okWide_slice Try.underlying22 hv
    simp [Value.cells] at hcs
    obtain ⟨rfl, rfl, rfl⟩ := hcs
    exact ⟨none, [], 0, rfl, .inl rfl, fun _ => ⟨rfl, rfl⟩, by simp, by simp, by simp⟩
  · obtain ⟨a', n', c, rfl⟩ := okWide_slice Try.underlying22 hv
    simp [Value.cells] at hcs
    obtain ⟨rfl, rfl, rfl⟩ := hcs
    unfold maxLen at hm
    simp only [if_true] at hmm
    have c3 : Try.prog.cellsOf 26 = 6 := by kernel_rfl
    have c1 : Try.prog.cellsOf 3 = 1 := by kernel_rfl
    have each : ∀ i, i < n' → ∃ q : Ku.C6, W.cell? (a.add (i * 6)) = some (.int .i64 q.a) ∧ W.cell? (a.add (i * 6 + 1)) = some (.int .i64 q.z) ∧ W.cell? (a.add (i * 6 + 2)) = some (.int .i64 q.f) ∧ W.cell? (a.add (i * 6 + 3)) = some (.int .i64 q.t) ∧ W.cell? (a.add (i * 6 + 4)) = some (.int .i64 q.w) ∧ W.cell? (a.add (i * 6 + 5)) = some (.int .i64 q.c) ∧ (Ku.okN q.a ∧ Ku.okN q.z ∧ Ku.okN q.f ∧ Ku.okN q.t ∧ Ku.okN q.w ∧ Ku.okN q.c) := by
      intro i hi
      obtain ⟨cs', h1, h2⟩ := hel i (by omega)
      rw [c3] at h1
      obtain ⟨_, hlen, hcell⟩ := World.cells?_some h1
      obtain ⟨x0, e0, k0⟩ := field_int Try.underlying26 h2 0 _ rfl Try.underlying3 c1
      obtain ⟨x1, e1, k1⟩ := field_int Try.underlying26 h2 1 _ rfl Try.underlying3 c1
      obtain ⟨x2, e2, k2⟩ := field_int Try.underlying26 h2 2 _ rfl Try.underlying3 c1
      obtain ⟨x3, e3, k3⟩ := field_int Try.underlying26 h2 3 _ rfl Try.underlying3 c1
      obtain ⟨x4, e4, k4⟩ := field_int Try.underlying26 h2 4 _ rfl Try.underlying3 c1
      obtain ⟨x5, e5, k5⟩ := field_int Try.underlying26 h2 5 _ rfl Try.underlying3 c1
      have g0 := (hcell 0 (by omega)).trans e0
      have g1 := (hcell 1 (by omega)).trans e1
      have g2 := (hcell 2 (by omega)).trans e2
      have g3 := (hcell 3 (by omega)).trans e3
      have g4 := (hcell 4 (by omega)).trans e4
      have g5 := (hcell 5 (by omega)).trans e5
      rw [Deep.add_add] at g0
      rw [Deep.add_add] at g1
      rw [Deep.add_add] at g2
      rw [Deep.add_add] at g3
      rw [Deep.add_add] at g4
      rw [Deep.add_add] at g5
      refine ⟨⟨x0, x1, x2, x3, x4, x5⟩, by simpa using g0, by simpa using g1, by simpa using g2, by simpa using g3, by simpa using g4, by simpa using g5, k0, k1, k2, k3, k4, k5⟩
    obtain ⟨q, hq⟩ := choose_lt each
    have hlen : ((List.range n').map q).length = n' := by simp
    refine ⟨some a, (List.range n').map q, c, by rw [hlen], ?_, (fun h => by cases h), by omega, by omega, fun y hy => ?_⟩
    · by_cases h0 : n' = 0
      · exact .inl (by subst h0; rfl)
      · right
        obtain ⟨b, off, spot⟩ := a
        have hspot : spot = none := by simpa [Addr.add] using World.cell?_spot (hq 0 (by omega)).1
        subst hspot
        refine ⟨b, off, rfl, ?_, fun k hk => ?_⟩
        · have := World.block_lt_of_cell? W _ (hq 0 (by omega)).1
          simpa [Addr.add] using this
        · have hk' : k < n' := by simpa using hk
          obtain ⟨g0, g1, g2, g3, g4, g5, _⟩ := hq k hk'
          have hg : ((List.range n').map q)[k]'hk = q k := by simp
          rw [hg]
          rw [Ku.add_off] at g0 g1 g2 g3 g4 g5
          exact ⟨g0, g1, g2, g3, g4, g5⟩
    · simp only [List.mem_map, List.mem_range] at hy
      obtain ⟨k, hk, rfl⟩ := hy
      exact (hq k hk).2.2.2.2.2.2

end Go.Proofs.Ytfbjgibjlppjoaa.Wr

/-
  A row of ints that a statement's function is called with, as its walk reads it: nil, or cells of memory.
-/
namespace Go.Proofs.Ytfbjgibjlppjoaa
open Go.ChangeShapes Go.WideShapes Go.ChangeAt Go.RowKit

set_option maxRecDepth 100000 in
theorem open_introwc {H : Type} {enc : TypeId × Value → H} {W : World} {r : Reach} {b0 base : Nat} {v : Value} {d : DataW H} {p : List MemPlace}
    (hv : Value.okWide Try.prog W r b0 55 v) (h : DataW.Trod enc Try.prog W base (fun _ => true) true 55 v d p) :
    ∃ (A : Option Addr) (zs : List Int) (c : Nat), v = .slice A zs.length c ∧ Cl.IntsAt W A zs ∧ (A = none → zs = [] ∧ c = 0) ∧ zs.length ≤ 9223372036854775807 ∧ (∀ z ∈ zs, -9223372036854775808 ≤ z ∧ z ≤ 9223372036854775807) ∧ zs.length ≤ c := by
  obtain ⟨fuel, hf⟩ := h
  rcases open_ints Try.underlying55 Try.underlying3 (by kernel_rfl) hf with ⟨hcs, hx⟩ | ⟨a, len, cap, zs, hcs, _, hl, hm, hz, hx, hcell, hwz⟩
  · obtain ⟨a, n, c, rfl⟩ := okWide_slice Try.underlying55 hv
    simp [Value.cells] at hcs
    obtain ⟨rfl, rfl, rfl⟩ := hcs
    exact ⟨none, [], 0, rfl, .inl rfl, fun _ => ⟨rfl, rfl⟩, by decide, by simp, by simp⟩
  · obtain ⟨a', n, c, rfl⟩ := okWide_slice Try.underlying55 hv
    simp [Value.cells] at hcs
    obtain ⟨rfl, rfl, rfl⟩ := hcs
    simp only [if_true] at hz
    unfold maxLen at hm
    have hlen : (zs.take n).length = n := by simp; omega
    refine ⟨some a, zs.take n, c, by rw [hlen], ?_, (fun h => by cases h), by omega, fun z hz' => ?_, by omega⟩
    · by_cases h0 : n = 0
      · exact .inl (by subst h0; simp)
      · right
        obtain ⟨b, off, spot⟩ := a
        have hspot : spot = none := by simpa [Addr.add] using World.cell?_spot (hcell 0 (by omega))
        subst hspot
        refine ⟨b, off, rfl, ?_, fun j z hj => ?_⟩
        · have := World.block_lt_of_cell? W _ (hcell 0 (by omega))
          simpa [Addr.add] using this
        · have hj' : j < n := by
            have := (List.getElem?_eq_some_iff.1 hj).1
            omega
          have hadd : (⟨b, off, none⟩ : Addr).add j = ⟨b, off + j, none⟩ := by unfold Addr.add; split <;> simp_all
          rw [← hadd, hcell j (by omega)]
          rw [List.getElem?_take, if_pos hj'] at hj
          simp [List.getD, hj]
    · have := hwz z (List.mem_of_mem_take hz')
      have h1 : IntKind.i64.min = -9223372036854775808 := rfl
      have h2 : IntKind.i64.max = 9223372036854775807 := rfl
      simp only [Lit.wf, Bool.and_eq_true, decide_eq_true_eq] at this
      omega
set_option maxRecDepth 100000 in
theorem open_introw {H : Type} {enc : TypeId × Value → H} {W : World} {r : Reach} {b0 base : Nat} {v : Value} {d : DataW H} {p : List MemPlace}
    (hv : Value.okWide Try.prog W r b0 55 v) (h : DataW.Trod enc Try.prog W base (fun _ => true) true 55 v d p) :
    ∃ (A : Option Addr) (zs : List Int) (c : Nat), v = .slice A zs.length c ∧ Cl.IntsAt W A zs ∧ (A = none → zs = [] ∧ c = 0) ∧ zs.length ≤ 9223372036854775807 ∧ ∀ z ∈ zs, -9223372036854775808 ≤ z ∧ z ≤ 9223372036854775807 := by
  obtain ⟨A, zs, c, h1, h2, h3, h4, h5, _⟩ := open_introwc hv h
  exact ⟨A, zs, c, h1, h2, h3, h4, h5⟩
end Go.Proofs.Ytfbjgibjlppjoaa

/-
  Proved here: what parquetrylaw17.WrapLines returns for every row of clusters: true; for any program of lines that keeps to the plain ones (LinesOk). It leaves what was in memory.
-/
set_option linter.unusedVariables false
namespace Go.Proofs.Ytfbjgibjlppjoaa.Wr
open Go Go.RowKit Go.Lib Go.Proofs.Ytfbjgibjlppjoaa.Ku Go.Proofs.Ytfbjgibjlppjoaa.Arr

theorem cellsC_one (l : List C6) : ∀ u ∈ cellsC l, u.oneCell' = true := by
  intro u hu
  simp only [cellsC, List.mem_flatMap] at hu
  obtain ⟨x, _, hu⟩ := hu
  simp at hu
  rcases hu with rfl | rfl | rfl | rfl | rfl | rfl <;> rfl
theorem cuAt_news {w : World} {ad : Addr} {l : List C6} (h : CuAt w (some ad) l) : ∀ j u, (cellsC l)[j]? = some u → w.cell? (ad.add j) = some u := by
  intro j u hu
  rcases h with rfl | ⟨b, off, hA, hlt, hc⟩
  · simp [cellsC] at hu
  · injection hA with hA
    subst hA
    have hlen := cellsC_len l
    have hj : j < l.length * 6 := by
      have := (List.getElem?_eq_some_iff.1 hu).1
      omega
    have hk : j / 6 < l.length := by omega
    obtain ⟨h0, h1, h2, h3, h4, h5⟩ := hc (j / 6) hk
    obtain ⟨g0, g1, g2, g3, g4, g5⟩ := cellsC_at l (j / 6) hk
    rw [Ku.add_off]
    have : j = j / 6 * 6 ∨ j = j / 6 * 6 + 1 ∨ j = j / 6 * 6 + 2 ∨ j = j / 6 * 6 + 3 ∨ j = j / 6 * 6 + 4 ∨ j = j / 6 * 6 + 5 := by omega
    rcases this with e | e | e | e | e | e
    · rw [e, g0] at hu; rw [e]; rw [← hu]; exact h0
    · rw [e, g1] at hu; rw [e]; rw [← hu]; exact h1
    · rw [e, g2] at hu; rw [e]; rw [← hu]; exact h2
    · rw [e, g3] at hu; rw [e]; rw [← hu]; exact h3
    · rw [e, g4] at hu; rw [e]; rw [← hu]; exact h4
    · rw [e, g5] at hu; rw [e]; rw [← hu]; exact h5
/-- There are not more lines than clusters, but for none. -/
theorem linesP_le (l : List C6) (w how : Int) : (linesP l w how).length ≤ l.length + 1 := by
  by_cases h : how = 0 ∨ shownN l = 0
  · rw [linesP_one h]
    simp
  · obtain ⟨R, hR, e⟩ := linesP_lns (w := w) h
    rw [e, List.length_map]
    have h1 := hR.len (by omega)
    have h2 := shownN_le l
    omega
theorem li_own {w : World} {B n c : Nat} {A : Option Addr} {l : List L5} (hl : l.length = n) (h : w.ownsRow B 36 5 (.slice A n c) n (cellsL l)) : LiAt w A l := by
  subst hl
  obtain ⟨A', c', e, hi⟩ := liAt_own h
  injection e with e _ _
  subst e
  exact hi

set_option maxHeartbeats 4000000 in
set_option maxRecDepth 100000 in
theorem lines_law (HLN : LinesOk) (A : Option Addr) (l : List C6) (n c : Nat) (s how : Int) (w : World) (hR : CuAt w A l) (hl : l.length = n) (hnil : A = none → l = [] ∧ c = 0) (hc : n ≤ c) (hs : s ≤ 9223372036854775807) :
    Calls Try.prog 5 #[.slice A n c, .int .i64 s, .int .i64 how] w fun e w' => e = .returned (.bool true) ∧ Below w.heap.size w w' := by
  have HA := Lib.hid (fun V => awake_of HLN V)
  by_cases h300 : 200 < n
  · have d0 : decide ((200 : Int) < (n : Int)) = true := decide_eq_true (by omega)
    have e0 : decide (200 < n) = true := decide_eq_true h300
    clear HLN hR hl hnil
    go_enter Try.func5, Try.ntmps5
    go_wp2_with fail
    refine (HA.out _).mono ?_
    rintro e w1 ⟨rfl, hb1⟩
    go_wp2_with fail
    go_ret
    exact ⟨rfl, hb1⟩
  · have d0 : decide ((200 : Int) < (n : Int)) = false := decide_eq_false (by omega)
    have e0 : decide (200 < n) = false := decide_eq_false h300
    obtain ⟨i0, hi, hz0, hz1, hz2⟩ := Cl.info_parts infoC
    have hmade : (w.alloc (.cells #[] 26)).ownsRow w.heap.size 26 6 (.slice (some ⟨w.heap.size, 0, none⟩) 0 0) 0 [] := World.ownsRow_made w #[] 0 (Nat.le_refl _) (Nat.zero_le _) rfl
    have hr1 := hR.below ((Below.refl w.heap.size w).alloc (Nat.le_refl _) (.cells #[] 26))
    have HM := Lib.hid hmade
    have HR1 := Lib.hid hr1
    have HR := Lib.hid hR
    have HNL := Lib.hid (fun h => (by rw [← hl, (hnil h).1]; rfl : n = 0))
    have hcr := cellsC_len l
    rw [hl] at hcr
    have HN := Lib.hid hl
    have HL1 := Lib.hid (fun (A' : Option Addr) (c' : Nat) (V : World) h1 h2 => HLN A' l n c' s how V h1 hl (by omega) h2 hs)
    have HL2 := Lib.hid (fun (V : World) h1 => rlines_any A l n c s how V h1 hl (by omega) hc hs)
    have HS1 := Lib.hid (fun (A B : Option Addr) (k c d : Nat) (V : World) (hk : (linesP l s how).length = k) ha hb hn => rlsame_yes A B (linesP l s how) k c d V hk ha hb hn)
    have HS2 := Lib.hid (fun (A B : Option Addr) (c d : Nat) (V : World) ha hb => csame_yes A B l n c d V hl ha hb (by omega))
    have hlp : (linesP l s how).length ≤ 1099511627776 := by have := linesP_le l s how; omega
    clear hmade hr1 hnil hR hl HLN
    generalize linesP l s how = P at *
    obtain ⟨m, hm⟩ : ∃ m, P.length = m := ⟨_, rfl⟩
    rw [hm] at HL1 HL2 hlp
    have HPM := Lib.hid hm
    clear hm
    go_enter Try.func5, Try.ntmps5
    go_wp2_with (at_builtin; refine wpList_append_src _ rfl _ _ 22 rfl w.heap.size 26 i0 (.agg #[.int .i64 0, .int .i64 0, .int .i64 0, .int .i64 0, .int .i64 0, .int .i64 0]) 6 48 Try.underlying22 hi hz0 hz1 hz2 rfl (by decide) _ _ _ rfl HM.out A n c (cellsC l) rfl hcr HNL.out (fun ad had => cuAt_news (had ▸ HR1.out : CuAt _ (some ad) l)) (cellsC_one _) (by unfold maxLen; omega) (by omega) (by simp) ?_)
    intro v' w2 hown' hgrow
    have hown2 : w2.ownsRow w.heap.size 26 6 v' l.length (cellsC l) := by
      rw [HN.out]
      simpa using hown'
    have hb2 : Below w.heap.size w w2 := ((Below.refl w.heap.size w).alloc (Nat.le_refl _) _).grown hgrow (by simp) (fun g hg => by simp [Value.ownBlock] at hg; omega)
    obtain ⟨A1, c1, rfl, hr'⟩ := cuAt_own hown2
    rw [HN.out] at hown2 ⊢
    have hc1 := own_room hown2
    have HL3 := Lib.hid (HL1.out A1 c1 w2 hr' hc1)
    have HO2 := Lib.hid hr'
    have HB2 := Lib.hid hb2
    clear hgrow hown' hown2 hr' hb2 HM HR1 HNL hi hz0 hz1 hz2 hcr HL1
    go_wp2_with fail
    refine HL3.out.mono ?_
    rintro e w3 ⟨A3, c3, rfl, ho3, hb3⟩
    have HP3 := Lib.hid (li_own HPM.out ho3)
    have HO3 := Lib.hid (HO2.out.below hb3)
    have HB3 := Lib.hid (HB2.out.trans (hb3.mono HB2.out.size))
    have HL4 := Lib.hid (HL2.out w3 (HR.out.below HB3.out))
    clear ho3 hb3 HL3 HL2 HO2 HB2
    go_wp2_with fail
    refine HL4.out.mono ?_
    rintro e w4 ⟨A4, c4, rfl, ho4, hb4⟩
    have HS3 := Lib.hid (HS1.out A3 A4 m c3 c4 w4 HPM.out (HP3.out.below hb4) (li_own HPM.out ho4) hlp)
    have HO4 := Lib.hid (HO3.out.below hb4)
    have HB4 := Lib.hid (HB3.out.trans (hb4.mono HB3.out.size))
    clear ho4 hb4 HL4 HS1 HP3 HO3 HB3
    go_wp2_with fail
    refine HS3.out.mono ?_
    rintro e w5 ⟨rfl, hb5⟩
    have HB5 := Lib.hid (HB4.out.trans (hb5.mono HB4.out.size))
    have HS4 := Lib.hid (HS2.out A1 A c1 c w5 (HO4.out.below hb5) (HR.out.below HB5.out))
    clear hb5 HS3 HS2 HO4 HB4
    go_wp2_with fail
    refine HS4.out.mono ?_
    rintro e w6 ⟨rfl, hb6⟩
    have HB6 := Lib.hid (HB5.out.trans (hb6.mono HB5.out.size))
    clear hb6 HS4 HB5
    go_wp2_with fail
    refine (HA.out _).mono ?_
    rintro e w7 ⟨rfl, hb7⟩
    go_wp2_with fail
    go_ret
    exact ⟨rfl, HB6.out.trans (hb7.mono HB6.out.size)⟩
end Go.Proofs.Ytfbjgibjlppjoaa.Wr

/-
  Lines of clusters, what is so of each: they follow one another from 0 to the end; just the last is hard; what is not shown of one are blanks, or the break at the end. Plain: no program.
-/
set_option linter.unusedVariables false
namespace Go.Proofs.Ytfbjgibjlppjoaa.Wr
open Go Go.RowKit Go.Lib Go.Proofs.Ytfbjgibjlppjoaa.Ku

theorem Bl_take {l : List C6} {n k : Nat} (h : k < n) : Bl (l.take n) k = Bl l k := by
  unfold Bl
  simp only [List.getD_eq_getElem?_getD]
  rw [List.getElem?_take, if_pos h]
theorem Wd_take {l : List C6} {n k : Nat} (h : k < n) : Wd (l.take n) k = Wd l k := by
  unfold Wd
  simp only [List.getD_eq_getElem?_getD]
  rw [List.getElem?_take, if_pos h]
/-- Behind the end of what is to be shown there is the break at the end, or nothing. -/
theorem shownN_rest {l : List C6} {k : Nat} (h1 : shownN l ≤ k) (h2 : k < l.length) : k + 1 = l.length ∧ brk (l.getD k d6) = true := by
  unfold shownN at h1
  split at h1
  · rename_i hb
    obtain rfl : k = l.length - 1 := by omega
    exact ⟨by omega, hb⟩
  · omega
/-- What is so of the line at a place. -/
def AllAt (l : List C6) (P : List L5) (i : Nat) (y : L5) : Prop :=
  ∃ f t s : Nat, y = ⟨f, t, s, if i + 1 = P.length then 1 else 0, 0⟩ ∧ (i = 0 → f = 0) ∧ f ≤ s ∧ s ≤ t ∧ t ≤ l.length ∧ (t = f → l.length = 0) ∧ (∀ k, s ≤ k → k < t → Bl l k = true ∨ (k + 1 = l.length ∧ brk (l.getD k d6) = true)) ∧ (i + 1 = P.length → t = l.length) ∧ (∀ z, P[i + 1]? = some z → z.f = t)
theorem linesP_all (l : List C6) (w how : Int) : 0 < (linesP l w how).length ∧ ∀ (i : Nat) (y : L5), (linesP l w how)[i]? = some y → AllAt l (linesP l w how) i y := by
  by_cases h : how = 0 ∨ shownN l = 0
  · rw [linesP_one h]
    refine ⟨by simp, fun i y hy => ?_⟩
    cases i with
    | zero =>
      simp at hy
      subst hy
      exact ⟨0, l.length, shownN l, by simp, fun _ => rfl, by omega, shownN_le l, Nat.le_refl _, fun e => e, fun k h1 h2 => .inr (shownN_rest h1 h2), fun _ => rfl, by simp⟩
    | succ i => simp at hy
  · obtain ⟨R, hR, e⟩ := linesP_lns (w := w) h
    have hn : 0 < shownN l := by omega
    have hat := fun {i x} => hR.at_ hn (i := i) (x := x)
    have hl := shownN_le l
    rw [e]
    have hpos : 0 < R.length := by cases hR <;> simp
    refine ⟨by simpa using hpos, fun i y hy => ?_⟩
    rw [List.getElem?_map] at hy
    obtain ⟨x, hx, rfl⟩ := Option.map_eq_some_iff.1 hy
    obtain ⟨h1, h2, h3, h4, h5⟩ := hat hx
    obtain ⟨g1, g2, g3, g4, g5⟩ := h2.goes h1
    have hbl := h2.blanks
    have hnext : ∀ z, (R.map (lineOf l.length (shownN l)))[i + 1]? = some z → z.f = (x.2.1 : Int) := by
      intro z hz
      rw [List.getElem?_map] at hz
      obtain ⟨x', hx', rfl⟩ := Option.map_eq_some_iff.1 hz
      have := h5 x' hx'
      unfold lineOf
      split <;> simp [this]
    by_cases ht : x.2.1 = shownN l
    · have hi := h4.1 ht
      refine ⟨x.1, l.length, x.2.2, ?_, h3, g3, by omega, Nat.le_refl _, fun e => by omega, fun k k1 k2 => ?_, fun _ => rfl, fun z hz => ?_⟩
      · unfold lineOf
        rw [if_pos ht, List.length_map, if_pos hi]
      · by_cases hk : k < shownN l
        · left
          rw [← Bl_take hk]
          exact hbl k k1 (by omega)
        · exact .inr (shownN_rest (by omega) k2)
      · exfalso
        have := (List.getElem?_eq_some_iff.1 hz).1
        rw [List.length_map] at this
        omega
    · have hi : ¬ i + 1 = R.length := fun e => ht (h4.2 e)
      refine ⟨x.1, x.2.1, x.2.2, ?_, h3, g3, g4, by omega, fun e => by omega, fun k k1 k2 => ?_, fun e => ?_, hnext⟩
      · unfold lineOf
        rw [if_neg ht, List.length_map, if_neg hi]
      · left
        rw [← Bl_take (show k < shownN l by omega)]
        exact hbl k k1 k2
      · rw [List.length_map] at e
        exact absurd e hi
end Go.Proofs.Ytfbjgibjlppjoaa.Wr
