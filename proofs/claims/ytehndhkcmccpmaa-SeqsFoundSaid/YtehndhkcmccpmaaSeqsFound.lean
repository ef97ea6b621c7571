/-
  Proved here: for every row of numbers and every level SeqsFound returns true (the sequences of any numbers as classes, in a paragraph of any level, are what the document says, where they are at most 60; they stay), and the row stays. No condition.
-/
import Derived.Test.YtehndhkcmccpmaaClInts
import Derived.LoopTactic
import Derived.Deep.QuietTactic
import Derived.BigQuiet
import Derived.Test.YtehndhkcmccpmaaRows
import Derived.Carry
import Derived.ProofKit
import Derived.OpenShut
import Derived.Below
import Derived.ChangeSlices
import Derived.Laws.IdiomAt
import Derived.Laws.IdiomElems
import Derived.Test.YtehndhkcmccpmaaSqAwake
import Derived.Test.YtehndhkcmccpmaaSrSeqs
import Derived.Test.YtehndhkcmccpmaaSqSame
import Derived.Test.YtehndhkcmccpmaaAppSrc
import Derived.Stop.Joined
set_option linter.unusedVariables false
/-! (as in XRcSame) -/
namespace Go.Proofs.Ytehndhkcmccpmaa.Rc
open Go.RowKit Go.Lib Go.Proofs.Ytehndhkcmccpmaa.Cl

theorem same_ints_drewN (w : World) : ∀ n, Below w.heap.size w (w.drewN n)
  | 0 => Below.refl _ _
  | n + 1 => (same_ints_drewN w n).drew

set_option maxHeartbeats 1000000 in
set_option maxRecDepth 1000000 in
theorem same_ints (A B : Option Addr) (zs : List Int) (c d : Nat) (w : World) (ha : IntsAt w A zs) (hb : IntsAt w B zs) (hn : zs.length ≤ 1099511627776) :
    Calls Try.prog 19 #[.slice A zs.length c, .slice B zs.length d] w fun e w' => e = .returned (.bool true) ∧ Below w.heap.size w w' := by
  have HA := Lib.hid ha
  have HB := Lib.hid hb
  clear ha hb
  go_enter Try.func19, Try.ntmps19
  go_wp2_with fail
  go_loopw [5] (fun s5 wx => ∃ k : Nat, k ≤ zs.length ∧ s5 = .int .i64 k ∧ Below w.heap.size w wx) (fun s5 _ => zs.length - (RowKit.intOf s5).toNat)
  case atStart => exact ⟨0, Nat.zero_le _, rfl, Below.refl _ _⟩
  case round =>
    obtain ⟨k, hk, rfl, hbw⟩ := hrel
    by_cases hlt : k < zs.length
    · obtain ⟨g, o, rfl, c0⟩ := (HA.out.below hbw).at_ hlt
      obtain ⟨g', o', rfl, d0⟩ := (HB.out.below hbw).at_ hlt
      clear HA HB
      generalize zs[k] = z at *
      go_wp2_with fail
      go_quiet (fail)
      go_wp2_with fail
      go_roundw
      case rel => exact ⟨k + 1, by omega, by go_num, hbw.trans ((same_ints_drewN _ _).mono hbw.size)⟩
      case measure => simp [RowKit.intOf]; omega
    · go_wp2
      go_ret
      exact ⟨rfl, hbw⟩
end Go.Proofs.Ytehndhkcmccpmaa.Rc
/-! (as in XClearInts) -/
namespace Go.Proofs.Ytehndhkcmccpmaa
open Go.RowKit Go.Lib

theorem clr_grown (w : World) (g : Nat) (cs : Array Value) : w.grownBy (w.setRow g cs) (some g) := by
  refine ⟨rfl, rfl, rfl, by simp [World.setRow], fun k _ hne => ?_⟩
  simp only [World.setRow, Array.getElem?_modify]
  rw [if_neg (fun e => hne (by rw [e]))]
theorem clr_one (n : Nat) : ∀ v ∈ (Builtin.zeroCells (Value.int .i64 0).cells n).toList, v.oneCell' = true := by
  intro v hv
  simp [Builtin.zeroCells, Value.cells] at hv
  first
  | (obtain ⟨_, rfl⟩ := hv; rfl)
  | (obtain ⟨a, _, rfl⟩ := hv; rw [Nat.mod_one]; rfl)
theorem clr_len (n : Nat) : (Builtin.zeroCells (Value.int .i64 0).cells n).toList.length = n := by
  simp [Builtin.zeroCells, Value.cells]

theorem clear_ints {w : World} {B : Nat} {v : Value} {n : Nat} {xs : List Value} (h : w.ownsRow B 3 1 v n xs) :
    ∃ w', (∀ ty, (Builtin.clear_ #[22] ty #[v]).run Try.prog w = .ok (.tuple #[]) w') ∧ w.grownBy w' v.ownBlock := by
  rcases h.2 with ⟨rfl, hn⟩ | ⟨g, cap, cur, rfl, _, hg, hnc, _, hsz, _⟩
  · exact ⟨w, fun ty => by simp [Builtin.clear_, run_underlying Try.underlying22], World.grownBy.refl w _⟩
  · rcases Nat.eq_zero_or_pos n with h0 | h0
    · subst h0
      exact ⟨w, fun ty => by simp [Builtin.clear_, run_underlying Try.underlying22], World.grownBy.refl w _⟩
    · obtain ⟨CS, hst⟩ : ∃ CS, (storeCells ⟨g, 0, none⟩ (Builtin.zeroCells (Value.int .i64 0).cells n).toList 0).run Try.prog w = .ok () (w.setRow g CS) :=
        ⟨_, run_storeCells_at Try.prog g 0 3 _ 0 cur w hg (by rw [clr_len, hsz]; omega) (clr_one n)⟩
      have hzv : ∀ w, (zeroValue 3).run Try.prog w = .ok (.int .i64 0) w := fun _ => by kernel_rfl
      refine ⟨w.setRow g CS, fun ty => ?_, clr_grown w g CS⟩
      obtain ⟨m, rfl⟩ : ∃ m, n = m + 1 := ⟨n - 1, by omega⟩
      simp [Builtin.clear_, run_underlying Try.underlying22, hzv, hst]
end Go.Proofs.Ytehndhkcmccpmaa
/-! (as in XLawKit) -/
namespace Go.Proofs.Ytehndhkcmccpmaa
open Go.ChangeShapes Go.WideShapes Go.ChangeAt Go.RowKit

theorem law_own : ownKnob Try.prog.godebug = none := by kernel_rfl
theorem law_laidOut : laidOutB Try.prog = true := by kernel_rfl

def rowed (P : Program) (ts : List TypeId) : Bool := ts.all fun t => P.readableRec t && decide (t < P.types.size)

theorem below_trodAll {H : Type} {enc : TypeId × Value → H} {P : Program} (hl : laidOutB P = true) {W W' : World} (hb : Below W.heap.size W W') :
    ∀ (ts : List TypeId) (vs : List Value) (ds : List (DataW H)) (ps : List MemPlace), rowed P ts = true → DataW.TrodAll enc P W 0 (fun _ => true) true ts vs ds ps → (∀ x ∈ ps, x.block < W.heap.size) →
      DataW.TrodAll enc P W' 0 (fun b => decide (b < W.heap.size)) true ts vs ds ps
  | [], [], [], _, _, h, _ => h
  | [], _ :: _, _, _, _, h, _ => h.elim
  | [], [], _ :: _, _, _, h, _ => h.elim
  | _ :: _, [], _, _, _, h, _ => h.elim
  | _ :: _, _ :: _, [], _, _, h, _ => h.elim
  | t :: ts, v :: vs, d :: ds, ps, hr, h, hlt => by
    obtain ⟨p, q, h1, h2, rfl⟩ := h
    simp only [rowed, List.all_cons, Bool.and_eq_true, decide_eq_true_eq] at hr
    exact ⟨p, q, Below.trod hl hr.1.1 hr.1.2 h1 hb (fun x hx => hlt x (List.mem_append_left _ hx)), below_trodAll hl hb ts vs ds q hr.2 h2 (fun x hx => hlt x (List.mem_append_right _ hx)), rfl⟩

theorem law_post {H : Type} {enc : TypeId × Value → H} {f : Func} {s : ChangeSpec} {W W' : World} {args : Array Value} {ds gs : List (DataW H)} {before : List MemPlace}
    (hW : DataW.Whole enc Try.prog f.params.toList s.vars false W args.toList ds gs before) (hv : s.vars = []) (hres : f.resultTypes = #[4]) (hrow : rowed Try.prog f.params.toList = true)
    (hfn : s.fn H (ds ++ gs) = { results := [.lit (.bool true)], args := ds }) (hB : Below W.heap.size W W') :
    s.post enc Try.prog f false true false false W args (.bool true) W' := by
  have hW' := hW
  obtain ⟨p, q, hA, hV, rfl, _, _⟩ := hW
  rw [hv] at hV
  obtain ⟨rfl, rfl⟩ := trodVars_none hV
  have hlt : ∀ x ∈ p, x.block < W.heap.size := fun x hx => hW'.lt x (List.mem_append_left _ hx)
  refine ⟨ds, [], p ++ [], [], p, [], hW', ?_, ?_, ?_, hB.frame _, fun h => by cases h⟩
  · rw [hfn, hres]
    exact trodAll_mk1 (shut_bool Try.underlying4 true)
  · rw [hfn]
    exact below_trodAll law_laidOut hB _ _ _ _ hrow hA hlt
  · rw [hfn, hv]
    rfl
end Go.Proofs.Ytehndhkcmccpmaa
/-! (as in XLawInts) -/
namespace Go.Proofs.Ytehndhkcmccpmaa
open Go.ChangeShapes Go.WideShapes Go.ChangeAt Go.RowKit

theorem open_introwc {H : Type} {enc : TypeId × Value → H} {W : World} {r : Reach} {b0 base : Nat} {v : Value} {d : DataW H} {p : List MemPlace}
    (hv : Value.okWide Try.prog W r b0 22 v) (h : DataW.Trod enc Try.prog W base (fun _ => true) true 22 v d p) :
    ∃ (A : Option Addr) (zs : List Int) (c : Nat), v = .slice A zs.length c ∧ Cl.IntsAt W A zs ∧ (A = none → zs = [] ∧ c = 0) ∧ zs.length ≤ 9223372036854775807 ∧ (∀ z ∈ zs, -9223372036854775808 ≤ z ∧ z ≤ 9223372036854775807) ∧ zs.length ≤ c := by
  obtain ⟨fuel, hf⟩ := h
  rcases open_ints Try.underlying22 Try.underlying3 (by kernel_rfl) hf with ⟨hcs, hx⟩ | ⟨a, len, cap, zs, hcs, _, hl, hm, hz, hx, hcell, hwz⟩
  · obtain ⟨a, n, c, rfl⟩ := okWide_slice Try.underlying22 hv
    simp [Value.cells] at hcs
    obtain ⟨rfl, rfl, rfl⟩ := hcs
    exact ⟨none, [], 0, rfl, .inl rfl, fun _ => ⟨rfl, rfl⟩, by decide, by simp, by simp⟩
  · obtain ⟨a', n, c, rfl⟩ := okWide_slice Try.underlying22 hv
    simp [Value.cells] at hcs
    obtain ⟨rfl, rfl, rfl⟩ := hcs
    simp only [if_true] at hz
    unfold maxLen at hm
    have hlen : (zs.take n).length = n := by simp; omega
    refine ⟨some a, zs.take n, c, by rw [hlen], ?_, (fun h => by cases h), by omega, fun z hz' => ?_, by omega⟩
    · by_cases h0 : n = 0
      · exact .inl (by subst h0; simp)
      · right
        obtain ⟨b, off, spot⟩ := a
        have hspot : spot = none := by simpa [Addr.add] using World.cell?_spot (hcell 0 (by omega))
        subst hspot
        refine ⟨b, off, rfl, ?_, fun j z hj => ?_⟩
        · have := World.block_lt_of_cell? W _ (hcell 0 (by omega))
          simpa [Addr.add] using this
        · have hj' : j < n := by
            have := (List.getElem?_eq_some_iff.1 hj).1
            omega
          have hadd : (⟨b, off, none⟩ : Addr).add j = ⟨b, off + j, none⟩ := by unfold Addr.add; split <;> simp_all
          rw [← hadd, hcell j (by omega)]
          rw [List.getElem?_take, if_pos hj'] at hj
          simp [List.getD, hj]
    · have := hwz z (List.mem_of_mem_take hz')
      have h1 : IntKind.i64.min = -9223372036854775808 := rfl
      have h2 : IntKind.i64.max = 9223372036854775807 := rfl
      simp only [Lit.wf, Bool.and_eq_true, decide_eq_true_eq] at this
      omega
theorem open_introw {H : Type} {enc : TypeId × Value → H} {W : World} {r : Reach} {b0 base : Nat} {v : Value} {d : DataW H} {p : List MemPlace}
    (hv : Value.okWide Try.prog W r b0 22 v) (h : DataW.Trod enc Try.prog W base (fun _ => true) true 22 v d p) :
    ∃ (A : Option Addr) (zs : List Int) (c : Nat), v = .slice A zs.length c ∧ Cl.IntsAt W A zs ∧ (A = none → zs = [] ∧ c = 0) ∧ zs.length ≤ 9223372036854775807 ∧ ∀ z ∈ zs, -9223372036854775808 ≤ z ∧ z ≤ 9223372036854775807 := by
  obtain ⟨A, zs, c, h1, h2, h3, h4, h5, _⟩ := open_introwc hv h
  exact ⟨A, zs, c, h1, h2, h3, h4, h5⟩
end Go.Proofs.Ytehndhkcmccpmaa
namespace Go.Proofs.Ytehndhkcmccpmaa.SeqsFound
open Go.ChangeShapes Go.WideShapes Go.ChangeAt Go.RowKit Go.Lib Go.Proofs.Ytehndhkcmccpmaa.Lv Go.Proofs.Ytehndhkcmccpmaa.Cl Go.Proofs.Ytehndhkcmccpmaa.Rc Go.Proofs.Ytehndhkcmccpmaa.Sq Go.Proofs.Ytehndhkcmccpmaa.Ba

theorem own_cap {w : World} {base n : Nat} {e : TypeId} {A : Option Addr} {c : Nat} {xs : List Value} (h : w.ownsRow base e 1 (.slice A n c) n xs) : n ≤ c := by
  rcases h.2 with ⟨h1, h2⟩ | ⟨g1, c1, cur, hv, _, _, hle, _⟩
  · omega
  · cases hv; exact hle

theorem all_len {c z : List Int} {lv : Int} {T : List S4} (h : SeqsAll c z lv T) : T.length ≤ z.length := by
  have e := congrArg List.length h.ok.heads
  rw [List.length_map] at e
  rw [e]
  unfold headsTo
  refine Nat.le_trans (List.length_filter_le _ _) ?_
  simp
theorem all_sl {c z : List Int} {lv : Int} {T : List S4} (h : SeqsAll c z lv T) : ∀ s ∈ T, s.p.length ≤ z.length := fun s hs => up_len' (h.up s hs) (fun p hp => L_lt (h.lev s hs p hp).1)

/-- The rows from the k-th on, while they are cleared one after another. -/
structure Left (B : Nat) (w : World) (v : Value) (R : List S4) (X : List Value) (k : Nat) : Prop where
  len : X.length = R.length
  row : w.ownsRow B 35 4 v R.length (cellsS R X)
  own : ∀ i (h : i < R.length) x, k ≤ i → X[i]? = some x → w.ownsRow B 3 1 x R[i].p.length (icl (ns R[i].p))
  two : ∀ (i j : Nat) (x y : Value), i ≠ j → X[i]? = some x → X[j]? = some y → Two x y
theorem left_of {B : Nat} {w : World} {v : Value} {R : List S4} {X : List Value} (h : SqI 35 B w v R X) : Left B w v R X 0 :=
  ⟨h.len, h.row, fun i hi x _ hx => h.own i hi x hx, h.two⟩
theorem Left.below {B : Nat} {w w' : World} {v : Value} {R : List S4} {X : List Value} {k : Nat} (h : Left B w v R X k) (hb : Below w.heap.size w w') : Left B w' v R X k :=
  ⟨h.len, ownsRow_below h.row hb, fun i hi x hk hx => ownsRow_below (h.own i hi x hk hx) hb, h.two⟩
theorem Left.next {B : Nat} {w : World} {v : Value} {R : List S4} {X : List Value} {k : Nat} (h : Left B w v R X k) (hk : k < R.length) :
    ∃ g cap x w', v = .slice (some ⟨g, 0, none⟩) R.length cap ∧ w.cell? ⟨g, k * 4 + 3, none⟩ = some x ∧ (∀ ty, (Builtin.clear_ #[22] ty #[x]).run Try.prog w = .ok (.tuple #[]) w') ∧ Left B w' v R X (k + 1) ∧ w.grownBy w' x.ownBlock ∧ (∀ q, x.ownBlock = some q → B ≤ q) := by
  have hx : ∃ x, X[k]? = some x := ⟨_, List.getElem?_eq_getElem (by rw [h.len]; exact hk)⟩
  obtain ⟨x, hx⟩ := hx
  have ho := h.own k hk x (Nat.le_refl _) hx
  obtain ⟨w', hc, hg⟩ := clear_ints ho
  obtain ⟨-, -, -, h3⟩ := cellsS_at hk hx
  have hrow := h.row
  rcases hrow.2 with ⟨e, hn⟩ | ⟨g, cap, cur, e, hB, hgg, _⟩
  · omega
  · subst e
    refine ⟨g, cap, x, w', rfl, ?_, hc, ⟨h.len, hrow.kept hg (own_ne hrow ho (by decide)), fun i hi y hki hy => ?_, h.two⟩, hg, fun q hq => (ho.lt q hq).1⟩
    · rw [hrow.cellAt _ (by omega)]; exact h3
    · exact (h.two k i x y (by omega) hx hy).kept (h.own i hi y (by omega) hy) hg

set_option maxHeartbeats 4000000 in
set_option maxRecDepth 100000 in
theorem walk (w : World) (A : Option Addr) (zs : List Int) (c : Nat) (hr : IntsAt w A zs) (hnil : A = none → zs = [] ∧ c = 0) (hlz : zs.length ≤ 9223372036854775807) (hcap : zs.length ≤ c) (x : Int) :
    Calls Try.prog 6 #[.slice A zs.length c, .int .i64 x] w fun e w' => e = .returned (.bool true) ∧ Below w.heap.size w w' := by
  by_cases hbig : 60 < zs.length
  · go_enter Try.func6, Try.ntmps6
    go_wp2_with (go_at_call 15; refine (awake_any _).mono ?_; rintro e w' ⟨rfl, hb⟩)
    go_ret
    exact ⟨rfl, hb⟩
  · obtain ⟨i0, hi, hz0, hz1, hz2⟩ := info_parts infoInt
    have hmade : (w.alloc (.cells #[] 3)).ownsRow w.heap.size 3 1 (.slice (some ⟨w.heap.size, 0, none⟩) 0 0) 0 [] := World.ownsRow_made w #[] 0 (Nat.le_refl _) (Nat.zero_le _) rfl
    have hr1 := hr.below ((Below.refl w.heap.size w).alloc (Nat.le_refl _) (.cells #[] 3))
    have HM := Lib.hid hmade
    have HR1 := Lib.hid hr1
    have HR := Lib.hid hr
    have HA := Lib.hid (fun h => (by rw [(hnil h).1]; rfl : zs.length = 0))
    clear hmade hr1 hnil hr
    obtain ⟨n, hn⟩ : ∃ n, zs.length = n := ⟨_, rfl⟩
    rw [hn] at HA hbig hcap ⊢
    have HN := Lib.hid hn
    have hicl : (icl zs).length = n * 1 := by rw [Nat.mul_one, ← hn]; simp [icl]
    have HSELF := Lib.hid (fun A B c d W h1 h2 => same_ints A B zs c d W h1 h2 (by omega))
    rw [hn] at HSELF
    clear hn
    go_enter Try.func6, Try.ntmps6
    go_wp2_with (at_builtin; refine wpList_append_src _ rfl _ _ 22 rfl w.heap.size 3 i0 (.int .i64 0) 1 8 Try.underlying22 hi hz0 hz1 hz2 rfl (by decide) _ _ _ rfl HM.out A n c (icl zs) rfl hicl HA.out (fun ad had => (had ▸ HR1.out : IntsAt _ (some ad) zs).news) (ints_one _) (by unfold maxLen; omega) (by omega) (by simp) ?_)
    intro v' w2 hown' hgrow
    have hown2 : w2.ownsRow w.heap.size 3 1 v' n (icl zs) := by simpa [icl] using hown'
    have hb2 : Below w.heap.size w w2 := ((Below.refl w.heap.size w).alloc (Nat.le_refl _) _).grown hgrow (by simp) (fun g hg => by simp [Value.ownBlock] at hg; omega)
    obtain ⟨A', c', rfl, hr'⟩ := intsAt_icl hown2 HN.out
    have hcap2 := own_cap hown2
    have HO2 := Lib.hid hr'
    have HC2 := Lib.hid (HR.out.below hb2)
    have HB2 := Lib.hid hb2
    have HSQ := Lib.hid (seqs_any A' zs x n c' w2 HN.out hr' (by omega) hcap2 (zOf_iso zs x))
    have HRE := Lib.hid (fun W (h : IntsAt W A zs) => rseqs_any A zs x n c W HN.out h (by omega) hcap)
    clear hgrow hown' hown2 hr' hb2 HM HR HR1 HA hi hz0 hz1 hz2 hicl
    go_wp2_with fail
    refine HSQ.out.mono ?_
    rintro e w3 ⟨v, T, X, rfl, hsq, hall, hb3⟩
    obtain ⟨A1, c1, rfl, hat⟩ := hsq.reads
    have hzl : (zOf zs x).length ≤ n := by rw [← HN.out]; exact zOf_le zs x
    have htl : T.length ≤ n := Nat.le_trans (all_len hall) hzl
    have hpl : ∀ r ∈ T, r.p.length ≤ 1000000 := fun r hr => by have := all_sl hall r hr; omega
    obtain ⟨tl, htl2⟩ : ∃ tl, T.length = tl := ⟨_, rfl⟩
    have HTL := Lib.hid htl2
    have HLF := Lib.hid (left_of hsq)
    have HAT := Lib.hid hat
    have HOK := Lib.hid hall.ok
    have HPL := Lib.hid hpl
    have HB3 := Lib.hid hb3
    have HC3 := Lib.hid (HC2.out.below hb3)
    rw [htl2] at htl ⊢
    rw [htl2] at HLF
    clear hsq hall hat hpl hb3 hzl htl2 HSQ
    go_wp2_with fail
    refine (HRE.out _ HC3.out).mono ?_
    rintro e w4 ⟨v2, T2, X2, rfl, hsq2, hok2, hb4⟩
    obtain ⟨A2, c2, rfl, hat2⟩ := hsq2.reads
    obtain rfl := HOK.out.unique hok2
    have HSS := Lib.hid (same_seqs A1 A2 T tl c1 c2 w4 HTL.out (HAT.out.below hb4) hat2 (by omega) HPL.out)
    have HB4 := Lib.hid (HB3.out.trans (hb4.mono HB3.out.size))
    have HLF4 := Lib.hid (HLF.out.below hb4)
    rw [HTL.out]
    clear hsq2 hok2 hb4 hat2 HLF HAT HRE HC3
    go_wp2_with fail
    refine HSS.out.mono ?_
    rintro e w5 ⟨rfl, hb5⟩
    have HB5 := Lib.hid (HB4.out.trans (hb5.mono HB4.out.size))
    have HLF5 := Lib.hid (HLF4.out.below hb5)
    clear hb5 HSS HLF4
    go_wp2_with fail
    go_loopw [7] (fun s7 V => ∃ k : Nat, s7 = .int .i64 k ∧ k ≤ tl ∧ Below w2.heap.size w2 V ∧ Left w2.heap.size V (.slice A1 tl c1) T X k) (fun s7 _ => tl - (RowKit.intOf s7).toNat)
    case atStart => exact ⟨0, rfl, Nat.zero_le _, HB5.out, HLF5.out⟩
    case round =>
      obtain ⟨k, rfl, hk, hbk, hlf⟩ := hrel
      by_cases hlt : k < tl
      · obtain ⟨g, cap, y, w', hv, hcy, hcl, hlf2, hgr, hq⟩ := hlf.next (k := k) (by rw [HTL.out]; exact hlt)
        obtain ⟨rfl, -⟩ : A1 = some ⟨g, 0, none⟩ ∧ True := by injection hv with e1 e2 e3; exact ⟨e1, trivial⟩
        have HB6 := Lib.hid (hbk.grown hgr hbk.size hq)
        have HLF6 := Lib.hid hlf2
        have hki : (0 : Int) ≤ (k : Int) := by omega
        have hki2 : (k : Int) < (tl : Int) := by omega
        have hz : 0 + k * 4 + 3 = k * 4 + 3 := by omega
        clear hbk hlf hlf2 hgr hq hv
        go_wp2_with fail
        go_roundw
        case rel => exact ⟨k + 1, by simp, by omega, HB6.out, HLF6.out⟩
        case measure => simp [RowKit.intOf]; omega
      · obtain rfl : k = tl := by omega
        have HO8 := Lib.hid (HO2.out.below hbk)
        have HC8 := Lib.hid (HC2.out.below hbk)
        have HB8 := Lib.hid (HB2.out.trans (hbk.mono HB2.out.size))
        clear hbk hlf
        go_wp2_with fail
        refine (HSELF.out _ _ _ _ _ HO8.out HC8.out).mono ?_
        rintro e w9 ⟨rfl, hb9⟩
        have HB9 := Lib.hid (HB8.out.trans (hb9.mono HB8.out.size))
        clear hb9
        go_wp2_with fail
        refine (awake_any _).mono ?_
        rintro e w10 ⟨rfl, hb10⟩
        go_wp2
        go_ret
        exact ⟨rfl, HB9.out.trans (hb10.mono HB9.out.size)⟩

set_option maxRecDepth 100000 in
theorem lifted (os : Os) (started : os.Started) (H : Type) (enc : TypeId × Value → H) :
    ReturnsInHanded {} Try.checked os 6 .any (Rows.seqsFoundSpec.pre6 enc Try.prog Try.f6 Rows.seqsFoundRow.domain false) (Rows.seqsFoundSpec.post enc Try.prog Try.f6 false true false false) := by
  refine returnsInHanded_of_change (C := Try.checked) law_own started (by kernel_rfl) Try.func6
    (ChangeSpec.witness6 (enc := enc) (C := Try.checked) false ⟨#[], #[.slice none 0 0, .int .i64 0], []⟩ 8 (by kernel_rfl) (by kernel_rfl) (by kernel_rfl) (by kernel_rfl)) ?_
  intro W base args ds gs before hval0 hW _ _
  have hval : ∀ (j : Nat) t v, Try.f6.params[j]? = some t → args[j]? = some v → Value.okWide Try.prog W .any base t v := hval0
  have hW' := hW
  obtain ⟨p, q, hA0, hV, rfl, hfz, hnd⟩ := hW
  have hA : DataW.TrodAll enc Try.prog W 0 (fun _ => true) true Try.f6.params.toList args.toList ds p := hA0
  rw [Try.params6] at hA hval
  obtain ⟨v0, vs0, d0, ds0, p0, q0, hargs, rfl, rfl, h0, r0⟩ := ChangeShapes.trodAll_cons hA
  obtain ⟨v1, vs1, d1, ds1, p1, q1, rfl, rfl, rfl, h1, r1⟩ := ChangeShapes.trodAll_cons r0
  obtain ⟨rfl, rfl, rfl⟩ := ChangeShapes.trodAll_nil r1
  obtain rfl : args = #[v0, v1] := by cases args; simp_all
  obtain ⟨rfl, rfl⟩ := ChangeShapes.trodVars_none hV
  obtain ⟨A0, zs0, c0, rfl, hr0, hnil0, hl0, hz0, hc0⟩ := open_introwc (hval 0 22 v0 rfl rfl) h0
  obtain ⟨x1, rfl, rfl, rfl, wx1⟩ := open_int Try.underlying3 (hval 1 3 v1 rfl rfl) h1
  refine (walk W A0 zs0 c0 hr0 hnil0 hl0 hc0 x1).mono fun e W' ⟨he, hB⟩ => ?_
  subst he
  exact ⟨_, rfl, law_post hW' rfl rfl (by kernel_rfl) rfl hB⟩

theorem holds : Rows.SeqsFoundSaid :=
  OpenClaim.holds_of_wide 6 Try.f6 rfl rfl rfl rfl rfl rfl rfl ⟨rfl, rfl, rfl, rfl, rfl⟩ rfl rfl rfl rfl rfl (by kernel_rfl) Try.func6 (by kernel_rfl)
    (of_decide_eq_true (by kernel_rfl)) (by unfold Func.isWrapper; first | (rw [if_pos (by decide +kernel)]; kernel_rfl) | (rw [if_neg (by decide +kernel)]; exact ⟨rfl, rfl⟩))
    (fun os started H enc _ => lifted os started H enc)
end Go.Proofs.Ytehndhkcmccpmaa.SeqsFound
