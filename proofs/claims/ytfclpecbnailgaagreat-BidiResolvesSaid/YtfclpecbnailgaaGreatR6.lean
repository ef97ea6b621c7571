/-
  Several texts in one, each with its own remark: BcOf, SlotsKit, WordsKit, WkIs, WkMarks, WkNums, WkBec, WkBtw.
-/
import Derived.Carry
import Derived.ProofKit
import Derived.Below
import Derived.Orders
import Derived.LoopTactic
import Derived.IntWalk
import Derived.Deep.QuietTactic
import Derived.BigQuiet
import Derived.Test.YtfclpecbnailgaaGreatR5
import Derived.Test.YtfclpecbnailgaaGreatR2
import Derived.Test.YtfclpecbnailgaaGreatRows
import Derived.Test.YtfclpecbnailgaaGreatR1

/-
 Proved here: what (bidi.sequence).of returns: a new row of what of a paragraph's list stands at the sequence's places. It leaves what was in memory.
-/
set_option linter.unusedVariables false
namespace Go.Proofs.YtfclpecbnailgaaGreat.Bi
open Go Go.RowKit Go.Lib Go.Proofs.YtfclpecbnailgaaGreat.Cl
/-- A sequence in its paragraph, as a value's cells. -/
def seqCells (a b c : Int) (At B0 B1 B2 B3 : Option Addr) (m ct n0 k0 n1 k1 n2 k2 n3 k3 : Nat) : Array Value := #[.int .i64 a, .int .i64 b, .int .i64 c, .slice At m ct, .slice B0 n0 k0, .slice B1 n1 k1, .slice B2 n2 k2, .slice B3 n3 k3]
theorem pick_step {l : List Int} {p : List Nat} {k : Nat} (h : k < p.length) : (pick l p).take (k + 1) = (pick l p).take k ++ [l.getD p[k] 0] := by
 rw [List.take_succ_eq_append_getElem (by rw [pick_len]; exact h)]
 simp [pick]
theorem take_set (Z : List Int) (k : Nat) (v : Int) (h : k < Z.length) : (Z.set k v).take (k + 1) = Z.take k ++ [v] := by
 rw [List.take_set, List.take_succ_eq_append_getElem h, List.set_append_right _ _ (by simp; omega)]
 simp [Nat.min_eq_left (Nat.le_of_lt h)]
set_option maxHeartbeats 2000000 in
set_option maxRecDepth 100000 in
theorem seqof_any (a b c : Int) (At B0 B1 B2 B3 A : Option Addr) (m ct n0 k0 n1 k1 n2 k2 n3 k3 n cl : Nat) (l : List Int) (p : List Nat) (w : World) (hI : IntsAt w A l) (hP : IntsAt w At (Sq.ns p)) (hl : l.length = n) (hp : p.length = m) (hm : m ≤ 1099511627776) (hn : n ≤ 1099511627776) (hlt : ∀ i ∈ p, i < l.length) :
  Calls Tryz.prog 56 #[.agg (seqCells a b c At B0 B1 B2 B3 m ct n0 k0 n1 k1 n2 k2 n3 k3), .slice A n cl] w fun e w' => ∃ A' c', e = .returned (.slice A' m c') ∧ w'.ownsRow w.heap.size 3 1 (.slice A' m c') m (icl (pick l p)) ∧ Below w.heap.size w w' := by
 obtain ⟨i0, hi0, hq0, hq1, hq2⟩ := info_parts infoInt
 obtain ⟨W1, hW1⟩ : ∃ W1, w.alloc (.cells #[.int .i64 a, .int .i64 b, .int .i64 c, .slice At m ct, .slice B0 n0 k0, .slice B1 n1 k1, .slice B2 n2 k2, .slice B3 n3 k3] 52) = W1 := ⟨_, rfl⟩
 have hb : Below w.heap.size w W1 := by rw [← hW1]; exact (Below.refl _ _).alloc (Nat.le_refl _) _
 have hbox : W1.heap[w.heap.size]? = some (.cells #[.int .i64 a, .int .i64 b, .int .i64 c, .slice At m ct, .slice B0 n0 k0, .slice B1 n1 k1, .slice B2 n2 k2, .slice B3 n3 k3] 52 (0, 0)) := by rw [← hW1]; exact heap_alloc_last _ _
 have hblt : w.heap.size < W1.heap.size := (Array.getElem?_eq_some_iff.1 hbox).1
 have hc3 : W1.cell? ⟨w.heap.size, 3, none⟩ = some (.slice At m ct) := cell_of_row _ _ 3 _ _ _ hbox
 have HC3 := Lib.hid hc3
 have HI := Lib.hid hi0
 have HQ0 := Lib.hid hq0
 have HQ1 := Lib.hid hq1
 have HQ2 := Lib.hid hq2
 have HA := Lib.hid (hI.below hb)
 have HPA := Lib.hid (hP.below hb)
 have HB0 := Lib.hid hb
 have HL := Lib.hid hl
 have HPL := Lib.hid hp
 have HLT := Lib.hid hlt
 have HBL := Lib.hid hblt
 clear hi0 hq0 hq1 hq2 hI hP hl hp hlt hb hbox hblt
 unfold seqCells
 go_enter Tryz.func56, Tryz.ntmps56
 go_wp2_with (refine wpList_make_full _ rfl _ _ 25 rfl W1.heap.size 3 i0 (.int .i64 0) 1 Tryz.underlying25 HI.out HQ0.out HQ1.out .i64 .i64 _ _ m rfl rfl rfl rfl ?c1 ?c2 ?c3 ?_)
 case c1 => rw [HQ2.out]; omega
 case c2 => unfold maxLen; omega
 case c3 => exact Nat.le_refl _
 intro w1 hown hgr
 have hown1 : w1.ownsRow W1.heap.size 3 1 (.slice (some ⟨W1.heap.size, 0, none⟩) m m) m (icl (List.replicate m 0)) := by
  have h := hown
  rw [toList_madeCells_one] at h
  rw [show icl (List.replicate m 0) = List.replicate m (.int .i64 0) from by simp [icl]]
  exact h
 have hb1 : Below W1.heap.size W1 w1 := (Below.refl _ _).grown hgr (Nat.le_refl _) (fun k h => by cases h)
 have HO := Lib.hid hown1
 have HB1 := Lib.hid hb1
 have hd3 : w1.cell? ⟨w.heap.size, 3, none⟩ = some (.slice At m ct) := (hb1.cell (p := ⟨w.heap.size, 3, none⟩) HBL.out).trans HC3.out
 clear hown hgr hown1 hb1 HI HQ0 HQ1 HQ2 hc3 hW1
 go_wp2_with fail
 go_loopw [17] (fun s17 wx => ∃ (k : Nat) (Z : List Int), k ≤ m ∧ s17 = .int .i64 k ∧ Z.take k = (pick l p).take k ∧ Z.length = m ∧ wx.ownsRow W1.heap.size 3 1 (.slice (some ⟨W1.heap.size, 0, none⟩) m m) m (icl Z) ∧ Below W1.heap.size W1 wx) (fun s17 _ => m - (RowKit.intOf s17).toNat)
 case atStart => exact ⟨0, List.replicate m 0, Nat.zero_le _, rfl, rfl, by simp, HO.out, HB1.out⟩
 case round =>
  obtain ⟨k, Z, hk, rfl, hz, hzl, hown, hb⟩ := hrel
  have HZ := Lib.hid hz
  have HZL := Lib.hid hzl
  have HW := Lib.hid hown
  have HB := Lib.hid hb
  clear hz hown HO HB1 hd3
  by_cases hlt : k < m
  ·have hkp : k < p.length := by rw [HPL.out]; exact hlt
   have hkn : k < (Sq.ns p).length := by rw [Sq.ns_len]; exact hkp
   have hkl : k < Z.length := by rw [HZL.out]; exact hlt
   have hpl := HLT.out _ (List.getElem_mem hkp)
   obtain ⟨g2, off2, rfl, hc2⟩ := (HPA.out.below hb).at_ hkn
   obtain ⟨g1, off1, rfl, hc1⟩ := (HA.out.below hb).at_ hpl
   have hns : (Sq.ns p)[k] = ((p[k] : Nat) : Int) := by simp [Sq.ns]
   rw [hns] at hc2
   have hcr : wr.cell? ⟨W1.heap.size, k, none⟩ = some (.int .i64 Z[k]) := by
    rw [HW.out.cellAt _ (by omega)]
    simp [icl, hkl]
   have hfr := HW.out.frozenAt k
   have hgd : l.getD p[k] 0 = l[p[k]] := by simp [List.getD, List.getElem?_eq_getElem hpl]
   have hmt := pick_step (l := l) hkp
   rw [hgd] at hmt
   obtain ⟨h1, h2⟩ := HW.out.stored k (.int .i64 l[p[k]])
   rw [show (icl Z).set k (.int .i64 l[p[k]]) = icl (Z.set k l[p[k]]) from by simp [icl]] at h1
   have HST := Lib.hid (take_set Z k l[p[k]] hkl)
   have HMT := Lib.hid hmt
   have hpn : p[k] < n := by rw [← HL.out]; exact hpl
   generalize l[p[k]] = v at *
   generalize Z[k] = y at *
   generalize p[k] = q at *
   have HOW := Lib.hid h1
   have hk0 : (0 : Int) ≤ (k : Int) := by omega
   have hk1 : (k : Int) < (m : Int) := by omega
   have hq0 : (0 : Int) ≤ (q : Int) := by omega
   have hq1 : (q : Int) < (n : Int) := by omega
   clear h1 h2 hkp hkn hkl hb hzl hmt hgd hns hpl
   go_wp2_with fail
   go_roundw
   case rel => exact ⟨k + 1, Z.set k v, by omega, by go_num, by rw [HST.out, HMT.out, HZ.out], by rw [List.length_set]; exact HZL.out, HOW.out, HB.out.setCell (p := ⟨W1.heap.size, k, none⟩) (Nat.le_refl _) _⟩
   case measure => simp [RowKit.intOf]; omega
  ·obtain rfl : k = m := by omega
   have HE := Lib.hid (show Z = pick l p from by
    have h := HZ.out
    rw [List.take_of_length_le (by rw [hzl]; exact Nat.le_refl _), List.take_of_length_le (by rw [pick_len, HPL.out]; exact Nat.le_refl _)] at h
    exact h)
   have hs0 := HB0.out.size
   clear hb hzl
   go_wp2_with fail
   go_ret
   exact ⟨_, _, rfl, by rw [← HE.out]; exact ownsRow_mono HW.out hs0, HB0.out.trans (HB.out.mono hs0)⟩
end Go.Proofs.YtfclpecbnailgaaGreat.Bi

/-
 A region that draws its order, whose operations all yield (no store, no guard) and may make memory: each operation's word on what its slot holds, under what the slots hold that it waits for, is enough, whatever order is drawn: no branching over orders. No program in it.
-/
set_option linter.unusedVariables false
namespace Go.Proofs.YtfclpecbnailgaaGreat.Slots
open Go Go.RowKit
/-- Each operation has a slot of its own, below N, no guard, and waits for earlier ones alone. -/
def okRegion (ops : Array Oper) (N : Nat) : Bool :=
 (List.range ops.size).all fun i => match ops[i]? with
  | none => true
  | some o => o.guard.isNone && o.after.all (fun e => decide (e.on < i)) && match o.dst with
   | none => false
   | some d => decide (d < N) && (List.range i).all fun j => (ops[j]?).bind (·.dst) != some d
theorem okRegion_spec {ops : Array Oper} {N : Nat} (h : okRegion ops N = true) {i : Nat} {o : Oper} (ho : ops[i]? = some o) :
  o.guard = none ∧ (∀ e ∈ o.after, e.on < i) ∧ ∃ d, o.dst = some d ∧ d < N ∧ ∀ j, j < i → ∀ o', ops[j]? = some o' → o'.dst ≠ some d := by
 have hi : i < ops.size := (Array.getElem?_eq_some_iff.1 ho).1
 have h1 := List.all_eq_true.1 h i (List.mem_range.2 hi)
 simp only [ho, Bool.and_eq_true] at h1
 obtain ⟨⟨h2, h3⟩, h4⟩ := h1
 refine ⟨by simpa using h2, fun e he => by simpa using (Array.all_eq_true_iff_forall_mem.1 h3) e he, ?_⟩
 cases hd : o.dst with
 | none => rw [hd] at h4; cases h4
 | some d =>
  rw [hd] at h4
  simp only [Bool.and_eq_true] at h4
  refine ⟨d, rfl, by simpa using h4.1, fun j hj o' ho' e => ?_⟩
  have := List.all_eq_true.1 h4.2 j (List.mem_range.2 hj)
  simp [ho', e] at this
def slotOf (ops : Array Oper) (a : Act) (i : Nat) : Value := match (ops[i]?).bind (·.dst) with
 | some d => a.tmps.getD d undef
 | none => undef
/-- Does an operation wait for that one, or for one that does (within so many steps)? -/
def waitsOn (md : Region.Mode) (ops : Array Oper) : Nat → Nat → Nat → Bool
 | 0, _, _ => false
 | k + 1, j, i => match ops[j]? with
  | none => false
  | some o => o.after.any fun e => Region.binds md e && (e.on == i || waitsOn md ops k e.on i)
theorem waits_listed {md : Region.Mode} {ops : Array Oper} {listed : Array Bool} (hc : ∀ j o, ops[j]? = some o → listed.getD j false = true → ∀ e ∈ o.after, Region.binds md e = true → listed.getD e.on false = true) :
  ∀ (k j i : Nat), waitsOn md ops k j i = true → listed.getD j false = true → listed.getD i false = true
 | 0, _, _, h, _ => by cases h
 | k + 1, j, i, h, hl => by
  unfold waitsOn at h
  cases ho : ops[j]? with
  | none => rw [ho] at h; cases h
  | some o =>
   rw [ho] at h
   simp only [Array.any_eq_true'] at h
   obtain ⟨e, he, h2⟩ := h
   simp only [Bool.and_eq_true, Bool.or_eq_true, beq_iff_eq] at h2
   have h3 := hc j o ho hl e he h2.1
   rcases h2.2 with rfl | h4
   ·exact h3
   ·exact waits_listed hc k e.on i h4 h3
/-- What the region's slots do not reach is as it was. -/
structure SameBut (ops : Array Oper) (a0 a : Act) : Prop where
 size : a.tmps.size = a0.tmps.size
 defers : a.defers = a0.defers
 slot : ∀ t, (ops.all fun o => o.dst != some t) = true → a.tmps.getD t undef = a0.tmps.getD t undef
theorem SameBut.refl (ops : Array Oper) (a : Act) : SameBut ops a a := ⟨rfl, rfl, fun _ _ => rfl⟩
theorem SameBut.put {ops : Array Oper} {a0 a : Act} (h : SameBut ops a0 a) {i : Nat} {o : Oper} (ho : ops[i]? = some o) (v : Value) : SameBut ops a0 (a.put o.dst v) := by
 cases hd : o.dst with
 | none => exact h
 | some d =>
  refine ⟨by simp [Act.put, h.size], h.defers, fun t ht => ?_⟩
  rw [← h.slot t ht]
  have hne : d ≠ t := by
   intro e
   have h1 := (Array.all_eq_true_iff_forall_mem.1 ht) o (Array.mem_of_getElem? ho)
   simp [hd, e] at h1
  simp only [Act.put]
  simp [Array.getElem?_setIfInBounds_ne hne]
section
variable {P : Program} {ops : Array Oper} {Q : Exit → Act → World → Prop} {md : Region.Mode} {Φ : Nat → Value → World → Prop} {a0 : Act} {w0 : World}
theorem ready_nil {N : Nat} (hok : okRegion ops N = true) {listed : Array Bool} (hs : listed.size = ops.size) (hr : Region.ready md ops listed = []) : ∀ i, i < ops.size → listed.getD i false = true := by
 intro i
 induction i using Nat.strongRecOn with
 | _ i ih =>
  intro hi
  obtain ⟨o, ho⟩ : ∃ o, ops[i]? = some o := ⟨_, Array.getElem?_eq_getElem hi⟩
  obtain ⟨-, hb, -⟩ := okRegion_spec hok ho
  cases hl : listed.getD i false with
  | true => rfl
  | false =>
   have hm : i ∈ Region.ready md ops listed := by
    rw [mem_ready]
    refine ⟨?_, o, ho, fun e he _ => ih e.on (hb e he) (by have := hb e he; omega)⟩
    have h1 : i < listed.size := by omega
    simp [h1] at hl ⊢
    exact hl
   rw [hr] at hm
   cases hm
theorem slots_go {N : Nat} (hok : okRegion ops N = true) (hN : a0.tmps.size = N)
  (stable : ∀ i v w w', Φ i v w → Below w.heap.size w w' → Φ i v w')
  (step : ∀ i o, ops[i]? = some o → ∀ a w, SameBut ops a0 a → Below w0.heap.size w0 w → (∀ e ∈ o.after, Region.binds md e = true → Φ e.on (slotOf ops a e.on) w) →
   (∀ k j d, (ops[j]?).bind (·.dst) = some d → waitsOn md ops k j i = true → a.tmps.getD d undef = a0.tmps.getD d undef) →
   ∀ K : Act → World → Prop, Hid (∀ v w', Φ i v w' → Below w.heap.size w w' → K (a.put o.dst v) w') → o.wp P a w K Q)
  (done : ∀ a w, SameBut ops a0 a → Below w0.heap.size w0 w → (∀ i, i < ops.size → Φ i (slotOf ops a i) w) → Q .normal a w) :
  ∀ (fuel : Nat) (listed : Array Bool) (a : Act) (w : World), SameBut ops a0 a → Below w0.heap.size w0 w → listed.size = ops.size → (∀ i, listed.getD i false = true → Φ i (slotOf ops a i) w) → (∀ j o, ops[j]? = some o → listed.getD j false = true → ∀ e ∈ o.after, Region.binds md e = true → listed.getD e.on false = true) → (∀ j d, (ops[j]?).bind (·.dst) = some d → listed.getD j false = false → a.tmps.getD d undef = a0.tmps.getD d undef) → listed.toList.count false ≤ fuel → wpAny P md ops Q fuel listed a w := by
 intro fuel
 induction fuel with
 | zero =>
  intro listed a w hs hb hsz hf hcl hun hc
  have hno : ∀ j, j < listed.size → listed.getD j false = true := by
   intro j hj
   have h0 : listed.toList.count false = 0 := by omega
   rw [List.count_eq_zero] at h0
   cases hl : listed.getD j false with
   | true => rfl
   | false =>
    exfalso
    simp [hj] at hl
    exact h0 (by rw [← hl]; simp)
  refine ⟨?_, done a w hs hb (fun i hi => hf i (hno i (by omega)))⟩
  cases hr : Region.ready md ops listed with
  | nil => rfl
  | cons j t =>
   have hm : j ∈ Region.ready md ops listed := by rw [hr]; simp
   rw [mem_ready] at hm
   obtain ⟨h0, o, ho, -⟩ := hm
   have hj : j < ops.size := (Array.getElem?_eq_some_iff.1 ho).1
   have h1 := hno j (by omega)
   have h2 : j < listed.size := by omega
   simp [h2] at h0 h1
   rw [h0] at h1
   cases h1
 | succ fuel ih =>
  intro listed a w hs hb hsz hf hcl hun hc
  refine ⟨fun hr => done a w hs hb (fun i hi => hf i (ready_nil hok hsz hr i hi)), fun i hi => ?_⟩
  rw [mem_ready] at hi
  obtain ⟨h0, o, ho, hall⟩ := hi
  obtain ⟨hg, -, d, hd, hdN, hdist⟩ := okRegion_spec hok ho
  have hio : i < ops.size := (Array.getElem?_eq_some_iff.1 ho).1
  have hil : i < listed.size := by omega
  have hw : Region.wanted o (yielded ops a.tmps) = true := by simp [Region.wanted, hg]
  have h1 := step i o ho a w hs hb (fun e he hbd => hf e.on (hall e he hbd)) (fun k j d hj hw2 => hun j d hj (by
   cases hl : listed.getD j false with
   | false => rfl
   | true =>
    have := waits_listed hcl k j i hw2 hl
    simp [hil] at h0 this
    rw [h0] at this
    cases this)) (wpAny P md ops Q fuel (listed.setIfInBounds i true)) (by
   intro v w' hv hbw
   refine ih _ _ _ (hs.put ho v) (hb.trans (hbw.mono hb.size)) (by simpa using hsz) (fun j hj => ?_) (fun j oj hoj hj e he hbd => ?_) (fun j dj hdj hj => ?_) ?_
   ·by_cases hji : j = i
    ·subst hji
     have : slotOf ops (a.put o.dst v) j = v := by
      unfold slotOf
      simp only [ho, Option.bind_some, hd, Act.put]
      have : d < a.tmps.size := by rw [hs.size, hN]; exact hdN
      simp [this]
     rw [this]
     exact hv
    ·rw [getD_set_ne false (Ne.symm hji)] at hj
     have hsl : slotOf ops (a.put o.dst v) j = slotOf ops a j := by
      unfold slotOf
      cases hoj : ops[j]? with
      | none => rfl
      | some oj =>
       obtain ⟨-, -, dj, hdj, -, hdist'⟩ := okRegion_spec hok hoj
       simp only [Option.bind_some, hdj, hd, Act.put]
       have hne : d ≠ dj := by
        intro e
        rcases Nat.lt_or_gt_of_ne hji with h | h
        ·exact hdist j h oj hoj (by rw [hdj, e])
        ·exact hdist' i h o ho (by rw [hd, e])
       simp [Array.getElem?_setIfInBounds_ne hne]
     rw [hsl]
     exact stable j _ _ _ (hf j hj) hbw
   ·by_cases hei : e.on = i
    ·rw [hei]
     simp [hil]
    ·rw [getD_set_ne false (Ne.symm hei)]
     by_cases hji : j = i
     ·subst hji
      rw [ho] at hoj
      obtain rfl := Option.some.inj hoj
      exact hall e he hbd
     ·rw [getD_set_ne false (Ne.symm hji)] at hj
      exact hcl j oj hoj hj e he hbd
   ·by_cases hji : j = i
    ·subst hji
     simp [hil] at hj
    ·rw [getD_set_ne false (Ne.symm hji)] at hj
     rw [← hun j dj hdj hj]
     cases hoj : ops[j]? with
     | none => rw [hoj] at hdj; cases hdj
     | some oj =>
      obtain ⟨-, -, dj', hdj', -, hdist'⟩ := okRegion_spec hok hoj
      rw [hoj] at hdj
      simp only [Option.bind_some] at hdj
      have hne : d ≠ dj := by
       intro e
       rcases Nat.lt_or_gt_of_ne hji with h | h
       ·exact hdist j h oj hoj (by rw [hdj, e])
       ·rw [hdj] at hdj'
        injection hdj' with hdj'
        exact hdist' i h o ho (by rw [hd, e, hdj'])
      simp only [hd, Act.put]
      simp [Array.getElem?_setIfInBounds_ne hne]
   ·have hli : listed.toList[i]'(by simpa using hil) = false := by
     simp [hil] at h0
     simpa using h0
    rw [Array.toList_setIfInBounds, List.count_set (by simpa using hil), hli]
    simp
    have hpos : 0 < listed.toList.count false := List.count_pos_iff.2 (by rw [← hli]; exact List.getElem_mem _)
    have : Array.count false listed = listed.toList.count false := (Array.count_toList ..).symm
    omega)
  unfold wpOp
  simp only [ho, hw, if_true]
  exact .inl h1
theorem wp_region_slotsU {id : Nat} {w : World} {N : Nat} (hm : P.follows .mixedOrders = true) (hok : okRegion ops N = true) (hN : a0.tmps.size = N)
  (stable : ∀ i v w w', Φ i v w → Below w.heap.size w w' → Φ i v w')
  (step : ∀ i o, ops[i]? = some o → ∀ a wx, SameBut ops a0 a → Below w.heap.size w wx → (∀ e ∈ o.after, Region.binds .any e = true → Φ e.on (slotOf ops a e.on) wx) →
   (∀ k j d, (ops[j]?).bind (·.dst) = some d → waitsOn .any ops k j i = true → a.tmps.getD d undef = a0.tmps.getD d undef) →
   ∀ K : Act → World → Prop, Hid (∀ v w', Φ i v w' → Below wx.heap.size wx w' → K (a.put o.dst v) w') → o.wp P a wx K Q)
  (done : ∀ a wx, SameBut ops a0 a → Below w.heap.size w wx → (∀ i, i < ops.size → Φ i (slotOf ops a i) wx) → Q .normal a wx) :
  (Code.region id ops true).wp P Q a0 w := by
 refine wp_region_any hm ?_
 have hb0 : Below w.heap.size w ({ w with drawn := w.drawn + 1 } : World) := ⟨rfl, rfl, rfl, Nat.le_refl _, fun _ _ => rfl⟩
 refine slots_go (w0 := w) hok hN stable step done _ _ _ _ (SameBut.refl _ _) hb0 (by simp) (fun i hi => ?_) (fun j o ho hj => ?_) (fun _ _ _ _ => rfl) ?_
 ·exfalso
  by_cases h : i < ops.size <;> simp [h] at hi
 ·exfalso
  by_cases h : j < ops.size <;> simp [h] at hj
 ·refine Nat.le_trans List.count_le_length ?_
  simp
theorem wp_region_slots {id : Nat} {w : World} {N : Nat} (hm : P.follows .mixedOrders = true) (hok : okRegion ops N = true) (hN : a0.tmps.size = N)
  (stable : ∀ i v w w', Φ i v w → Below w.heap.size w w' → Φ i v w')
  (step : ∀ i o, ops[i]? = some o → ∀ a wx, SameBut ops a0 a → Below w.heap.size w wx → (∀ e ∈ o.after, Region.binds .any e = true → Φ e.on (slotOf ops a e.on) wx) →
   ∀ K : Act → World → Prop, Hid (∀ v w', Φ i v w' → Below wx.heap.size wx w' → K (a.put o.dst v) w') → o.wp P a wx K Q)
  (done : ∀ a wx, SameBut ops a0 a → Below w.heap.size w wx → (∀ i, i < ops.size → Φ i (slotOf ops a i) wx) → Q .normal a wx) :
  (Code.region id ops true).wp P Q a0 w :=
 wp_region_slotsU hm hok hN stable (fun i o ho a wx hs hb hd _ => step i o ho a wx hs hb hd) done
end
end Go.Proofs.YtfclpecbnailgaaGreat.Slots

/-
 A region that draws its order, told operation by operation, over frames that are written out: of the frame ahead each operation's slot alone has changed, and holds what its word says. No program in it.
-/
set_option linter.unusedVariables false
namespace Go.Proofs.YtfclpecbnailgaaGreat.Words
open Go Go.RowKit Go.Proofs.YtfclpecbnailgaaGreat.Slots
theorem foldl_set (f : Nat → Value) : ∀ (ds : List Nat) (arr : Array Value) (i : Nat), (ds.foldl (fun t d => t.setIfInBounds d (f d)) arr)[i]? = if i ∈ ds then (if i < arr.size then some (f i) else none) else arr[i]?
 | [], arr, i => by simp
 | d :: ds, arr, i => by
  rw [List.foldl_cons, foldl_set f ds, Array.size_setIfInBounds, Array.getElem?_setIfInBounds]
  by_cases h1 : i ∈ ds
  ·rw [if_pos h1, if_pos (List.mem_cons_of_mem _ h1)]
  ·rw [if_neg h1]
   by_cases h2 : d = i
   ·subst h2
    rw [if_pos rfl, if_pos (List.mem_cons_self ..)]
   ·rw [if_neg h2, if_neg (fun h => by rcases List.mem_cons.1 h with e | e; exact h2 e.symm; exact h1 e)]
theorem sameBut_sets {ops : Array Oper} {a0 a : Act} (h : SameBut ops a0 a) (ds : List Nat) (hds : ops.toList.filterMap (·.dst) = ds) :
  a = ⟨ds.foldl (fun t d => t.setIfInBounds d (a.tmps.getD d undef)) a0.tmps, a0.defers⟩ := by
 have hds' : ∀ t, t ∉ ds → (ops.all fun o => o.dst != some t) = true := fun t ht => by
  rw [Array.all_eq_true_iff_forall_mem]
  intro o ho
  simp only [bne_iff_ne, ne_eq]
  intro e
  exact ht (by rw [← hds]; exact List.mem_filterMap.2 ⟨o, by simpa using ho, e⟩)
 obtain ⟨arr, df⟩ := a
 obtain ⟨hs, hd, hsl⟩ := h
 simp only at hs hd hsl ⊢
 subst hd
 congr 1
 apply Array.ext_getElem?
 intro i
 rw [foldl_set (fun d => arr.getD d undef)]
 by_cases hi : i < arr.size
 ·by_cases h1 : i ∈ ds
  ·rw [if_pos h1, if_pos (by omega), Array.getElem?_eq_getElem hi]
   simp [hi]
  ·rw [if_neg h1]
   have := hsl i (hds' i h1)
   rw [Array.getElem?_eq_getElem hi, Array.getElem?_eq_getElem (by omega)]
   simp [hi, show i < a0.tmps.size by omega] at this
   rw [this]
 ·rw [Array.getElem?_eq_none (by omega)]
  by_cases h1 : i ∈ ds
  ·rw [if_pos h1, if_neg (by omega)]
  ·rw [if_neg h1, Array.getElem?_eq_none (by omega)]
/-- The frame, of which these slots hold what f says. -/
def setF (a0 : Act) (ds : List Nat) (f : Nat → Value) : Act := ⟨ds.foldl (fun t d => t.setIfInBounds d (f d)) a0.tmps, a0.defers⟩
/-- The value of an operation's slot. -/
def slotF (ops : Array Oper) (f : Nat → Value) (i : Nat) : Value := match (ops[i]?).bind (·.dst) with
 | some d => f d
 | none => undef
theorem wp_region_wordsU {P : Program} {ops : Array Oper} {Q : Exit → Act → World → Prop} {Φ : Nat → Value → World → Prop} {a0 : Act} {id : Nat} {w : World} {N : Nat} (ds : List Nat) (hm : P.follows .mixedOrders = true) (hok : okRegion ops N = true) (hN : a0.tmps.size = N) (hds : ops.toList.filterMap (·.dst) = ds)
  (stable : ∀ i v w w', Φ i v w → Below w.heap.size w w' → Φ i v w')
  (step : ∀ i o, ops[i]? = some o → ∀ (f : Nat → Value) wx, Below w.heap.size w wx → (∀ e ∈ o.after, Region.binds .any e = true → Φ e.on (slotF ops f e.on) wx) →
   (∀ k j d, (ops[j]?).bind (·.dst) = some d → waitsOn .any ops k j i = true → f d = a0.tmps.getD d undef) →
   ∀ K : Act → World → Prop, Hid (∀ v w', Φ i v w' → Below wx.heap.size wx w' → K ((setF a0 ds f).put o.dst v) w') → o.wp P (setF a0 ds f) wx K Q)
  (done : ∀ (f : Nat → Value) wx, Below w.heap.size w wx → (∀ i, i < ops.size → Φ i (slotF ops f i) wx) → Q .normal (setF a0 ds f) wx) :
  (Code.region id ops true).wp P Q a0 w := by
 refine wp_region_slotsU (Φ := Φ) hm hok hN stable (fun i o ho a wx hs hb hd hw K hK => ?_) (fun a wx hs hb hall => ?_)
 ·have e := sameBut_sets hs ds hds
  have hd' : ∀ e ∈ o.after, Region.binds .any e = true → Φ e.on (slotF ops (fun d => a.tmps.getD d undef) e.on) wx := fun e he hbd => hd e he hbd
  have := step i o ho (fun d => a.tmps.getD d undef) wx hb hd' hw K
  unfold setF at this
  rw [← e] at this
  exact this hK
 ·have e := sameBut_sets hs ds hds
  have hall' : ∀ i, i < ops.size → Φ i (slotF ops (fun d => a.tmps.getD d undef) i) wx := fun i hi => hall i hi
  have := done (fun d => a.tmps.getD d undef) wx hb hall'
  unfold setF at this
  rw [← e] at this
  exact this
theorem wp_region_words {P : Program} {ops : Array Oper} {Q : Exit → Act → World → Prop} {Φ : Nat → Value → World → Prop} {a0 : Act} {id : Nat} {w : World} {N : Nat} (ds : List Nat) (hm : P.follows .mixedOrders = true) (hok : okRegion ops N = true) (hN : a0.tmps.size = N) (hds : ops.toList.filterMap (·.dst) = ds)
  (stable : ∀ i v w w', Φ i v w → Below w.heap.size w w' → Φ i v w')
  (step : ∀ i o, ops[i]? = some o → ∀ (f : Nat → Value) wx, Below w.heap.size w wx → (∀ e ∈ o.after, Region.binds .any e = true → Φ e.on (slotF ops f e.on) wx) →
   ∀ K : Act → World → Prop, Hid (∀ v w', Φ i v w' → Below wx.heap.size wx w' → K ((setF a0 ds f).put o.dst v) w') → o.wp P (setF a0 ds f) wx K Q)
  (done : ∀ (f : Nat → Value) wx, Below w.heap.size w wx → (∀ i, i < ops.size → Φ i (slotF ops f i) wx) → Q .normal (setF a0 ds f) wx) :
  (Code.region id ops true).wp P Q a0 w :=
 wp_region_wordsU ds hm hok hN hds stable (fun i o ho f wx hb hd _ => step i o ho f wx hb hd) done
end Go.Proofs.YtfclpecbnailgaaGreat.Words

/-
 Proved here: what slices.Index, slices.Contains and weak's isOf return, for a row of ints of at most 2^40: whether the number is in it. They change nothing.
-/
set_option linter.unusedVariables false
namespace Go.Proofs.YtfclpecbnailgaaGreat.Wk
open Go Go.RowKit Go.Lib Go.Proofs.YtfclpecbnailgaaGreat.Cl
set_option maxHeartbeats 1000000 in
set_option maxRecDepth 100000 in
theorem index_any (A : Option Addr) (zs : List Int) (n c : Nat) (z : Int) (w : World) (hR : IntsAt w A zs) (hl : zs.length = n) (hn : n ≤ 1099511627776) :
  Calls Tryz.prog 180 #[.slice A n c, .int .i64 z] w fun e w' => (∃ i : Int, e = .returned (.int .i64 i) ∧ decide (0 ≤ i) = decide (z ∈ zs)) ∧ w' = w := by
 have HR := Lib.hid hR
 have HL := Lib.hid hl
 clear hR hl
 go_enter Tryz.func180, Tryz.ntmps180
 go_wp2_with fail
 go_loopw [8] (fun s8 wx => ∃ k : Nat, k ≤ n ∧ s8 = .int .i64 k ∧ wx = w ∧ z ∉ zs.take k) (fun s8 _ => n - (RowKit.intOf s8).toNat)
 case atStart => exact ⟨0, Nat.zero_le _, rfl, rfl, by simp⟩
 case round =>
  obtain ⟨k, hk, rfl, rfl, hno⟩ := hrel
  have HNO := Lib.hid hno
  clear hno
  by_cases hlt : k < n
  ·have hkz : k < zs.length := by rw [HL.out]; exact hlt
   obtain ⟨b, off, rfl, hc⟩ := HR.out.at_ hkz
   obtain ⟨x, hx⟩ : ∃ x, zs[k] = x := ⟨_, rfl⟩
   have HX := Lib.hid hx
   rw [hx] at hc
   clear hx
   by_cases he : z = x
   ·have hb : (z == x) = true := by simpa using he
    have HM := Lib.hid (show z ∈ zs from by rw [he, ← HX.out]; exact List.getElem_mem hkz)
    clear HX he hkz
    go_wp2
    go_ret
    exact ⟨⟨(k : Int), rfl, by rw [decide_eq_true HM.out, decide_eq_true (Int.natCast_nonneg k)]⟩, rfl⟩
   ·have hb : (z == x) = false := by simpa using he
    have HM := Lib.hid (show z ∉ zs.take (k + 1) from by
     rw [List.take_succ_eq_append_getElem hkz, HX.out]
     simp only [List.mem_append, List.mem_singleton, not_or]
     exact ⟨HNO.out, he⟩)
    clear HX he hkz
    go_wp2
    go_roundw
    case rel => exact ⟨k + 1, by omega, by go_num, by first | rfl | trivial, HM.out⟩
    case measure => simp [RowKit.intOf]; omega
  ·obtain rfl : k = n := by omega
   go_wp2
   go_ret
   refine ⟨⟨-1, rfl, ?_⟩, rfl⟩
   have hz : z ∉ zs := by
    have := HNO.out
    rwa [← HL.out, List.take_length] at this
   rw [decide_eq_false hz]
   rfl
set_option maxHeartbeats 1000000 in
set_option maxRecDepth 100000 in
theorem contains_any (A : Option Addr) (zs : List Int) (n c : Nat) (z : Int) (w : World) (hR : IntsAt w A zs) (hl : zs.length = n) (hn : n ≤ 1099511627776) :
  Calls Tryz.prog 168 #[.slice A n c, .int .i64 z] w fun e w' => e = .returned (.bool (decide (z ∈ zs))) ∧ w' = w := by
 have H := Lib.hid (index_any A zs n c z w hR hl hn)
 clear hR hl
 go_enter Tryz.func168, Tryz.ntmps168
 go_wp2_with fail
 refine H.out.mono ?_
 rintro e w' ⟨⟨i, rfl, hi⟩, rfl⟩
 have HI := Lib.hid hi
 clear hi
 go_wp2
 go_ret
 exact ⟨by first | rfl | (rw [HI.out]; rfl), rfl⟩
set_option maxHeartbeats 1000000 in
set_option maxRecDepth 100000 in
theorem isOf_any (A : Option Addr) (zs : List Int) (n c : Nat) (z : Int) (w : World) (hR : IntsAt w A zs) (hl : zs.length = n) (hn : n ≤ 1099511627776) :
  Calls Tryz.prog 157 #[.int .i64 z, .slice A n c] w fun e w' => e = .returned (.bool (decide (z ∈ zs))) ∧ w' = w := by
 have H := Lib.hid (contains_any A zs n c z w hR hl hn)
 clear hR hl
 go_enter Tryz.func157, Tryz.ntmps157
 go_wp2_with fail
 refine H.out.mono ?_
 rintro e w' ⟨rfl, rfl⟩
 go_wp2
 go_ret
 exact ⟨rfl, rfl⟩
end Go.Proofs.YtfclpecbnailgaaGreat.Wk

/-
 Proved here: weak's marks, called on a sequence: what the row holds then (the plain marks). Nothing else of memory changes.
-/
set_option linter.unusedVariables false
namespace Go.Proofs.YtfclpecbnailgaaGreat.Wk
open Go Go.RowKit Go.Lib Go.Proofs.YtfclpecbnailgaaGreat.Cl
theorem mem_iso (a : Int) : decide (a ∈ [(19 : Int), 20, 21, 22]) = iso a := by
 simp only [List.mem_cons, List.not_mem_nil, or_false, iso, Bool.decide_or, Bool.or_assoc]
theorem nx_yes {a : Int} (h : iso a = true) : nx a = 13 := by unfold nx; rw [if_pos h]
theorem nx_no {a : Int} (h : iso a = false) : nx a = a := by unfold nx; rw [if_neg (by rw [h]; decide)]
set_option maxHeartbeats 2000000 in
set_option maxRecDepth 100000 in
theorem marks_any (base : Nat) (A : Option Addr) (n c : Nat) (s : Int) (l : List Int) (w : World) (hown : w.ownsRow base 3 1 (.slice A n c) n (icl l)) (hn : n ≤ 1099511627776) :
  Calls Tryz.prog 134 #[.agg #[.slice A n c, .int .i64 s]] w fun e W' => e = .returned (.tuple #[]) ∧ Row base A n c w (marks s l) W' := by
 have hrow := (Row.start hown).alloc (.cells #[.slice A n c, .int .i64 s] 119)
 have hlt : ∀ k, (Value.slice A n c).ownBlock = some k → k < w.heap.size := fun k hk => (hown.lt k hk).2
 have hne : some w.heap.size ≠ (Value.slice A n c).ownBlock := fun e => by have := hlt _ e.symm; omega
 have HW := Lib.hid hrow
 have HNE := Lib.hid hne
 have HLT := Lib.hid hlt
 have H0 := Lib.hid (show Row base A n c (w.alloc (.cells #[.slice A n c, .int .i64 s] 119)) l (w.alloc (.cells #[.slice A n c, .int .i64 s] 119)) from Row.start hrow.own)
 have C0 := Lib.hid (show (w.alloc (.cells #[.slice A n c, .int .i64 s] 119)).cell? ⟨w.heap.size, 0, none⟩ = some (.slice A n c) from by simp)
 have hll := Lib.hid hrow.len
 have HG := Lib.hid hrow.gr
 clear hown hrow hne hlt
 go_enter Tryz.func134, Tryz.ntmps134
 go_wp2_with fail
 obtain ⟨b, hb⟩ : ∃ b, w.heap.size = b := ⟨_, rfl⟩
 rw [hb] at C0 HNE HLT ⊢
 generalize hw1 : w.alloc (.cells #[.slice A n c, .int .i64 s] 119) = w1 at *
 go_loopw [2, 10] (fun s2 s10 wx => ∃ (d r : List Int) (a : Int) (k : Nat), d.length = k ∧ (d ++ r).length = n ∧ s2 = .int .i64 a ∧ s10 = .int .i64 k ∧ Row base A n c w1 (d ++ r) wx ∧ d ++ marks a r = marks s l) (fun _ s10 _ => n - (RowKit.intOf s10).toNat)
 case atStart => exact ⟨[], l, s, 0, rfl, hll.out, rfl, rfl, H0.out, rfl⟩
 case round =>
  obtain ⟨d, r, a, k, hk, hlen, rfl, rfl, hrw, heq⟩ := hrel
  have HRW := Lib.hid hrw
  have HEQ := Lib.hid heq
  have HK := Lib.hid hk
  have HLEN := Lib.hid hlen
  have hc0 := hrw.cell C0.out HNE.out
  clear heq
  cases r with
  | nil =>
   rw [List.append_nil] at hlen
   obtain rfl : k = n := by omega
   clear hk hlen hrw
   go_wp2
   go_end0
   refine ⟨rfl, ?_⟩
   have h1 := HRW.out
   rw [show marks s l = d ++ [] from HEQ.out.symm]
   exact ⟨h1.own, grown_trans HG.out h1.gr⟩
  | cons x r =>
   obtain ⟨g, hA, hcx, hfx, hkn, hnc, hput⟩ := hrw.at_ rfl hk
   subst hA
   have HPUT := Lib.hid hput
   clear hput hlen hk
   have HB := Lib.hid (fun (W : World) (B : Nat) (z : Int) (hB : W.heap.size = B) => isOf_any (some ⟨B, 0, none⟩) [19, 20, 21, 22] 4 4 z (W.alloc (.cells #[.int .i64 19, .int .i64 20, .int .i64 21, .int .i64 22] 3)) (made_ints' hB rfl) rfl (by omega))
   by_cases h8 : x = 8
   ·subst h8
    have h2 := HPUT.out a
    have hc1 := h2.cell C0.out HNE.out
    obtain ⟨g', hA', hcy, -, -, -, -⟩ := h2.at_ rfl HK.out
    obtain rfl : g = g' := by injection hA' with e; injection e
    have HR2 := Lib.hid h2
    clear h2 hrw hA'
    go_wp2_with fail
    refine (HB.out _ _ a (by simp)).mono ?_
    rintro e w2 ⟨rfl, rfl⟩
    rw [mem_iso]
    have HR3 := Lib.hid (HR2.out.alloc (.cells #[.int .i64 19, .int .i64 20, .int .i64 21, .int .i64 22] 3))
    have HEQ2 := Lib.hid (show (d ++ [a]) ++ marks (nx a) r = marks s l from by
     have := HEQ.out
     rw [marks, if_pos rfl] at this
     simpa using this)
    clear hcy hc1 hcx hfx hc0
    cases hi : iso a with
    | true =>
     rw [nx_yes hi] at HEQ2
     clear hi
     go_wp2
     go_roundw
     case rel => exact ⟨d ++ [a], r, 13, k + 1, by simp [HK.out], by simpa using HLEN.out, rfl, by go_num, by simpa using HR3.out, HEQ2.out⟩
     case measure => simp [RowKit.intOf]; omega
    | false =>
     rw [nx_no hi] at HEQ2
     clear hi
     go_wp2
     go_roundw
     case rel => exact ⟨d ++ [a], r, a, k + 1, by simp [HK.out], by simpa using HLEN.out, rfl, by go_num, by simpa using HR3.out, HEQ2.out⟩
     case measure => simp [RowKit.intOf]; omega
   ·have hb8 : (x == 8) = false := by simpa using h8
    have HR2 := Lib.hid hrw
    have HEQ2 := Lib.hid (show (d ++ [x]) ++ marks (nx x) r = marks s l from by
     have := HEQ.out
     rw [marks, if_neg h8] at this
     simpa using this)
    clear hrw h8
    go_wp2_with fail
    refine (HB.out _ _ x (by simp)).mono ?_
    rintro e w2 ⟨rfl, rfl⟩
    rw [mem_iso]
    have HR3 := Lib.hid (HR2.out.alloc (.cells #[.int .i64 19, .int .i64 20, .int .i64 21, .int .i64 22] 3))
    clear hcx hfx hc0
    cases hi : iso x with
    | true =>
     rw [nx_yes hi] at HEQ2
     clear hi
     go_wp2
     go_roundw
     case rel => exact ⟨d ++ [x], r, 13, k + 1, by simp [HK.out], by simpa using HLEN.out, rfl, by go_num, by simpa using HR3.out, HEQ2.out⟩
     case measure => simp [RowKit.intOf]; omega
    | false =>
     rw [nx_no hi] at HEQ2
     clear hi
     go_wp2
     go_roundw
     case rel => exact ⟨d ++ [x], r, x, k + 1, by simp [HK.out], by simpa using HLEN.out, rfl, by go_num, by simpa using HR3.out, HEQ2.out⟩
     case measure => simp [RowKit.intOf]; omega
end Go.Proofs.YtfclpecbnailgaaGreat.Wk

/-
 Proved here: weak's closure of numbers, called: what the row holds then (the plain nums). Nothing else of memory changes.
-/
set_option linter.unusedVariables false
namespace Go.Proofs.YtfclpecbnailgaaGreat.Wk
open Go Go.RowKit Go.Lib Go.Proofs.YtfclpecbnailgaaGreat.Cl
theorem mem_let (a : Int) : decide (a ∈ [(0 : Int), 1, 2]) = let3 a := by
 simp only [List.mem_cons, List.not_mem_nil, or_false, let3, Bool.decide_or, Bool.or_assoc]
set_option maxHeartbeats 4000000 in
set_option maxRecDepth 100000 in
theorem nums_run (base : Nat) (A : Option Addr) (n c : Nat) (s lt ot : Int) (b1 b2 b3 : Nat) (l : List Int) (w : World) (hown : w.ownsRow base 3 1 (.slice A n c) n (icl l)) (hn : n ≤ 1099511627776)
  (h10 : w.cell? ⟨b1, 0, none⟩ = some (.slice A n c)) (h11 : w.cell? ⟨b1, 1, none⟩ = some (.int .i64 s)) (h2 : w.cell? ⟨b2, 0, none⟩ = some (.int .i64 lt)) (h3 : w.cell? ⟨b3, 0, none⟩ = some (.int .i64 ot))
  (n1 : some b1 ≠ (Value.slice A n c).ownBlock) (n2 : some b2 ≠ (Value.slice A n c).ownBlock) (n3 : some b3 ≠ (Value.slice A n c).ownBlock) :
  Calls Tryz.prog 158 #[.pointer (some ⟨b1, 0, none⟩), .pointer (some ⟨b2, 0, none⟩), .pointer (some ⟨b3, 0, none⟩)] w fun e W' => e = .returned (.tuple #[]) ∧ Row base A n c w (nums lt ot s l) W' := by
 have hrow := Row.start hown
 have C10 := Lib.hid h10
 have C2 := Lib.hid h2
 have C3 := Lib.hid h3
 have N1 := Lib.hid n1
 have N2 := Lib.hid n2
 have N3 := Lib.hid n3
 have H0 := Lib.hid hrow
 have hll := Lib.hid hrow.len
 have HB := Lib.hid (fun (W : World) (B : Nat) (z : Int) (hB : W.heap.size = B) => isOf_any (some ⟨B, 0, none⟩) [0, 1, 2] 3 3 z (W.alloc (.cells #[.int .i64 0, .int .i64 1, .int .i64 2] 3)) (made_ints' hB rfl) rfl (by omega))
 clear hown hrow h2 h3 n1 n2 n3
 go_enter Tryz.func158, Tryz.ntmps158
 go_wp2_with fail
 clear h10 h11
 go_loopw [3, 11] (fun s3 s11 wx => ∃ (d r : List Int) (a : Int) (k : Nat), d.length = k ∧ (d ++ r).length = n ∧ s3 = .int .i64 a ∧ s11 = .int .i64 k ∧ Row base A n c w (d ++ r) wx ∧ d ++ nums lt ot a r = nums lt ot s l) (fun _ s11 _ => n - (RowKit.intOf s11).toNat)
 case atStart => exact ⟨[], l, s, 0, rfl, hll.out, rfl, rfl, H0.out, rfl⟩
 case round =>
  obtain ⟨d, r, a, k, hk, hlen, rfl, rfl, hrw, heq⟩ := hrel
  have HRW := Lib.hid hrw
  have HEQ := Lib.hid heq
  have HK := Lib.hid hk
  have HLEN := Lib.hid hlen
  clear heq
  cases r with
  | nil =>
   rw [List.append_nil] at hlen
   obtain rfl : k = n := by omega
   clear hk hlen hrw
   go_wp2
   go_end0
   refine ⟨rfl, ?_⟩
   rw [show nums lt ot s l = d ++ [] from HEQ.out.symm]
   exact HRW.out
  | cons y r =>
   obtain ⟨g, hA, hcx, hfx, hkn, hnc, hput⟩ := hrw.at_ rfl hk
   subst hA
   clear hput hlen hk hrw
   go_wp2_with fail
   refine (HB.out _ _ y (by simp)).mono ?_
   rintro e w2 ⟨rfl, rfl⟩
   rw [mem_let]
   have HR3 := HRW.out.alloc (.cells #[.int .i64 0, .int .i64 1, .int .i64 2] 3)
   clear hcx hfx HRW
   generalize wr.alloc (.cells #[.int .i64 0, .int .i64 1, .int .i64 2] 3) = w3 at *
   obtain ⟨g', hA', hcy, hfy, -, -, hput⟩ := HR3.at_ rfl HK.out
   obtain rfl : g = g' := by injection hA' with e; injection e
   have HPUT := Lib.hid hput
   have hc1 := HR3.cell C10.out N1.out
   have hc2 := HR3.cell C2.out N2.out
   have hc3 := HR3.cell C3.out N3.out
   have HR := Lib.hid HR3
   clear hA' hput HR3
   cases hi : let3 y with
   | true =>
    have HEQ2 := Lib.hid (show (d ++ [y]) ++ nums lt ot y r = nums lt ot s l from by
     have := HEQ.out
     rw [nums, if_pos hi] at this
     simpa using this)
    clear hi
    go_wp2
    go_roundw
    case rel => exact ⟨d ++ [y], r, y, k + 1, by simp [HK.out], by simpa using HLEN.out, rfl, by go_num, by simpa using HR.out, HEQ2.out⟩
    case measure => simp [RowKit.intOf]; omega
   | false =>
    by_cases h3 : y = 3
    ·subst h3
     by_cases ha : a = lt
     ·subst ha
      have HEQ2 := Lib.hid (show (d ++ [ot]) ++ nums a ot a r = nums a ot s l from by
       have := HEQ.out
       rw [nums, if_neg (by rw [hi]; decide), if_pos ⟨rfl, rfl⟩] at this
       simpa using this)
      clear hi
      go_wp2
      go_roundw
      case rel => exact ⟨d ++ [ot], r, a, k + 1, by simp [HK.out], by simpa using HLEN.out, rfl, by go_num, by simpa using HPUT.out ot, HEQ2.out⟩
      case measure => simp [RowKit.intOf]; omega
     ·have hab : (a == lt) = false := by simpa using ha
      have HEQ2 := Lib.hid (show (d ++ [3]) ++ nums lt ot a r = nums lt ot s l from by
       have := HEQ.out
       rw [nums, if_neg (by rw [hi]; decide), if_neg (fun h => ha h.2)] at this
       simpa using this)
      clear hi ha
      go_wp2
      go_roundw
      case rel => exact ⟨d ++ [3], r, a, k + 1, by simp [HK.out], by simpa using HLEN.out, rfl, by go_num, by simpa using HR.out, HEQ2.out⟩
      case measure => simp [RowKit.intOf]; omega
    ·have hb3 : (y == 3) = false := by simpa using h3
     have HEQ2 := Lib.hid (show (d ++ [y]) ++ nums lt ot a r = nums lt ot s l from by
      have := HEQ.out
      rw [nums, if_neg (by rw [hi]; decide), if_neg (fun h => h3 h.1)] at this
      simpa using this)
     clear hi h3
     go_wp2
     go_roundw
     case rel => exact ⟨d ++ [y], r, a, k + 1, by simp [HK.out], by simpa using HLEN.out, rfl, by go_num, by simpa using HR.out, HEQ2.out⟩
     case measure => simp [RowKit.intOf]; omega
end Go.Proofs.YtfclpecbnailgaaGreat.Wk

/-
 Proved here: weak's closure of become, called: what the row holds then (the plain bec). Nothing else of memory changes.
-/
set_option linter.unusedVariables false
namespace Go.Proofs.YtfclpecbnailgaaGreat.Wk
open Go Go.RowKit Go.Lib Go.Proofs.YtfclpecbnailgaaGreat.Cl
set_option maxHeartbeats 4000000 in
set_option maxRecDepth 100000 in
theorem bec_run (base : Nat) (A : Option Addr) (n c : Nat) (s ot : Int) (b1 b2 b3 p m : Nat) (ps l : List Int) (w : World) (hown : w.ownsRow base 3 1 (.slice A n c) n (icl l)) (hn : n ≤ 1099511627776)
  (h10 : w.cell? ⟨b1, 0, none⟩ = some (.slice A n c)) (h2 : w.cell? ⟨b2, 0, none⟩ = some (.slice (some ⟨p, 0, none⟩) m m)) (h3 : w.cell? ⟨b3, 0, none⟩ = some (.int .i64 ot)) (hp : IntsAt w (some ⟨p, 0, none⟩) ps) (hm : ps.length = m) (hm2 : m ≤ 1000)
  (n1 : some b1 ≠ (Value.slice A n c).ownBlock) (n2 : some b2 ≠ (Value.slice A n c).ownBlock) (n3 : some b3 ≠ (Value.slice A n c).ownBlock) (n4 : some p ≠ (Value.slice A n c).ownBlock) :
  Calls Tryz.prog 159 #[.pointer (some ⟨b1, 0, none⟩), .pointer (some ⟨b2, 0, none⟩), .pointer (some ⟨b3, 0, none⟩)] w fun e W' => e = .returned (.tuple #[]) ∧ Row base A n c w (bec ot ps l) W' := by
 have hrow := Row.start hown
 have C10 := Lib.hid h10
 have C2 := Lib.hid h2
 have C3 := Lib.hid h3
 have N1 := Lib.hid n1
 have N2 := Lib.hid n2
 have N3 := Lib.hid n3
 have H0 := Lib.hid hrow
 have hll := Lib.hid hrow.len
 have HB := Lib.hid (fun (W : World) (L : List Int) (z : Int) (hW : Row base A n c w L W) => isOf_any (some ⟨p, 0, none⟩) ps m m z W (hW.ints hp n4) hm (by omega))
 clear hown hrow h2 h3 n1 n2 n3 hp hm n4
 go_enter Tryz.func159, Tryz.ntmps159
 go_wp2_with fail
 clear h10
 go_loopw [8] (fun s8 wx => ∃ (d r : List Int) (k : Nat), d.length = k ∧ (d ++ r).length = n ∧ s8 = .int .i64 k ∧ Row base A n c w (d ++ r) wx ∧ d ++ bec ot ps r = bec ot ps l) (fun s8 _ => n - (RowKit.intOf s8).toNat)
 case atStart => exact ⟨[], l, 0, rfl, hll.out, rfl, H0.out, rfl⟩
 case round =>
  obtain ⟨d, r, k, hk, hlen, rfl, hrw, heq⟩ := hrel
  have HRW := Lib.hid hrw
  have HEQ := Lib.hid heq
  have HK := Lib.hid hk
  have HLEN := Lib.hid hlen
  clear heq
  cases r with
  | nil =>
   rw [List.append_nil] at hlen
   obtain rfl : k = n := by omega
   clear hk hlen hrw
   go_wp2
   go_end0
   refine ⟨rfl, ?_⟩
   rw [show bec ot ps l = d ++ [] from HEQ.out.symm]
   exact HRW.out
  | cons y r =>
   obtain ⟨g, hA, hcx, hfx, hkn, hnc, hput⟩ := hrw.at_ rfl hk
   subst hA
   have hc1 := hrw.cell C10.out N1.out
   have hc2 := hrw.cell C2.out N2.out
   have hc3 := hrw.cell C3.out N3.out
   have HPUT := Lib.hid hput
   clear hput hlen hk hrw
   go_wp2_with fail
   refine (HB.out _ _ y HRW.out).mono ?_
   rintro e w2 ⟨rfl, rfl⟩
   by_cases hi : y ∈ ps
   ·rw [decide_eq_true hi]
    have HEQ2 := Lib.hid (show (d ++ [ot]) ++ bec ot ps r = bec ot ps l from by
     have := HEQ.out
     unfold bec at this ⊢
     rw [List.map_cons, if_pos hi] at this
     simpa using this)
    clear hi
    go_wp2
    go_roundw
    case rel => exact ⟨d ++ [ot], r, k + 1, by simp [HK.out], by simpa using HLEN.out, by go_num, by simpa using HPUT.out ot, HEQ2.out⟩
    case measure => simp [RowKit.intOf]; omega
   ·rw [decide_eq_false hi]
    have HEQ2 := Lib.hid (show (d ++ [y]) ++ bec ot ps r = bec ot ps l from by
     have := HEQ.out
     unfold bec at this ⊢
     rw [List.map_cons, if_neg hi] at this
     simpa using this)
    clear hi
    go_wp2
    go_roundw
    case rel => exact ⟨d ++ [y], r, k + 1, by simp [HK.out], by simpa using HLEN.out, by go_num, by simpa using HRW.out, HEQ2.out⟩
    case measure => simp [RowKit.intOf]; omega
end Go.Proofs.YtfclpecbnailgaaGreat.Wk

/-
 Proved here: weak's closure of between, called: what the row holds then (the plain btw). Nothing else of memory changes.
-/
set_option linter.unusedVariables false
namespace Go.Proofs.YtfclpecbnailgaaGreat.Wk
open Go Go.RowKit Go.Lib Go.Proofs.YtfclpecbnailgaaGreat.Cl
theorem below_drewN {B : Nat} {a w : World} (h : Below B a w) (n : Nat) : Below B a (w.drewN n) := ⟨h.os, h.tape, h.output, h.size, h.block⟩
theorem btw_start (nn : Int) (hm : nn ≠ -1) (ps : List Int) (a : Int) (r : List Int) : btw nn ps (-1) (a :: r) = a :: btw nn ps a r := by
 rw [btw, if_neg (fun h => hm h.1.symm)]
theorem btw_last (nn : Int) (ps : List Int) (a x : Int) : btw nn ps a [x] = [x] := by
 rw [btw, if_neg (fun h => by simp at h)]
 rfl
set_option maxHeartbeats 4000000 in
set_option maxRecDepth 100000 in
theorem btw_run (base : Nat) (A : Option Addr) (n c : Nat) (s nn : Int) (hnn : nn ≠ -1) (b1 b2 b3 p m : Nat) (ps l : List Int) (w : World) (hown : w.ownsRow base 3 1 (.slice A n c) n (icl l)) (hn : n ≤ 1099511627776)
  (h10 : w.cell? ⟨b1, 0, none⟩ = some (.slice A n c)) (h2 : w.cell? ⟨b2, 0, none⟩ = some (.int .i64 nn)) (h3 : w.cell? ⟨b3, 0, none⟩ = some (.slice (some ⟨p, 0, none⟩) m m)) (hp : IntsAt w (some ⟨p, 0, none⟩) ps) (hm : ps.length = m) (hm2 : m ≤ 1000)
  (n1 : some b1 ≠ (Value.slice A n c).ownBlock) (n2 : some b2 ≠ (Value.slice A n c).ownBlock) (n3 : some b3 ≠ (Value.slice A n c).ownBlock) (n4 : some p ≠ (Value.slice A n c).ownBlock) :
  Calls Tryz.prog 160 #[.pointer (some ⟨b1, 0, none⟩), .pointer (some ⟨b2, 0, none⟩), .pointer (some ⟨b3, 0, none⟩)] w fun e W' => e = .returned (.tuple #[]) ∧ Row base A n c w (btw nn ps (-1) l) W' := by
 have hrow := Row.start hown
 have hll := hrow.len
 cases l with
 | nil =>
  have H0 := Lib.hid hrow
  simp only [List.length_nil] at hll
  subst hll
  clear hown hrow hp
  go_enter Tryz.func160, Tryz.ntmps160
  go_wp2_with fail
  go_loopw [3] (fun s3 wx => s3 = .int .i64 1 ∧ wx = w) (fun s3 _ => 0)
  case atStart => exact ⟨rfl, rfl⟩
  case round =>
   obtain ⟨rfl, rfl⟩ := hrel
   go_wp2
   go_end0
   exact ⟨rfl, H0.out⟩
 | cons a0 l =>
  have C10 := Lib.hid h10
  have C2 := Lib.hid h2
  have C3 := Lib.hid h3
  have N1 := Lib.hid n1
  have N2 := Lib.hid n2
  have N3 := Lib.hid n3
  have H0 := Lib.hid hrow
  have HLL := Lib.hid hll
  have HS := Lib.hid (btw_start nn hnn ps a0 l)
  have HB := Lib.hid (fun (W : World) (L : List Int) (z : Int) (hW : Row base A n c w L W) => isOf_any (some ⟨p, 0, none⟩) ps m m z W (hW.ints hp n4) hm (by omega))
  clear hown hrow h10 h2 h3 n1 n2 n3 hp hm n4 hll
  go_enter Tryz.func160, Tryz.ntmps160
  go_wp2_with fail
  go_loopw [3] (fun s3 wx => ∃ (d r : List Int) (a : Int) (k : Nat), d.length = k ∧ (d ++ a :: r).length = n ∧ s3 = .int .i64 (k + 1) ∧ Row base A n c w (d ++ a :: r) wx ∧ d ++ a :: btw nn ps a r = btw nn ps (-1) (a0 :: l)) (fun s3 _ => n - (RowKit.intOf s3).toNat)
  case atStart => exact ⟨[], l, a0, 0, rfl, HLL.out, rfl, H0.out, HS.out.symm⟩
  case round =>
   obtain ⟨d, r, a, k, hk, hlen, rfl, hrw, heq⟩ := hrel
   have HRW := Lib.hid hrw
   have HEQ := Lib.hid heq
   have HK := Lib.hid hk
   have HLEN := Lib.hid hlen
   have hc1 := hrw.cell C10.out N1.out
   have hc2 := hrw.cell C2.out N2.out
   have hc3 := hrw.cell C3.out N3.out
   rw [List.length_append, List.length_cons, hk] at hlen
   clear heq
   match r, hlen, hrw, HRW, HEQ, HLEN with
   | [], hlen, hrw, HRW, HEQ, HLEN =>
    obtain rfl : n = k + 1 := by simpa using hlen.symm
    clear hk hlen hrw
    go_wp2
    go_end0
    refine ⟨rfl, ?_⟩
    rw [show btw nn ps (-1) (a0 :: l) = d ++ [a] from HEQ.out.symm]
    exact HRW.out
   | [x], hlen, hrw, HRW, HEQ, HLEN =>
    obtain rfl : n = k + 2 := by simp at hlen; omega
    clear hk hlen hrw
    go_wp2
    go_end0
    refine ⟨rfl, ?_⟩
    rw [btw_last] at HEQ
    rw [show btw nn ps (-1) (a0 :: l) = d ++ [a, x] from HEQ.out.symm]
    exact HRW.out
   | x :: y :: r, hlen, hrw, HRW, HEQ, HLEN =>
    have hkn : k + 2 < n := by simp at hlen; omega
    obtain ⟨g, hA, hca, -, -, hnc, -⟩ := hrw.at_ rfl hk
    subst hA
    obtain ⟨g', hA', hcx, hfx, -, -, hput⟩ := hrw.at_ (d := d ++ [a]) (r := y :: r) (x := x) (k := k + 1) (by simp) (by simp [hk])
    obtain rfl : g = g' := by injection hA' with e; injection e
    obtain ⟨g', hA'', hcy, -, -, -, -⟩ := hrw.at_ (d := d ++ [a, x]) (r := r) (x := y) (k := k + 2) (by simp) (by simp [hk])
    obtain rfl : g = g' := by injection hA'' with e; injection e
    have HPUT := Lib.hid hput
    clear hput hlen hk hrw hA' hA''
    have e1 : IntKind.i64.wrap ((k : Int) + 1 - 1) = (k : Int) := by rw [show (k : Int) + 1 - 1 = (k : Int) from by omega]; exact IntWalk.i64_in _ (by omega)
    have e2 : IntKind.i64.wrap (k : Int) = (k : Int) := IntWalk.i64_in _ (by omega)
    have e3 : IntKind.i64.wrap ((k : Int) + 1 + 1) = (k : Int) + 1 + 1 := IntWalk.i64_in _ (by omega)
    have e4 : IntKind.i64.wrap ((k : Int) + 1) = (k : Int) + 1 := IntWalk.i64_in _ (by omega)
    go_wp2_with fail
    go_quiet (fail)
    have hV := HRW.out.below (below_drewN (Below.refl wr.heap.size wr) nq)
    clear hca hcx hcy hfx hc1 hc2 hc3 HRW HPUT
    generalize wr.drewN nq = V at *
    obtain ⟨g', hA', hcx, hfx, -, -, hput⟩ := hV.at_ (d := d ++ [a]) (r := y :: r) (x := x) (k := k + 1) (by simp) (by simp [HK.out])
    obtain rfl : g = g' := by injection hA' with e; injection e
    have hc1 := hV.cell C10.out N1.out
    have hc2 := hV.cell C2.out N2.out
    have hc3 := hV.cell C3.out N3.out
    have HPUT := Lib.hid hput
    have HV := Lib.hid hV
    clear hV hput hA'
    have HNO := Lib.hid (fun (h : ¬ (a = nn ∧ (y :: r).head? = some nn ∧ x ∈ ps)) => show (d ++ [a]) ++ x :: btw nn ps x (y :: r) = btw nn ps (-1) (a0 :: l) from by
     have := HEQ.out
     rw [btw, if_neg h] at this
     simpa using this)
    by_cases ha : a = nn
    ·subst ha
     by_cases hy : y = a
     ·subst hy
      go_wp2_with fail
      refine (HB.out _ _ x HV.out).mono ?_
      rintro e w2 ⟨rfl, rfl⟩
      by_cases hi : x ∈ ps
      ·rw [decide_eq_true hi]
       have HEQ2 := Lib.hid (show (d ++ [y]) ++ y :: btw y ps y (y :: r) = btw y ps (-1) (a0 :: l) from by
        have := HEQ.out
        rw [btw, if_pos ⟨rfl, rfl, hi⟩] at this
        simpa using this)
       clear hi
       go_wp2
       go_roundw
       case rel => exact ⟨d ++ [y], y :: r, y, k + 1, by simp [HK.out], by simpa using HLEN.out, by go_num, by simpa using HPUT.out y, HEQ2.out⟩
       case measure => simp [RowKit.intOf]; omega
      ·rw [decide_eq_false hi]
       have HEQ2 := Lib.hid (HNO.out (fun h => hi h.2.2))
       clear hi
       go_wp2
       go_roundw
       case rel => exact ⟨d ++ [y], y :: r, x, k + 1, by simp [HK.out], by simpa using HLEN.out, by go_num, by simpa using HV.out, HEQ2.out⟩
       case measure => simp [RowKit.intOf]; omega
     ·have hyb : (y == a) = false := by simpa using hy
      have HEQ2 := Lib.hid (HNO.out (fun h => hy (by simpa using h.2.1)))
      clear hy
      go_wp2
      go_roundw
      case rel => exact ⟨d ++ [a], y :: r, x, k + 1, by simp [HK.out], by simpa using HLEN.out, by go_num, by simpa using HV.out, HEQ2.out⟩
      case measure => simp [RowKit.intOf]; omega
    ·have hab : (a == nn) = false := by simpa using ha
     have HEQ2 := Lib.hid (HNO.out (fun h => ha h.1))
     clear ha
     go_wp2
     go_roundw
     case rel => exact ⟨d ++ [a], y :: r, x, k + 1, by simp [HK.out], by simpa using HLEN.out, by go_num, by simpa using HV.out, HEQ2.out⟩
     case measure => simp [RowKit.intOf]; omega
end Go.Proofs.YtfclpecbnailgaaGreat.Wk
