/-
  A region that draws its order, whose operations all yield (no store, no guard) and may make memory: each operation's word on what its slot holds, under what the slots hold that it waits for, is enough, whatever order is drawn: no branching over orders. No program in it.
-/
import Derived.Test.YtapeebnbiappgaaDoorRows
import Derived.Carry
import Derived.ProofKit
import Derived.Below
import Derived.Orders
set_option linter.unusedVariables false
namespace Go.Proofs.YtapeebnbiappgaaDoor.Slots
open Go Go.RowKit

/-- Each operation has a slot of its own, below N, no guard, and waits for earlier ones alone. -/
def okRegion (ops : Array Oper) (N : Nat) : Bool :=
  (List.range ops.size).all fun i => match ops[i]? with
    | none => true
    | some o => o.guard.isNone && o.after.all (fun e => decide (e.on < i)) && match o.dst with
      | none => false
      | some d => decide (d < N) && (List.range i).all fun j => (ops[j]?).bind (·.dst) != some d

theorem okRegion_spec {ops : Array Oper} {N : Nat} (h : okRegion ops N = true) {i : Nat} {o : Oper} (ho : ops[i]? = some o) :
    o.guard = none ∧ (∀ e ∈ o.after, e.on < i) ∧ ∃ d, o.dst = some d ∧ d < N ∧ ∀ j, j < i → ∀ o', ops[j]? = some o' → o'.dst ≠ some d := by
  have hi : i < ops.size := (Array.getElem?_eq_some_iff.1 ho).1
  have h1 := List.all_eq_true.1 h i (List.mem_range.2 hi)
  simp only [ho, Bool.and_eq_true] at h1
  obtain ⟨⟨h2, h3⟩, h4⟩ := h1
  refine ⟨by simpa using h2, fun e he => by simpa using (Array.all_eq_true_iff_forall_mem.1 h3) e he, ?_⟩
  cases hd : o.dst with
  | none => rw [hd] at h4; cases h4
  | some d =>
    rw [hd] at h4
    simp only [Bool.and_eq_true] at h4
    refine ⟨d, rfl, by simpa using h4.1, fun j hj o' ho' e => ?_⟩
    have := List.all_eq_true.1 h4.2 j (List.mem_range.2 hj)
    simp [ho', e] at this

def slotOf (ops : Array Oper) (a : Act) (i : Nat) : Value := match (ops[i]?).bind (·.dst) with
  | some d => a.tmps.getD d undef
  | none => undef

/-- What the region's slots do not reach is as it was. -/
structure SameBut (ops : Array Oper) (a0 a : Act) : Prop where
  size : a.tmps.size = a0.tmps.size
  defers : a.defers = a0.defers
  slot : ∀ t, (ops.all fun o => o.dst != some t) = true → a.tmps.getD t undef = a0.tmps.getD t undef
theorem SameBut.refl (ops : Array Oper) (a : Act) : SameBut ops a a := ⟨rfl, rfl, fun _ _ => rfl⟩
theorem SameBut.put {ops : Array Oper} {a0 a : Act} (h : SameBut ops a0 a) {i : Nat} {o : Oper} (ho : ops[i]? = some o) (v : Value) : SameBut ops a0 (a.put o.dst v) := by
  cases hd : o.dst with
  | none => exact h
  | some d =>
    refine ⟨by simp [Act.put, h.size], h.defers, fun t ht => ?_⟩
    rw [← h.slot t ht]
    have hne : d ≠ t := by
      intro e
      have h1 := (Array.all_eq_true_iff_forall_mem.1 ht) o (Array.mem_of_getElem? ho)
      simp [hd, e] at h1
    simp only [Act.put]
    simp [Array.getElem?_setIfInBounds_ne hne]

section
variable {P : Program} {ops : Array Oper} {Q : Exit → Act → World → Prop} {md : Region.Mode} {Φ : Nat → Value → World → Prop} {a0 : Act} {w0 : World}

theorem ready_nil {N : Nat} (hok : okRegion ops N = true) {listed : Array Bool} (hs : listed.size = ops.size) (hr : Region.ready md ops listed = []) : ∀ i, i < ops.size → listed.getD i false = true := by
  intro i
  induction i using Nat.strongRecOn with
  | _ i ih =>
    intro hi
    obtain ⟨o, ho⟩ : ∃ o, ops[i]? = some o := ⟨_, Array.getElem?_eq_getElem hi⟩
    obtain ⟨-, hb, -⟩ := okRegion_spec hok ho
    cases hl : listed.getD i false with
    | true => rfl
    | false =>
      have hm : i ∈ Region.ready md ops listed := by
        rw [mem_ready]
        refine ⟨?_, o, ho, fun e he _ => ih e.on (hb e he) (by have := hb e he; omega)⟩
        have h1 : i < listed.size := by omega
        simp [h1] at hl ⊢
        exact hl
      rw [hr] at hm
      cases hm

theorem slots_go {N : Nat} (hok : okRegion ops N = true) (hN : a0.tmps.size = N)
    (stable : ∀ i v w w', Φ i v w → Below w.heap.size w w' → Φ i v w')
    (step : ∀ i o, ops[i]? = some o → ∀ a w, SameBut ops a0 a → Below w0.heap.size w0 w → (∀ e ∈ o.after, Region.binds md e = true → Φ e.on (slotOf ops a e.on) w) →
      ∀ K : Act → World → Prop, Hid (∀ v w', Φ i v w' → Below w.heap.size w w' → K (a.put o.dst v) w') → o.wp P a w K Q)
    (done : ∀ a w, SameBut ops a0 a → Below w0.heap.size w0 w → (∀ i, i < ops.size → Φ i (slotOf ops a i) w) → Q .normal a w) :
    ∀ (fuel : Nat) (listed : Array Bool) (a : Act) (w : World), SameBut ops a0 a → Below w0.heap.size w0 w → listed.size = ops.size → (∀ i, listed.getD i false = true → Φ i (slotOf ops a i) w) → listed.toList.count false ≤ fuel → wpAny P md ops Q fuel listed a w := by
  intro fuel
  induction fuel with
  | zero =>
    intro listed a w hs hb hsz hf hc
    have hno : ∀ j, j < listed.size → listed.getD j false = true := by
      intro j hj
      have h0 : listed.toList.count false = 0 := by omega
      rw [List.count_eq_zero] at h0
      cases hl : listed.getD j false with
      | true => rfl
      | false =>
        exfalso
        simp [hj] at hl
        exact h0 (by rw [← hl]; simp)
    refine ⟨?_, done a w hs hb (fun i hi => hf i (hno i (by omega)))⟩
    cases hr : Region.ready md ops listed with
    | nil => rfl
    | cons j t =>
      have hm : j ∈ Region.ready md ops listed := by rw [hr]; simp
      rw [mem_ready] at hm
      obtain ⟨h0, o, ho, -⟩ := hm
      have hj : j < ops.size := (Array.getElem?_eq_some_iff.1 ho).1
      have h1 := hno j (by omega)
      have h2 : j < listed.size := by omega
      simp [h2] at h0 h1
      rw [h0] at h1
      cases h1
  | succ fuel ih =>
    intro listed a w hs hb hsz hf hc
    refine ⟨fun hr => done a w hs hb (fun i hi => hf i (ready_nil hok hsz hr i hi)), fun i hi => ?_⟩
    rw [mem_ready] at hi
    obtain ⟨h0, o, ho, hall⟩ := hi
    obtain ⟨hg, -, d, hd, hdN, hdist⟩ := okRegion_spec hok ho
    have hio : i < ops.size := (Array.getElem?_eq_some_iff.1 ho).1
    have hil : i < listed.size := by omega
    have hw : Region.wanted o (yielded ops a.tmps) = true := by simp [Region.wanted, hg]
    have h1 := step i o ho a w hs hb (fun e he hbd => hf e.on (hall e he hbd)) (wpAny P md ops Q fuel (listed.setIfInBounds i true)) (by
      intro v w' hv hbw
      refine ih _ _ _ (hs.put ho v) (hb.trans (hbw.mono hb.size)) (by simpa using hsz) (fun j hj => ?_) ?_
      · by_cases hji : j = i
        · subst hji
          have : slotOf ops (a.put o.dst v) j = v := by
            unfold slotOf
            simp only [ho, Option.bind_some, hd, Act.put]
            have : d < a.tmps.size := by rw [hs.size, hN]; exact hdN
            simp [this]
          rw [this]
          exact hv
        · rw [getD_set_ne false (Ne.symm hji)] at hj
          have hsl : slotOf ops (a.put o.dst v) j = slotOf ops a j := by
            unfold slotOf
            cases hoj : ops[j]? with
            | none => rfl
            | some oj =>
              obtain ⟨-, -, dj, hdj, -, hdist'⟩ := okRegion_spec hok hoj
              simp only [Option.bind_some, hdj, hd, Act.put]
              have hne : d ≠ dj := by
                intro e
                rcases Nat.lt_or_gt_of_ne hji with h | h
                · exact hdist j h oj hoj (by rw [hdj, e])
                · exact hdist' i h o ho (by rw [hd, e])
              simp [Array.getElem?_setIfInBounds_ne hne]
          rw [hsl]
          exact stable j _ _ _ (hf j hj) hbw
      · have hli : listed.toList[i]'(by simpa using hil) = false := by
          simp [hil] at h0
          simpa using h0
        rw [Array.toList_setIfInBounds, List.count_set (by simpa using hil), hli]
        simp
        have hpos : 0 < listed.toList.count false := List.count_pos_iff.2 (by rw [← hli]; exact List.getElem_mem _)
        have : Array.count false listed = listed.toList.count false := (Array.count_toList ..).symm
        omega)
    unfold wpOp
    simp only [ho, hw, if_true]
    exact .inl h1

theorem wp_region_slots {id : Nat} {w : World} {N : Nat} (hm : P.follows .mixedOrders = true) (hok : okRegion ops N = true) (hN : a0.tmps.size = N)
    (stable : ∀ i v w w', Φ i v w → Below w.heap.size w w' → Φ i v w')
    (step : ∀ i o, ops[i]? = some o → ∀ a wx, SameBut ops a0 a → Below w.heap.size w wx → (∀ e ∈ o.after, Region.binds .any e = true → Φ e.on (slotOf ops a e.on) wx) →
      ∀ K : Act → World → Prop, Hid (∀ v w', Φ i v w' → Below wx.heap.size wx w' → K (a.put o.dst v) w') → o.wp P a wx K Q)
    (done : ∀ a wx, SameBut ops a0 a → Below w.heap.size w wx → (∀ i, i < ops.size → Φ i (slotOf ops a i) wx) → Q .normal a wx) :
    (Code.region id ops true).wp P Q a0 w := by
  refine wp_region_any hm ?_
  have hb0 : Below w.heap.size w ({ w with drawn := w.drawn + 1 } : World) := ⟨rfl, rfl, rfl, Nat.le_refl _, fun _ _ => rfl⟩
  refine slots_go (w0 := w) hok hN stable step done _ _ _ _ (SameBut.refl _ _) hb0 (by simp) (fun i hi => ?_) ?_
  · exfalso
    by_cases h : i < ops.size <;> simp [h] at hi
  · refine Nat.le_trans List.count_le_length ?_
    simp
end
end Go.Proofs.YtapeebnbiappgaaDoor.Slots
