/-
  Plain facts on clusters: which code points join, how wide a cluster is, the clusters of runes; no program here.
-/
import Derived.Test.YtikjchebffohdaaGcPlain
import Derived.Test.YtikjchebffohdaaRuPlain
import Derived.IntWalk
set_option linter.unusedVariables false
namespace Go.Proofs.Ytikjchebffohdaa.Ku
open Go.Proofs.Ytikjchebffohdaa.Co Go.Proofs.Ytikjchebffohdaa.Gc

/-- A pictograph is of the kind Other; each kind is one of 0 to 13. -/
def noPict : List GB → Int → Int → Bool
  | [], a, k => (k == 0) || outTop pictS a
  | e :: l, a, k => ((k == 0) || outAll pictS a e.1) && noPict l e.1 e.2
theorem noPict_is : ∀ {l : List GB} {a k c : Int}, noPict l a k = true → a ≤ c → pictT c = true → (lastB l (a, k) c).2 = 0
  | [], a, k, c, h, h1, hp => by
    simp only [noPict, Bool.or_eq_true, beq_iff_eq] at h
    rcases h with h | h
    · exact h
    · unfold pictT at hp
      rw [outTop_out h h1] at hp
      cases hp
  | e :: l, a, k, c, h, h1, hp => by
    simp only [noPict, Bool.or_eq_true, Bool.and_eq_true, beq_iff_eq] at h
    unfold lastB
    split
    · rename_i h2
      exact noPict_is h.2 h2 hp
    · rename_i h2
      rcases h.1 with h3 | h3
      · exact h3
      · unfold pictT at hp
        rw [outAll_out h3 h1 (by omega)] at hp
        cases hp
theorem bgs_noPict : noPict bgs.tail 0 3 = true := by kernel_rfl
theorem picts_low : outLow pictS 0 = true := by kernel_rfl
theorem pict_kind {c : Int} (h : pictT c = true) : kindT c = 0 := by
  unfold kindT
  rw [bgs_head]
  unfold lastB
  split
  · rename_i h1
    rw [noPict_is bgs_noPict h1 h]
    rfl
  · rename_i h1
    have h' : c < 0 := by simpa using h1
    unfold pictT at h
    rw [outLow_out picts_low h'] at h
    cases h
theorem bgs_kinds : (bgs.all fun e => decide (e.2 ≤ 14)) = true := by kernel_rfl
theorem last_kinds : ∀ {l : List GB} {d : GB} {c : Int}, (l.all fun e => decide (e.2 ≤ 14)) = true → d.2 ≤ 14 → (lastB l d c).2 ≤ 14
  | [], _, _, _, h => h
  | e :: l, d, c, h, hd => by
    rw [List.all_cons, Bool.and_eq_true] at h
    unfold lastB
    split
    · exact last_kinds h.2 (by simpa using h.1)
    · exact hd
theorem kind_le (c : Int) : 0 ≤ kindT c ∧ kindT c ≤ 13 := by
  refine ⟨(kind_bounds c).1, ?_⟩
  have h := last_kinds (l := bgs) (d := (0, 0)) (c := c) bgs_kinds (by decide)
  unfold kindT ofK
  split
  · split <;> omega
  · omega
theorem kind_0 : kindT 0 = 3 := by kernel_rfl
theorem pict_0 : pictT 0 = false := by kernel_rfl
theorem kind_pic : kindT 65039 = 4 := by kernel_rfl

/-- A kind that joins nothing, but LF behind CR. -/
def alone (k : Int) : Bool := k == 1 || (k == 2 || k == 3)
/-- Rule 3. -/
def syl (a b : Int) : Bool := if a = 9 then b == 9 || (b == 10 || (b == 12 || b == 13)) else if a = 12 ∨ a = 10 then b == 10 || b == 11 else (a == 13 || a == 11) && b == 11
/-- Rule 2. -/
def trail (a b : Int) : Bool := (!alone a && !alone b) && (b == 4 || (b == 5 || (b == 8 || a == 7)))
/-- Rules 1 to 3. -/
def rules (a b : Int) : Bool := (a == 1 && b == 2) || (trail a b || syl a b)

/-- What was seen: the code point ahead, whether it is the last of an odd number of RI, whether a pictograph stands ahead of it. -/
structure Sg where
  c : Int
  o : Bool
  p : Bool
def none0 : Sg := ⟨0, false, false⟩
def stepO (σ : Sg) (c : Int) : Bool := if kindT c = 6 then !σ.o else false
def stepP (σ : Sg) (c : Int) : Bool := if kindT c = 4 ∨ kindT c = 5 then pictT σ.c || (kindT σ.c == 4 && σ.p) else false
def step (σ : Sg) (c : Int) : Sg := ⟨c, stepO σ c, stepP σ c⟩
def joins (σ : Sg) (c : Int) : Bool := rules (kindT σ.c) (kindT c) || (if kindT σ.c = 5 then σ.p && pictT c else kindT c == 6 && σ.o)
def wideC (p c : Int) : Int := if c = 65039 ∧ pictT p = true then 2 else slotsT c
def wide (σ : Sg) (c : Int) : Int := if alone (kindT c) = true then 0 else wideC σ.c c
theorem wideC_bounds (p c : Int) : 0 ≤ wideC p c ∧ wideC p c ≤ 2 := by
  unfold wideC
  split
  · omega
  · exact slotsT_bounds c
theorem wide_bounds (σ : Sg) (c : Int) : 0 ≤ wide σ c ∧ wide σ c ≤ 2 := by
  unfold wide
  split
  · omega
  · exact wideC_bounds _ _

structure C6 where
  a : Int
  z : Int
  f : Int
  t : Int
  w : Int
  c : Int
deriving DecidableEq
def new (n : Nat) (r : R3) : C6 := ⟨r.1, 0, n, 0, 0, r.2.2⟩
def ext (σ : Sg) (x : C6) (n : Nat) (r : R3) : C6 := ⟨x.a, IntKind.i64.wrap (x.z + r.2.1), x.f, (n : Int) + 1, max x.w (wide σ r.2.2), x.c⟩
def run : Sg → Nat → C6 → List R3 → List C6
  | _, _, x, [] => [x]
  | σ, n, x, r :: l => if joins σ r.2.2 = true then run (step σ r.2.2) (n + 1) (ext σ x n r) l else x :: run (step σ r.2.2) (n + 1) (ext σ (new n r) n r) l
def runN (σ : Sg) (n : Nat) : List R3 → List C6
  | [] => []
  | r :: l => run (step σ r.2.2) (n + 1) (ext σ (new n r) n r) l
/-- P6.1: the clusters of runes. -/
def ofC (l : List R3) : List C6 := runN none0 0 l
theorem run_yes {σ : Sg} {n : Nat} {x : C6} {r : R3} {l : List R3} (h : joins σ r.2.2 = true) : run σ n x (r :: l) = run (step σ r.2.2) (n + 1) (ext σ x n r) l := if_pos h
theorem run_no {σ : Sg} {n : Nat} {x : C6} {r : R3} {l : List R3} (h : joins σ r.2.2 = false) : run σ n x (r :: l) = x :: run (step σ r.2.2) (n + 1) (ext σ (new n r) n r) l := if_neg (by rw [h]; decide)
theorem run_no' {σ : Sg} {n : Nat} {x : C6} {r : R3} {l : List R3} (h : joins σ r.2.2 = false) : run σ n x (r :: l) = x :: runN σ n (r :: l) := run_no h

/-- The states are sound: an odd number of RI stands behind one alone. -/
def Sg.ok (σ : Sg) : Prop := σ.o = true → kindT σ.c = 6
theorem none0_ok : none0.ok := fun h => by cases h
theorem step_ok (σ : Sg) (c : Int) : (step σ c).ok := by
  intro h
  unfold step stepO at h
  simp only at h
  split at h
  · assumption
  · cases h
theorem joins_none (c : Int) : joins none0 c = false := by
  unfold joins none0
  simp only [kind_0]
  have hr : rules 3 (kindT c) = false := by
    unfold rules trail syl alone
    simp
  rw [hr]
  simp

theorem small14 {P : Int → Prop} (c : Int) (h : 0 ≤ c ∧ c ≤ 13) (h0 : P 0) (h1 : P 1) (h2 : P 2) (h3 : P 3) (h4 : P 4) (h5 : P 5) (h6 : P 6) (h7 : P 7) (h8 : P 8) (h9 : P 9) (h10 : P 10) (h11 : P 11) (h12 : P 12) (h13 : P 13) : P c := by
  have : c = 0 ∨ c = 1 ∨ c = 2 ∨ c = 3 ∨ c = 4 ∨ c = 5 ∨ c = 6 ∨ c = 7 ∨ c = 8 ∨ c = 9 ∨ c = 10 ∨ c = 11 ∨ c = 12 ∨ c = 13 := by omega
  rcases this with rfl | rfl | rfl | rfl | rfl | rfl | rfl | rfl | rfl | rfl | rfl | rfl | rfl | rfl <;> assumption
def all14 (p : Int → Bool) : Bool := (List.range 14).all fun k => p k
theorem all14_is {p : Int → Bool} (h : all14 p = true) {c : Int} (hc : 0 ≤ c ∧ c ≤ 13) : p c = true := by
  have := List.all_eq_true.1 h c.toNat (List.mem_range.2 (by omega))
  rwa [show ((c.toNat : Nat) : Int) = c from by omega] at this
theorem rules_alone0 : (all14 fun a => all14 fun b => !rules a b || (alone a == alone b)) = true := by decide +kernel
theorem rules_alone {a b : Int} (ha : 0 ≤ a ∧ a ≤ 13) (hb : 0 ≤ b ∧ b ≤ 13) (h : rules a b = true) : alone a = alone b := by
  have := all14_is (all14_is rules_alone0 ha) hb
  rw [h] at this
  simpa using this
theorem joins_alone {σ : Sg} {c : Int} (hs : σ.ok) (h : joins σ c = true) : alone (kindT σ.c) = alone (kindT c) := by
  unfold joins at h
  rw [Bool.or_eq_true] at h
  rcases h with h | h
  · exact rules_alone (kind_le _) (kind_le _) h
  · split at h
    · rename_i e
      rw [Bool.and_eq_true] at h
      rw [e, pict_kind h.2]
      rfl
    · rw [Bool.and_eq_true, beq_iff_eq] at h
      rw [h.1, hs h.2]
/-- What joins nothing begins with the widest of its own. -/
theorem rules_pic {σ : Sg} {c : Int} (h : joins σ c = false) : ¬ (c = 65039 ∧ pictT σ.c = true) := by
  rintro ⟨rfl, hp⟩
  unfold joins at h
  rw [pict_kind hp, kind_pic] at h
  rw [show rules 0 4 = true from by decide] at h
  cases h
theorem wide_first {σ : Sg} {c : Int} (h : joins σ c = false) : wide σ c = if alone (kindT c) = true then 0 else slotsT c := by
  unfold wide wideC
  rw [if_neg (rules_pic h)]

/-! How a state reads the runes ahead. -/
def paR : List Int → Bool
  | [] => false
  | c :: l => if kindT c = 4 then paR l else pictT c
def riR : List Int → Nat
  | [] => 0
  | c :: l => if kindT c = 6 then riR l + 1 else 0
theorem riR_cons (c : Int) (l : List Int) : riR (c :: l) = if kindT c = 6 then riR l + 1 else 0 := rfl
/-- The state behind code points, the last one first. -/
def stR : List Int → Sg
  | [] => none0
  | c :: l => step (stR l) c
theorem stR_ok : ∀ l, (stR l).ok
  | [] => none0_ok
  | c :: l => step_ok _ _
theorem stR_p : ∀ (c : Int) (l : List Int), kindT c = 4 ∨ kindT c = 5 → (stR (c :: l)).p = paR l
  | c, [], h => by
    show stepP none0 c = false
    unfold stepP none0
    rw [if_pos h, pict_0, kind_0]
    rfl
  | c, d :: l, h => by
    show stepP (stR (d :: l)) c = _
    unfold stepP
    rw [if_pos h, show (stR (d :: l)).c = d from rfl]
    unfold paR
    by_cases hd : kindT d = 4
    · have hp : pictT d = false := by
        cases hp : pictT d with
        | false => rfl
        | true => rw [pict_kind hp] at hd; cases hd
      rw [if_pos hd, hp, stR_p d l (.inl hd), hd]
      rfl
    · rw [if_neg hd]
      have : (kindT d == 4) = false := by simpa using hd
      rw [this, Bool.false_and, Bool.or_false]
theorem stR_o : ∀ (l : List Int), (stR l).o = decide (riR l % 2 = 1)
  | [] => rfl
  | c :: l => by
    show stepO (stR l) c = _
    unfold stepO riR
    by_cases h : kindT c = 6
    · rw [if_pos h, if_pos h, stR_o l]
      by_cases h1 : riR l % 2 = 1
      · rw [decide_eq_true h1, decide_eq_false (by omega)]
        rfl
      · rw [decide_eq_false h1, decide_eq_true (by omega)]
        rfl
    · rw [if_neg h, if_neg h]
      rfl
/-- The document's rules 4 and 5, of the code points ahead (the last one first). -/
theorem joins_read (d c : Int) (l : List Int) : joins (stR (d :: l)) c = (rules (kindT d) (kindT c) || ((kindT d == 5 && pictT c && paR l) || (kindT d == 6 && kindT c == 6 && decide (riR l % 2 = 0)))) := by
  unfold joins
  rw [show (stR (d :: l)).c = d from rfl]
  by_cases h5 : kindT d = 5
  · rw [if_pos h5, stR_p d l (.inr h5), h5]
    cases pictT c <;> cases paR l <;> simp
  · rw [if_neg h5, stR_o]
    have e5 : (kindT d == 5) = false := by simpa using h5
    rw [e5, Bool.false_and, Bool.false_and, Bool.false_or]
    congr 1
    rw [riR_cons]
    by_cases h6 : kindT d = 6
    · rw [if_pos h6, h6]
      by_cases h1 : riR l % 2 = 0
      · rw [decide_eq_true h1, decide_eq_true (by omega : (riR l + 1) % 2 = 1)]
        simp
      · rw [decide_eq_false h1, decide_eq_false (by omega : ¬ (riR l + 1) % 2 = 1)]
        simp
    · rw [if_neg h6]
      have e6 : (kindT d == 6) = false := by simpa using h6
      rw [e6]
      simp
end Go.Proofs.Ytikjchebffohdaa.Ku
