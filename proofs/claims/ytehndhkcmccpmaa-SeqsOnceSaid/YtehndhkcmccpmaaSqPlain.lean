/-
  Sequences, plainly: kept places, what comes next in a sequence, runs, what is told of sequences; one answer alone is told so; how runs are made place by place. No program in it.
-/
import Derived.Test.YtehndhkcmccpmaaLvPlain
set_option linter.unusedVariables false
namespace Go.Proofs.Ytehndhkcmccpmaa.Sq
open Go.Proofs.Ytehndhkcmccpmaa.Ba

/-- A run, or a sequence: three numbers, and places. -/
structure S4 where
  a : Int
  b : Int
  c : Int
  p : List Nat

/-- The level of a place; -1: it has none. -/
def L (z : List Int) (i : Nat) : Int := z.getD i (-1)
theorem L_lt {z : List Int} {i : Nat} (h : L z i ≠ -1) : i < z.length := by
  apply Classical.byContradiction
  intro hn
  exact h (by simp [L, List.getD, List.getElem?_eq_none (Nat.le_of_not_lt hn)])
theorem L_at {z : List Int} {i : Nat} (h : i < z.length) : L z i = z[i] := by simp [L, List.getD, List.getElem?_eq_getElem h]
/-- The kept place ahead of a place. -/
def dn (z : List Int) : Nat → Option Nat
  | 0 => none
  | i + 1 => if L z i = -1 then dn z i else some i
/-- The first kept place from a place on. -/
def up (z : List Int) (i : Nat) : Option Nat :=
  if i < z.length then (if L z i = -1 then up z (i + 1) else some i) else none
termination_by z.length - i
theorem dn_some {z : List Int} : ∀ {i j : Nat}, dn z i = some j → j < i ∧ L z j ≠ -1 ∧ ∀ k, j < k → k < i → L z k = -1
  | 0, j, h => by simp [dn] at h
  | i + 1, j, h => by
    unfold dn at h
    split at h
    · rename_i h0
      obtain ⟨h1, h2, h3⟩ := dn_some h
      refine ⟨by omega, h2, fun k hk hki => ?_⟩
      by_cases e : k = i
      · rw [e]; exact h0
      · exact h3 k hk (by omega)
    · rename_i h0
      injection h with h
      subst h
      exact ⟨by omega, h0, fun k hk hki => by omega⟩
theorem dn_none {z : List Int} : ∀ {i : Nat}, dn z i = none → ∀ k, k < i → L z k = -1
  | 0, h, k, hk => by omega
  | i + 1, h, k, hk => by
    unfold dn at h
    split at h
    · rename_i h0
      by_cases e : k = i
      · rw [e]; exact h0
      · exact dn_none h k (by omega)
    · cases h
theorem up_some {z : List Int} : ∀ (d : Nat) {i j : Nat}, z.length - i ≤ d → up z i = some j → i ≤ j ∧ L z j ≠ -1 ∧ ∀ k, i ≤ k → k < j → L z k = -1
  | d, i, j, hd, h => by
    rw [up] at h
    split at h
    · rename_i hi
      split at h
      · rename_i h0
        cases d with
        | zero => omega
        | succ d =>
          obtain ⟨h1, h2, h3⟩ := up_some d (by omega) h
          refine ⟨by omega, h2, fun k hk hkj => ?_⟩
          by_cases e : k = i
          · rw [e]; exact h0
          · exact h3 k (by omega) hkj
      · rename_i h0
        injection h with h
        subst h
        exact ⟨Nat.le_refl _, h0, fun k hk hkj => by omega⟩
    · cases h
theorem up_none {z : List Int} : ∀ (d : Nat) {i : Nat}, z.length - i ≤ d → up z i = none → ∀ k, i ≤ k → L z k = -1
  | d, i, hd, h, k, hk => by
    rw [up] at h
    split at h
    · rename_i hi
      split at h
      · rename_i h0
        cases d with
        | zero => omega
        | succ d =>
          by_cases e : k = i
          · rw [e]; exact h0
          · exact up_none d (by omega) h k (by omega)
      · cases h
    · exact Classical.byContradiction fun hn => by have := L_lt hn; omega
theorem upS {z : List Int} {i j : Nat} (h : up z i = some j) : i ≤ j ∧ L z j ≠ -1 ∧ ∀ k, i ≤ k → k < j → L z k = -1 := up_some _ (Nat.le_refl _) h
theorem upN {z : List Int} {i : Nat} (h : up z i = none) : ∀ k, i ≤ k → L z k = -1 := up_none _ (Nat.le_refl _) h
theorem up_eq {z : List Int} {i j : Nat} (h1 : i ≤ j) (h2 : L z j ≠ -1) (h3 : ∀ k, i ≤ k → k < j → L z k = -1) : up z i = some j := by
  cases h : up z i with
  | none => exact absurd (upN h j h1) h2
  | some q =>
    obtain ⟨a, b, c⟩ := upS h
    have : q = j := by
      rcases Nat.lt_trichotomy q j with hq | hq | hq
      · exact absurd (h3 q a hq) b
      · exact hq
      · exact absurd (c j h1 hq) h2
    rw [this]
theorem dn_eq {z : List Int} {i j : Nat} (h1 : j < i) (h2 : L z j ≠ -1) (h3 : ∀ k, j < k → k < i → L z k = -1) : dn z i = some j := by
  cases h : dn z i with
  | none => exact absurd (dn_none h j h1) h2
  | some q =>
    obtain ⟨a, b, c⟩ := dn_some h
    have : q = j := by
      rcases Nat.lt_trichotomy q j with hq | hq | hq
      · exact absurd (c j hq h1) h2
      · exact hq
      · exact absurd (h3 q hq a) b
    rw [this]
theorem dn_up {z : List Int} {i j : Nat} (h : up z (i + 1) = some j) (hi : L z i ≠ -1) : dn z j = some i := by
  obtain ⟨a, b, c⟩ := upS h
  exact dn_eq (by omega) hi fun k h1 h2 => c k (by omega) h2
theorem up_dn {z : List Int} {i j : Nat} (h : dn z j = some i) (hj : L z j ≠ -1) : up z (i + 1) = some j := by
  obtain ⟨a, b, c⟩ := dn_some h
  exact up_eq (by omega) hj fun k h1 h2 => c k (by omega) h2

/-- Does a place begin a run? -/
def begins (z : List Int) (q : Nat) : Bool := match dn z q with
  | none => true
  | some t => decide (L z t ≠ L z q)
def jump (c z : List Int) (i : Nat) : Option Nat := if isI (c.getD i 0) = true ∧ endAt c i < c.length ∧ begins z (endAt c i) = true then some (endAt c i) else none
/-- What comes behind a place in its sequence. -/
def nextS (c z : List Int) (i : Nat) : Option Nat := match up z (i + 1) with
  | some q => if L z q = L z i then some q else jump c z i
  | none => jump c z i
theorem jump_some {c z : List Int} {i q : Nat} (h : jump c z i = some q) : isI (c.getD i 0) = true ∧ endAt c i = q ∧ q < c.length ∧ begins z q = true := by
  unfold jump at h
  split at h
  · rename_i h0
    injection h with h
    subst h
    exact ⟨h0.1, rfl, h0.2⟩
  · cases h
theorem nextS_cases {c z : List Int} {i q : Nat} (h : nextS c z i = some q) : (up z (i + 1) = some q ∧ L z q = L z i) ∨ (jump c z i = some q ∧ ∀ r, up z (i + 1) = some r → L z r ≠ L z i) := by
  unfold nextS at h
  cases hu : up z (i + 1) with
  | none => rw [hu] at h; exact .inr ⟨h, fun r hr => by cases hr⟩
  | some r =>
    rw [hu] at h
    dsimp only at h
    split at h
    · rename_i h0
      injection h with h
      subst h
      exact .inl ⟨rfl, h0⟩
    · rename_i h0
      exact .inr ⟨h, fun r' hr => by injection hr with hr; subst hr; exact h0⟩
theorem nextS_gt {c z : List Int} {i q : Nat} (h : nextS c z i = some q) : i < q := by
  rcases nextS_cases h with ⟨h1, _⟩ | ⟨h1, _⟩
  · have := (upS h1).1; omega
  · obtain ⟨_, h2, _, _⟩ := jump_some h1
    have := endAt_gt c i
    omega
theorem nextS_same {c z : List Int} {i q : Nat} (h : up z (i + 1) = some q) (he : L z q = L z i) : nextS c z i = some q := by
  unfold nextS
  rw [h]
  dsimp only
  rw [if_pos he]
theorem nextS_jump {c z : List Int} {i : Nat} (h : ∀ q, up z (i + 1) = some q → L z q ≠ L z i) : nextS c z i = jump c z i := by
  unfold nextS
  cases hu : up z (i + 1) with
  | none => rfl
  | some q =>
    dsimp only
    rw [if_neg (h q hu)]

def firstB (c z : List Int) (i : Nat) : Bool := (List.range i).all fun k => L z k == -1 || nextS c z k != some i
theorem firstB_iff {c z : List Int} {i : Nat} : firstB c z i = true ↔ ∀ k, k < i → L z k ≠ -1 → nextS c z k ≠ some i := by
  simp only [firstB, List.all_eq_true, List.mem_range, Bool.or_eq_true, beq_iff_eq, bne_iff_ne, ne_eq]
  constructor
  · intro h k hk h1 h2
    rcases h k hk with h3 | h3
    · exact h1 h3
    · exact h3 h2
  · intro h k hk
    by_cases h1 : L z k = -1
    · exact .inl h1
    · exact .inr (h k hk h1)
/-- The direction of the greater one of two levels. -/
def way (a b : Int) : Int := if (max a b).tmod 2 = 0 then 0 else 1
def ahead (lv : Int) (z : List Int) (i : Nat) : Int := match dn z i with
  | none => lv
  | some q => L z q
def behind (c : List Int) (lv : Int) (z : List Int) (i : Nat) : Int :=
  if isI (c.getD i 0) = true ∧ endAt c i = c.length then lv else match up z (i + 1) with
  | none => lv
  | some q => L z q
def isHd (c z : List Int) (i : Nat) : Bool := L z i != -1 && firstB c z i
def headsTo (c z : List Int) (k : Nat) : List Nat := (List.range k).filter (isHd c z)
def hd (l : List Nat) : Nat := l.headD 0
def lst (l : List Nat) : Nat := l.getLastD 0
theorem lst_snoc (l : List Nat) (x : Nat) : lst (l ++ [x]) = x := by simp [lst]
theorem hd_append {l : List Nat} (r : List Nat) (h : l ≠ []) : hd (l ++ r) = hd l := by cases l <;> simp_all [hd]
theorem lst_append (l : List Nat) {r : List Nat} (h : r ≠ []) : lst (l ++ r) = lst r := by
  unfold lst
  rw [List.getLastD_eq_getLast?, List.getLastD_eq_getLast?, List.getLast?_append]
  cases hr : r.getLast? with
  | none => exact absurd (List.getLast?_eq_none_iff.1 hr) h
  | some x => rfl
theorem lst_mem {l : List Nat} (h : l ≠ []) : lst l ∈ l := by
  unfold lst
  rw [List.getLastD_eq_getLast?]
  cases hr : l.getLast? with
  | none => exact absurd (List.getLast?_eq_none_iff.1 hr) h
  | some x => exact List.mem_of_getLast? hr
theorem hd_mem {l : List Nat} (h : l ≠ []) : hd l ∈ l := by cases l <;> simp_all [hd]
/-- Each comes behind the one ahead of it. -/
def Chn (c z : List Int) : List Nat → Prop
  | [] => True
  | [_] => True
  | x :: y :: l => nextS c z x = some y ∧ Chn c z (y :: l)
structure One (c z : List Int) (lv : Int) (s : S4) : Prop where
  ne : s.p ≠ []
  chn : Chn c z s.p
  fin : nextS c z (lst s.p) = none
  ea : s.a = L z (hd s.p)
  eb : s.b = way (L z (hd s.p)) (ahead lv z (hd s.p))
  ec : s.c = way (L z (hd s.p)) (behind c lv z (lst s.p))
/-- These are the sequences. -/
structure SeqsOk (c z : List Int) (lv : Int) (T : List S4) : Prop where
  heads : T.map (fun s => hd s.p) = headsTo c z z.length
  each : ∀ s ∈ T, One c z lv s
theorem chn_unique {c z : List Int} : ∀ {l l' : List Nat}, l ≠ [] → l' ≠ [] → Chn c z l → Chn c z l' → hd l = hd l' → nextS c z (lst l) = none → nextS c z (lst l') = none → l = l'
  | [], _, h, _, _, _, _, _, _ => absurd rfl h
  | _, [], _, h, _, _, _, _, _ => absurd rfl h
  | [x], [y], _, _, _, _, h, _, _ => by simp [hd] at h; rw [h]
  | [x], y :: y2 :: l', _, _, _, h2, h, h3, _ => by
    simp [hd] at h
    subst h
    simp [lst] at h3
    rw [h2.1] at h3
    cases h3
  | x :: x2 :: l, [y], _, _, h1, _, h, _, h4 => by
    simp [hd] at h
    subst h
    simp [lst] at h4
    rw [h1.1] at h4
    cases h4
  | x :: x2 :: l, y :: y2 :: l', _, _, h1, h2, h, h3, h4 => by
    simp [hd] at h
    subst h
    have e : x2 = y2 := by
      have := h1.1.symm.trans h2.1
      injection this
    have := chn_unique (l := x2 :: l) (l' := y2 :: l') (by simp) (by simp) h1.2 h2.2 (by simp [hd, e]) (by simpa [lst] using h3) (by simpa [lst] using h4)
    rw [this]
theorem One.unique {c z : List Int} {lv : Int} {s s' : S4} (h : One c z lv s) (h' : One c z lv s') (e : hd s.p = hd s'.p) : s = s' := by
  have hp := chn_unique h.ne h'.ne h.chn h'.chn e h.fin h'.fin
  have ha := h.ea
  have ha' := h'.ea
  have hb := h.eb
  have hb' := h'.eb
  have hc := h.ec
  have hc' := h'.ec
  rw [← hp] at ha' hb' hc'
  cases s
  cases s'
  simp_all
theorem SeqsOk.unique {c z : List Int} {lv : Int} {T T' : List S4} (h : SeqsOk c z lv T) (h' : SeqsOk c z lv T') : T = T' := by
  have e := h.heads.trans h'.heads.symm
  have h1 := h.each
  have h2 := h'.each
  clear h h'
  induction T generalizing T' with
  | nil => cases T' <;> simp_all
  | cons s T ih =>
    cases T' with
    | nil => simp at e
    | cons s' T' =>
      simp only [List.map_cons, List.cons.injEq] at e
      have e1 := (h1 s List.mem_cons_self).unique (h2 s' List.mem_cons_self) e.1
      rw [e1, ih e.2 (fun x hx => h1 x (List.mem_cons_of_mem _ hx)) (fun x hx => h2 x (List.mem_cons_of_mem _ hx))]

/-- The kept places from one on, below another. -/
def kf (z : List Int) (f t : Nat) : List Nat := (List.range' f (t - f)).filter fun i => L z i != -1
theorem kf_same (z : List Int) (f : Nat) : kf z f f = [] := by simp [kf]
theorem kf_step {z : List Int} {f t : Nat} (h : f ≤ t) : kf z f (t + 1) = kf z f t ++ (if L z t = -1 then [] else [t]) := by
  unfold kf
  rw [show t + 1 - f = (t - f) + 1 from by omega, List.range'_concat, List.filter_append]
  congr 1
  rw [show f + 1 * (t - f) = t from by omega]
  by_cases h0 : L z t = -1
  · simp [h0]
  · simp [h0]
theorem kf_mem {z : List Int} {f t k : Nat} : k ∈ kf z f t ↔ f ≤ k ∧ k < t ∧ L z k ≠ -1 := by
  simp only [kf, List.mem_filter, List.mem_range'_1, bne_iff_ne, ne_eq]
  omega
theorem kf_ne {z : List Int} {f t : Nat} (h : f < t) (hf : L z f ≠ -1) : kf z f t ≠ [] := by
  intro e
  have : f ∈ kf z f t := kf_mem.2 ⟨Nat.le_refl _, h, hf⟩
  rw [e] at this
  cases this
theorem kf_lst {z : List Int} {f t : Nat} (h : f ≤ t) (ht : L z t ≠ -1) : lst (kf z f (t + 1)) = t := by
  rw [kf_step h, if_neg ht, lst_snoc]
theorem kf_hd {z : List Int} : ∀ {d f : Nat}, L z f ≠ -1 → hd (kf z f (f + 1 + d)) = f
  | 0, f, hf => by
    rw [Nat.add_zero, kf_step (Nat.le_refl _), kf_same, if_neg hf]
    rfl
  | d + 1, f, hf => by
    rw [show f + 1 + (d + 1) = (f + 1 + d) + 1 from by omega, kf_step (by omega), hd_append _ (kf_ne (by omega) hf)]
    exact kf_hd hf

structure RunOk (c z : List Int) (lv : Int) (f t : Nat) (r : S4) : Prop where
  le : f ≤ t
  kfi : L z f ≠ -1
  kt : L z t ≠ -1
  ep : r.p = kf z f (t + 1)
  same : ∀ k, f ≤ k → k ≤ t → L z k ≠ -1 → L z k = r.a
  beg : begins z f = true
  fin : ∀ q, up z (t + 1) = some q → L z q ≠ r.a
  eb : r.b = ahead lv z f
  ec : r.c = behind c lv z t
/-- Runs, one behind the other, from a place on, to another. -/
inductive Runs (c z : List Int) (lv : Int) : Nat → Nat → List S4 → Prop
  | nil (i : Nat) : Runs c z lv i i []
  | cons {i j f t : Nat} {r : S4} {R : List S4} : up z i = some f → RunOk c z lv f t r → Runs c z lv (t + 1) j R → Runs c z lv i j (r :: R)
theorem Runs.snoc {c z : List Int} {lv : Int} {i j f t : Nat} {r : S4} {R : List S4} (h : Runs c z lv i j R) (hu : up z j = some f) (hr : RunOk c z lv f t r) : Runs c z lv i (t + 1) (R ++ [r]) := by
  induction h with
  | nil i => exact .cons hu hr (.nil _)
  | cons h1 h2 h3 ih => exact .cons h1 h2 (ih hu)

/-- Is a place one of an initiator without a PDI? -/
def opn (c : List Int) (i : Nat) : Bool := decide (isI (c.getD i 0) = true ∧ endAt c i = c.length)
/-- One place more: a run for it, if it begins one; then the place. -/
def room (c z : List Int) (lv : Int) (R : List S4) (i : Nat) : List S4 := match R.getLast? with
  | none => [⟨L z i, lv, lv, []⟩]
  | some r => if r.a = L z i then R else (if opn c (lst r.p) = true then R else R.set (R.length - 1) ⟨r.a, r.b, L z i, r.p⟩) ++ [⟨L z i, r.a, lv, []⟩]
def putIn (R : List S4) (i : Nat) : List S4 := match R.getLast? with
  | none => []
  | some r => R.set (R.length - 1) ⟨r.a, r.b, r.c, r.p ++ [i]⟩
def stepR (c z : List Int) (lv : Int) (R : List S4) (i : Nat) : List S4 := putIn (room c z lv R i) i
def runsTo (c z : List Int) (lv : Int) (l : List Nat) : List S4 := l.foldl (stepR c z lv) []
theorem putIn_snoc (R : List S4) (r : S4) (i : Nat) : putIn (R ++ [r]) i = R ++ [⟨r.a, r.b, r.c, r.p ++ [i]⟩] := by
  unfold putIn
  rw [List.getLast?_concat]
  simp
theorem room_snoc (c z : List Int) (lv : Int) (R : List S4) (r : S4) (i : Nat) : room c z lv (R ++ [r]) i = if r.a = L z i then R ++ [r] else R ++ [⟨r.a, r.b, if opn c (lst r.p) = true then r.c else L z i, r.p⟩] ++ [⟨L z i, r.a, lv, []⟩] := by
  unfold room
  rw [List.getLast?_concat]
  dsimp only
  split
  · rfl
  · split
    · rfl
    · simp

/-- How runs are behind so many places. -/
def RSt (c z : List Int) (lv : Int) (i : Nat) (R : List S4) : Prop :=
  (R = [] ∧ ∀ k, k < i → L z k = -1) ∨ ∃ done r f j t, R = done ++ [r] ∧ Runs c z lv 0 j done ∧ up z j = some f ∧ f ≤ t ∧ t < i ∧ (∀ k, t < k → k < i → L z k = -1) ∧ L z f ≠ -1 ∧ L z t ≠ -1 ∧ r.p = kf z f (t + 1) ∧ (∀ k, f ≤ k → k ≤ t → L z k ≠ -1 → L z k = r.a) ∧ begins z f = true ∧ r.b = ahead lv z f ∧ r.c = lv
theorem RSt.step {c z : List Int} {lv : Int} {i : Nat} {R : List S4} (h : RSt c z lv i R) : RSt c z lv (i + 1) (if L z i = -1 then R else stepR c z lv R i) := by
  by_cases h0 : L z i = -1
  · rw [if_pos h0]
    rcases h with ⟨h1, h2⟩ | ⟨done, r, f, j, t, h1, h2, h3, h4, h5, h6, h7⟩
    · refine .inl ⟨h1, fun k hk => ?_⟩
      by_cases e : k = i
      · rw [e]; exact h0
      · exact h2 k (by omega)
    · refine .inr ⟨done, r, f, j, t, h1, h2, h3, h4, by omega, fun k h8 h9 => ?_, h7⟩
      by_cases e : k = i
      · rw [e]; exact h0
      · exact h6 k h8 (by omega)
  · rw [if_neg h0]
    rcases h with ⟨h1, h2⟩ | ⟨done, r, f, j, t, h1, h2, h3, h4, h5, h6, h7, h8, h9, h10, h11, h12, h13⟩
    · subst h1
      have hd : dn z i = none := by
        cases hd : dn z i with
        | none => rfl
        | some q => obtain ⟨a, b, _⟩ := dn_some hd; exact absurd (h2 q a) b
      refine .inr ⟨[], ⟨L z i, lv, lv, [i]⟩, i, 0, i, rfl, .nil _, up_eq (by omega) h0 fun k _ hk => h2 k hk, Nat.le_refl _, by omega, fun k _ _ => by omega, h0, h0, ?_, fun k hk1 hk2 _ => ?_, ?_, ?_, rfl⟩
      · rw [kf_step (Nat.le_refl _), kf_same, if_neg h0]; rfl
      · rw [show k = i from by omega]
      · unfold begins; rw [hd]
      · unfold ahead; rw [hd]
    · subst h1
      have hdn : dn z i = some t := dn_eq h5 h8 h6
      have hup : up z (t + 1) = some i := up_dn hdn h0
      unfold stepR
      rw [room_snoc]
      by_cases he : r.a = L z i
      · rw [if_pos he, putIn_snoc]
        refine .inr ⟨done, _, f, j, i, rfl, h2, h3, by omega, by omega, fun k _ _ => by omega, h7, h0, ?_, fun k hk1 hk2 hk3 => ?_, h11, h12, h13⟩
        · show r.p ++ [i] = _
          have hk : ∀ d, t + 1 + d ≤ i → kf z f (t + 1 + d) = kf z f (t + 1) := by
            intro d
            induction d with
            | zero => intro _; rfl
            | succ d ih =>
              intro hd
              rw [show t + 1 + (d + 1) = (t + 1 + d) + 1 from by omega, kf_step (by omega), if_pos (h6 _ (by omega) (by omega)), List.append_nil]
              exact ih (by omega)
          have hk' := hk (i - (t + 1)) (by omega)
          rw [show t + 1 + (i - (t + 1)) = i from by omega] at hk'
          rw [kf_step (by omega), if_neg h0, hk', h9]
        · show L z k = r.a
          by_cases hkt : k ≤ t
          · exact h10 k hk1 hkt hk3
          · by_cases e : k = i
            · rw [e, he]
            · exact absurd (h6 k (by omega) (by omega)) hk3
      · rw [if_neg he, putIn_snoc]
        have hrt : L z t = r.a := h10 t h4 (Nat.le_refl _) h8
        have hl : lst r.p = t := by rw [h9]; exact kf_lst h4 h8
        refine .inr ⟨_, _, i, t + 1, i, rfl, h2.snoc h3 (t := t) (r := ⟨r.a, r.b, if opn c (lst r.p) = true then r.c else L z i, r.p⟩) ⟨h4, h7, h8, h9, h10, h11, fun q hq => ?_, h12, ?_⟩, hup, Nat.le_refl _, by omega, fun k _ _ => by omega, h0, h0, ?_, fun k hk1 hk2 _ => ?_, ?_, ?_, rfl⟩
        · rw [hup] at hq
          injection hq with hq
          subst hq
          exact fun e => he e.symm
        · show (if opn c (lst r.p) = true then r.c else L z i) = _
          rw [hl]
          unfold behind opn
          by_cases ho : isI (c.getD t 0) = true ∧ endAt c t = c.length
          · rw [if_pos (by simpa using ho), if_pos ho, h13]
          · rw [if_neg (by simpa using ho), if_neg ho, hup]
        · show [] ++ [i] = _
          rw [kf_step (Nat.le_refl _), kf_same, if_neg h0]
        · show L z k = L z i
          rw [show k = i from by omega]
        · unfold begins
          rw [hdn]
          simp only [decide_eq_true_eq, ne_eq]
          rw [hrt]
          exact he
        · show r.a = _
          unfold ahead
          rw [hdn]
          exact hrt.symm
theorem runsTo_st (c z : List Int) (lv : Int) : ∀ (i : Nat), RSt c z lv i (runsTo c z lv (kf z 0 i))
  | 0 => .inl ⟨by simp [kf_same, runsTo], fun k hk => by omega⟩
  | i + 1 => by
    have h := (runsTo_st c z lv i).step
    have e : runsTo c z lv (kf z 0 (i + 1)) = (if L z i = -1 then runsTo c z lv (kf z 0 i) else stepR c z lv (runsTo c z lv (kf z 0 i)) i) := by
      rw [kf_step (Nat.zero_le _)]
      split
      · rw [List.append_nil]
      · unfold runsTo; rw [List.foldl_append]; rfl
    rw [e]
    exact h
/-- The kept places. -/
def kept (z : List Int) : List Nat := kf z 0 z.length
/-- All runs, in order. -/
def runsL (c z : List Int) (lv : Int) : List S4 := runsTo c z lv (kept z)
theorem runsL_ok (c z : List Int) (lv : Int) : ∃ j, Runs c z lv 0 j (runsL c z lv) ∧ up z j = none := by
  have hN : ∀ {j}, (∀ k, j ≤ k → L z k = -1) → up z j = none := fun {j} h => by
    cases hu : up z j with
    | none => rfl
    | some q => obtain ⟨a, b, _⟩ := upS hu; exact absurd (h q a) b
  have hbig : ∀ k, z.length ≤ k → L z k = -1 := fun k hk => Classical.byContradiction fun hn => by have := L_lt hn; omega
  rcases runsTo_st c z lv z.length with ⟨h1, h2⟩ | ⟨done, r, f, j, t, h1, h2, h3, h4, h5, h6, h7, h8, h9, h10, h11, h12, h13⟩
  · refine ⟨0, ?_, hN fun k _ => ?_⟩
    · show Runs c z lv 0 0 (runsTo c z lv (kf z 0 z.length))
      rw [h1]
      exact .nil _
    · by_cases hk : k < z.length
      · exact h2 k hk
      · exact hbig k (by omega)
  · have hn : up z (t + 1) = none := hN fun k hk => by
      by_cases hkl : k < z.length
      · exact h6 k (by omega) hkl
      · exact hbig k (by omega)
    refine ⟨t + 1, ?_, hn⟩
    show Runs c z lv 0 (t + 1) (runsTo c z lv (kf z 0 z.length))
    rw [h1]
    refine h2.snoc h3 ⟨h4, h7, h8, h9, h10, h11, fun q hq => (by rw [hn] at hq; cases hq), h12, ?_⟩
    rw [h13]
    unfold behind
    rw [hn]
    split <;> rfl
end Go.Proofs.Ytehndhkcmccpmaa.Sq
