/-
  Several texts in one, each with its own remark: SqFold, SqLev, SqIso, BiIns, BiRes, WkPlain, MiPlain.
-/
import Derived.KernelRfl
import Derived.Test.YtfclpecbnailgaaGreatR0
import Derived.Test.YtfclpecbnailgaaGreatRows

/-
 How sequences are made of runs, one behind the other, with a map of what waits for its PDI; that what comes of it are the sequences. No program in it.
-/
set_option linter.unusedVariables false
namespace Go.Proofs.YtfclpecbnailgaaGreat.Sq
open Go.Proofs.YtfclpecbnailgaaGreat.Ba
theorem isI_lt {c : List Int} {i : Nat} (h : isI (c.getD i 0) = true) : i < c.length := by
 apply Classical.byContradiction
 intro hn
 rw [show c.getD i 0 = 0 from by simp [List.getD, List.getElem?_eq_none (Nat.le_of_not_lt hn)]] at h
 cases h
theorem end_inj {c : List Int} {i j : Nat} (hi : isI (c.getD i 0) = true) (hj : isI (c.getD j 0) = true) (h : endAt c i < c.length) (e : endAt c j = endAt c i) : i = j := by
 have li := isI_lt hi
 have lj := isI_lt hj
 have ei : c.getD i 0 = c[i] := by simp [List.getD, List.getElem?_eq_getElem li]
 have ej : c.getD j 0 = c[j] := by simp [List.getD, List.getElem?_eq_getElem lj]
 rw [ei] at hi
 rw [ej] at hj
 obtain ⟨r, hr⟩ := ends_only h li hi rfl
 obtain ⟨r', hr'⟩ := ends_only h lj hj e
 rw [hr] at hr'
 injection hr' with h1 _
/-- An initiator's PDI stands at its level. -/
def Iso (c z : List Int) : Prop := ∀ j, L z j ≠ -1 → isI (c.getD j 0) = true → endAt c j < c.length → L z (endAt c j) = L z j
theorem chn_append {c z : List Int} : ∀ {l r : List Nat}, Chn c z l → Chn c z r → l ≠ [] → r ≠ [] → nextS c z (lst l) = some (hd r) → Chn c z (l ++ r)
 | [], _, _, _, h, _, _ => absurd rfl h
 | _, [], _, _, _, h, _ => absurd rfl h
 | [x], y :: r, _, h2, _, _, h => ⟨by simpa [lst, hd] using h, h2⟩
 | x :: x2 :: l, y :: r, h1, h2, _, _, h => ⟨h1.1, chn_append (l := x2 :: l) h1.2 h2 (by simp) (by simp) (by simpa [lst, hd] using h)⟩
theorem chn_next {c z : List Int} : ∀ {l : List Nat} {p : Nat}, Chn c z l → p ∈ l → p = lst l ∨ ∃ q, nextS c z p = some q ∧ q ∈ l
 | [x], p, _, h => .inl (by simpa [lst] using h)
 | x :: y :: l, p, h1, h => by
  rcases List.mem_cons.1 h with rfl | h
  ·exact .inr ⟨y, h1.1, by simp⟩
  ·rcases chn_next h1.2 h with e | ⟨q, h2, h3⟩
   ·exact .inl (by simpa [lst] using e)
   ·exact .inr ⟨q, h2, List.mem_cons_of_mem _ h3⟩
theorem chn_up {c z : List Int} : ∀ {l : List Nat}, Chn c z l → l.Pairwise (· < ·)
 | [], _ => List.Pairwise.nil
 | [x], _ => by simp
 | x :: y :: l, h => by
  have ih := chn_up h.2
  refine List.Pairwise.cons (fun q hq => ?_) ih
  have hxy := nextS_gt h.1
  rcases List.mem_cons.1 hq with rfl | hq
  ·exact hxy
  ·have := (List.pairwise_cons.1 ih).1 q hq
   omega
theorem kf_chn {c z : List Int} {f t : Nat} {a : Int} (hf : L z f ≠ -1) (hs : ∀ k, f ≤ k → k ≤ t → L z k ≠ -1 → L z k = a) : ∀ (d : Nat), f + d ≤ t → Chn c z (kf z f (f + 1 + d)) ∧ dn z (f + 1 + d) = some (lst (kf z f (f + 1 + d)))
 | 0, h => by
  rw [Nat.add_zero, kf_step (Nat.le_refl _), kf_same, if_neg hf]
  refine ⟨trivial, ?_⟩
  unfold dn
  rw [if_neg hf]
  rfl
 | d + 1, h => by
  obtain ⟨h1, h2⟩ := kf_chn (c := c) hf hs d (by omega)
  rw [show f + 1 + (d + 1) = (f + 1 + d) + 1 from by omega, kf_step (by omega)]
  by_cases h0 : L z (f + 1 + d) = -1
  ·rw [if_pos h0, List.append_nil]
   refine ⟨h1, ?_⟩
   conv => lhs; unfold dn
   rw [if_pos h0]
   exact h2
  ·rw [if_neg h0, lst_snoc]
   obtain ⟨a1, a2, _⟩ := dn_some h2
   have hne := kf_ne (t := f + 1 + d) (by omega) hf
   have hm := kf_mem.1 (lst_mem hne)
   refine ⟨chn_append h1 (r := [f + 1 + d]) trivial hne (by simp) (nextS_same (up_dn h2 h0) ?_), ?_⟩
   ·show L z (f + 1 + d) = _
    rw [hs _ (by omega) (by omega) h0, hs _ hm.1 (by omega) a2]
   ·conv => lhs; unfold dn
    rw [if_neg h0]
theorem RunOk.ne {c z : List Int} {lv : Int} {f t : Nat} {r : S4} (h : RunOk c z lv f t r) : r.p ≠ [] := by
 rw [h.ep]
 have := h.le
 exact kf_ne (by omega) h.kfi
theorem RunOk.hd {c z : List Int} {lv : Int} {f t : Nat} {r : S4} (h : RunOk c z lv f t r) : hd r.p = f := by
 rw [h.ep]
 have := h.le
 have e := kf_hd (d := t - f) h.kfi
 rw [show f + 1 + (t - f) = t + 1 from by omega] at e
 exact e
theorem RunOk.lst {c z : List Int} {lv : Int} {f t : Nat} {r : S4} (h : RunOk c z lv f t r) : lst r.p = t := by
 rw [h.ep]
 exact kf_lst h.le h.kt
theorem RunOk.chn {c z : List Int} {lv : Int} {f t : Nat} {r : S4} (h : RunOk c z lv f t r) : Chn c z r.p := by
 rw [h.ep]
 have := h.le
 have e := (kf_chn (c := c) (t := t) h.kfi h.same (t - f) (by omega)).1
 rw [show f + 1 + (t - f) = t + 1 from by omega] at e
 exact e
theorem RunOk.jump {c z : List Int} {lv : Int} {f t : Nat} {r : S4} (h : RunOk c z lv f t r) : nextS c z t = jump c z t :=
 nextS_jump fun q hq => by rw [h.same t h.le (Nat.le_refl _) h.kt]; exact h.fin q hq
theorem RunOk.mem {c z : List Int} {lv : Int} {f t : Nat} {r : S4} (h : RunOk c z lv f t r) {p : Nat} (hp : p ∈ r.p) : f ≤ p ∧ p ≤ t ∧ L z p ≠ -1 ∧ L z p = r.a := by
 rw [h.ep] at hp
 obtain ⟨h1, h2, h3⟩ := kf_mem.1 hp
 exact ⟨h1, by omega, h3, h.same p h1 (by omega) h3⟩
theorem headsTo_step (c z : List Int) (k : Nat) : headsTo c z (k + 1) = headsTo c z k ++ (if isHd c z k = true then [k] else []) := by
 unfold headsTo
 rw [List.range_succ, List.filter_append]
 congr 1
 by_cases h : isHd c z k = true
 ·simp [h]
 ·simp [h]
theorem RunOk.heads {c z : List Int} {lv : Int} {f t bd : Nat} {r : S4} (h : RunOk c z lv f t r) (hu : up z bd = some f) : headsTo c z (t + 1) = headsTo c z bd ++ (if firstB c z f = true then [f] else []) := by
 obtain ⟨u1, u2, u3⟩ := upS hu
 have e1 : ∀ d, bd + d ≤ f → headsTo c z (bd + d) = headsTo c z bd := by
  intro d
  induction d with
  | zero => intro _; rfl
  | succ d ih =>
   intro hd
   rw [show bd + (d + 1) = (bd + d) + 1 from by omega, headsTo_step, ih (by omega), if_neg, List.append_nil]
   unfold isHd
   rw [u3 _ (by omega) (by omega)]
   simp
 have e2 : ∀ d, f + d ≤ t → headsTo c z (f + 1 + d) = headsTo c z bd ++ (if firstB c z f = true then [f] else []) := by
  intro d
  induction d with
  | zero =>
   intro _
   have := e1 (f - bd) (by omega)
   rw [show bd + (f - bd) = f from by omega] at this
   rw [Nat.add_zero, headsTo_step, this]
   congr 1
   have : isHd c z f = firstB c z f := by
    unfold isHd
    have : (L z f != -1) = true := by simpa using h.kfi
    rw [this, Bool.true_and]
   rw [this]
  | succ d ih =>
   intro hd
   have hno : ¬ isHd c z (f + 1 + d) = true := by
    unfold isHd
    by_cases h0 : L z (f + 1 + d) = -1
    ·rw [h0]; simp
    ·obtain ⟨-, h2⟩ := kf_chn (c := c) (t := t) h.kfi h.same d (by omega)
     obtain ⟨a1, a2, _⟩ := dn_some h2
     have hm := kf_mem.1 (lst_mem (kf_ne (t := f + 1 + d) (by omega) h.kfi))
     have hx := nextS_same (c := c) (up_dn h2 h0) (by rw [h.same _ (by omega) (by omega) h0, h.same _ hm.1 (by omega) a2])
     intro hb
     have hb2 : firstB c z (f + 1 + d) = true := by
      have := Bool.and_eq_true_iff.1 hb
      exact this.2
     exact firstB_iff.1 hb2 _ a1 a2 hx
   rw [show f + 1 + (d + 1) = (f + 1 + d) + 1 from by omega, headsTo_step, ih (by omega), if_neg hno, List.append_nil]
 have := h.le
 have e := e2 (t - f) (by omega)
 rw [show f + 1 + (t - f) = t + 1 from by omega] at e
 exact e
/-- A sequence as far as it has come. -/
structure Part (c z : List Int) (lv : Int) (bd : Nat) (s : S4) : Prop where
 ne : s.p ≠ []
 chn : Chn c z s.p
 lt : ∀ p ∈ s.p, p < bd ∧ L z p ≠ -1 ∧ L z p = s.a
 fin : nextS c z (lst s.p) = jump c z (lst s.p)
 out : ∀ q, nextS c z (lst s.p) = some q → bd ≤ q
 ea : s.a = L z (hd s.p)
 eb : s.b = way (L z (hd s.p)) (ahead lv z (hd s.p))
 ec : s.c = way (L z (hd s.p)) (behind c lv z (lst s.p))
structure SInv (c z : List Int) (lv : Int) (bd : Nat) (T : List S4) (f : Nat → Option Nat) : Prop where
 each : ∀ (m : Nat) (s : S4), T[m]? = some s → Part c z lv bd s
 heads : T.map (fun s => hd s.p) = headsTo c z bd
 uniq : ∀ (i j : Nat) (s s' : S4) (p : Nat), T[i]? = some s → T[j]? = some s' → p ∈ s.p → p ∈ s'.p → i = j
 cover : ∀ p, p < bd → L z p ≠ -1 → ∃ (i : Nat) (s : S4), T[i]? = some s ∧ p ∈ s.p
 w1 : ∀ (p m : Nat), bd ≤ p → f p = some m → ∃ s : S4, T[m]? = some s ∧ isI (c.getD (lst s.p) 0) = true ∧ endAt c (lst s.p) = p ∧ p < c.length
 w2 : ∀ (m : Nat) (s : S4), T[m]? = some s → isI (c.getD (lst s.p) 0) = true → endAt c (lst s.p) < c.length → bd ≤ endAt c (lst s.p) → f (endAt c (lst s.p)) = some m
theorem SInv.start (c z : List Int) (lv : Int) : SInv c z lv 0 [] (fun _ => none) :=
 ⟨(fun m s h => by simp at h), (by simp [headsTo]), (fun i j s s' p h => by simp at h), (fun p h => by omega), (fun p m _ h => by cases h), (fun m s h => by simp at h)⟩
/-- What waits, when a run is placed. -/
def updW (c : List Int) (f : Nat → Option Nat) (t m : Nat) : Nat → Option Nat := fun p => if isI (c.getD t 0) = true ∧ endAt c t < c.length ∧ p = endAt c t then some m else f p
theorem chain_uniq_lst {c z : List Int} {l : List Nat} {p q : Nat} (h : Chn c z l) (hp : p ∈ l) (hn : nextS c z p = some q) (hq : q ∉ l) : p = lst l := by
 rcases chn_next h hp with e | ⟨q', h1, h2⟩
 ·exact e
 ·rw [hn] at h1
  injection h1 with h1
  subst h1
  exact absurd h2 hq
/-- Where a run's first place comes behind something, that waits for it. -/
theorem SInv.waits {c z : List Int} {lv : Int} {bd f0 t : Nat} {T : List S4} {f : Nat → Option Nat} {r : S4} (h : SInv c z lv bd T f) (hu : up z bd = some f0) (hr : RunOk c z lv f0 t r) (hf : f f0 = none) : firstB c z f0 = true := by
 obtain ⟨u1, u2, u3⟩ := upS hu
 refine firstB_iff.2 fun k hk h0 hn => ?_
 have hkb : k < bd := by
  rcases Nat.lt_or_ge k bd with h1 | h1
  ·exact h1
  ·exact absurd (u3 k h1 hk) h0
 obtain ⟨m, s, hs, hks⟩ := h.cover k hkb h0
 have hp := h.each m s hs
 have hkl : k = lst s.p := chain_uniq_lst hp.chn hks hn (fun hm => by have := (hp.lt _ hm).1; omega)
 rcases nextS_cases hn with ⟨h1, h2⟩ | ⟨h1, h2⟩
 ·have hb := hr.beg
  unfold begins at hb
  rw [dn_up h1 h0] at hb
  simp only [decide_eq_true_eq, ne_eq] at hb
  exact hb h2.symm
 ·obtain ⟨j1, j2, j3, _⟩ := jump_some h1
  have := h.w2 m s hs (by rw [← hkl]; exact j1) (by rw [← hkl, j2]; exact j3) (by rw [← hkl, j2]; exact u1)
  rw [← hkl, j2, hf] at this
  cases this
theorem jump_ge {c z : List Int} {lv : Int} {f0 t : Nat} {r : S4} (hr : RunOk c z lv f0 t r) : ∀ q, nextS c z t = some q → t + 1 ≤ q := fun q hq => nextS_gt hq
/-- What begins a run is not within this one. -/
theorem begin_out {c z : List Int} {lv : Int} {bd f0 t q : Nat} {r : S4} (hu : up z bd = some f0) (hr : RunOk c z lv f0 t r) (hq1 : bd ≤ q) (hq2 : q ≠ f0) (j4 : begins z q = true) (hqk : L z q ≠ -1) : t + 1 ≤ q := by
 obtain ⟨u1, u2, u3⟩ := upS hu
 rcases Nat.lt_or_ge t q with h5 | h5
 ·omega
 ·exfalso
  rcases Nat.lt_or_ge q f0 with h7 | h7
  ·exact hqk (u3 q hq1 h7)
  ·have h8 : f0 < q := by omega
   obtain ⟨-, h9⟩ := kf_chn (c := c) (t := t) hr.kfi hr.same (q - f0 - 1) (by omega)
   rw [show f0 + 1 + (q - f0 - 1) = q from by omega] at h9
   unfold begins at j4
   rw [h9] at j4
   have hm := kf_mem.1 (lst_mem (kf_ne (t := q) h8 hr.kfi))
   simp only [decide_eq_true_eq, ne_eq] at j4
   exact j4 (by rw [hr.same _ hm.1 (by omega) hm.2.2, hr.same _ (by omega) h5 hqk])
theorem SInv.grown {c z : List Int} {lv : Int} (hiso : Iso c z) {bd f0 t m : Nat} {T : List S4} {f : Nat → Option Nat} {r s : S4} (h : SInv c z lv bd T f) (hu : up z bd = some f0) (hr : RunOk c z lv f0 t r) (hf : f f0 = some m) (hs : T[m]? = some s) :
  SInv c z lv (t + 1) (T.set m ⟨s.a, s.b, way r.a r.c, s.p ++ r.p⟩) (updW c f t m) := by
 obtain ⟨u1, u2, u3⟩ := upS hu
 have hle := hr.le
 obtain ⟨s', hs', hi, he, hfl⟩ := h.w1 f0 m u1 hf
 rw [hs] at hs'
 injection hs' with hs'
 subst hs'
 have hp := h.each m s hs
 have hml : m < T.length := (List.getElem?_eq_some_iff.1 hs).1
 have hlm := hp.lt _ (lst_mem hp.ne)
 have hnext : nextS c z (lst s.p) = some f0 := by
  rw [hp.fin]
  unfold jump
  rw [he, if_pos ⟨hi, hfl, hr.beg⟩]
 have hra : r.a = s.a := by
  have h1 := hiso _ hlm.2.1 hi (by rw [he]; exact hfl)
  rw [he] at h1
  rw [← hr.same f0 (Nat.le_refl _) hle u2, h1, hlm.2.2]
 have hfb : ¬ firstB c z f0 = true := fun hb => firstB_iff.1 hb _ (by omega) hlm.2.1 hnext
 have hnew : ∀ p ∈ r.p, bd ≤ p := fun p hp => by have := (hr.mem hp).1; omega
 have hother : ∀ i s1, i ≠ m → (T.set m ⟨s.a, s.b, way r.a r.c, s.p ++ r.p⟩)[i]? = some s1 → T[i]? = some s1 := fun i s1 hi h1 => by
  rwa [List.getElem?_set_ne (fun e => hi e.symm)] at h1
 have hself : ∀ s1, (T.set m ⟨s.a, s.b, way r.a r.c, s.p ++ r.p⟩)[m]? = some s1 → s1 = ⟨s.a, s.b, way r.a r.c, s.p ++ r.p⟩ := fun s1 h1 => by
  rw [List.getElem?_set_self hml] at h1
  injection h1 with h1
  exact h1.symm
 have hinj : ∀ i s1, i ≠ m → T[i]? = some s1 → ∀ q, nextS c z (lst s1.p) = some q → q ≠ f0 := fun i s1 hi2 h1 q hq e => by
  subst e
  have hp1 := h.each i s1 h1
  rw [hp1.fin] at hq
  obtain ⟨j1, j2, j3, _⟩ := jump_some hq
  have e2 := end_inj j1 hi (by rw [j2]; exact j3) (by rw [j2]; exact he)
  exact hi2 (h.uniq i m s1 s (lst s1.p) h1 hs (lst_mem hp1.ne) (by rw [e2]; exact lst_mem hp.ne))
 refine ⟨fun i s1 h1 => ?_, ?_, fun i j s1 s2 p h1 h2 hp1 hp2 => ?_, fun p hpt h0 => ?_, fun p m1 hpt h1 => ?_, fun i s1 h1 hi1 hl1 hb1 => ?_⟩
 ·by_cases e : i = m
  ·subst e
   rw [hself s1 h1]
   refine ⟨by simp [hp.ne], chn_append hp.chn hr.chn hp.ne hr.ne (by rw [hr.hd]; exact hnext), fun p hpm => ?_, ?_, ?_, ?_, ?_, ?_⟩
   ·rcases List.mem_append.1 hpm with hpm | hpm
    ·obtain ⟨a1, a2, a3⟩ := hp.lt p hpm
     exact ⟨by omega, a2, a3⟩
    ·obtain ⟨a1, a2, a3, a4⟩ := hr.mem hpm
     exact ⟨by omega, a3, by rw [a4, hra]⟩
   ·show nextS c z (lst (s.p ++ r.p)) = jump c z (lst (s.p ++ r.p))
    rw [lst_append _ hr.ne, hr.lst]
    exact hr.jump
   ·show ∀ q, nextS c z (lst (s.p ++ r.p)) = some q → t + 1 ≤ q
    rw [lst_append _ hr.ne, hr.lst]
    exact jump_ge hr
   ·show s.a = L z (hd (s.p ++ r.p))
    rw [hd_append _ hp.ne]
    exact hp.ea
   ·show s.b = way (L z (hd (s.p ++ r.p))) (ahead lv z (hd (s.p ++ r.p)))
    rw [hd_append _ hp.ne]
    exact hp.eb
   ·show way r.a r.c = way (L z (hd (s.p ++ r.p))) (behind c lv z (lst (s.p ++ r.p)))
    rw [hd_append _ hp.ne, lst_append _ hr.ne, hr.lst, ← hp.ea, hra, hr.ec]
  ·have h2 := hother i s1 e h1
   have hp1 := h.each i s1 h2
   refine ⟨hp1.ne, hp1.chn, fun p hpm => ?_, hp1.fin, fun q hq => ?_, hp1.ea, hp1.eb, hp1.ec⟩
   ·obtain ⟨a1, a2, a3⟩ := hp1.lt p hpm
    exact ⟨by omega, a2, a3⟩
   ·have hq1 := hp1.out q hq
    have hq2 := hinj i s1 e h2 q hq
    rw [hp1.fin] at hq
    obtain ⟨j1, j2, j3, j4⟩ := jump_some hq
    have h6 := hiso _ (hp1.lt _ (lst_mem hp1.ne)).2.1 j1 (by rw [j2]; exact j3)
    rw [j2] at h6
    exact begin_out hu hr hq1 hq2 j4 (by rw [h6]; exact (hp1.lt _ (lst_mem hp1.ne)).2.1)
 ·rw [hr.heads hu, if_neg hfb, List.append_nil, ← h.heads]
  apply List.ext_getElem?
  intro i
  simp only [List.getElem?_map, List.getElem?_set]
  by_cases e : m = i
  ·subst e
   rw [if_pos rfl, if_pos hml, hs]
   simp [hd_append _ hp.ne]
  ·rw [if_neg e]
 ·have hwhere : ∀ i s1, (T.set m ⟨s.a, s.b, way r.a r.c, s.p ++ r.p⟩)[i]? = some s1 → p ∈ s1.p → (∃ s2, T[i]? = some s2 ∧ p ∈ s2.p) ∨ (i = m ∧ p ∈ r.p) := fun i s1 h3 h4 => by
   by_cases e : i = m
   ·subst e
    rw [hself s1 h3] at h4
    rcases List.mem_append.1 h4 with h4 | h4
    ·exact .inl ⟨s, hs, h4⟩
    ·exact .inr ⟨rfl, h4⟩
   ·exact .inl ⟨s1, hother i s1 e h3, h4⟩
  rcases hwhere i s1 h1 hp1 with ⟨s3, h3, h4⟩ | ⟨h3, h4⟩
  ·rcases hwhere j s2 h2 hp2 with ⟨s5, h5, h6⟩ | ⟨h5, h6⟩
   ·exact h.uniq i j s3 s5 p h3 h5 h4 h6
   ·have := ((h.each i s3 h3).lt p h4).1
    have := hnew p h6
    omega
  ·rcases hwhere j s2 h2 hp2 with ⟨s5, h5, h6⟩ | ⟨h5, h6⟩
   ·have := ((h.each j s5 h5).lt p h6).1
    have := hnew p h4
    omega
   ·rw [h3, h5]
 ·rcases Nat.lt_or_ge p bd with h1 | h1
  ·obtain ⟨i, s1, h2, h3⟩ := h.cover p h1 h0
   by_cases e : i = m
   ·subst e
    rw [hs] at h2
    injection h2 with h2
    subst h2
    exact ⟨i, _, List.getElem?_set_self hml, List.mem_append_left _ h3⟩
   ·exact ⟨i, s1, by rw [List.getElem?_set_ne (fun e' => e e'.symm)]; exact h2, h3⟩
  ·have h2 : f0 ≤ p := by
    rcases Nat.lt_or_ge p f0 with h2 | h2
    ·exact absurd (u3 p h1 h2) h0
    ·exact h2
   refine ⟨m, _, List.getElem?_set_self hml, List.mem_append_right _ ?_⟩
   rw [hr.ep]
   exact kf_mem.2 ⟨h2, hpt, h0⟩
 ·unfold updW at h1
  split at h1
  ·rename_i h2
   injection h1 with h1
   subst h1
   refine ⟨_, List.getElem?_set_self hml, ?_⟩
   show isI (c.getD (lst (s.p ++ r.p)) 0) = true ∧ endAt c (lst (s.p ++ r.p)) = p ∧ p < c.length
   rw [lst_append _ hr.ne, hr.lst]
   exact ⟨h2.1, h2.2.2.symm, by rw [h2.2.2]; exact h2.2.1⟩
  ·rename_i h2
   obtain ⟨s1, h3, h4, h5, h6⟩ := h.w1 p m1 (by omega) h1
   by_cases e : m1 = m
   ·subst e
    rw [hs] at h3
    injection h3 with h3
    subst h3
    omega
   ·exact ⟨s1, by rw [List.getElem?_set_ne (fun e' => e e'.symm)]; exact h3, h4, h5, h6⟩
 ·by_cases e : i = m
  ·subst e
   have h2 := hself s1 h1
   subst h2
   have h3 : lst (s.p ++ r.p) = t := by rw [lst_append _ hr.ne, hr.lst]
   simp only [h3] at hi1 hl1 hb1 ⊢
   unfold updW
   rw [if_pos ⟨hi1, hl1, rfl⟩]
  ·have h2 := hother i s1 e h1
   have hp1 := h.each i s1 h2
   unfold updW
   rw [if_neg]
   ·exact h.w2 i s1 h2 hi1 hl1 (by omega)
   ·rintro ⟨a1, a2, a3⟩
    have e2 := end_inj hi1 a1 hl1 a3.symm
    have := (hp1.lt _ (lst_mem hp1.ne)).1
    omega
theorem SInv.fresh {c z : List Int} {lv : Int} (hiso : Iso c z) {bd f0 t : Nat} {T : List S4} {f : Nat → Option Nat} {r : S4} (h : SInv c z lv bd T f) (hu : up z bd = some f0) (hr : RunOk c z lv f0 t r) (hf : f f0 = none) :
  SInv c z lv (t + 1) (T ++ [⟨r.a, way r.a r.b, way r.a r.c, r.p⟩]) (updW c f t T.length) := by
 obtain ⟨u1, u2, u3⟩ := upS hu
 have hle := hr.le
 have hfb := h.waits hu hr hf
 have hnew : ∀ p ∈ r.p, bd ≤ p := fun p hp => by have := (hr.mem hp).1; omega
 have hcase : ∀ (i : Nat) (s1 : S4), (T ++ [⟨r.a, way r.a r.b, way r.a r.c, r.p⟩])[i]? = some s1 → (i < T.length ∧ T[i]? = some s1) ∨ (i = T.length ∧ s1 = ⟨r.a, way r.a r.b, way r.a r.c, r.p⟩) := fun i s1 h1 => by
  by_cases hi : i < T.length
  ·rw [List.getElem?_append_left hi] at h1
   exact .inl ⟨hi, h1⟩
  ·rw [List.getElem?_append_right (by omega)] at h1
   have h0 : i - T.length = 0 := by
    have := (List.getElem?_eq_some_iff.1 h1).1
    simp at this
    omega
   rw [h0] at h1
   simp at h1
   exact .inr ⟨by omega, h1.symm⟩
 have hold : ∀ (i : Nat) (s1 : S4), T[i]? = some s1 → (T ++ [⟨r.a, way r.a r.b, way r.a r.c, r.p⟩])[i]? = some s1 := fun i s1 h1 => by
  rw [List.getElem?_append_left (List.getElem?_eq_some_iff.1 h1).1]
  exact h1
 have hlast : (T ++ [(⟨r.a, way r.a r.b, way r.a r.c, r.p⟩ : S4)])[T.length]? = some ⟨r.a, way r.a r.b, way r.a r.c, r.p⟩ := by simp
 have hra : r.a = L z f0 := (hr.same f0 (Nat.le_refl _) hle u2).symm
 refine ⟨fun i s1 h1 => ?_, ?_, fun i j s1 s2 p h1 h2 hp1 hp2 => ?_, fun p hpt h0 => ?_, fun p m1 hpt h1 => ?_, fun i s1 h1 hi1 hl1 hb1 => ?_⟩
 ·rcases hcase i s1 h1 with ⟨hi, h2⟩ | ⟨hi, h2⟩
  ·have hp1 := h.each i s1 h2
   refine ⟨hp1.ne, hp1.chn, fun p hpm => ?_, hp1.fin, fun q hq => ?_, hp1.ea, hp1.eb, hp1.ec⟩
   ·obtain ⟨a1, a2, a3⟩ := hp1.lt p hpm
    exact ⟨by omega, a2, a3⟩
   ·have hq1 := hp1.out q hq
    have hlm := hp1.lt _ (lst_mem hp1.ne)
    have hq2 : q ≠ f0 := fun e => by
     subst e
     exact firstB_iff.1 hfb _ (by omega) hlm.2.1 hq
    rw [hp1.fin] at hq
    obtain ⟨j1, j2, j3, j4⟩ := jump_some hq
    have h6 := hiso _ hlm.2.1 j1 (by rw [j2]; exact j3)
    rw [j2] at h6
    exact begin_out hu hr hq1 hq2 j4 (by rw [h6]; exact hlm.2.1)
  ·subst h2
   refine ⟨hr.ne, hr.chn, fun p hpm => ?_, ?_, ?_, ?_, ?_, ?_⟩
   ·obtain ⟨a1, a2, a3, a4⟩ := hr.mem hpm
    exact ⟨by omega, a3, a4⟩
   ·show nextS c z (lst r.p) = jump c z (lst r.p)
    rw [hr.lst]
    exact hr.jump
   ·show ∀ q, nextS c z (lst r.p) = some q → t + 1 ≤ q
    rw [hr.lst]
    exact jump_ge hr
   ·show r.a = L z (hd r.p)
    rw [hr.hd, hra]
   ·show way r.a r.b = way (L z (hd r.p)) (ahead lv z (hd r.p))
    rw [hr.hd, hra, hr.eb]
   ·show way r.a r.c = way (L z (hd r.p)) (behind c lv z (lst r.p))
    rw [hr.hd, hr.lst, hra, hr.ec]
 ·rw [hr.heads hu, if_pos hfb, ← h.heads, List.map_append]
  simp [hr.hd]
 ·rcases hcase i s1 h1 with ⟨hi, h3⟩ | ⟨hi, h3⟩
  ·rcases hcase j s2 h2 with ⟨hj, h5⟩ | ⟨hj, h5⟩
   ·exact h.uniq i j s1 s2 p h3 h5 hp1 hp2
   ·subst h5
    have := ((h.each i s1 h3).lt p hp1).1
    have := hnew p hp2
    omega
  ·rcases hcase j s2 h2 with ⟨hj, h5⟩ | ⟨hj, h5⟩
   ·subst h3
    have := ((h.each j s2 h5).lt p hp2).1
    have := hnew p hp1
    omega
   ·rw [hi, hj]
 ·rcases Nat.lt_or_ge p bd with h1 | h1
  ·obtain ⟨i, s1, h2, h3⟩ := h.cover p h1 h0
   exact ⟨i, s1, hold i s1 h2, h3⟩
  ·have h2 : f0 ≤ p := by
    rcases Nat.lt_or_ge p f0 with h2 | h2
    ·exact absurd (u3 p h1 h2) h0
    ·exact h2
   refine ⟨T.length, _, hlast, ?_⟩
   show p ∈ r.p
   rw [hr.ep]
   exact kf_mem.2 ⟨h2, hpt, h0⟩
 ·unfold updW at h1
  split at h1
  ·rename_i h2
   injection h1 with h1
   subst h1
   refine ⟨_, hlast, ?_⟩
   show isI (c.getD (lst r.p) 0) = true ∧ endAt c (lst r.p) = p ∧ p < c.length
   rw [hr.lst]
   exact ⟨h2.1, h2.2.2.symm, by rw [h2.2.2]; exact h2.2.1⟩
  ·rename_i h2
   obtain ⟨s1, h3, h4⟩ := h.w1 p m1 (by omega) h1
   exact ⟨s1, hold m1 s1 h3, h4⟩
 ·rcases hcase i s1 h1 with ⟨hi, h3⟩ | ⟨hi, h3⟩
  ·have hp1 := h.each i s1 h3
   unfold updW
   rw [if_neg]
   ·exact h.w2 i s1 h3 hi1 hl1 (by omega)
   ·rintro ⟨a1, a2, a3⟩
    have e2 := end_inj hi1 a1 hl1 a3.symm
    have := (hp1.lt _ (lst_mem hp1.ne)).1
    omega
  ·subst h3
   have h3 : lst r.p = t := hr.lst
   simp only [h3] at hi1 hl1 hb1 ⊢
   unfold updW
   rw [if_pos ⟨hi1, hl1, rfl⟩, hi]
/-- All that is told of sequences. -/
structure SeqsAll (c z : List Int) (lv : Int) (T : List S4) : Prop where
 ok : SeqsOk c z lv T
 uniq : ∀ (i j : Nat) (s s' : S4) (p : Nat), T[i]? = some s → T[j]? = some s' → p ∈ s.p → p ∈ s'.p → i = j
 cover : ∀ p, L z p ≠ -1 → ∃ (i : Nat) (s : S4), T[i]? = some s ∧ p ∈ s.p
 lev : ∀ s ∈ T, ∀ p ∈ s.p, L z p ≠ -1 ∧ L z p = s.a
 up : ∀ s ∈ T, s.p.Pairwise (· < ·)
theorem SInv.all {c z : List Int} {lv : Int} (hiso : Iso c z) {bd : Nat} {T : List S4} {f : Nat → Option Nat} (h : SInv c z lv bd T f) (hu : up z bd = none) : SeqsAll c z lv T := by
 have hN := upN hu
 have hk : ∀ p, L z p ≠ -1 → p < bd := fun p hp => by
  rcases Nat.lt_or_ge p bd with h1 | h1
  ·exact h1
  ·exact absurd (hN p h1) hp
 have hheads : ∀ d, headsTo c z (bd + d) = headsTo c z bd := by
  intro d
  induction d with
  | zero => rfl
  | succ d ih =>
   rw [show bd + (d + 1) = (bd + d) + 1 from by omega, headsTo_step, ih, if_neg, List.append_nil]
   unfold isHd
   rw [hN _ (by omega)]
   simp
 have hlen : headsTo c z bd = headsTo c z z.length := by
  rcases Nat.lt_or_ge bd z.length with h1 | h1
  ·have := hheads (z.length - bd)
   rw [show bd + (z.length - bd) = z.length from by omega] at this
   exact this.symm
  ·have hback : ∀ d, headsTo c z (z.length + d) = headsTo c z z.length := by
    intro d
    induction d with
    | zero => rfl
    | succ d ih =>
     rw [show z.length + (d + 1) = (z.length + d) + 1 from by omega, headsTo_step, ih, if_neg, List.append_nil]
     unfold isHd
     have : L z (z.length + d) = -1 := Classical.byContradiction fun hn => by have := L_lt hn; omega
     rw [this]
     simp
   have := hback (bd - z.length)
   rw [show z.length + (bd - z.length) = bd from by omega] at this
   exact this
 have hpart : ∀ s ∈ T, ∃ m, T[m]? = some s := fun s hs => by
  obtain ⟨m, hm, e⟩ := List.getElem_of_mem hs
  exact ⟨m, by rw [List.getElem?_eq_getElem hm, e]⟩
 refine ⟨⟨by rw [h.heads, hlen], fun s hs => ?_⟩, h.uniq, fun p hp => h.cover p (hk p hp) hp, fun s hs p hp => ?_, fun s hs => ?_⟩
 ·obtain ⟨m, hm⟩ := hpart s hs
  have hp := h.each m s hm
  refine ⟨hp.ne, hp.chn, ?_, hp.ea, hp.eb, hp.ec⟩
  cases hn : nextS c z (lst s.p) with
  | none => rfl
  | some q =>
   have h1 := hp.out q hn
   have hlm := hp.lt _ (lst_mem hp.ne)
   rw [hp.fin] at hn
   obtain ⟨j1, j2, j3, j4⟩ := jump_some hn
   have h6 := hiso _ hlm.2.1 j1 (by rw [j2]; exact j3)
   rw [j2, hN q h1] at h6
   exact absurd h6.symm hlm.2.1
 ·obtain ⟨m, hm⟩ := hpart s hs
  exact ((h.each m s hm).lt p hp).2
 ·obtain ⟨m, hm⟩ := hpart s hs
  exact chn_up (h.each m s hm).chn
end Go.Proofs.YtfclpecbnailgaaGreat.Sq

/-
 What the sequences ask of explicit levels, plainly: an initiator's PDI stands at its level; what stands between stands above it, or at it. No program in it.
-/
set_option linter.unusedVariables false
namespace Go.Proofs.YtfclpecbnailgaaGreat.Lv
open Go Go.Proofs.YtfclpecbnailgaaGreat.Ba
/-- In an isolate that fitted; in one that was lost. -/
def InF (s : St) (d : Nat) (s1 : St) : Prop := s.li = 0 ∧ s.ld = 0 ∧ ∃ X e, e.iso = true ∧ s1.es = X ++ e :: s.es ∧ s1.op = s.op + 1 + isos X ∧ isos X + s1.li = d
def InL (s : St) (d : Nat) (s1 : St) : Prop := s1.es = s.es ∧ s1.ld = s.ld ∧ s1.op = s.op ∧ s1.li = s.li + 1 + d
theorem In.begin2 (o : Nat) (s : St) : InF s 0 (beginS o s) ∨ InL s 0 (beginS o s) := by
 unfold beginS
 split
 ·rename_i hf
  obtain ⟨-, h2, h3⟩ := fits_iff.1 hf
  exact .inl ⟨h2, h3, [], _, rfl, rfl, rfl, by simp [isos, h2]⟩
 ·exact .inr ⟨rfl, rfl, rfl, rfl⟩
theorem InF.open_ {s s1 : St} {d : Nat} (h : InF s d s1) (o : Nat) : InF s (d + 1) (beginS o s1) := by
 obtain ⟨h1, h2, X, e, h3, h4, h5, h6⟩ := h
 unfold beginS
 split
 ·refine ⟨h1, h2, _ :: X, e, h3, by simp [h4]; rfl, ?_, ?_⟩
  ·simp [isos, h5]; omega
  ·simp [isos]; omega
 ·exact ⟨h1, h2, X, e, h3, h4, h5, by simp; omega⟩
theorem InL.open_ {s s1 : St} {d : Nat} (h : InL s d s1) (o : Nat) : InL s (d + 1) (beginS o s1) := by
 obtain ⟨h1, h2, h3, h4⟩ := h
 unfold beginS
 split
 ·rename_i hf
  have := (fits_iff.1 hf).2.1
  omega
 ·exact ⟨h1, h2, h3, by simp; omega⟩
theorem InF.embed {s s1 : St} {d : Nat} (h : InF s d s1) (o : Nat) (v : Int) : InF s d (embedS o v s1) := by
 obtain ⟨h1, h2, X, e, h3, h4, h5, h6⟩ := h
 unfold embedS
 split
 ·exact ⟨h1, h2, ⟨nxt o (top s1.es).lev, v, false⟩ :: X, e, h3, by simp [push, h4], by simp [push, isos, h5], by simp [push, isos]; omega⟩
 ·split
  ·exact ⟨h1, h2, X, e, h3, h4, h5, h6⟩
  ·exact ⟨h1, h2, X, e, h3, h4, h5, h6⟩
theorem InL.embed {s s1 : St} {d : Nat} (h : InL s d s1) (o : Nat) (v : Int) : InL s d (embedS o v s1) := by
 obtain ⟨h1, h2, h3, h4⟩ := h
 unfold embedS
 split
 ·rename_i hf
  have := (fits_iff.1 hf).2.1
  omega
 ·split
  ·omega
  ·exact ⟨h1, h2, h3, h4⟩
theorem InF.pop {s s1 : St} {d : Nat} (h : InF s d s1) : InF s d (popS s1) := by
 obtain ⟨h1, h2, X, e, h3, h4, h5, h6⟩ := h
 unfold popS
 split
 ·exact ⟨h1, h2, X, e, h3, h4, h5, h6⟩
 ·split
  ·exact ⟨h1, h2, X, e, h3, h4, h5, h6⟩
  ·split
   ·exact ⟨h1, h2, X, e, h3, h4, h5, h6⟩
   ·rename_i hn
    cases X with
    | nil =>
     rw [h4] at hn
     exact absurd (.inl h3) hn
    | cons x X =>
     rw [h4] at hn
     have hx : ¬ x.iso = true := fun e => hn (.inl e)
     refine ⟨h1, h2, X, e, h3, by simp [h4], ?_, ?_⟩
     ·unfold isos at h5
      rw [if_neg hx] at h5
      exact h5
     ·unfold isos at h6
      rw [if_neg hx] at h6
      exact h6
theorem InL.pop {s s1 : St} {d : Nat} (h : InL s d s1) : InL s d (popS s1) := by
 obtain ⟨h1, h2, h3, h4⟩ := h
 unfold popS
 rw [if_pos (by omega)]
 exact ⟨h1, h2, h3, h4⟩
theorem InF.close {s s1 : St} {d : Nat} (h : InF s (d + 1) s1) : InF s d (endS s1) := by
 obtain ⟨h1, h2, X, e, h3, h4, h5, h6⟩ := h
 unfold endS
 split
 ·exact ⟨h1, h2, X, e, h3, h4, h5, by simp; omega⟩
 ·split
  ·omega
  ·obtain ⟨c1, c2⟩ := cut_in X (e :: s.es) (by omega)
   exact ⟨h1, h2, cutI X, e, h3, by simp [h4, c1], by simp [h5]; omega, by simp; omega⟩
theorem InL.close {s s1 : St} {d : Nat} (h : InL s (d + 1) s1) : InL s d (endS s1) := by
 obtain ⟨h1, h2, h3, h4⟩ := h
 unfold endS
 split
 ·exact ⟨h1, h2, h3, by simp; omega⟩
 ·omega
theorem InF.other {s s1 : St} {d : Nat} (h : InF s d s1) {c : Int} (hi : isI c = false) (hp : isP c = false) (l : List Int) : InF s d (closeS c s1) ∧ InF s d (openS c l (closeS c s1)) := by
 have h1 : c ≠ 19 ∧ c ≠ 20 ∧ c ≠ 21 := by simp [isI] at hi; omega
 have h2 : c ≠ 22 := by simpa [isP] using hp
 have hcl : InF s d (closeS c s1) := by
  unfold closeS
  by_cases h3 : c = 18
  ·rw [if_pos h3]
   exact h.pop
  ·rw [if_neg h3, if_neg h2]
   exact h
 refine ⟨hcl, ?_⟩
 unfold openS
 rw [if_neg h1.2.1, if_neg h1.1, if_neg h1.2.2]
 repeat' split
 all_goals first
  | exact hcl.embed _ _
  | exact hcl
theorem InL.other {s s1 : St} {d : Nat} (h : InL s d s1) {c : Int} (hi : isI c = false) (hp : isP c = false) (l : List Int) : InL s d (closeS c s1) ∧ InL s d (openS c l (closeS c s1)) := by
 have h1 : c ≠ 19 ∧ c ≠ 20 ∧ c ≠ 21 := by simp [isI] at hi; omega
 have h2 : c ≠ 22 := by simpa [isP] using hp
 have hcl : InL s d (closeS c s1) := by
  unfold closeS
  by_cases h3 : c = 18
  ·rw [if_pos h3]
   exact h.pop
  ·rw [if_neg h3, if_neg h2]
   exact h
 refine ⟨hcl, ?_⟩
 unfold openS
 rw [if_neg h1.2.1, if_neg h1.1, if_neg h1.2.2]
 repeat' split
 all_goals first
  | exact hcl.embed _ _
  | exact hcl
theorem chain_above {b : Nat} : ∀ (X r : List E) (e : E), r ≠ [] → Chain b (X ++ e :: r) → (top r).lev < (top (X ++ e :: r)).lev
 | [], t :: r, e, _, h => by
  have := h.1
  simpa [top] using this
 | [], [], e, h, _ => absurd rfl h
 | x :: X, r, e, hr, h => by
  have ih := chain_above (b := b) X r e hr
  cases hX : X ++ e :: r with
  | nil => simp at hX
  | cons y Y =>
   rw [List.cons_append, hX] at h
   rw [hX] at ih
   have h1 := ih h.2.2.2
   have h2 := h.1
   rw [List.cons_append, hX]
   simp only [top, List.headD_cons] at h1 ⊢
   omega
theorem InF.above {b : Nat} {s s1 : St} {d : Nat} (h : InF s d s1) (hs : Ok b s) (h1 : Ok b s1) : (top s.es).lev < (top s1.es).lev := by
 obtain ⟨_, _, X, e, _, h4, _, _⟩ := h
 have hc := h1.chain
 rw [h4] at hc ⊢
 exact chain_above X s.es e (by have := hs.chain.pos; intro e; rw [e] at this; simp at this) hc
theorem InL.same {s s1 : St} {d : Nat} (h : InL s d s1) : (top s1.es).lev = (top s.es).lev := by rw [h.1]
/-- The level that is told. -/
theorem out_lev {b : Nat} {s : St} {c : Int} (h10 : c ≠ 10) : (outS b s c).1 = -1 ∨ (outS b s c).1 = ((top s.es).lev : Int) := by
 unfold outS
 by_cases h : remB c = true
 ·rw [if_pos h]
  exact .inl rfl
 ·rw [if_neg h, if_neg h10]
  right
  by_cases h2 : (top s.es).ov = -1
  ·rw [if_pos h2]
  ·rw [if_neg h2]
theorem out_kept {b : Nat} {s : St} {c : Int} (h10 : c ≠ 10) (hr : remB c = false) : (outS b s c).1 = ((top s.es).lev : Int) := by
 unfold outS
 rw [if_neg (by rw [hr]; decide), if_neg h10]
 by_cases h2 : (top s.es).ov = -1
 ·rw [if_pos h2]
 ·rw [if_neg h2]
theorem out_any (b : Nat) (s : St) (c : Int) : (outS b s c).1 = -1 ∨ 0 ≤ (outS b s c).1 := by
 unfold outS
 by_cases h : remB c = true
 ·rw [if_pos h]
  exact .inl rfl
 ·rw [if_neg h]
  right
  by_cases h1 : c = 10
  ·rw [if_pos h1]; simp
  ·rw [if_neg h1]
   by_cases h2 : (top s.es).ov = -1
   ·rw [if_pos h2]; simp
   ·rw [if_neg h2]; simp
/-- What stands in an isolate stands above its initiator, or, where it was lost, at its level. -/
theorem walk_levF (b : Nat) (s : St) (hs : Ok b s) : ∀ (zs r : List Int) (d : Nat) (s1 : St), InF s d s1 → Ok b s1 → closedL zs d = true → (∀ c ∈ zs, c ≠ 10) → ∃ Z s2, Z.length = zs.length ∧ walkL b (zs ++ 22 :: r) s1 = Z ++ walkL b (22 :: r) s2 ∧ ∀ y ∈ Z, y.1 = -1 ∨ ((top s.es).lev : Int) < y.1
 | [], r, d, s1, h, h1, hc, hB => ⟨[], s1, rfl, rfl, fun y hy => by cases hy⟩
 | c :: zs, r, d, s1, h, h1, hc, hB => by
  simp only [closedL] at hc
  simp only [List.cons_append, walkL]
  have hBs : ∀ x ∈ zs, x ≠ 10 := fun x hx => hB x (List.mem_cons_of_mem _ hx)
  have hc10 : c ≠ 10 := hB c List.mem_cons_self
  have hk1 := (h1.close c)
  have hk2 := (h1.close c).open_ c (zs ++ 22 :: r)
  have hout : ∀ {d'}, InF s d' (closeS c s1) → (outS b (closeS c s1) c).1 = -1 ∨ ((top s.es).lev : Int) < (outS b (closeS c s1) c).1 := fun hin => by
   rcases out_lev (b := b) (s := closeS c s1) hc10 with h2 | h2
   ·exact .inl h2
   ·right
    rw [h2]
    have := hin.above hs hk1
    omega
  by_cases hi : isI c = true
  ·rw [if_pos hi] at hc
   obtain ⟨o, ho⟩ := initI hi (zs ++ 22 :: r) s1
   have hcl : closeS c s1 = s1 := closeI hi s1
   have hin : InF s (d + 1) (openS c (zs ++ 22 :: r) (closeS c s1)) := by rw [ho]; exact h.open_ o
   obtain ⟨Z, s2, e1, e2, e3⟩ := walk_levF b s hs zs r (d + 1) _ hin hk2 hc hBs
   refine ⟨_ :: Z, s2, by simp [e1], by rw [e2]; rfl, fun y hy => ?_⟩
   rcases List.mem_cons.1 hy with rfl | hy
   ·exact hout (d' := d) (by rw [hcl]; exact h)
   ·exact e3 y hy
  ·rw [if_neg hi] at hc
   by_cases hp : isP c = true
   ·rw [if_pos hp] at hc
    cases d with
    | zero => cases hc
    | succ d =>
     have hc22 : c = 22 := by simpa [isP] using hp
     subst hc22
     have hin : InF s d (closeS 22 s1) := h.close
     obtain ⟨Z, s2, e1, e2, e3⟩ := walk_levF b s hs zs r d (openS 22 (zs ++ 22 :: r) (closeS 22 s1)) hin hk2 hc hBs
     refine ⟨_ :: Z, s2, by simp [e1], by rw [e2]; rfl, fun y hy => ?_⟩
     rcases List.mem_cons.1 hy with rfl | hy
     ·exact hout hin
     ·exact e3 y hy
   ·rw [if_neg hp] at hc
    obtain ⟨hin1, hin2⟩ := h.other (by simpa using hi) (by simpa using hp) (zs ++ 22 :: r)
    obtain ⟨Z, s2, e1, e2, e3⟩ := walk_levF b s hs zs r d _ hin2 hk2 hc hBs
    refine ⟨_ :: Z, s2, by simp [e1], by rw [e2]; rfl, fun y hy => ?_⟩
    rcases List.mem_cons.1 hy with rfl | hy
    ·exact hout hin1
    ·exact e3 y hy
theorem walk_levL (b : Nat) (s : St) : ∀ (zs r : List Int) (d : Nat) (s1 : St), InL s d s1 → closedL zs d = true → (∀ c ∈ zs, c ≠ 10) → ∃ Z s2, Z.length = zs.length ∧ walkL b (zs ++ 22 :: r) s1 = Z ++ walkL b (22 :: r) s2 ∧ ∀ y ∈ Z, y.1 = -1 ∨ y.1 = ((top s.es).lev : Int)
 | [], r, d, s1, h, hc, hB => ⟨[], s1, rfl, rfl, fun y hy => by cases hy⟩
 | c :: zs, r, d, s1, h, hc, hB => by
  simp only [closedL] at hc
  simp only [List.cons_append, walkL]
  have hBs : ∀ x ∈ zs, x ≠ 10 := fun x hx => hB x (List.mem_cons_of_mem _ hx)
  have hc10 : c ≠ 10 := hB c List.mem_cons_self
  have hout : ∀ {d'}, InL s d' (closeS c s1) → (outS b (closeS c s1) c).1 = -1 ∨ (outS b (closeS c s1) c).1 = ((top s.es).lev : Int) := fun hin => by
   rcases out_lev (b := b) (s := closeS c s1) hc10 with h2 | h2
   ·exact .inl h2
   ·right
    rw [h2, hin.same]
  by_cases hi : isI c = true
  ·rw [if_pos hi] at hc
   obtain ⟨o, ho⟩ := initI hi (zs ++ 22 :: r) s1
   have hcl : closeS c s1 = s1 := closeI hi s1
   have hin : InL s (d + 1) (openS c (zs ++ 22 :: r) (closeS c s1)) := by rw [ho]; exact h.open_ o
   obtain ⟨Z, s2, e1, e2, e3⟩ := walk_levL b s zs r (d + 1) _ hin hc hBs
   refine ⟨_ :: Z, s2, by simp [e1], by rw [e2]; rfl, fun y hy => ?_⟩
   rcases List.mem_cons.1 hy with rfl | hy
   ·exact hout (d' := d) (by rw [hcl]; exact h)
   ·exact e3 y hy
  ·rw [if_neg hi] at hc
   by_cases hp : isP c = true
   ·rw [if_pos hp] at hc
    cases d with
    | zero => cases hc
    | succ d =>
     have hc22 : c = 22 := by simpa [isP] using hp
     subst hc22
     have hin : InL s d (closeS 22 s1) := h.close
     obtain ⟨Z, s2, e1, e2, e3⟩ := walk_levL b s zs r d (openS 22 (zs ++ 22 :: r) (closeS 22 s1)) hin hc hBs
     refine ⟨_ :: Z, s2, by simp [e1], by rw [e2]; rfl, fun y hy => ?_⟩
     rcases List.mem_cons.1 hy with rfl | hy
     ·exact hout hin
     ·exact e3 y hy
   ·rw [if_neg hp] at hc
    obtain ⟨hin1, hin2⟩ := h.other (by simpa using hi) (by simpa using hp) (zs ++ 22 :: r)
    obtain ⟨Z, s2, e1, e2, e3⟩ := walk_levL b s zs r d _ hin2 hc hBs
    refine ⟨_ :: Z, s2, by simp [e1], by rw [e2]; rfl, fun y hy => ?_⟩
    rcases List.mem_cons.1 hy with rfl | hy
    ·exact hout hin1
    ·exact e3 y hy
theorem end_closed : ∀ (l : List Int) (d : Nat), endL l d < l.length → closedL (l.take (endL l d)) d = true
 | [], d, h => by simp [endL] at h
 | c :: l, d, h => by
  by_cases hp : isP c = true
  ·have hi : ¬ isI c = true := fun h1 => by rw [isI_not_isP h1] at hp; cases hp
   cases d with
   | zero =>
    have e : endL (c :: l) 0 = 0 := by simp only [endL]; rw [if_pos hp]
    rw [e]
    rfl
   | succ d =>
    have e : endL (c :: l) (d + 1) = endL l d + 1 := by simp only [endL]; rw [if_pos hp, Nat.add_comm]
    rw [e] at h ⊢
    rw [List.take_succ_cons]
    simp only [closedL]
    rw [if_neg hi, if_pos hp]
    exact end_closed l d (by simpa using h)
  ·by_cases hi : isI c = true
   ·have e : endL (c :: l) d = endL l (d + 1) + 1 := by simp only [endL]; rw [if_neg hp, if_pos hi, Nat.add_comm]
    rw [e] at h ⊢
    rw [List.take_succ_cons]
    simp only [closedL]
    rw [if_pos hi]
    exact end_closed l (d + 1) (by simpa using h)
   ·have e : endL (c :: l) d = endL l d + 1 := by simp only [endL]; rw [if_neg hp, if_neg hi, Nat.add_comm]
    rw [e] at h ⊢
    rw [List.take_succ_cons]
    simp only [closedL]
    rw [if_neg hi, if_neg hp]
    exact end_closed l d (by simpa using h)
theorem walk_split (b : Nat) (r : List Int) : ∀ (a : List Int) (s : St), Ok b s → ∃ P s', P.length = a.length ∧ walkL b (a ++ r) s = P ++ walkL b r s' ∧ Ok b s'
 | [], s, h => ⟨[], s, rfl, rfl, h⟩
 | c :: a, s, h => by
  simp only [List.cons_append, walkL]
  obtain ⟨P, s', h1, h2, h3⟩ := walk_split b r a (openS c (a ++ r) (closeS c s)) ((h.close c).open_ c (a ++ r))
  exact ⟨_ :: P, s', by simp [h1], by rw [h2]; rfl, h3⟩
end Go.Proofs.YtfclpecbnailgaaGreat.Lv

/-
 What the levels of a paragraph are for its sequences, plainly: an initiator's PDI stands at its level; where there is no B, an initiator and its PDI stand in one sequence; where nothing embeds, overrides or isolates there is one sequence. No program in it.
-/
set_option linter.unusedVariables false
namespace Go.Proofs.YtfclpecbnailgaaGreat.Sq
open Go Go.Proofs.YtfclpecbnailgaaGreat.Ba Go.Proofs.YtfclpecbnailgaaGreat.Lv
def zB (c : List Int) (b : Nat) : List Int := (explL c b).map (·.1)
theorem zB_len (c : List Int) (b : Nat) : (zB c b).length = c.length := by simp [zB, explL_len]
theorem L_zB {c : List Int} {b i : Nat} {y : Int × Int} (h : (explL c b)[i]? = some y) : L (zB c b) i = y.1 := by
 unfold L zB
 rw [List.getD_eq_getElem?_getD, List.getElem?_map, h]
 rfl
theorem walk_at (b : Nat) : ∀ (l : List Int) (s : St) (i : Nat) (y : Int × Int), (walkL b l s)[i]? = some y → ∃ s' c, l[i]? = some c ∧ y = outS b s' c
 | [], s, i, y, h => by simp [walkL] at h
 | c :: l, s, 0, y, h => by
  simp [walkL] at h
  exact ⟨_, c, rfl, h.symm⟩
 | c :: l, s, i + 1, y, h => by
  simp only [walkL, List.getElem?_cons_succ] at h
  obtain ⟨s', c', h1, h2⟩ := walk_at b l _ i y h
  exact ⟨s', c', by simpa using h1, h2⟩
theorem zB_at {c : List Int} {b i : Nat} (h : i < c.length) : ∃ s', L (zB c b) i = (outS b s' c[i]).1 := by
 have hl : i < (explL c b).length := by rw [explL_len]; exact h
 have hy : (explL c b)[i]? = some (explL c b)[i] := List.getElem?_eq_getElem hl
 obtain ⟨s', c', h1, h2⟩ := walk_at b c (startS b) i _ hy
 rw [List.getElem?_eq_getElem h] at h1
 injection h1 with h1
 exact ⟨s', by rw [L_zB hy, h2, ← h1]⟩
theorem zB_ok (c : List Int) (b : Nat) (i : Nat) : L (zB c b) i = -1 ∨ 0 ≤ L (zB c b) i := by
 rcases Nat.lt_or_ge i c.length with h | h
 ·obtain ⟨s', hs⟩ := zB_at (b := b) h
  rw [hs]
  exact out_any b s' _
 ·left
  exact Classical.byContradiction fun hn => by have := L_lt hn; rw [zB_len] at this; omega
theorem remB_I {x : Int} (h : isI x = true) : remB x = false ∧ x ≠ 10 := by
 have hcs : x = 19 ∨ x = 20 ∨ x = 21 := by simpa [isI] using h
 rcases hcs with rfl | rfl | rfl <;> exact ⟨rfl, by omega⟩
theorem isolate_at {c : List Int} {b j : Nat} (hj : j < c.length) (hi : isI c[j] = true) (he : endAt c j < c.length) :
  ∃ s', Ok b s' ∧ (explL c b)[j]? = some (outS b s' c[j]) ∧ (explL c b)[endAt c j]? = some (outS b s' 22) ∧
   ((∀ x ∈ c, x ≠ 10) → (∀ k y, j < k → k < endAt c j → (explL c b)[k]? = some y → y.1 = -1 ∨ ((top s'.es).lev : Int) < y.1) ∨ (∀ k y, j < k → k < endAt c j → (explL c b)[k]? = some y → y.1 = -1 ∨ y.1 = ((top s'.es).lev : Int))) := by
 obtain ⟨e, hee⟩ : ∃ e, endL (c.drop (j + 1)) 0 = e := ⟨_, rfl⟩
 have hend : endAt c j = j + 1 + e := by unfold endAt; rw [hee]
 have hel : e < (c.drop (j + 1)).length := by rw [List.length_drop]; omega
 have hcl := end_closed (c.drop (j + 1)) 0 (by rw [hee]; exact hel)
 have hP := endL_at (c.drop (j + 1)) 0 (by rw [hee]; exact hel)
 simp only [hee] at hcl hP
 obtain ⟨zs, hzs⟩ : ∃ zs, (c.drop (j + 1)).take e = zs := ⟨_, rfl⟩
 have hzl : zs.length = e := by rw [← hzs, List.length_take]; omega
 have h22 : (c.drop (j + 1))[e] = 22 := by simpa [isP] using hP
 obtain ⟨r, hr⟩ : ∃ r, (c.drop (j + 1)).drop (e + 1) = r := ⟨_, rfl⟩
 have hsplit : c.drop (j + 1) = zs ++ 22 :: r := by
  rw [← hzs, ← hr, ← h22, ← List.drop_eq_getElem_cons hel, List.take_append_drop]
 have hc : c = c.take j ++ (c[j] :: (zs ++ 22 :: r)) := by
  rw [← hsplit, ← List.drop_eq_getElem_cons hj, List.take_append_drop]
 rw [hzs] at hcl
 have hex : explL c b = walkL b (c.take j ++ (c[j] :: (zs ++ 22 :: r))) (startS b) := by
  unfold explL
  exact congrArg (fun l => walkL b l (startS b)) hc
 obtain ⟨P, s', p1, p2, p3⟩ := walk_split b (c[j] :: (zs ++ 22 :: r)) (c.take j) (startS b) (Ok.start b)
 have hPl : P.length = j := by rw [p1, List.length_take]; omega
 obtain ⟨Z, z1, z2⟩ := walk_isolate b s' c[j] hi zs r hcl
 have hex1 : explL c b = P ++ (outS b s' c[j] :: (Z ++ outS b s' 22 :: walkL b r s')) := by rw [hex, p2, z2]
 refine ⟨s', p3, ?_, ?_, fun hB => ?_⟩
 ·rw [hex1, List.getElem?_append_right (by omega), hPl, Nat.sub_self]
  rfl
 ·rw [hex1, hend, List.getElem?_append_right (by omega), hPl, show j + 1 + e - j = e + 1 from by omega, List.getElem?_cons_succ, List.getElem?_append_right (by omega), z1, hzl, Nat.sub_self]
  rfl
 ·have hBz : ∀ x ∈ zs, x ≠ 10 := fun x hx => hB x (by rw [hc]; simp [hx])
  obtain ⟨o, ho⟩ := initI hi (zs ++ 22 :: r) s'
  have hw : walkL b (c[j] :: (zs ++ 22 :: r)) s' = outS b s' c[j] :: walkL b (zs ++ 22 :: r) (beginS o s') := by
   simp only [walkL]
   rw [ho, closeI hi]
  have hkey : ∀ (Z' : List (Int × Int)) (s2 : St) (Q : Int → Prop), Z'.length = zs.length → walkL b (zs ++ 22 :: r) (beginS o s') = Z' ++ walkL b (22 :: r) s2 → (∀ y ∈ Z', Q y.1) → ∀ k y, j < k → k < endAt c j → (explL c b)[k]? = some y → Q y.1 := by
   intro Z' s2 Q l1 l2 l3 k y hk1 hk2 hy
   rw [hex, p2, hw, l2, List.getElem?_append_right (by omega), hPl] at hy
   obtain ⟨q, rfl⟩ : ∃ q, k = j + 1 + q := ⟨k - (j + 1), by omega⟩
   rw [show j + 1 + q - j = q + 1 from by omega, List.getElem?_cons_succ, List.getElem?_append_left (by omega)] at hy
   exact l3 y (List.mem_of_getElem? hy)
  rcases In.begin2 o s' with hin | hin
  ·left
   obtain ⟨Z', s2, l1, l2, l3⟩ := walk_levF b s' p3 zs r 0 _ hin (p3.begin_ o) hcl hBz
   exact hkey Z' s2 (fun y => y = -1 ∨ ((top s'.es).lev : Int) < y) l1 l2 l3
  ·right
   obtain ⟨Z', s2, l1, l2, l3⟩ := walk_levL b s' zs r 0 _ hin hcl hBz
   exact hkey Z' s2 (fun y => y = -1 ∨ y = ((top s'.es).lev : Int)) l1 l2 l3
theorem getD_at {c : List Int} {j : Nat} (h : j < c.length) : c.getD j 0 = c[j] := by simp [List.getD, List.getElem?_eq_getElem h]
theorem iso_zB (c : List Int) (b : Nat) : Iso c (zB c b) := by
 intro j hk hi he
 have hj : j < c.length := by have := L_lt hk; rw [zB_len] at this; exact this
 rw [getD_at hj] at hi
 obtain ⟨s', h1, h2, h3, _⟩ := isolate_at (b := b) hj hi he
 obtain ⟨r1, r2⟩ := remB_I hi
 rw [L_zB h2, L_zB h3, out_kept r2 r1, out_kept (by decide) rfl]
end Go.Proofs.YtfclpecbnailgaaGreat.Sq

/-
 What stands in an isolate, plainly: its places are put in behind the initiator; each sequence of the paragraph without them is one of the paragraph with them, its places moved. No program in it.
-/
set_option linter.unusedVariables false
namespace Go.Proofs.YtfclpecbnailgaaGreat.Bi
open Go Go.Proofs.YtfclpecbnailgaaGreat.Ba Go.Proofs.YtfclpecbnailgaaGreat.Lv Go.Proofs.YtfclpecbnailgaaGreat.Sq
/-- Where a place stands, when n places have been put in behind the place a. -/
def sh (a n i : Nat) : Nat := if i ≤ a then i else i + n
theorem sh_le {a n i : Nat} (h : i ≤ a) : sh a n i = i := if_pos h
theorem sh_gt {a n i : Nat} (h : a < i) : sh a n i = i + n := if_neg (by omega)
/-- A paragraph's classes and levels without what stands in an isolate, and with it: n places behind the initiator, which stands at a. -/
structure Ins (cL cM zL zM : List Int) (a n : Nat) : Prop where
 c : ∀ i, cM.getD (sh a n i) 0 = cL.getD i 0
 z : ∀ i, L zM (sh a n i) = L zL i
 len : cM.length = cL.length + n
 zl : zL.length = cL.length
 zm : zM.length = cM.length
 al : a + 1 < cL.length
 ai : isI (cL.getD a 0) = true
 ea : endAt cL a = a + 1
 v : L zL a ≠ -1
 v1 : L zL (a + 1) = L zL a
 inn : ∀ k, a < k → k ≤ a + n → L zM k = -1 ∨ L zL a < L zM k
 e : ∀ i, i < cL.length → endAt cM (sh a n i) = sh a n (endAt cL i)
section
variable {cL cM zL zM : List Int} {a n : Nat}
theorem Ins.lo (h : Ins cL cM zL zM a n) {i : Nat} (hi : i ≤ a) : L zM i = L zL i := by have := h.z i; rwa [sh_le hi] at this
theorem Ins.hi (h : Ins cL cM zL zM a n) {i : Nat} (hi : a < i) : L zM (i + n) = L zL i := by have := h.z i; rwa [sh_gt hi] at this
theorem Ins.v2 (h : Ins cL cM zL zM a n) : L zM (a + 1 + n) = L zL a := by rw [h.hi (Nat.lt_succ_self a), h.v1]
end
end Go.Proofs.YtfclpecbnailgaaGreat.Bi

/-
 A paragraph's levels, plainly: what is written for each sequence, place by place; what is left has the level ahead; that what stands in an isolate changes no level around it, where so few stand ahead that it is open. No program in it.
-/
set_option linter.unusedVariables false
namespace Go.Proofs.YtfclpecbnailgaaGreat.Bi
open Go Go.Proofs.YtfclpecbnailgaaGreat.Ba Go.Proofs.YtfclpecbnailgaaGreat.Lv Go.Proofs.YtfclpecbnailgaaGreat.Sq
/-- A list's items at places. -/
def pick (l : List Int) (p : List Nat) : List Int := p.map fun i => l.getD i 0
theorem pick_len (l : List Int) (p : List Nat) : (pick l p).length = p.length := by simp [pick]
/-- A row written at places. -/
def putR (o : List Int) : List Nat → List Int → List Int
 | i :: p, x :: d => putR (o.set i x) p d
 | _, _ => o
theorem putR_len : ∀ (p : List Nat) (d o : List Int), (putR o p d).length = o.length
 | [], _, _ => by simp [putR]
 | _ :: _, [], _ => by simp [putR]
 | i :: p, x :: d, o => by rw [putR, putR_len p d]; simp
/-- What is answered for a sequence: of three numbers, and the rows told, of codes, of classes at its places. -/
abbrev Rule := Int → Int → Int → List Int → List Int → List Int → List Int
def rowP (F : Rule) (told codes own : List Int) (s : S4) : List Int := F s.a s.b s.c (pick told s.p) (pick codes s.p) (pick own s.p)
def outP (F : Rule) (told codes own z : List Int) (T : List S4) : List Int := T.foldl (fun o s => putR o s.p (rowP F told codes own s)) z
/-- What has no level has that of what stands ahead. -/
def fillP (last : Int) : List Int → List Int
 | [] => []
 | x :: r => (if x < 0 then last else x) :: fillP (if x < 0 then last else x) r
theorem fill_len : ∀ (l : List Int) (a : Int), (fillP a l).length = l.length
 | [], _ => rfl
 | x :: r, a => by simp [fillP, fill_len r]
def toldB (c : List Int) (b : Nat) : List Int := (explL c b).map (·.2)
theorem told_len (c : List Int) (b : Nat) : (toldB c b).length = c.length := by simp [toldB, explL_len]
def resP (F : Rule) (c codes : List Int) (b : Nat) (T : List S4) : List Int := fillP b (outP F (toldB c b) codes c (zB c b) T)
theorem fold_len (F : Rule) (told codes own : List Int) : ∀ (T : List S4) (z : List Int), (outP F told codes own z T).length = z.length
 | [], z => rfl
 | s :: T, z => by
  show (outP F told codes own (putR z s.p _) T).length = _
  rw [fold_len F told codes own T, putR_len]
theorem nxt_le (o l : Nat) : nxt o l ≤ l + 2 := by unfold nxt; split <;> omega
end Go.Proofs.YtfclpecbnailgaaGreat.Bi

/-
 Numbers, signs and marks, plainly: the seven rules as functions of a row of classes, one behind the other; that they settle, that they part at an L or an R; that rules which look at what has become ahead and at what stands behind come to the same. No program in it.
-/
set_option linter.unusedVariables false
namespace Go.Proofs.YtfclpecbnailgaaGreat.Wk
def iso (c : Int) : Bool := decide (c = 19) || decide (c = 20) || decide (c = 21) || decide (c = 22)
def nx (c : Int) : Int := if iso c then 13 else c
def let3 (c : Int) : Bool := decide (c = 0) || decide (c = 1) || decide (c = 2)
/-- Marks: a is what a mark at the first place becomes. -/
def marks (a : Int) : List Int → List Int
 | [] => []
 | c :: r => if c = 8 then a :: marks (nx a) r else c :: marks (nx c) r
/-- Numbers whose letter ahead is x become o. -/
def nums (x o : Int) (a : Int) : List Int → List Int
 | [] => []
 | c :: r => if let3 c then c :: nums x o c r else if c = 3 ∧ a = x then o :: nums x o a r else c :: nums x o a r
def bec (o : Int) (p : List Int) (l : List Int) : List Int := l.map fun c => if c ∈ p then o else c
/-- What stands between two n, and is of p, becomes n: a is what stands ahead. -/
def btw (n : Int) (p : List Int) (a : Int) : List Int → List Int
 | [] => []
 | c :: r => if a = n ∧ r.head? = some n ∧ c ∈ p then n :: btw n p n r else c :: btw n p c r
/-- Signs behind a number: a is what stands ahead. -/
def sbeh (a : Int) : List Int → List Int
 | [] => []
 | c :: r => if c = 5 ∧ a = 3 then 3 :: sbeh 3 r else c :: sbeh c r
/-- Signs ahead of a number. -/
def sah : List Int → List Int
 | [] => []
 | c :: r => if c = 5 ∧ (sah r).head? = some 3 then 3 :: sah r else c :: sah r
/-- What classes become, with s ahead. -/
def weak (s : Int) (l : List Int) : List Int :=
 nums 0 0 s (bec 13 [4, 5, 7] (sah (sbeh (-1) (btw 6 [7] (-1) (btw 3 [4, 7] (-1) (bec 1 [2] (nums 2 6 s (marks s l))))))))
theorem marks_len (l : List Int) : ∀ a, (marks a l).length = l.length := by
 induction l with
 | nil => intro a; rfl
 | cons c r ih => intro a; unfold marks; split <;> simp [ih]
theorem nums_len (x o : Int) (l : List Int) : ∀ a, (nums x o a l).length = l.length := by
 induction l with
 | nil => intro a; rfl
 | cons c r ih => intro a; unfold nums; split <;> (try split) <;> simp [ih]
theorem bec_len (o : Int) (p l : List Int) : (bec o p l).length = l.length := by simp [bec]
theorem btw_len (n : Int) (p l : List Int) : ∀ a, (btw n p a l).length = l.length := by
 induction l with
 | nil => intro a; rfl
 | cons c r ih => intro a; unfold btw; split <;> simp [ih]
theorem sbeh_len (l : List Int) : ∀ a, (sbeh a l).length = l.length := by
 induction l with
 | nil => intro a; rfl
 | cons c r ih => intro a; unfold sbeh; split <;> simp [ih]
theorem sah_len (l : List Int) : (sah l).length = l.length := by
 induction l with
 | nil => rfl
 | cons c r ih => unfold sah; split <;> simp [ih]
theorem weak_len (s : Int) (l : List Int) : (weak s l).length = l.length := by
 simp [weak, nums_len, bec_len, sah_len, sbeh_len, btw_len, marks_len]
def Kp : List Int → List Int → Prop
 | [], [] => True
 | c :: r, d :: t => (d = c ∨ (2 ≤ c ∧ c ≤ 8 ∧ c ≠ 6)) ∧ Kp r t
 | _, _ => False
theorem Kp.trans : ∀ {a b c : List Int}, Kp a b → Kp b c → Kp a c
 | [], [], [], _, _ => trivial
 | _ :: _, _ :: _, _ :: _, h, g => ⟨by rcases h.1 with e | e <;> rcases g.1 with f | f <;> omega, Kp.trans h.2 g.2⟩
 | [], [], _ :: _, _, g => g.elim
 | [], _ :: _, _, h, _ => h.elim
 | _ :: _, [], _, h, _ => h.elim
 | _ :: _, _ :: _, [], _, g => g.elim
theorem Kp.at_ : ∀ {a b : List Int}, Kp a b → ∀ k (h : k < a.length) (h' : k < b.length), b[k] = a[k] ∨ (2 ≤ a[k] ∧ a[k] ≤ 8 ∧ a[k] ≠ 6)
 | [], _, _, k, h, _ => by simp at h
 | _ :: _, [], h, _, _, _ => h.elim
 | _ :: _, _ :: _, h, 0, _, _ => h.1
 | _ :: a, _ :: b, h, k + 1, h1, h2 => Kp.at_ (a := a) (b := b) h.2 k (by simpa using h1) (by simpa using h2)
def Parts (f : Int → List Int → List Int) : Prop := ∀ s w x b, (w = 0 ∨ w = 1) → ∃ y, f s (x ++ [w]) = y ++ [w] ∧ f s (x ++ w :: b) = y ++ w :: f w b
theorem Parts.comp {f g : Int → List Int → List Int} (hf : Parts f) (hg : Parts g) : Parts fun s l => g s (f s l) := by
 intro s w x b hw
 obtain ⟨y, h1, h2⟩ := hf s w x b hw
 obtain ⟨z, h3, h4⟩ := hg s w y (f w b) hw
 exact ⟨z, by show g s (f s (x ++ [w])) = _; rw [h1, h3], by show g s (f s (x ++ w :: b)) = _; rw [h2, h4]⟩
end Go.Proofs.YtfclpecbnailgaaGreat.Wk

/-
 Plain facts on rows of pairs: what a row has, the counterpart, the first row that has a number; the brackets and the other mirrored signs of the document; no program here.
-/
namespace Go.Proofs.YtfclpecbnailgaaGreat.Mi
/-- A row: its first number, its last one, the step between two that belong together. -/
abbrev MRow := Int × Int × Int
def hasB (r : MRow) (c : Int) : Bool := decide (r.1 ≤ c) && (decide (c ≤ r.2.1) && ((c - r.1) % r.2.2 == 0))
def pairR (r : MRow) (c : Int) : Int × Int := if (c - r.1) / r.2.2 % 2 = 0 then (1, c + r.2.2) else (2, c - r.2.2)
def inR : List MRow → Int → Int × Int
 | [], _ => (0, 0)
 | r :: l, c => if hasB r c = true then pairR r c else inR l c
def brRows : List MRow := [(0x28, 0x29, 1), (0xf3a, 0xf3d, 1), (0x169b, 0x169c, 1), (0x2045, 0x2046, 1), (0x207d, 0x207e, 1), (0x208d, 0x208e, 1), (0x2308, 0x230b, 1), (0x2329, 0x232a, 1),
 (0x2768, 0x2775, 1), (0x27c5, 0x27c6, 1), (0x27e6, 0x27ef, 1), (0x2983, 0x298c, 1), (0x2991, 0x2998, 1), (0x29d8, 0x29db, 1), (0x29fc, 0x29fd, 1), (0x2e22, 0x2e29, 1),
 (0x3008, 0x3011, 1), (0x3014, 0x301b, 1), (0xfe59, 0xfe5e, 1), (0xff08, 0xff09, 1), (0xff5f, 0xff60, 1), (0xff62, 0xff63, 1)]
def brPairs : List MRow := [(0x5b, 0x5d, 2), (0x7b, 0x7d, 2), (0xff3b, 0xff3d, 2), (0xff5b, 0xff5d, 2)]
def sgRows : List MRow := [(0x2264, 0x226b, 1), (0x226e, 0x2281, 1), (0x2282, 0x2289, 1), (0x228f, 0x2292, 1), (0x22b2, 0x22b5, 1), (0x22d6, 0x22df, 1), (0x22e0, 0x22ed, 1)]
def sgPairs : List MRow := [(0x3c, 0x3e, 2), (0xab, 0xbb, 0x10), (0x2039, 0x203a, 1), (0x2208, 0x220b, 3), (0x2209, 0x220c, 3), (0x220a, 0x220d, 3), (0x223c, 0x223d, 1), (0x22a2, 0x22a3, 1), (0x22d0, 0x22d1, 1)]
def brL : List MRow := brRows ++ brPairs
def sgL : List MRow := sgRows ++ sgPairs
/-- P3.1 to P3.4, as functions. -/
def pairT (c : Int) : Int × Int := inR brL c
def formT (c : Int) : Int := if c = 0x2329 then 0x3008 else if c = 0x232a then 0x3009 else c
def meetT (a b : Int) : Bool := (pairT a).1 == 1 && ((pairT b).1 == 2 && (formT (pairT a).2 == formT b))
def glyphT (c : Int) : Int := if (pairT c).1 = 0 then (if (inR sgL c).1 = 0 then c else (inR sgL c).2) else (pairT c).2
theorem inR_append : ∀ (l m : List MRow) (c : Int), inR (l ++ m) c = if (inR l c).1 = 0 then inR m c else inR l c
 | [], m, c => rfl
 | r :: l, m, c => by
  simp only [List.cons_append, inR]
  split
  ·rw [if_neg]
   unfold pairR
   split <;> simp
  ·exact inR_append l m c
theorem inR_none : ∀ (l : List MRow) (c : Int), (∀ r ∈ l, hasB r c = false) → inR l c = (0, 0)
 | [], _, _ => rfl
 | r :: l, c, h => by
  have h0 := h r (by simp)
  simp only [inR]
  rw [h0]
  exact inR_none l c (fun x hx => h x (by simp [hx]))
theorem inR_at : ∀ (l : List MRow) (c : Int) (i : Nat) (hi : i < l.length), (∀ j (hj : j < l.length), j < i → hasB l[j] c = false) → hasB l[i] c = true → inR l c = pairR l[i] c
 | r :: l, c, 0, hi, hlo, h => by
  simp only [inR]
  rw [if_pos (by simpa using h)]
  rfl
 | r :: l, c, i + 1, hi, hlo, h => by
  have h0 := hlo 0 (by simp) (by omega)
  simp only [inR]
  rw [if_neg (by simpa using h0)]
  exact inR_at l c i (by simpa using hi) (fun j hj hji => hlo (j + 1) (Nat.succ_lt_succ hj) (by omega)) h
/-- Rows as they are here: small, their steps from 1 on. -/
def okR (r : MRow) : Bool := decide (0 ≤ r.1) && decide (r.1 ≤ r.2.1) && decide (r.2.1 ≤ 100000) && decide (1 ≤ r.2.2) && decide (r.2.2 ≤ 100) && decide ((r.2.1 - r.1) % r.2.2 = 0)
theorem okR_is {r : MRow} (h : okR r = true) : 0 ≤ r.1 ∧ r.1 ≤ r.2.1 ∧ r.2.1 ≤ 100000 ∧ 1 ≤ r.2.2 ∧ r.2.2 ≤ 100 ∧ (r.2.1 - r.1) % r.2.2 = 0 := by
 simp only [okR, Bool.and_eq_true, decide_eq_true_eq] at h
 omega
theorem brL_ok : ∀ r ∈ brL, okR r = true := by decide +kernel
theorem sgL_ok : ∀ r ∈ sgL, okR r = true := by decide +kernel
/-- The numbers of a row. -/
def nums (r : MRow) : List Int := (List.range ((r.2.1 - r.1).toNat + 1)).map fun (k : Nat) => r.1 + (k : Int)
def codes : List Int := (brL ++ sgL).flatMap nums
end Go.Proofs.YtfclpecbnailgaaGreat.Mi
