/-
  How sequences are made of runs, one behind the other, with a map of what waits for its PDI; that what comes of it are the sequences. No program in it.
-/
import Derived.Test.YtehndhkcmccpmaaSqPlain
set_option linter.unusedVariables false
namespace Go.Proofs.Ytehndhkcmccpmaa.Sq
open Go.Proofs.Ytehndhkcmccpmaa.Ba

theorem isI_lt {c : List Int} {i : Nat} (h : isI (c.getD i 0) = true) : i < c.length := by
  apply Classical.byContradiction
  intro hn
  rw [show c.getD i 0 = 0 from by simp [List.getD, List.getElem?_eq_none (Nat.le_of_not_lt hn)]] at h
  cases h
theorem end_inj {c : List Int} {i j : Nat} (hi : isI (c.getD i 0) = true) (hj : isI (c.getD j 0) = true) (h : endAt c i < c.length) (e : endAt c j = endAt c i) : i = j := by
  have li := isI_lt hi
  have lj := isI_lt hj
  have ei : c.getD i 0 = c[i] := by simp [List.getD, List.getElem?_eq_getElem li]
  have ej : c.getD j 0 = c[j] := by simp [List.getD, List.getElem?_eq_getElem lj]
  rw [ei] at hi
  rw [ej] at hj
  obtain ⟨r, hr⟩ := ends_only h li hi rfl
  obtain ⟨r', hr'⟩ := ends_only h lj hj e
  rw [hr] at hr'
  injection hr' with h1 _
/-- An initiator's PDI stands at its level. -/
def Iso (c z : List Int) : Prop := ∀ j, L z j ≠ -1 → isI (c.getD j 0) = true → endAt c j < c.length → L z (endAt c j) = L z j

theorem chn_append {c z : List Int} : ∀ {l r : List Nat}, Chn c z l → Chn c z r → l ≠ [] → r ≠ [] → nextS c z (lst l) = some (hd r) → Chn c z (l ++ r)
  | [], _, _, _, h, _, _ => absurd rfl h
  | _, [], _, _, _, h, _ => absurd rfl h
  | [x], y :: r, _, h2, _, _, h => ⟨by simpa [lst, hd] using h, h2⟩
  | x :: x2 :: l, y :: r, h1, h2, _, _, h => ⟨h1.1, chn_append (l := x2 :: l) h1.2 h2 (by simp) (by simp) (by simpa [lst, hd] using h)⟩
theorem chn_next {c z : List Int} : ∀ {l : List Nat} {p : Nat}, Chn c z l → p ∈ l → p = lst l ∨ ∃ q, nextS c z p = some q ∧ q ∈ l
  | [x], p, _, h => .inl (by simpa [lst] using h)
  | x :: y :: l, p, h1, h => by
    rcases List.mem_cons.1 h with rfl | h
    · exact .inr ⟨y, h1.1, by simp⟩
    · rcases chn_next h1.2 h with e | ⟨q, h2, h3⟩
      · exact .inl (by simpa [lst] using e)
      · exact .inr ⟨q, h2, List.mem_cons_of_mem _ h3⟩
theorem chn_up {c z : List Int} : ∀ {l : List Nat}, Chn c z l → l.Pairwise (· < ·)
  | [], _ => List.Pairwise.nil
  | [x], _ => by simp
  | x :: y :: l, h => by
    have ih := chn_up h.2
    refine List.Pairwise.cons (fun q hq => ?_) ih
    have hxy := nextS_gt h.1
    rcases List.mem_cons.1 hq with rfl | hq
    · exact hxy
    · have := (List.pairwise_cons.1 ih).1 q hq
      omega
theorem kf_chn {c z : List Int} {f t : Nat} {a : Int} (hf : L z f ≠ -1) (hs : ∀ k, f ≤ k → k ≤ t → L z k ≠ -1 → L z k = a) : ∀ (d : Nat), f + d ≤ t → Chn c z (kf z f (f + 1 + d)) ∧ dn z (f + 1 + d) = some (lst (kf z f (f + 1 + d)))
  | 0, h => by
    rw [Nat.add_zero, kf_step (Nat.le_refl _), kf_same, if_neg hf]
    refine ⟨trivial, ?_⟩
    unfold dn
    rw [if_neg hf]
    rfl
  | d + 1, h => by
    obtain ⟨h1, h2⟩ := kf_chn (c := c) hf hs d (by omega)
    rw [show f + 1 + (d + 1) = (f + 1 + d) + 1 from by omega, kf_step (by omega)]
    by_cases h0 : L z (f + 1 + d) = -1
    · rw [if_pos h0, List.append_nil]
      refine ⟨h1, ?_⟩
      conv => lhs; unfold dn
      rw [if_pos h0]
      exact h2
    · rw [if_neg h0, lst_snoc]
      obtain ⟨a1, a2, _⟩ := dn_some h2
      have hne := kf_ne (t := f + 1 + d) (by omega) hf
      have hm := kf_mem.1 (lst_mem hne)
      refine ⟨chn_append h1 (r := [f + 1 + d]) trivial hne (by simp) (nextS_same (up_dn h2 h0) ?_), ?_⟩
      · show L z (f + 1 + d) = _
        rw [hs _ (by omega) (by omega) h0, hs _ hm.1 (by omega) a2]
      · conv => lhs; unfold dn
        rw [if_neg h0]
theorem RunOk.ne {c z : List Int} {lv : Int} {f t : Nat} {r : S4} (h : RunOk c z lv f t r) : r.p ≠ [] := by
  rw [h.ep]
  have := h.le
  exact kf_ne (by omega) h.kfi
theorem RunOk.hd {c z : List Int} {lv : Int} {f t : Nat} {r : S4} (h : RunOk c z lv f t r) : hd r.p = f := by
  rw [h.ep]
  have := h.le
  have e := kf_hd (d := t - f) h.kfi
  rw [show f + 1 + (t - f) = t + 1 from by omega] at e
  exact e
theorem RunOk.lst {c z : List Int} {lv : Int} {f t : Nat} {r : S4} (h : RunOk c z lv f t r) : lst r.p = t := by
  rw [h.ep]
  exact kf_lst h.le h.kt
theorem RunOk.chn {c z : List Int} {lv : Int} {f t : Nat} {r : S4} (h : RunOk c z lv f t r) : Chn c z r.p := by
  rw [h.ep]
  have := h.le
  have e := (kf_chn (c := c) (t := t) h.kfi h.same (t - f) (by omega)).1
  rw [show f + 1 + (t - f) = t + 1 from by omega] at e
  exact e
theorem RunOk.jump {c z : List Int} {lv : Int} {f t : Nat} {r : S4} (h : RunOk c z lv f t r) : nextS c z t = jump c z t :=
  nextS_jump fun q hq => by rw [h.same t h.le (Nat.le_refl _) h.kt]; exact h.fin q hq
theorem RunOk.mem {c z : List Int} {lv : Int} {f t : Nat} {r : S4} (h : RunOk c z lv f t r) {p : Nat} (hp : p ∈ r.p) : f ≤ p ∧ p ≤ t ∧ L z p ≠ -1 ∧ L z p = r.a := by
  rw [h.ep] at hp
  obtain ⟨h1, h2, h3⟩ := kf_mem.1 hp
  exact ⟨h1, by omega, h3, h.same p h1 (by omega) h3⟩
theorem headsTo_step (c z : List Int) (k : Nat) : headsTo c z (k + 1) = headsTo c z k ++ (if isHd c z k = true then [k] else []) := by
  unfold headsTo
  rw [List.range_succ, List.filter_append]
  congr 1
  by_cases h : isHd c z k = true
  · simp [h]
  · simp [h]
theorem RunOk.heads {c z : List Int} {lv : Int} {f t bd : Nat} {r : S4} (h : RunOk c z lv f t r) (hu : up z bd = some f) : headsTo c z (t + 1) = headsTo c z bd ++ (if firstB c z f = true then [f] else []) := by
  obtain ⟨u1, u2, u3⟩ := upS hu
  have e1 : ∀ d, bd + d ≤ f → headsTo c z (bd + d) = headsTo c z bd := by
    intro d
    induction d with
    | zero => intro _; rfl
    | succ d ih =>
      intro hd
      rw [show bd + (d + 1) = (bd + d) + 1 from by omega, headsTo_step, ih (by omega), if_neg, List.append_nil]
      unfold isHd
      rw [u3 _ (by omega) (by omega)]
      simp
  have e2 : ∀ d, f + d ≤ t → headsTo c z (f + 1 + d) = headsTo c z bd ++ (if firstB c z f = true then [f] else []) := by
    intro d
    induction d with
    | zero =>
      intro _
      have := e1 (f - bd) (by omega)
      rw [show bd + (f - bd) = f from by omega] at this
      rw [Nat.add_zero, headsTo_step, this]
      congr 1
      have : isHd c z f = firstB c z f := by
        unfold isHd
        have : (L z f != -1) = true := by simpa using h.kfi
        rw [this, Bool.true_and]
      rw [this]
    | succ d ih =>
      intro hd
      have hno : ¬ isHd c z (f + 1 + d) = true := by
        unfold isHd
        by_cases h0 : L z (f + 1 + d) = -1
        · rw [h0]; simp
        · obtain ⟨-, h2⟩ := kf_chn (c := c) (t := t) h.kfi h.same d (by omega)
          obtain ⟨a1, a2, _⟩ := dn_some h2
          have hm := kf_mem.1 (lst_mem (kf_ne (t := f + 1 + d) (by omega) h.kfi))
          have hx := nextS_same (c := c) (up_dn h2 h0) (by rw [h.same _ (by omega) (by omega) h0, h.same _ hm.1 (by omega) a2])
          intro hb
          have hb2 : firstB c z (f + 1 + d) = true := by
            have := Bool.and_eq_true_iff.1 hb
            exact this.2
          exact firstB_iff.1 hb2 _ a1 a2 hx
      rw [show f + 1 + (d + 1) = (f + 1 + d) + 1 from by omega, headsTo_step, ih (by omega), if_neg hno, List.append_nil]
  have := h.le
  have e := e2 (t - f) (by omega)
  rw [show f + 1 + (t - f) = t + 1 from by omega] at e
  exact e

/-- A sequence as far as it has come. -/
structure Part (c z : List Int) (lv : Int) (bd : Nat) (s : S4) : Prop where
  ne : s.p ≠ []
  chn : Chn c z s.p
  lt : ∀ p ∈ s.p, p < bd ∧ L z p ≠ -1 ∧ L z p = s.a
  fin : nextS c z (lst s.p) = jump c z (lst s.p)
  out : ∀ q, nextS c z (lst s.p) = some q → bd ≤ q
  ea : s.a = L z (hd s.p)
  eb : s.b = way (L z (hd s.p)) (ahead lv z (hd s.p))
  ec : s.c = way (L z (hd s.p)) (behind c lv z (lst s.p))
structure SInv (c z : List Int) (lv : Int) (bd : Nat) (T : List S4) (f : Nat → Option Nat) : Prop where
  each : ∀ (m : Nat) (s : S4), T[m]? = some s → Part c z lv bd s
  heads : T.map (fun s => hd s.p) = headsTo c z bd
  uniq : ∀ (i j : Nat) (s s' : S4) (p : Nat), T[i]? = some s → T[j]? = some s' → p ∈ s.p → p ∈ s'.p → i = j
  cover : ∀ p, p < bd → L z p ≠ -1 → ∃ (i : Nat) (s : S4), T[i]? = some s ∧ p ∈ s.p
  w1 : ∀ (p m : Nat), bd ≤ p → f p = some m → ∃ s : S4, T[m]? = some s ∧ isI (c.getD (lst s.p) 0) = true ∧ endAt c (lst s.p) = p ∧ p < c.length
  w2 : ∀ (m : Nat) (s : S4), T[m]? = some s → isI (c.getD (lst s.p) 0) = true → endAt c (lst s.p) < c.length → bd ≤ endAt c (lst s.p) → f (endAt c (lst s.p)) = some m
theorem SInv.start (c z : List Int) (lv : Int) : SInv c z lv 0 [] (fun _ => none) :=
  ⟨(fun m s h => by simp at h), (by simp [headsTo]), (fun i j s s' p h => by simp at h), (fun p h => by omega), (fun p m _ h => by cases h), (fun m s h => by simp at h)⟩
/-- What waits, when a run is placed. -/
def updW (c : List Int) (f : Nat → Option Nat) (t m : Nat) : Nat → Option Nat := fun p => if isI (c.getD t 0) = true ∧ endAt c t < c.length ∧ p = endAt c t then some m else f p
/-- Where a run goes. -/
def placeR (T : List S4) (o : Option Nat) (r : S4) : List S4 × Nat := match o with
  | some m => match T[m]? with
    | some s => (T.set m ⟨s.a, s.b, way r.a r.c, s.p ++ r.p⟩, m)
    | none => (T, m)
  | none => (T ++ [⟨r.a, way r.a r.b, way r.a r.c, r.p⟩], T.length)


theorem chain_uniq_lst {c z : List Int} {l : List Nat} {p q : Nat} (h : Chn c z l) (hp : p ∈ l) (hn : nextS c z p = some q) (hq : q ∉ l) : p = lst l := by
  rcases chn_next h hp with e | ⟨q', h1, h2⟩
  · exact e
  · rw [hn] at h1
    injection h1 with h1
    subst h1
    exact absurd h2 hq
/-- Where a run's first place comes behind something, that waits for it. -/
theorem SInv.waits {c z : List Int} {lv : Int} {bd f0 t : Nat} {T : List S4} {f : Nat → Option Nat} {r : S4} (h : SInv c z lv bd T f) (hu : up z bd = some f0) (hr : RunOk c z lv f0 t r) (hf : f f0 = none) : firstB c z f0 = true := by
  obtain ⟨u1, u2, u3⟩ := upS hu
  refine firstB_iff.2 fun k hk h0 hn => ?_
  have hkb : k < bd := by
    rcases Nat.lt_or_ge k bd with h1 | h1
    · exact h1
    · exact absurd (u3 k h1 hk) h0
  obtain ⟨m, s, hs, hks⟩ := h.cover k hkb h0
  have hp := h.each m s hs
  have hkl : k = lst s.p := chain_uniq_lst hp.chn hks hn (fun hm => by have := (hp.lt _ hm).1; omega)
  rcases nextS_cases hn with ⟨h1, h2⟩ | ⟨h1, h2⟩
  · have hb := hr.beg
    unfold begins at hb
    rw [dn_up h1 h0] at hb
    simp only [decide_eq_true_eq, ne_eq] at hb
    exact hb h2.symm
  · obtain ⟨j1, j2, j3, _⟩ := jump_some h1
    have := h.w2 m s hs (by rw [← hkl]; exact j1) (by rw [← hkl, j2]; exact j3) (by rw [← hkl, j2]; exact u1)
    rw [← hkl, j2, hf] at this
    cases this
theorem behind_same {c z : List Int} {lv : Int} {bd f0 t : Nat} {r : S4} (hr : RunOk c z lv f0 t r) : r.c = behind c lv z t := hr.ec
theorem jump_ge {c z : List Int} {lv : Int} {f0 t : Nat} {r : S4} (hr : RunOk c z lv f0 t r) : ∀ q, nextS c z t = some q → t + 1 ≤ q := fun q hq => nextS_gt hq
/-- What begins a run is not within this one. -/
theorem begin_out {c z : List Int} {lv : Int} {bd f0 t q : Nat} {r : S4} (hu : up z bd = some f0) (hr : RunOk c z lv f0 t r) (hq1 : bd ≤ q) (hq2 : q ≠ f0) (j4 : begins z q = true) (hqk : L z q ≠ -1) : t + 1 ≤ q := by
  obtain ⟨u1, u2, u3⟩ := upS hu
  rcases Nat.lt_or_ge t q with h5 | h5
  · omega
  · exfalso
    rcases Nat.lt_or_ge q f0 with h7 | h7
    · exact hqk (u3 q hq1 h7)
    · have h8 : f0 < q := by omega
      obtain ⟨-, h9⟩ := kf_chn (c := c) (t := t) hr.kfi hr.same (q - f0 - 1) (by omega)
      rw [show f0 + 1 + (q - f0 - 1) = q from by omega] at h9
      unfold begins at j4
      rw [h9] at j4
      have hm := kf_mem.1 (lst_mem (kf_ne (t := q) h8 hr.kfi))
      simp only [decide_eq_true_eq, ne_eq] at j4
      exact j4 (by rw [hr.same _ hm.1 (by omega) hm.2.2, hr.same _ (by omega) h5 hqk])
theorem SInv.grown {c z : List Int} {lv : Int} (hiso : Iso c z) {bd f0 t m : Nat} {T : List S4} {f : Nat → Option Nat} {r s : S4} (h : SInv c z lv bd T f) (hu : up z bd = some f0) (hr : RunOk c z lv f0 t r) (hf : f f0 = some m) (hs : T[m]? = some s) :
    SInv c z lv (t + 1) (T.set m ⟨s.a, s.b, way r.a r.c, s.p ++ r.p⟩) (updW c f t m) := by
  obtain ⟨u1, u2, u3⟩ := upS hu
  have hle := hr.le
  obtain ⟨s', hs', hi, he, hfl⟩ := h.w1 f0 m u1 hf
  rw [hs] at hs'
  injection hs' with hs'
  subst hs'
  have hp := h.each m s hs
  have hml : m < T.length := (List.getElem?_eq_some_iff.1 hs).1
  have hlm := hp.lt _ (lst_mem hp.ne)
  have hnext : nextS c z (lst s.p) = some f0 := by
    rw [hp.fin]
    unfold jump
    rw [he, if_pos ⟨hi, hfl, hr.beg⟩]
  have hra : r.a = s.a := by
    have h1 := hiso _ hlm.2.1 hi (by rw [he]; exact hfl)
    rw [he] at h1
    rw [← hr.same f0 (Nat.le_refl _) hle u2, h1, hlm.2.2]
  have hfb : ¬ firstB c z f0 = true := fun hb => firstB_iff.1 hb _ (by omega) hlm.2.1 hnext
  have hnew : ∀ p ∈ r.p, bd ≤ p := fun p hp => by have := (hr.mem hp).1; omega
  have hother : ∀ i s1, i ≠ m → (T.set m ⟨s.a, s.b, way r.a r.c, s.p ++ r.p⟩)[i]? = some s1 → T[i]? = some s1 := fun i s1 hi h1 => by
    rwa [List.getElem?_set_ne (fun e => hi e.symm)] at h1
  have hself : ∀ s1, (T.set m ⟨s.a, s.b, way r.a r.c, s.p ++ r.p⟩)[m]? = some s1 → s1 = ⟨s.a, s.b, way r.a r.c, s.p ++ r.p⟩ := fun s1 h1 => by
    rw [List.getElem?_set_self hml] at h1
    injection h1 with h1
    exact h1.symm
  have hinj : ∀ i s1, i ≠ m → T[i]? = some s1 → ∀ q, nextS c z (lst s1.p) = some q → q ≠ f0 := fun i s1 hi2 h1 q hq e => by
    subst e
    have hp1 := h.each i s1 h1
    rw [hp1.fin] at hq
    obtain ⟨j1, j2, j3, _⟩ := jump_some hq
    have e2 := end_inj j1 hi (by rw [j2]; exact j3) (by rw [j2]; exact he)
    exact hi2 (h.uniq i m s1 s (lst s1.p) h1 hs (lst_mem hp1.ne) (by rw [e2]; exact lst_mem hp.ne))
  refine ⟨fun i s1 h1 => ?_, ?_, fun i j s1 s2 p h1 h2 hp1 hp2 => ?_, fun p hpt h0 => ?_, fun p m1 hpt h1 => ?_, fun i s1 h1 hi1 hl1 hb1 => ?_⟩
  · by_cases e : i = m
    · subst e
      rw [hself s1 h1]
      refine ⟨by simp [hp.ne], chn_append hp.chn hr.chn hp.ne hr.ne (by rw [hr.hd]; exact hnext), fun p hpm => ?_, ?_, ?_, ?_, ?_, ?_⟩
      · rcases List.mem_append.1 hpm with hpm | hpm
        · obtain ⟨a1, a2, a3⟩ := hp.lt p hpm
          exact ⟨by omega, a2, a3⟩
        · obtain ⟨a1, a2, a3, a4⟩ := hr.mem hpm
          exact ⟨by omega, a3, by rw [a4, hra]⟩
      · show nextS c z (lst (s.p ++ r.p)) = jump c z (lst (s.p ++ r.p))
        rw [lst_append _ hr.ne, hr.lst]
        exact hr.jump
      · show ∀ q, nextS c z (lst (s.p ++ r.p)) = some q → t + 1 ≤ q
        rw [lst_append _ hr.ne, hr.lst]
        exact jump_ge hr
      · show s.a = L z (hd (s.p ++ r.p))
        rw [hd_append _ hp.ne]
        exact hp.ea
      · show s.b = way (L z (hd (s.p ++ r.p))) (ahead lv z (hd (s.p ++ r.p)))
        rw [hd_append _ hp.ne]
        exact hp.eb
      · show way r.a r.c = way (L z (hd (s.p ++ r.p))) (behind c lv z (lst (s.p ++ r.p)))
        rw [hd_append _ hp.ne, lst_append _ hr.ne, hr.lst, ← hp.ea, hra, hr.ec]
    · have h2 := hother i s1 e h1
      have hp1 := h.each i s1 h2
      refine ⟨hp1.ne, hp1.chn, fun p hpm => ?_, hp1.fin, fun q hq => ?_, hp1.ea, hp1.eb, hp1.ec⟩
      · obtain ⟨a1, a2, a3⟩ := hp1.lt p hpm
        exact ⟨by omega, a2, a3⟩
      · have hq1 := hp1.out q hq
        have hq2 := hinj i s1 e h2 q hq
        rw [hp1.fin] at hq
        obtain ⟨j1, j2, j3, j4⟩ := jump_some hq
        have h6 := hiso _ (hp1.lt _ (lst_mem hp1.ne)).2.1 j1 (by rw [j2]; exact j3)
        rw [j2] at h6
        exact begin_out hu hr hq1 hq2 j4 (by rw [h6]; exact (hp1.lt _ (lst_mem hp1.ne)).2.1)
  · rw [hr.heads hu, if_neg hfb, List.append_nil, ← h.heads]
    apply List.ext_getElem?
    intro i
    simp only [List.getElem?_map, List.getElem?_set]
    by_cases e : m = i
    · subst e
      rw [if_pos rfl, if_pos hml, hs]
      simp [hd_append _ hp.ne]
    · rw [if_neg e]
  · have hwhere : ∀ i s1, (T.set m ⟨s.a, s.b, way r.a r.c, s.p ++ r.p⟩)[i]? = some s1 → p ∈ s1.p → (∃ s2, T[i]? = some s2 ∧ p ∈ s2.p) ∨ (i = m ∧ p ∈ r.p) := fun i s1 h3 h4 => by
      by_cases e : i = m
      · subst e
        rw [hself s1 h3] at h4
        rcases List.mem_append.1 h4 with h4 | h4
        · exact .inl ⟨s, hs, h4⟩
        · exact .inr ⟨rfl, h4⟩
      · exact .inl ⟨s1, hother i s1 e h3, h4⟩
    rcases hwhere i s1 h1 hp1 with ⟨s3, h3, h4⟩ | ⟨h3, h4⟩
    · rcases hwhere j s2 h2 hp2 with ⟨s5, h5, h6⟩ | ⟨h5, h6⟩
      · exact h.uniq i j s3 s5 p h3 h5 h4 h6
      · have := ((h.each i s3 h3).lt p h4).1
        have := hnew p h6
        omega
    · rcases hwhere j s2 h2 hp2 with ⟨s5, h5, h6⟩ | ⟨h5, h6⟩
      · have := ((h.each j s5 h5).lt p h6).1
        have := hnew p h4
        omega
      · rw [h3, h5]
  · rcases Nat.lt_or_ge p bd with h1 | h1
    · obtain ⟨i, s1, h2, h3⟩ := h.cover p h1 h0
      by_cases e : i = m
      · subst e
        rw [hs] at h2
        injection h2 with h2
        subst h2
        exact ⟨i, _, List.getElem?_set_self hml, List.mem_append_left _ h3⟩
      · exact ⟨i, s1, by rw [List.getElem?_set_ne (fun e' => e e'.symm)]; exact h2, h3⟩
    · have h2 : f0 ≤ p := by
        rcases Nat.lt_or_ge p f0 with h2 | h2
        · exact absurd (u3 p h1 h2) h0
        · exact h2
      refine ⟨m, _, List.getElem?_set_self hml, List.mem_append_right _ ?_⟩
      rw [hr.ep]
      exact kf_mem.2 ⟨h2, hpt, h0⟩
  · unfold updW at h1
    split at h1
    · rename_i h2
      injection h1 with h1
      subst h1
      refine ⟨_, List.getElem?_set_self hml, ?_⟩
      show isI (c.getD (lst (s.p ++ r.p)) 0) = true ∧ endAt c (lst (s.p ++ r.p)) = p ∧ p < c.length
      rw [lst_append _ hr.ne, hr.lst]
      exact ⟨h2.1, h2.2.2.symm, by rw [h2.2.2]; exact h2.2.1⟩
    · rename_i h2
      obtain ⟨s1, h3, h4, h5, h6⟩ := h.w1 p m1 (by omega) h1
      by_cases e : m1 = m
      · subst e
        rw [hs] at h3
        injection h3 with h3
        subst h3
        omega
      · exact ⟨s1, by rw [List.getElem?_set_ne (fun e' => e e'.symm)]; exact h3, h4, h5, h6⟩
  · by_cases e : i = m
    · subst e
      have h2 := hself s1 h1
      subst h2
      have h3 : lst (s.p ++ r.p) = t := by rw [lst_append _ hr.ne, hr.lst]
      simp only [h3] at hi1 hl1 hb1 ⊢
      unfold updW
      rw [if_pos ⟨hi1, hl1, rfl⟩]
    · have h2 := hother i s1 e h1
      have hp1 := h.each i s1 h2
      unfold updW
      rw [if_neg]
      · exact h.w2 i s1 h2 hi1 hl1 (by omega)
      · rintro ⟨a1, a2, a3⟩
        have e2 := end_inj hi1 a1 hl1 a3.symm
        have := (hp1.lt _ (lst_mem hp1.ne)).1
        omega
theorem SInv.fresh {c z : List Int} {lv : Int} (hiso : Iso c z) {bd f0 t : Nat} {T : List S4} {f : Nat → Option Nat} {r : S4} (h : SInv c z lv bd T f) (hu : up z bd = some f0) (hr : RunOk c z lv f0 t r) (hf : f f0 = none) :
    SInv c z lv (t + 1) (T ++ [⟨r.a, way r.a r.b, way r.a r.c, r.p⟩]) (updW c f t T.length) := by
  obtain ⟨u1, u2, u3⟩ := upS hu
  have hle := hr.le
  have hfb := h.waits hu hr hf
  have hnew : ∀ p ∈ r.p, bd ≤ p := fun p hp => by have := (hr.mem hp).1; omega
  have hcase : ∀ (i : Nat) (s1 : S4), (T ++ [⟨r.a, way r.a r.b, way r.a r.c, r.p⟩])[i]? = some s1 → (i < T.length ∧ T[i]? = some s1) ∨ (i = T.length ∧ s1 = ⟨r.a, way r.a r.b, way r.a r.c, r.p⟩) := fun i s1 h1 => by
    by_cases hi : i < T.length
    · rw [List.getElem?_append_left hi] at h1
      exact .inl ⟨hi, h1⟩
    · rw [List.getElem?_append_right (by omega)] at h1
      have h0 : i - T.length = 0 := by
        have := (List.getElem?_eq_some_iff.1 h1).1
        simp at this
        omega
      rw [h0] at h1
      simp at h1
      exact .inr ⟨by omega, h1.symm⟩
  have hold : ∀ (i : Nat) (s1 : S4), T[i]? = some s1 → (T ++ [⟨r.a, way r.a r.b, way r.a r.c, r.p⟩])[i]? = some s1 := fun i s1 h1 => by
    rw [List.getElem?_append_left (List.getElem?_eq_some_iff.1 h1).1]
    exact h1
  have hlast : (T ++ [(⟨r.a, way r.a r.b, way r.a r.c, r.p⟩ : S4)])[T.length]? = some ⟨r.a, way r.a r.b, way r.a r.c, r.p⟩ := by simp
  have hra : r.a = L z f0 := (hr.same f0 (Nat.le_refl _) hle u2).symm
  refine ⟨fun i s1 h1 => ?_, ?_, fun i j s1 s2 p h1 h2 hp1 hp2 => ?_, fun p hpt h0 => ?_, fun p m1 hpt h1 => ?_, fun i s1 h1 hi1 hl1 hb1 => ?_⟩
  · rcases hcase i s1 h1 with ⟨hi, h2⟩ | ⟨hi, h2⟩
    · have hp1 := h.each i s1 h2
      refine ⟨hp1.ne, hp1.chn, fun p hpm => ?_, hp1.fin, fun q hq => ?_, hp1.ea, hp1.eb, hp1.ec⟩
      · obtain ⟨a1, a2, a3⟩ := hp1.lt p hpm
        exact ⟨by omega, a2, a3⟩
      · have hq1 := hp1.out q hq
        have hlm := hp1.lt _ (lst_mem hp1.ne)
        have hq2 : q ≠ f0 := fun e => by
          subst e
          exact firstB_iff.1 hfb _ (by omega) hlm.2.1 hq
        rw [hp1.fin] at hq
        obtain ⟨j1, j2, j3, j4⟩ := jump_some hq
        have h6 := hiso _ hlm.2.1 j1 (by rw [j2]; exact j3)
        rw [j2] at h6
        exact begin_out hu hr hq1 hq2 j4 (by rw [h6]; exact hlm.2.1)
    · subst h2
      refine ⟨hr.ne, hr.chn, fun p hpm => ?_, ?_, ?_, ?_, ?_, ?_⟩
      · obtain ⟨a1, a2, a3, a4⟩ := hr.mem hpm
        exact ⟨by omega, a3, a4⟩
      · show nextS c z (lst r.p) = jump c z (lst r.p)
        rw [hr.lst]
        exact hr.jump
      · show ∀ q, nextS c z (lst r.p) = some q → t + 1 ≤ q
        rw [hr.lst]
        exact jump_ge hr
      · show r.a = L z (hd r.p)
        rw [hr.hd, hra]
      · show way r.a r.b = way (L z (hd r.p)) (ahead lv z (hd r.p))
        rw [hr.hd, hra, hr.eb]
      · show way r.a r.c = way (L z (hd r.p)) (behind c lv z (lst r.p))
        rw [hr.hd, hr.lst, hra, hr.ec]
  · rw [hr.heads hu, if_pos hfb, ← h.heads, List.map_append]
    simp [hr.hd]
  · rcases hcase i s1 h1 with ⟨hi, h3⟩ | ⟨hi, h3⟩
    · rcases hcase j s2 h2 with ⟨hj, h5⟩ | ⟨hj, h5⟩
      · exact h.uniq i j s1 s2 p h3 h5 hp1 hp2
      · subst h5
        have := ((h.each i s1 h3).lt p hp1).1
        have := hnew p hp2
        omega
    · rcases hcase j s2 h2 with ⟨hj, h5⟩ | ⟨hj, h5⟩
      · subst h3
        have := ((h.each j s2 h5).lt p hp2).1
        have := hnew p hp1
        omega
      · rw [hi, hj]
  · rcases Nat.lt_or_ge p bd with h1 | h1
    · obtain ⟨i, s1, h2, h3⟩ := h.cover p h1 h0
      exact ⟨i, s1, hold i s1 h2, h3⟩
    · have h2 : f0 ≤ p := by
        rcases Nat.lt_or_ge p f0 with h2 | h2
        · exact absurd (u3 p h1 h2) h0
        · exact h2
      refine ⟨T.length, _, hlast, ?_⟩
      show p ∈ r.p
      rw [hr.ep]
      exact kf_mem.2 ⟨h2, hpt, h0⟩
  · unfold updW at h1
    split at h1
    · rename_i h2
      injection h1 with h1
      subst h1
      refine ⟨_, hlast, ?_⟩
      show isI (c.getD (lst r.p) 0) = true ∧ endAt c (lst r.p) = p ∧ p < c.length
      rw [hr.lst]
      exact ⟨h2.1, h2.2.2.symm, by rw [h2.2.2]; exact h2.2.1⟩
    · rename_i h2
      obtain ⟨s1, h3, h4⟩ := h.w1 p m1 (by omega) h1
      exact ⟨s1, hold m1 s1 h3, h4⟩
  · rcases hcase i s1 h1 with ⟨hi, h3⟩ | ⟨hi, h3⟩
    · have hp1 := h.each i s1 h3
      unfold updW
      rw [if_neg]
      · exact h.w2 i s1 h3 hi1 hl1 (by omega)
      · rintro ⟨a1, a2, a3⟩
        have e2 := end_inj hi1 a1 hl1 a3.symm
        have := (hp1.lt _ (lst_mem hp1.ne)).1
        omega
    · subst h3
      have h3 : lst r.p = t := hr.lst
      simp only [h3] at hi1 hl1 hb1 ⊢
      unfold updW
      rw [if_pos ⟨hi1, hl1, rfl⟩, hi]

/-- All that is told of sequences. -/
structure SeqsAll (c z : List Int) (lv : Int) (T : List S4) : Prop where
  ok : SeqsOk c z lv T
  uniq : ∀ (i j : Nat) (s s' : S4) (p : Nat), T[i]? = some s → T[j]? = some s' → p ∈ s.p → p ∈ s'.p → i = j
  cover : ∀ p, L z p ≠ -1 → ∃ (i : Nat) (s : S4), T[i]? = some s ∧ p ∈ s.p
  lev : ∀ s ∈ T, ∀ p ∈ s.p, L z p ≠ -1 ∧ L z p = s.a
  up : ∀ s ∈ T, s.p.Pairwise (· < ·)
theorem SInv.all {c z : List Int} {lv : Int} (hiso : Iso c z) {bd : Nat} {T : List S4} {f : Nat → Option Nat} (h : SInv c z lv bd T f) (hu : up z bd = none) : SeqsAll c z lv T := by
  have hN := upN hu
  have hk : ∀ p, L z p ≠ -1 → p < bd := fun p hp => by
    rcases Nat.lt_or_ge p bd with h1 | h1
    · exact h1
    · exact absurd (hN p h1) hp
  have hheads : ∀ d, headsTo c z (bd + d) = headsTo c z bd := by
    intro d
    induction d with
    | zero => rfl
    | succ d ih =>
      rw [show bd + (d + 1) = (bd + d) + 1 from by omega, headsTo_step, ih, if_neg, List.append_nil]
      unfold isHd
      rw [hN _ (by omega)]
      simp
  have hlen : headsTo c z bd = headsTo c z z.length := by
    rcases Nat.lt_or_ge bd z.length with h1 | h1
    · have := hheads (z.length - bd)
      rw [show bd + (z.length - bd) = z.length from by omega] at this
      exact this.symm
    · have hback : ∀ d, headsTo c z (z.length + d) = headsTo c z z.length := by
        intro d
        induction d with
        | zero => rfl
        | succ d ih =>
          rw [show z.length + (d + 1) = (z.length + d) + 1 from by omega, headsTo_step, ih, if_neg, List.append_nil]
          unfold isHd
          have : L z (z.length + d) = -1 := Classical.byContradiction fun hn => by have := L_lt hn; omega
          rw [this]
          simp
      have := hback (bd - z.length)
      rw [show z.length + (bd - z.length) = bd from by omega] at this
      exact this
  have hpart : ∀ s ∈ T, ∃ m, T[m]? = some s := fun s hs => by
    obtain ⟨m, hm, e⟩ := List.getElem_of_mem hs
    exact ⟨m, by rw [List.getElem?_eq_getElem hm, e]⟩
  refine ⟨⟨by rw [h.heads, hlen], fun s hs => ?_⟩, h.uniq, fun p hp => h.cover p (hk p hp) hp, fun s hs p hp => ?_, fun s hs => ?_⟩
  · obtain ⟨m, hm⟩ := hpart s hs
    have hp := h.each m s hm
    refine ⟨hp.ne, hp.chn, ?_, hp.ea, hp.eb, hp.ec⟩
    cases hn : nextS c z (lst s.p) with
    | none => rfl
    | some q =>
      have h1 := hp.out q hn
      have hlm := hp.lt _ (lst_mem hp.ne)
      rw [hp.fin] at hn
      obtain ⟨j1, j2, j3, j4⟩ := jump_some hn
      have h6 := hiso _ hlm.2.1 j1 (by rw [j2]; exact j3)
      rw [j2, hN q h1] at h6
      exact absurd h6.symm hlm.2.1
  · obtain ⟨m, hm⟩ := hpart s hs
    exact ((h.each m s hm).lt p hp).2
  · obtain ⟨m, hm⟩ := hpart s hs
    exact chn_up (h.each m s hm).chn
end Go.Proofs.Ytehndhkcmccpmaa.Sq
