/-
  What the levels of a paragraph are for its sequences, plainly: an initiator's PDI stands at its level; where there is no B, an initiator and its PDI stand in one sequence; where nothing embeds, overrides or isolates there is one sequence. No program in it.
-/
import Derived.Test.YtehndhkcmccpmaaSqLev
set_option linter.unusedVariables false
namespace Go.Proofs.Ytehndhkcmccpmaa.Sq
open Go Go.Proofs.Ytehndhkcmccpmaa.Ba Go.Proofs.Ytehndhkcmccpmaa.Lv

def zB (c : List Int) (b : Nat) : List Int := (explL c b).map (·.1)
theorem zB_len (c : List Int) (b : Nat) : (zB c b).length = c.length := by simp [zB, explL_len]
theorem L_zB {c : List Int} {b i : Nat} {y : Int × Int} (h : (explL c b)[i]? = some y) : L (zB c b) i = y.1 := by
  unfold L zB
  rw [List.getD_eq_getElem?_getD, List.getElem?_map, h]
  rfl
theorem walk_at (b : Nat) : ∀ (l : List Int) (s : St) (i : Nat) (y : Int × Int), (walkL b l s)[i]? = some y → ∃ s' c, l[i]? = some c ∧ y = outS b s' c
  | [], s, i, y, h => by simp [walkL] at h
  | c :: l, s, 0, y, h => by
    simp [walkL] at h
    exact ⟨_, c, rfl, h.symm⟩
  | c :: l, s, i + 1, y, h => by
    simp only [walkL, List.getElem?_cons_succ] at h
    obtain ⟨s', c', h1, h2⟩ := walk_at b l _ i y h
    exact ⟨s', c', by simpa using h1, h2⟩
theorem zB_at {c : List Int} {b i : Nat} (h : i < c.length) : ∃ s', L (zB c b) i = (outS b s' c[i]).1 := by
  have hl : i < (explL c b).length := by rw [explL_len]; exact h
  have hy : (explL c b)[i]? = some (explL c b)[i] := List.getElem?_eq_getElem hl
  obtain ⟨s', c', h1, h2⟩ := walk_at b c (startS b) i _ hy
  rw [List.getElem?_eq_getElem h] at h1
  injection h1 with h1
  exact ⟨s', by rw [L_zB hy, h2, ← h1]⟩
theorem zB_ok (c : List Int) (b : Nat) (i : Nat) : L (zB c b) i = -1 ∨ 0 ≤ L (zB c b) i := by
  rcases Nat.lt_or_ge i c.length with h | h
  · obtain ⟨s', hs⟩ := zB_at (b := b) h
    rw [hs]
    exact out_any b s' _
  · left
    exact Classical.byContradiction fun hn => by have := L_lt hn; rw [zB_len] at this; omega
theorem zB_kept {c : List Int} {b i : Nat} (h : i < c.length) : L (zB c b) i = -1 ↔ remB c[i] = true := by
  obtain ⟨s', hs⟩ := zB_at (b := b) h
  rw [hs]
  exact out_rem b s' _
theorem remB_I {x : Int} (h : isI x = true) : remB x = false ∧ x ≠ 10 := by
  have hcs : x = 19 ∨ x = 20 ∨ x = 21 := by simpa [isI] using h
  rcases hcs with rfl | rfl | rfl <;> exact ⟨rfl, by omega⟩
theorem isolate_at {c : List Int} {b j : Nat} (hj : j < c.length) (hi : isI c[j] = true) (he : endAt c j < c.length) :
    ∃ s', Ok b s' ∧ (explL c b)[j]? = some (outS b s' c[j]) ∧ (explL c b)[endAt c j]? = some (outS b s' 22) ∧
      ((∀ x ∈ c, x ≠ 10) → (∀ k y, j < k → k < endAt c j → (explL c b)[k]? = some y → y.1 = -1 ∨ ((top s'.es).lev : Int) < y.1) ∨ (∀ k y, j < k → k < endAt c j → (explL c b)[k]? = some y → y.1 = -1 ∨ y.1 = ((top s'.es).lev : Int))) := by
  obtain ⟨e, hee⟩ : ∃ e, endL (c.drop (j + 1)) 0 = e := ⟨_, rfl⟩
  have hend : endAt c j = j + 1 + e := by unfold endAt; rw [hee]
  have hel : e < (c.drop (j + 1)).length := by rw [List.length_drop]; omega
  have hcl := end_closed (c.drop (j + 1)) 0 (by rw [hee]; exact hel)
  have hP := endL_at (c.drop (j + 1)) 0 (by rw [hee]; exact hel)
  simp only [hee] at hcl hP
  obtain ⟨zs, hzs⟩ : ∃ zs, (c.drop (j + 1)).take e = zs := ⟨_, rfl⟩
  have hzl : zs.length = e := by rw [← hzs, List.length_take]; omega
  have h22 : (c.drop (j + 1))[e] = 22 := by simpa [isP] using hP
  obtain ⟨r, hr⟩ : ∃ r, (c.drop (j + 1)).drop (e + 1) = r := ⟨_, rfl⟩
  have hsplit : c.drop (j + 1) = zs ++ 22 :: r := by
    rw [← hzs, ← hr, ← h22, ← List.drop_eq_getElem_cons hel, List.take_append_drop]
  have hc : c = c.take j ++ (c[j] :: (zs ++ 22 :: r)) := by
    rw [← hsplit, ← List.drop_eq_getElem_cons hj, List.take_append_drop]
  rw [hzs] at hcl
  have hex : explL c b = walkL b (c.take j ++ (c[j] :: (zs ++ 22 :: r))) (startS b) := by
    unfold explL
    exact congrArg (fun l => walkL b l (startS b)) hc
  obtain ⟨P, s', p1, p2, p3⟩ := walk_split b (c[j] :: (zs ++ 22 :: r)) (c.take j) (startS b) (Ok.start b)
  have hPl : P.length = j := by rw [p1, List.length_take]; omega
  obtain ⟨Z, z1, z2⟩ := walk_isolate b s' c[j] hi zs r hcl
  have hex1 : explL c b = P ++ (outS b s' c[j] :: (Z ++ outS b s' 22 :: walkL b r s')) := by rw [hex, p2, z2]
  refine ⟨s', p3, ?_, ?_, fun hB => ?_⟩
  · rw [hex1, List.getElem?_append_right (by omega), hPl, Nat.sub_self]
    rfl
  · rw [hex1, hend, List.getElem?_append_right (by omega), hPl, show j + 1 + e - j = e + 1 from by omega, List.getElem?_cons_succ, List.getElem?_append_right (by omega), z1, hzl, Nat.sub_self]
    rfl
  · have hBz : ∀ x ∈ zs, x ≠ 10 := fun x hx => hB x (by rw [hc]; simp [hx])
    obtain ⟨o, ho⟩ := initI hi (zs ++ 22 :: r) s'
    have hw : walkL b (c[j] :: (zs ++ 22 :: r)) s' = outS b s' c[j] :: walkL b (zs ++ 22 :: r) (beginS o s') := by
      simp only [walkL]
      rw [ho, closeI hi]
    have hkey : ∀ (Z' : List (Int × Int)) (s2 : St) (Q : Int → Prop), Z'.length = zs.length → walkL b (zs ++ 22 :: r) (beginS o s') = Z' ++ walkL b (22 :: r) s2 → (∀ y ∈ Z', Q y.1) → ∀ k y, j < k → k < endAt c j → (explL c b)[k]? = some y → Q y.1 := by
      intro Z' s2 Q l1 l2 l3 k y hk1 hk2 hy
      rw [hex, p2, hw, l2, List.getElem?_append_right (by omega), hPl] at hy
      obtain ⟨q, rfl⟩ : ∃ q, k = j + 1 + q := ⟨k - (j + 1), by omega⟩
      rw [show j + 1 + q - j = q + 1 from by omega, List.getElem?_cons_succ, List.getElem?_append_left (by omega)] at hy
      exact l3 y (List.mem_of_getElem? hy)
    rcases In.begin2 o s' with hin | hin
    · left
      obtain ⟨Z', s2, l1, l2, l3⟩ := walk_levF b s' p3 zs r 0 _ hin (p3.begin_ o) hcl hBz
      exact hkey Z' s2 (fun y => y = -1 ∨ ((top s'.es).lev : Int) < y) l1 l2 l3
    · right
      obtain ⟨Z', s2, l1, l2, l3⟩ := walk_levL b s' zs r 0 _ hin hcl hBz
      exact hkey Z' s2 (fun y => y = -1 ∨ y = ((top s'.es).lev : Int)) l1 l2 l3
theorem getD_at {c : List Int} {j : Nat} (h : j < c.length) : c.getD j 0 = c[j] := by simp [List.getD, List.getElem?_eq_getElem h]
theorem iso_zB (c : List Int) (b : Nat) : Iso c (zB c b) := by
  intro j hk hi he
  have hj : j < c.length := by have := L_lt hk; rw [zB_len] at this; exact this
  rw [getD_at hj] at hi
  obtain ⟨s', h1, h2, h3, _⟩ := isolate_at (b := b) hj hi he
  obtain ⟨r1, r2⟩ := remB_I hi
  rw [L_zB h2, L_zB h3, out_kept r2 r1, out_kept (by decide) rfl]

theorem closed_next {c z : List Int} {lv : Int} {s : S4} (h : One c z lv s) {p q : Nat} (hp : p ∈ s.p) (hn : nextS c z p = some q) : q ∈ s.p := by
  rcases chn_next h.chn hp with e | ⟨q', h1, h2⟩
  · rw [e, h.fin] at hn
    cases hn
  · rw [hn] at h1
    injection h1 with h1
    subst h1
    exact h2
/-- An initiator and its PDI. -/
theorem both_in {c : List Int} {b : Nat} {lv : Int} {T : List S4} (h : SeqsAll c (zB c b) lv T) (hB : ∀ x ∈ c, x ≠ 10) {j : Nat} (hj : j < c.length) (hi : isI c[j] = true) (he : endAt c j < c.length) : ∃ (i : Nat) (s : S4), T[i]? = some s ∧ j ∈ s.p ∧ endAt c j ∈ s.p := by
  obtain ⟨s', ok, h2, h3, h4⟩ := isolate_at (b := b) hj hi he
  obtain ⟨r1, r2⟩ := remB_I hi
  have hLj : L (zB c b) j = ((top s'.es).lev : Int) := by rw [L_zB h2, out_kept r2 r1]
  have hLe : L (zB c b) (endAt c j) = ((top s'.es).lev : Int) := by rw [L_zB h3, out_kept (by decide) rfl]
  have hkj : L (zB c b) j ≠ -1 := by rw [hLj]; omega
  have hke : L (zB c b) (endAt c j) ≠ -1 := by rw [hLe]; omega
  have hgt := endAt_gt c j
  obtain ⟨i, s, hs, hjs⟩ := h.cover j hkj
  have hone := h.ok.each s (List.mem_of_getElem? hs)
  refine ⟨i, s, hs, hjs, ?_⟩
  have hin : ∀ k, j < k → k < endAt c j → ∃ y, (explL c b)[k]? = some y ∧ L (zB c b) k = y.1 := fun k h5 h6 => by
    have hl : k < (explL c b).length := by rw [explL_len]; omega
    exact ⟨_, List.getElem?_eq_getElem hl, L_zB (List.getElem?_eq_getElem hl)⟩
  rcases h4 hB with h5 | h5
  · have hup : ∃ q, up (zB c b) (j + 1) = some q := by
      cases hu : up (zB c b) (j + 1) with
      | none => exact absurd (upN hu _ hgt) hke
      | some q => exact ⟨q, rfl⟩
    obtain ⟨q, hq⟩ := hup
    obtain ⟨q1, q2, q3⟩ := upS hq
    have hqe : q ≤ endAt c j := by
      rcases Nat.lt_or_ge (endAt c j) q with h6 | h6
      · exact absurd (q3 _ hgt h6) hke
      · exact h6
    by_cases e : q = endAt c j
    · subst e
      exact closed_next hone hjs (nextS_same hq (by rw [hLe, hLj]))
    · have hgtk : ∀ k, j < k → k < endAt c j → L (zB c b) k ≠ -1 → ((top s'.es).lev : Int) < L (zB c b) k := fun k h6 h7 h8 => by
        obtain ⟨y, y1, y2⟩ := hin k h6 h7
        rcases h5 k y h6 h7 y1 with h9 | h9
        · rw [y2] at h8; exact absurd h9 h8
        · rw [y2]; exact h9
      have hqv := hgtk q (by omega) (by omega) q2
      have hbeg : begins (zB c b) (endAt c j) = true := by
        unfold begins
        cases hd : dn (zB c b) (endAt c j) with
        | none => rfl
        | some t =>
          obtain ⟨t1, t2, t3⟩ := dn_some hd
          have htq : q ≤ t := by
            rcases Nat.lt_or_ge t q with h6 | h6
            · exact absurd (t3 q h6 (by omega)) q2
            · exact h6
          have := hgtk t (by omega) t1 t2
          simp only [decide_eq_true_eq, ne_eq]
          omega
      refine closed_next hone hjs ?_
      rw [nextS_jump (fun q' hq' => by rw [hq] at hq'; injection hq' with hq'; subst hq'; omega)]
      unfold jump
      rw [if_pos ⟨by rw [getD_at hj]; exact hi, he, hbeg⟩]
  · have heq : ∀ k, j ≤ k → k ≤ endAt c j → L (zB c b) k ≠ -1 → L (zB c b) k = ((top s'.es).lev : Int) := fun k h6 h7 h8 => by
      by_cases e1 : k = j
      · rw [e1]; exact hLj
      · by_cases e2 : k = endAt c j
        · rw [e2]; exact hLe
        · obtain ⟨y, y1, y2⟩ := hin k (by omega) (by omega)
          rcases h5 k y (by omega) (by omega) y1 with h9 | h9
          · rw [y2] at h8; exact absurd h9 h8
          · rw [y2]; exact h9
    have hall : ∀ d k, k ≤ j + d → j ≤ k → k ≤ endAt c j → L (zB c b) k ≠ -1 → k ∈ s.p := by
      intro d
      induction d with
      | zero => intro k h6 h7 h8 h9; rw [show k = j from by omega]; exact hjs
      | succ d ih =>
        intro k h6 h7 h8 h9
        by_cases e : k = j
        · rw [e]; exact hjs
        · cases hd : dn (zB c b) k with
          | none => exact absurd (dn_none hd j (by omega)) hkj
          | some t =>
            obtain ⟨t1, t2, t3⟩ := dn_some hd
            have htj : j ≤ t := by
              rcases Nat.lt_or_ge t j with h10 | h10
              · exact absurd (t3 j h10 (by omega)) hkj
              · exact h10
            have htm := ih t (by omega) htj (by omega) t2
            exact closed_next hone htm (nextS_same (up_dn hd h9) (by rw [heq k h7 h8 h9, heq t htj (by omega) t2]))
    exact hall (endAt c j) _ (by omega) (by omega) (Nat.le_refl _) hke

/-- Where nothing embeds, overrides or isolates. -/
theorem plain_walk (b : Nat) : ∀ (l : List Int), (∀ x ∈ l, plainB x = true) → ∀ (i : Nat) (y : Int × Int), (walkL b l (startS b))[i]? = some y → y.1 = -1 ∨ y.1 = (b : Int)
  | [], _, i, y, h => by simp [walkL] at h
  | x :: l, hp, i, y, h => by
    obtain ⟨p1, p2⟩ := plain_same (b := b) (hp x List.mem_cons_self) l
    simp only [walkL] at h
    rw [p1, p2] at h
    cases i with
    | zero =>
      simp at h
      subst h
      by_cases hr : remB x = true
      · exact .inl ((out_rem b _ x).2 hr)
      · right
        exact (plain_out (by simpa using hr) (z1 := (outS b (startS b) x).1) (z2 := (outS b (startS b) x).2) rfl).1
    | succ i => exact plain_walk b l (fun q hq => hp q (List.mem_cons_of_mem _ hq)) i y (by simpa using h)
theorem plain_lev {c : List Int} {b : Nat} (h : ∀ x ∈ c, plainB x = true) {i : Nat} (hk : L (zB c b) i ≠ -1) : L (zB c b) i = (b : Int) := by
  have hi : i < (explL c b).length := by have := L_lt hk; rw [zB_len] at this; rw [explL_len]; exact this
  have hy : (explL c b)[i]? = some (explL c b)[i] := List.getElem?_eq_getElem hi
  rw [L_zB hy] at hk ⊢
  rcases plain_walk b c h i _ hy with h1 | h1
  · exact absurd h1 hk
  · exact h1
theorem kf_from {z : List Int} {f : Nat} (hu : up z 0 = some f) : ∀ d, kf z 0 (f + d) = kf z f (f + d)
  | 0 => by
    rw [Nat.add_zero, kf_same]
    have : ∀ d, d ≤ f → kf z 0 d = [] := by
      intro d
      induction d with
      | zero => intro _; exact kf_same z 0
      | succ d ih =>
        intro hd
        rw [kf_step (Nat.zero_le _), ih (by omega), if_pos ((upS hu).2.2 d (Nat.zero_le _) (by omega))]
        rfl
    exact this f (Nat.le_refl _)
  | d + 1 => by
    rw [show f + (d + 1) = (f + d) + 1 from by omega, kf_step (Nat.zero_le _), kf_step (by omega), kf_from hu d]
theorem kf_upto {z : List Int} {f t : Nat} (hft : f ≤ t) : ∀ d, (∀ k, t ≤ k → k < t + d → L z k = -1) → kf z f (t + d) = kf z f t
  | 0, _ => rfl
  | d + 1, h => by
    rw [show t + (d + 1) = (t + d) + 1 from by omega, kf_step (by omega), if_pos (h _ (by omega) (by omega)), List.append_nil]
    exact kf_upto hft d (fun k h1 h2 => h k h1 (by omega))
theorem one_seq {c : List Int} {b : Nat} {T : List S4} (h : SeqsAll c (zB c b) (b : Int) T) (hp : ∀ x ∈ c, plainB x = true) : (kept (zB c b) = [] ∧ T = []) ∨ (kept (zB c b) ≠ [] ∧ T = [⟨b, way b b, way b b, kept (zB c b)⟩]) := by
  obtain ⟨z, hz⟩ : ∃ z, zB c b = z := ⟨_, rfl⟩
  have hlev : ∀ {i}, L z i ≠ -1 → L z i = (b : Int) := fun {i} hk => by rw [← hz] at hk ⊢; exact plain_lev hp hk
  have hiso : Iso c z := by rw [← hz]; exact iso_zB c b
  have hnoI : ∀ i, ¬ isI (c.getD i 0) = true := fun i hi => by
    have hl := isI_lt hi
    rw [getD_at hl] at hi
    have := hp _ (List.getElem_mem hl)
    have hcs : c[i] = 19 ∨ c[i] = 20 ∨ c[i] = 21 := by simpa [isI] using hi
    have hpb : c[i] < 14 ∨ 22 < c[i] := by simpa [plainB] using this
    omega
  rw [hz] at h ⊢
  cases hu : up z 0 with
  | none =>
    have hall := upN hu
    left
    have hk : kept z = [] := by
      cases hkk : kept z with
      | nil => rfl
      | cons p l =>
        have : p ∈ kept z := by rw [hkk]; exact List.mem_cons_self
        exact absurd (hall p (Nat.zero_le _)) (kf_mem.1 this).2.2
    refine ⟨hk, ?_⟩
    have h2 := (SInv.start c z (b : Int)).all hiso hu
    exact h.ok.unique h2.ok
  | some f =>
    obtain ⟨u1, u2, u3⟩ := upS hu
    have hfl := L_lt u2
    right
    cases hd : dn z z.length with
    | none => exact absurd (dn_none hd f hfl) u2
    | some t =>
      obtain ⟨t1, t2, t3⟩ := dn_some hd
      have hft : f ≤ t := by
        rcases Nat.lt_or_ge t f with h1 | h1
        · exact absurd (u3 t (Nat.zero_le _) h1) t2
        · exact h1
      have hN : up z (t + 1) = none := by
        cases hx : up z (t + 1) with
        | none => rfl
        | some q =>
          obtain ⟨a1, a2, a3⟩ := upS hx
          exact absurd (t3 q (by omega) (L_lt a2)) a2
      have hkept : kept z = kf z f (t + 1) := by
        have e1 := kf_from hu (z.length - f)
        rw [show f + (z.length - f) = z.length from by omega] at e1
        have e2 := kf_upto (z := z) (f := f) (t := t + 1) (by omega) (z.length - (t + 1)) (fun k h1 h2 => t3 k (by omega) (by omega))
        rw [show t + 1 + (z.length - (t + 1)) = z.length from by omega] at e2
        unfold kept
        rw [e1, e2]
      have hdf : dn z f = none := by
        cases hx : dn z f with
        | none => rfl
        | some q => obtain ⟨a1, a2, _⟩ := dn_some hx; exact absurd (u3 q (Nat.zero_le _) a1) a2
      have hrun : RunOk c z (b : Int) f t ⟨b, b, b, kf z f (t + 1)⟩ := by
        refine ⟨hft, u2, t2, rfl, fun k _ _ hk => hlev hk, by unfold begins; rw [hdf], fun q hq => (by rw [hN] at hq; cases hq), by unfold ahead; rw [hdf], ?_⟩
        unfold behind
        rw [if_neg (fun h => hnoI t h.1), hN]
      have h2 := ((SInv.start c z (b : Int)).fresh hiso hu hrun rfl).all hiso hN
      refine ⟨by rw [hkept]; exact kf_ne (by omega) u2, ?_⟩
      rw [hkept]
      exact h.ok.unique h2.ok
/-- How many are kept. -/
theorem kept_count (c : List Int) (b : Nat) : ∀ k, k ≤ c.length → (kf (zB c b) 0 k).length = ((c.take k).filter fun x => !remB x).length
  | 0, _ => by rw [kf_same]; simp
  | k + 1, h => by
    have hk : k < c.length := by omega
    have ih := kept_count c b k (by omega)
    rw [kf_step (Nat.zero_le _), List.length_append, ih, List.take_succ_eq_append_getElem hk, List.filter_append, List.length_append]
    congr 1
    by_cases hr : remB c[k] = true
    · rw [if_pos ((zB_kept hk).2 hr)]
      simp [hr]
    · rw [if_neg (fun e => hr ((zB_kept hk).1 e))]
      simp [hr]
end Go.Proofs.Ytehndhkcmccpmaa.Sq
