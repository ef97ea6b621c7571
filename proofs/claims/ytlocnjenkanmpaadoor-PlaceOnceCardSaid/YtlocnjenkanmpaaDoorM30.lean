/-
  Several texts in one, each with its own remark: LawInts, PlOnceP, PlOfOk, PlOnceK.
-/
import Derived.ChangeSlices
import Derived.Laws.IdiomAt
import Derived.Laws.IdiomElems
import Derived.Test.YtlocnjenkanmpaaDoorM0
import Derived.Test.YtlocnjenkanmpaaDoorM29
import Derived.Test.YtlocnjenkanmpaaDoorM2

/-
  A row of ints that a statement's function is called with, as its walk reads it: nil, or cells of memory.
-/
namespace Go.Proofs.YtlocnjenkanmpaaDoor
open Go.ChangeShapes Go.WideShapes Go.ChangeAt Go.RowKit
set_option maxRecDepth 100000 in
theorem open_introwc {H : Type} {enc : TypeId × Value → H} {W : World} {r : Reach} {b0 base : Nat} {v : Value} {d : DataW H} {p : List MemPlace}
    (hv : Value.okWide Tryd.prog W r b0 23 v) (h : DataW.Trod enc Tryd.prog W base (fun _ => true) true 23 v d p) :
    ∃ (A : Option Addr) (zs : List Int) (c : Nat), v = .slice A zs.length c ∧ Cl.IntsAt W A zs ∧ (A = none → zs = [] ∧ c = 0) ∧ zs.length ≤ 9223372036854775807 ∧ (∀ z ∈ zs, -9223372036854775808 ≤ z ∧ z ≤ 9223372036854775807) ∧ zs.length ≤ c := by
  obtain ⟨fuel, hf⟩ := h
  rcases open_ints Tryd.underlying23 Tryd.underlying3 (by kernel_rfl) hf with ⟨hcs, hx⟩ | ⟨a, len, cap, zs, hcs, _, hl, hm, hz, hx, hcell, hwz⟩
  · obtain ⟨a, n, c, rfl⟩ := okWide_slice Tryd.underlying23 hv
    simp [Value.cells] at hcs
    obtain ⟨rfl, rfl, rfl⟩ := hcs
    exact ⟨none, [], 0, rfl, .inl rfl, fun _ => ⟨rfl, rfl⟩, by decide, by simp, by simp⟩
  · obtain ⟨a', n, c, rfl⟩ := okWide_slice Tryd.underlying23 hv
    simp [Value.cells] at hcs
    obtain ⟨rfl, rfl, rfl⟩ := hcs
    simp only [if_true] at hz
    unfold maxLen at hm
    have hlen : (zs.take n).length = n := by simp; omega
    refine ⟨some a, zs.take n, c, by rw [hlen], ?_, (fun h => by cases h), by omega, fun z hz' => ?_, by omega⟩
    · by_cases h0 : n = 0
      · exact .inl (by subst h0; simp)
      · right
        obtain ⟨b, off, spot⟩ := a
        have hspot : spot = none := by simpa [Addr.add] using World.cell?_spot (hcell 0 (by omega))
        subst hspot
        refine ⟨b, off, rfl, ?_, fun j z hj => ?_⟩
        · have := World.block_lt_of_cell? W _ (hcell 0 (by omega))
          simpa [Addr.add] using this
        · have hj' : j < n := by
            have := (List.getElem?_eq_some_iff.1 hj).1
            omega
          have hadd : (⟨b, off, none⟩ : Addr).add j = ⟨b, off + j, none⟩ := by unfold Addr.add; split <;> simp_all
          rw [← hadd, hcell j (by omega)]
          rw [List.getElem?_take, if_pos hj'] at hj
          simp [List.getD, hj]
    · have := hwz z (List.mem_of_mem_take hz')
      have h1 : IntKind.i64.min = -9223372036854775808 := rfl
      have h2 : IntKind.i64.max = 9223372036854775807 := rfl
      simp only [Lit.wf, Bool.and_eq_true, decide_eq_true_eq] at this
      omega
end Go.Proofs.YtlocnjenkanmpaaDoor

/-
  Plainly: where there is room each cluster that is seen has its slots, side by side, and nothing else is text. No program in it.
-/
set_option linter.unusedVariables false
set_option linter.unusedSimpArgs false
namespace Go.Proofs.YtlocnjenkanmpaaDoor.Pl
open Go Go.Proofs.YtlocnjenkanmpaaDoor.Ku Go.Proofs.YtlocnjenkanmpaaDoor.Wr Go.Proofs.YtlocnjenkanmpaaDoor.Bi Go.Proofs.YtlocnjenkanmpaaDoor.Bo
abbrev flat (Z : List Sn) : List C6 := Z.flatMap blkP
theorem flat_cons (z : Sn) (Z : List Sn) : flat (z :: Z) = blkP z ++ flat Z := rfl
theorem blkP_len (z : Sn) : (blkP z).length = z.1.w.toNat := blk_len _ _
theorem blkP_at (z : Sn) {i : Nat} (h : i < z.1.w.toNat) : (blkP z)[i]? = some (txtS z.1.a i (shownP z.1.c z.2)) := blk_at _ _ _ h
theorem flat_mem : ∀ (Z : List Sn), ∀ v ∈ flat Z, v.a = 4 ∧ ∃ z ∈ Z, v.t = z.1.a
  | [], v, h => by simp [flat] at h
  | z :: Z, v, h => by
    rw [flat_cons] at h
    rcases List.mem_append.1 h with h | h
    · obtain ⟨i, hi, he⟩ := List.mem_iff_getElem.1 h
      have h2 := blkP_at z (i := i) (by rw [blkP_len] at hi; exact hi)
      rw [List.getElem?_eq_getElem hi, he] at h2
      injection h2 with h2
      rw [h2]
      exact ⟨rfl, z, List.mem_cons_self, rfl⟩
    · obtain ⟨h1, z', h2, h3⟩ := flat_mem Z v h
      exact ⟨h1, z', List.mem_cons_of_mem _ h2, h3⟩
/-- Each one's slots stand once. -/
theorem flat_find : ∀ (Z : List Sn), (Z.map (·.1.a)).Nodup → ∀ z ∈ Z, 0 < z.1.w → ∃ p, p + z.1.w.toNat ≤ (flat Z).length ∧ (∀ k, k < z.1.w.toNat → (flat Z)[p + k]? = some (txtS z.1.a k (shownP z.1.c z.2))) ∧ (∀ (i : Nat) (v : C6), (flat Z)[i]? = some v → v.t = z.1.a → v.w = 0 → i = p)
  | [], _, z, h, _ => by simp at h
  | y :: Z, hn, z, h, hw => by
    rw [List.map_cons, List.nodup_cons] at hn
    have hnot : ∀ z' ∈ Z, y.1.a ≠ z'.1.a := fun z' hz he => hn.1 (List.mem_map.2 ⟨z', hz, he.symm⟩)
    rcases List.mem_cons.1 h with rfl | h
    · refine ⟨0, ?_, fun k hk => ?_, fun i v hv ht hw0 => ?_⟩
      · rw [flat_cons, List.length_append, blkP_len]
        omega
      · rw [flat_cons, Nat.zero_add, List.getElem?_append_left (by rw [blkP_len]; exact hk)]
        exact blkP_at z hk
      · rcases Nat.lt_or_ge i z.1.w.toNat with hi | hi
        · rw [flat_cons, List.getElem?_append_left (by rw [blkP_len]; exact hi), blkP_at z hi] at hv
          injection hv with hv
          rw [← hv] at hw0
          have : (i : Int) = 0 := hw0
          omega
        · rw [flat_cons, List.getElem?_append_right (by rw [blkP_len]; exact hi)] at hv
          obtain ⟨_, z', h2, h3⟩ := flat_mem Z v (List.mem_of_getElem? hv)
          exact absurd (ht.symm.trans h3) (hnot z' h2)
    · obtain ⟨p, h1, h2, h3⟩ := flat_find Z hn.2 z h hw
      refine ⟨y.1.w.toNat + p, ?_, fun k hk => ?_, fun i v hv ht hw0 => ?_⟩
      · rw [flat_cons, List.length_append, blkP_len]
        omega
      · rw [flat_cons, List.getElem?_append_right (by rw [blkP_len]; omega), blkP_len, show y.1.w.toNat + p + k - y.1.w.toNat = p + k from by omega]
        exact h2 k hk
      · rcases Nat.lt_or_ge i y.1.w.toNat with hi | hi
        · rw [flat_cons, List.getElem?_append_left (by rw [blkP_len]; exact hi), blkP_at y hi] at hv
          injection hv with hv
          rw [← hv] at ht
          exact absurd ht (hnot z h)
        · rw [flat_cons, List.getElem?_append_right (by rw [blkP_len]; exact hi), blkP_len] at hv
          have := h3 _ v hv ht hw0
          omega
theorem seen_mem (C : List C6) (own : List Int) (a f : Nat) : ∀ k, ∀ y ∈ seenK C own a f k, ∃ i, i < k ∧ y.1 = C.getD (f + i) d6 ∧ 0 < y.1.w
  | 0, y, h => by simp [seenK] at h
  | k + 1, y, h => by
    unfold seenK at h
    rcases List.mem_append.1 h with h | h
    · obtain ⟨i, h1, h2⟩ := seen_mem C own a f k y h
      exact ⟨i, by omega, h2⟩
    · split at h
      · next hw =>
        rw [List.mem_singleton] at h
        rw [h]
        exact ⟨k, by omega, rfl, hw⟩
      · simp at h
theorem seen_has (C : List C6) (own : List Int) (a f : Nat) : ∀ k i, i < k → 0 < (C.getD (f + i) d6).w → ∃ v, (C.getD (f + i) d6, v) ∈ seenK C own a f k
  | 0, i, h, _ => by omega
  | k + 1, i, h, hw => by
    unfold seenK
    by_cases hi : i = k
    · subst hi
      rw [if_pos hw]
      exact ⟨_, List.mem_append_right _ (List.mem_singleton.2 rfl)⟩
    · obtain ⟨v, hv⟩ := seen_has C own a f k i (by omega) hw
      exact ⟨v, List.mem_append_left _ hv⟩
theorem seen_nodup (C : List C6) (own : List Int) (a f : Nat) : ∀ k, (∀ i j, i < j → j < k → (C.getD (f + i) d6).a ≠ (C.getD (f + j) d6).a) → ((seenK C own a f k).map (·.1.a)).Nodup
  | 0, _ => by simp [seenK]
  | k + 1, h => by
    have ih := seen_nodup C own a f k (fun i j h1 h2 => h i j h1 (by omega))
    unfold seenK
    rw [List.map_append]
    refine List.nodup_append.2 ⟨ih, by split <;> simp, fun x hx y hy => ?_⟩
    obtain ⟨z, hz, rfl⟩ := List.mem_map.1 hx
    obtain ⟨i, h1, h2, _⟩ := seen_mem C own a f k z hz
    split at hy
    · simp only [List.map_cons, List.map_nil, List.mem_singleton] at hy
      rw [hy, h2]
      exact h i k h1 (by omega)
    · simp at hy
theorem seen_sum (C : List C6) (own : List Int) (a f : Nat) : ∀ k, (flat (seenK C own a f (k + 1))).length = (flat (seenK C own a f k)).length + (C.getD (f + k) d6).w.toNat := by
  intro k
  conv => lhs; unfold seenK
  unfold flat
  rw [List.flatMap_append, List.length_append]
  congr 1
  by_cases hw : 0 < (C.getD (f + k) d6).w
  · rw [if_pos hw, List.flatMap_singleton, blkP_len]
  · rw [if_neg hw]
    simp only [List.flatMap_nil, List.length_nil]
    omega
theorem ord_perm (Y : List Sn) : ((ordP Y).map fun j => Y.getD j sn0).Perm Y := by
  have h1 : (ordP Y).Perm (List.range Y.length) := (List.perm_ext_iff_of_nodup (order_nodup _) List.nodup_range).2 fun a => by
    rw [order_mem, List.length_map, List.mem_range]
  have h2 : (List.range Y.length).map (fun j => Y.getD j sn0) = Y := by
    apply List.ext_getElem?
    intro i
    rw [List.getElem?_map]
    rcases Nat.lt_or_ge i Y.length with hi | hi
    · rw [List.getElem?_range hi, Option.map_some, List.getD_eq_getElem?_getD, List.getElem?_eq_getElem hi]
      rfl
    · rw [List.getElem?_eq_none (by simpa using hi), List.getElem?_eq_none hi]
      rfl
  have := h1.map (fun j => Y.getD j sn0)
  rwa [h2] at this
theorem row_flat (Y : List Sn) : rowP Y (ordP Y) = flat ((ordP Y).map fun j => Y.getD j sn0) := by
  unfold rowP flat
  rw [List.flatMap_map]
theorem rise_lt {l : List R3} (h : ∀ i (h2 : i + 1 < l.length), l[i].1 < l[i + 1].1) : ∀ (j i : Nat) (hij : i < j) (hj : j < l.length), (l[i]'(by omega)).1 < l[j].1
  | 0, i, hij, hj => by omega
  | j + 1, i, hij, hj => by
    have h1 := h j hj
    rcases Nat.lt_or_ge i j with h2 | h2
    · have := rise_lt h j i h2 (by omega)
      omega
    · obtain rfl : i = j := by omega
      exact h1
theorem rise_ofC {l : List R3} (h : ∀ i (h2 : i + 1 < l.length), l[i].1 < l[i + 1].1) {i j : Nat} (hij : i < j) (hj : j < (ofC l).length) : ((ofC l)[i]'(by omega)).a < (ofC l)[j].a := by
  obtain ⟨f, t, f', t', e1, e2, e3, e4, k1, k2, k3, k4⟩ := (ofC_ftc l).mono hij hj
  obtain ⟨p, g1, r, g2, g3, _⟩ := ofC_a l ((ofC l)[i]'(by omega)) (List.getElem_mem _)
  obtain ⟨p', g1', r', g2', g3', _⟩ := ofC_a l (ofC l)[j] (List.getElem_mem _)
  have hp : p = f := by omega
  have hp' : p' = f' := by omega
  subst hp hp'
  obtain ⟨q1, q2⟩ := List.getElem?_eq_some_iff.1 g2
  obtain ⟨q1', q2'⟩ := List.getElem?_eq_some_iff.1 g2'
  rw [g3, g3', ← q2, ← q2']
  exact rise_lt h _ _ (by omega) q1'
def cnt (k : Int) (S : List C6) (i : Nat) : Nat := (S.take i).countP fun y => decide (y.a = k)
theorem cnt_succ (k : Int) {S : List C6} {i : Nat} (h : i < S.length) : cnt k S (i + 1) = cnt k S i + (if S[i].a = k then 1 else 0) := by
  unfold cnt
  rw [List.take_succ_eq_append_getElem h, List.countP_append, List.countP_singleton]
  simp
theorem cnt_all (k : Int) (S : List C6) : cnt k S S.length = S.countP fun y => decide (y.a = k) := by unfold cnt; rw [List.take_length]
theorem count_flat4 (Z : List Sn) : (flat Z).countP (fun y => decide (y.a = 4)) = (flat Z).length := List.countP_eq_length.2 fun v hv => decide_eq_true (flat_mem Z v hv).1
theorem count_flat3 (Z : List Sn) : (flat Z).countP (fun y => decide (y.a = 3)) = 0 := List.countP_eq_zero.2 fun v hv => by
  have := (flat_mem Z v hv).1
  simp only [decide_eq_true_eq]
  omega
theorem row_at (L pre post R : Nat) (F : List C6) (j : Nat) (hj : j < F.length) : (List.replicate L padS ++ (List.replicate pre dotsS ++ F ++ List.replicate post dotsS) ++ List.replicate R padS)[L + pre + j]? = F[j]? := by
  rw [List.getElem?_append_left (by simp only [List.length_append, List.length_replicate]; omega), List.getElem?_append_right (by rw [List.length_replicate]; omega), List.getElem?_append_left (by simp only [List.length_append, List.length_replicate]; omega), List.getElem?_append_right (by simp only [List.length_replicate]; omega), List.length_replicate, List.length_replicate, show L + pre + j - L - pre = j from by omega]
theorem rep_kind {n i : Nat} {v y : C6} (h : (List.replicate n v)[i]? = some y) : y = v := by
  rw [List.getElem?_replicate] at h
  split at h
  · injection h with h
    exact h.symm
  · cases h
/-- What is text stands within the text. -/
theorem row_only (L pre post R : Nat) (F : List C6) (i : Nat) (y : C6) (hy : (List.replicate L padS ++ (List.replicate pre dotsS ++ F ++ List.replicate post dotsS) ++ List.replicate R padS)[i]? = some y) (ha : y.a = 4) : ∃ j, i = L + pre + j ∧ F[j]? = some y := by
  rw [List.getElem?_append] at hy
  split at hy
  · rw [List.getElem?_append] at hy
    split at hy
    · rw [rep_kind hy] at ha
      exact absurd ha (by decide)
    · next h1 =>
      rw [List.getElem?_append] at hy
      split at hy
      · rw [List.getElem?_append] at hy
        split at hy
        · rw [rep_kind hy] at ha
          exact absurd ha (by decide)
        · next h2 =>
          rw [List.length_replicate] at h1 h2
          rw [List.length_replicate] at hy h2
          rw [List.length_replicate] at hy
          exact ⟨i - L - pre, by omega, hy⟩
      · rw [rep_kind hy] at ha
        exact absurd ha (by decide)
  · rw [rep_kind hy] at ha
    exact absurd ha (by decide)
/-- Where there is room. -/
theorem once_facts {l : List R3} {lv : List Int} {n m : Nat} {x : L5} {para W al : Int} (hl : l.length = n) (hm : lv.length = m) (hr : ∀ i (h2 : i + 1 < l.length), l[i].1 < l[i + 1].1) (he : errP n m (ofC l).length x para W al = 0) :
    ∃ (N f s t D : Nat) (V : Nat → Nat), W = N ∧ 1 ≤ N ∧ N ≤ 1024 ∧ x.f = f ∧ x.s = s ∧ x.t = t ∧ f ≤ s ∧ s ≤ t ∧ t ≤ (ofC l).length ∧ (ansP l lv x para W al).length = N ∧ V f = 0 ∧ (∀ q, f ≤ q → V (q + 1) = V q + ((ofC l).getD q d6).w.toNat) ∧ D = (if x.d = 1 then 1 else 0) ∧
    (V s + D ≤ N → ∃ cT cD : Nat → Nat, cT 0 = 0 ∧ cD 0 = 0 ∧ cT N = V s ∧ cD N = D ∧
      (∀ i, i < N → ∃ y, (ansP l lv x para W al)[i]? = some y ∧ (y.a = 4 ∧ cT (i + 1) = cT i + 1 ∧ cD (i + 1) = cD i ∨ y.a = 3 ∧ cT (i + 1) = cT i ∧ cD (i + 1) = cD i + 1 ∨ y.a = 2 ∧ cT (i + 1) = cT i ∧ cD (i + 1) = cD i)) ∧
      (∀ q, f ≤ q → q < s → 0 < ((ofC l).getD q d6).w → ∃ (p : Nat) (d : Int), p + ((ofC l).getD q d6).w.toNat ≤ N ∧ (∀ k, k < ((ofC l).getD q d6).w.toNat → (ansP l lv x para W al)[p + k]? = some (txtS ((ofC l).getD q d6).a k d)) ∧
        (∀ (i : Nat) (y : C6), (ansP l lv x para W al)[i]? = some y → y.a = 4 → y.t = ((ofC l).getD q d6).a → y.w = 0 → i = p))) := by
  subst hl hm
  obtain ⟨_, hp01, w1, w2, _, f0, f1, f2, f3⟩ := errP_ok he
  obtain ⟨N, rfl⟩ : ∃ N : Nat, W = N := ⟨W.toNat, by omega⟩
  have hne : ∀ i j, i < j → j < x.s.toNat - x.f.toNat → ((ofC l).getD (x.f.toNat + i) d6).a ≠ ((ofC l).getD (x.f.toNat + j) d6).a := fun i j hij hj => by
    have h1 : x.f.toNat + j < (ofC l).length := by omega
    rw [getD_at (show x.f.toNat + i < (ofC l).length from by omega), getD_at h1]
    have := rise_ofC hr (i := x.f.toNat + i) (j := x.f.toNat + j) (by omega) h1
    omega
  have hseen : seenP l lv (ofC l) x para = seenK (ofC l) (ownP l lv (ofC l) x para) (begR (ofC l) x) x.f.toNat (x.s.toNat - x.f.toNat) := by
    unfold seenP
    split
    · rw [show x.s.toNat - x.f.toNat = 0 from by omega]
      rfl
    · rfl
  have hans : ansP l lv x para N al = padP (textP (seenP l lv (ofC l) x para) x.d para) N al := by
    unfold ansP slotsP
    rw [if_pos he, Int.toNat_natCast]
  rw [hans, hseen]
  generalize ownP l lv (ofC l) x para = own at *
  generalize begR (ofC l) x = b at *
  have hY1 := seen_mem (ofC l) own b x.f.toNat (x.s.toNat - x.f.toNat)
  have hY2 := seen_has (ofC l) own b x.f.toNat (x.s.toNat - x.f.toNat)
  have hY3 := seen_nodup (ofC l) own b x.f.toNat (x.s.toNat - x.f.toNat) hne
  refine ⟨N, x.f.toNat, x.s.toNat, x.t.toNat, _, fun q => (flat (seenK (ofC l) own b x.f.toNat (q - x.f.toNat))).length, rfl, by omega, by omega, by omega, by omega, by omega, by omega, by omega, by omega, pad_len _ _ _, ?_, fun q hq => ?_, rfl, fun hroom => ?_⟩
  · show (flat (seenK (ofC l) own b x.f.toNat (x.f.toNat - x.f.toNat))).length = 0
    rw [Nat.sub_self]
    rfl
  · show (flat (seenK (ofC l) own b x.f.toNat (q + 1 - x.f.toNat))).length = _
    rw [show q + 1 - x.f.toNat = q - x.f.toNat + 1 from by omega, seen_sum, show x.f.toNat + (q - x.f.toNat) = q from by omega]
  generalize hYd : seenK (ofC l) own b x.f.toNat (x.s.toNat - x.f.toNat) = Y at *
  simp only [hYd] at hroom ⊢
  -- the clusters in their order
  have hperm := ord_perm Y
  have hrow := row_flat Y
  generalize (ordP Y).map (fun j => Y.getD j sn0) = Z at *
  have hlen : (flat Z).length = (flat Y).length := (hperm.flatMap_right blkP).length_eq
  have hZn : (Z.map (·.1.a)).Nodup := ((hperm.map (·.1.a)).nodup_iff).2 hY3
  obtain ⟨pre, post, hT, hpp, hpre, hpost⟩ : ∃ pre post : Nat, textP Y x.d para = List.replicate pre dotsS ++ flat Z ++ List.replicate post dotsS ∧ pre + post = (if x.d = 1 then 1 else 0) ∧ True ∧ True := by
    unfold textP
    rw [hrow]
    by_cases hd : x.d = 1
    · rcases hp01 with h | h
      · exact ⟨0, 1, by simp [hd, h], by simp [hd], trivial, trivial⟩
      · exact ⟨1, 0, by simp [hd, h], by simp [hd], trivial, trivial⟩
    · exact ⟨0, 0, by simp [hd], by simp [hd], trivial, trivial⟩
  rw [← hpp, ← hlen] at hroom
  rw [← hpp, ← hlen]
  have hTl : (textP Y x.d para).length = pre + (flat Z).length + post := by rw [hT, List.length_append, List.length_append, List.length_replicate, List.length_replicate]
  have hTk : (textP Y x.d para).take N = textP Y x.d para := List.take_of_length_le (by omega)
  obtain ⟨L, R, hS, hLR⟩ : ∃ L R : Nat, padP (textP Y x.d para) N al = List.replicate L padS ++ textP Y x.d para ++ List.replicate R padS ∧ L + (textP Y x.d para).length + R = N := by
    have h1 := pad_parts (textP Y x.d para) N al
    rw [hTk] at h1
    exact ⟨_, _, h1, by have := congrArg List.length h1; rw [pad_len] at this; simp only [List.length_append, List.length_replicate] at this; omega⟩
  rw [hS, hT]
  rw [hTl] at hLR
  obtain ⟨S, hSd⟩ : ∃ S, List.replicate L padS ++ (List.replicate pre dotsS ++ flat Z ++ List.replicate post dotsS) ++ List.replicate R padS = S := ⟨_, rfl⟩
  have hSl : S.length = N := by rw [← hSd]; simp only [List.length_append, List.length_replicate]; omega
  have hSm : ∀ v ∈ S, v.a = 2 ∨ v.a = 3 ∨ v.a = 4 := by
    intro v hv
    rw [← hSd] at hv
    simp only [List.mem_append, List.mem_replicate] at hv
    rcases hv with (⟨_, rfl⟩ | ((⟨_, rfl⟩ | h) | ⟨_, rfl⟩)) | ⟨_, rfl⟩
    · exact .inl rfl
    · exact .inr (.inl rfl)
    · exact .inr (.inr (flat_mem Z v h).1)
    · exact .inr (.inl rfl)
    · exact .inl rfl
  rw [hSd]
  refine ⟨cnt 4 S, cnt 3 S, rfl, rfl, ?_, ?_, fun i hi => ?_, fun q hq1 hq2 hw => ?_⟩
  · rw [← hSl, cnt_all, ← hSd]
    simp only [List.countP_append, List.countP_replicate, count_flat4]
    simp [padS, dotsS]
  · rw [← hSl, cnt_all, ← hSd]
    simp only [List.countP_append, List.countP_replicate, count_flat3]
    simp [padS, dotsS]
  · have hil : i < S.length := by omega
    refine ⟨S[i], List.getElem?_eq_getElem hil, ?_⟩
    rw [cnt_succ 4 hil, cnt_succ 3 hil]
    rcases hSm _ (List.getElem_mem hil) with h | h | h <;> simp [h]
  · have hi := hY2 (q - x.f.toNat) (by omega)
    rw [show x.f.toNat + (q - x.f.toNat) = q from by omega] at hi
    obtain ⟨v, hv⟩ := hi hw
    obtain ⟨p, h1, h2, h3⟩ := flat_find Z hZn _ ((hperm.mem_iff).2 hv) hw
    simp only at h1 h2 h3
    refine ⟨L + pre + p, shownP ((ofC l).getD q d6).c v, by omega, fun k hk => ?_, fun i y hy ha ht hw0 => ?_⟩
    · have h4 := h2 k hk
      obtain ⟨h5, _⟩ := List.getElem?_eq_some_iff.1 h4
      rw [← hSd, show L + pre + p + k = L + pre + (p + k) from by omega, row_at L pre post R (flat Z) (p + k) h5]
      exact h4
    · rw [← hSd] at hy
      obtain ⟨j, rfl, hj⟩ := row_only L pre post R (flat Z) i y hy ha
      rw [h3 j y hj ht hw0]
end Go.Proofs.YtlocnjenkanmpaaDoor.Pl

/-
  What is asked of cluster.Of: the document's clusters.
-/
set_option linter.unusedVariables false
namespace Go.Proofs.YtlocnjenkanmpaaDoor.Pl
open Go Go.RowKit Go.Lib Go.Proofs.YtlocnjenkanmpaaDoor.Ku
/-- What is asked of cluster.Of, where memory holds what H says. -/
def OfOk (H : World → Prop) : Prop := ∀ (A : Option Addr) (l : List R3) (n c : Nat) (w : World), H w → RuAt w A l → l.length = n → n ≤ 1000 →
  Calls Tryd.prog 13 #[.slice A n c] w fun e w' => ∃ A' c', e = .returned (.slice A' (ofC l).length c') ∧ CuAt w' A' (ofC l) ∧ Below w.heap.size w w'
end Go.Proofs.YtlocnjenkanmpaaDoor.Pl

/-
  A block, the cells of a row of clusters at a known place: small facts. No program in it.
-/
set_option linter.unusedVariables false
namespace Go.Proofs.YtlocnjenkanmpaaDoor.Pl
open Go Go.RowKit Go.Lib Go.Proofs.YtlocnjenkanmpaaDoor.Ku Go.Proofs.YtlocnjenkanmpaaDoor.Wr Go.Proofs.YtlocnjenkanmpaaDoor.Arr Go.Proofs.YtlocnjenkanmpaaDoor.Cl
theorem lt_of_block2 {w : World} {b : Nat} {o : Obj} (h : w.heap[b]? = some o) : b < w.heap.size := by
  obtain ⟨h1, _⟩ := Array.getElem?_eq_some_iff.1 h
  exact h1
theorem box_kept {w V : World} {b : Nat} {o : Obj} (h : w.heap[b]? = some o) (hb : Below w.heap.size w V) : V.heap[b]? = some o := (hb.block b (lt_of_block2 h)).trans h
theorem cu_at {w : World} {g off : Nat} {l : List C6} (h : CuAt w (some ⟨g, off, none⟩) l) {k : Nat} (hk : k < l.length) : g < w.heap.size ∧ w.cell? ⟨g, off + k * 6, none⟩ = some (.int .i64 l[k].a) ∧ w.cell? ⟨g, off + k * 6 + 1, none⟩ = some (.int .i64 l[k].z) ∧ w.cell? ⟨g, off + k * 6 + 2, none⟩ = some (.int .i64 l[k].f) ∧ w.cell? ⟨g, off + k * 6 + 3, none⟩ = some (.int .i64 l[k].t) ∧ w.cell? ⟨g, off + k * 6 + 4, none⟩ = some (.int .i64 l[k].w) ∧ w.cell? ⟨g, off + k * 6 + 5, none⟩ = some (.int .i64 l[k].c) := by
  obtain ⟨b, o, he, h1⟩ := h.at_ hk
  injection he with he
  injection he with he1 he2
  subst he1 he2
  exact h1
end Go.Proofs.YtlocnjenkanmpaaDoor.Pl
