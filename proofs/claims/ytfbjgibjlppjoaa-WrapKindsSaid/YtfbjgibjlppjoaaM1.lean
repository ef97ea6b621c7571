/-
  Several texts in one, each with its own remark: KrSmall, KuParts, GrFns.
-/
import Derived.Deep.RegionWith
import Derived.Test.YtfbjgibjlppjoaaM0

/-
  Proved here: what parquetryref06.alone and .syllable return. They leave what was in memory. No condition.
-/
set_option linter.unusedVariables false
namespace Go.Proofs.Ytfbjgibjlppjoaa.Ku
open Go.RowKit Go.Lib

set_option maxHeartbeats 1000000 in
set_option maxRecDepth 100000 in
theorem alone_any (k : Int) (w : World) :
    Calls Try.prog 49 #[.int .i64 k] w fun e w' => e = .returned (.bool (alone k)) ∧ w = w' := by
  unfold alone
  cases h1 : (k == 1) <;> cases h2 : (k == 2) <;> cases h3 : (k == 3)
  all_goals
    go_enter Try.func49, Try.ntmps49
    go_wp2
    go_ret
    exact ⟨rfl, rfl⟩

theorem syl_eq (a b : Int) : syl a b = bif a == 9 then b == 9 || (b == 10 || (b == 12 || b == 13)) else bif a == 12 || a == 10 then b == 10 || b == 11 else (a == 13 || a == 11) && b == 11 := by
  unfold syl
  by_cases h1 : a = 9
  · rw [if_pos h1, show (a == 9) = true from by simpa using h1]
    rfl
  · rw [if_neg h1, show (a == 9) = false from by simpa using h1]
    by_cases h2 : a = 12 ∨ a = 10
    · rw [if_pos h2, show (a == 12 || a == 10) = true from by simpa using h2]
      rfl
    · rw [if_neg h2, show (a == 12 || a == 10) = false from by simpa using h2]
      rfl

set_option maxHeartbeats 1000000 in
set_option maxRecDepth 100000 in
theorem syllable_any (a b : Int) (w : World) :
    Calls Try.prog 50 #[.int .i64 a, .int .i64 b] w fun e w' => e = .returned (.bool (syl a b)) ∧ w = w' := by
  rw [syl_eq]
  cases h9 : (a == 9)
  · cases h12 : (a == 12) <;> cases h10 : (a == 10)
    · cases h13 : (a == 13) <;> cases h11 : (a == 11) <;> cases g11 : (b == 11)
      all_goals
        go_enter Try.func50, Try.ntmps50
        go_wp2
        go_ret
        exact ⟨rfl, rfl⟩
    all_goals
      cases g10 : (b == 10) <;> cases g11 : (b == 11)
      all_goals
        go_enter Try.func50, Try.ntmps50
        go_wp2
        go_ret
        exact ⟨rfl, rfl⟩
  · cases g9 : (b == 9)
    · cases g10 : (b == 10)
      · cases g12 : (b == 12) <;> cases g13 : (b == 13)
        all_goals
          go_enter Try.func50, Try.ntmps50
          go_wp2
          go_ret
          exact ⟨rfl, rfl⟩
      · go_enter Try.func50, Try.ntmps50
        go_wp2
        go_ret
        exact ⟨rfl, rfl⟩
    · go_enter Try.func50, Try.ntmps50
      go_wp2
      go_ret
      exact ⟨rfl, rfl⟩
end Go.Proofs.Ytfbjgibjlppjoaa.Ku

/-
  Plain facts on clusters: a cluster as the document reckons it; runes that are cut ahead of a cluster; runes that follow one another without a gap; which cluster has a byte; no program here.
-/
set_option linter.unusedVariables false
namespace Go.Proofs.Ytfbjgibjlppjoaa.Ku
open Go.Proofs.Ytfbjgibjlppjoaa.Co Go.Proofs.Ytfbjgibjlppjoaa.Gc

/-! The document's reckoning of one cluster. -/
def szF (l : List R3) : Int := l.foldl (fun z r => IntKind.i64.wrap (z + r.2.1)) 0
theorem szF_snoc (l : List R3) (r : R3) : szF (l ++ [r]) = IntKind.i64.wrap (szF l + r.2.1) := by
  unfold szF; rw [List.foldl_append]; rfl
def wl : Int → Int → List Int → Int
  | _, n, [] => n
  | p, n, c :: l => wl c (max n (wideC p c)) l
theorem wl_snoc : ∀ (l : List Int) (p n c : Int), wl p n (l ++ [c]) = max (wl p n l) (wideC (l.getLastD p) c)
  | [], p, n, c => rfl
  | d :: l, p, n, c => by
    show wl d _ (l ++ [c]) = _
    rw [wl_snoc l]
    show max (wl d _ l) _ = max (wl d _ l) _
    congr 2
    cases l <;> rfl
theorem wl_bounds : ∀ (l : List Int) (p n : Int), 0 ≤ n → n ≤ 2 → 0 ≤ wl p n l ∧ wl p n l ≤ 2
  | [], p, n, h1, h2 => ⟨h1, h2⟩
  | c :: l, p, n, h1, h2 => by
    have := wideC_bounds p c
    exact wl_bounds l c _ (by omega) (by omega)
/-- Nothing gets wider than two. -/
theorem wl_two : ∀ (l : List Int) (p : Int), wl p 2 l = 2
  | [], p => rfl
  | c :: l, p => by
    have := wideC_bounds p c
    show wl c (max 2 (wideC p c)) l = 2
    rw [show max (2 : Int) (wideC p c) = 2 from by omega]
    exact wl_two l c
def wideR (l : List Int) : Int := if alone (kindT (l.headD 0)) = true then 0 else wl 0 0 l
def codes (l : List R3) : List Int := l.map fun r => r.2.2
theorem codes_len (l : List R3) : (codes l).length = l.length := by simp [codes]
def seg (l : List R3) (f i : Nat) : List R3 := (l.drop f).take (i - f)
theorem seg_snoc (l : List R3) (f i : Nat) (hf : f ≤ i) (hi : i < l.length) : seg l f (i + 1) = seg l f i ++ [l[i]] := by
  unfold seg
  rw [show i + 1 - f = (i - f) + 1 from by omega, List.take_succ_eq_append_getElem (by simp; omega)]
  simp [show f + (i - f) = i from by omega]
theorem seg_none (l : List R3) (f : Nat) : seg l f f = [] := by unfold seg; simp
theorem seg_head (l : List R3) (f i : Nat) (hf : f < i) (hi : i ≤ l.length) : ∃ t, seg l f i = l[f] :: t := by
  unfold seg
  rw [List.drop_eq_getElem_cons (by omega), show i - f = (i - f - 1) + 1 from by omega, List.take_succ_cons]
  exact ⟨_, rfl⟩
theorem seg_last (l : List R3) (f i : Nat) (hf : f < i) (hi : i ≤ l.length) (d : Int) : (codes (seg l f i)).getLastD d = (l[i - 1]).2.2 := by
  obtain ⟨j, rfl⟩ : ∃ j, i = j + 1 := ⟨i - 1, by omega⟩
  rw [seg_snoc l f j (by omega) (by omega)]
  simp [codes]
/-- The state ahead of a place. -/
def stAt (l : List R3) (i : Nat) : Sg := stR (codes (l.take i)).reverse
theorem stAt_zero (l : List R3) : stAt l 0 = none0 := rfl
theorem stAt_succ (l : List R3) (i : Nat) (hi : i < l.length) : stAt l (i + 1) = step (stAt l i) (l[i]).2.2 := by
  unfold stAt
  rw [List.take_succ_eq_append_getElem hi]
  unfold codes
  rw [List.map_append, List.reverse_append]
  rfl
theorem stAt_c (l : List R3) (i : Nat) (h0 : 0 < i) (hi : i ≤ l.length) : (stAt l i).c = (l[i - 1]).2.2 := by
  obtain ⟨j, rfl⟩ : ∃ j, i = j + 1 := ⟨i - 1, by omega⟩
  rw [stAt_succ l j (by omega)]
  rfl
theorem stAt_ok (l : List R3) (i : Nat) : (stAt l i).ok := stR_ok _

/-- The cluster from one place to another, by the document's words. -/
def refX (l : List R3) (f i : Nat) (h : f < l.length) : C6 := ⟨(l[f]).1, szF (seg l f i), f, i, wideR (codes (seg l f i)), (l[f]).2.2⟩
/-- What stands from one place to another is one cluster, or its beginning. -/
def Cur (l : List R3) (f i : Nat) (x : C6) : Prop := ∃ (h : f < i) (h2 : i ≤ l.length), x = refX l f i (by omega) ∧ alone (kindT (l[f]).2.2) = alone (kindT (l[i - 1]).2.2)
theorem cur_new (l : List R3) (i : Nat) (hi : i < l.length) (h : joins (stAt l i) (l[i]).2.2 = false) : Cur l i (i + 1) (ext (stAt l i) (new i l[i]) i l[i]) := by
  refine ⟨Nat.lt_succ_self _, hi, ?_, rfl⟩
  unfold refX
  rw [seg_snoc l i i (Nat.le_refl _) hi, seg_none]
  unfold ext new
  simp only [wide_first h]
  congr 1
  show max 0 (if alone (kindT (l[i]).2.2) = true then 0 else slotsT (l[i]).2.2) = if alone (kindT (l[i]).2.2) = true then 0 else max 0 (wideC 0 (l[i]).2.2)
  have hs := slotsT_bounds (l[i]).2.2
  have : wideC 0 (l[i]).2.2 = slotsT (l[i]).2.2 := by
    unfold wideC
    rw [if_neg (by rw [pict_0]; rintro ⟨_, h⟩; cases h)]
  rw [this]
  split <;> omega
theorem cur_ext (l : List R3) (f i : Nat) (x : C6) (hi : i < l.length) (hc : Cur l f i x) (h : joins (stAt l i) (l[i]).2.2 = true) : Cur l f (i + 1) (ext (stAt l i) x i l[i]) := by
  obtain ⟨hf, h2, rfl, ha⟩ := hc
  have hal := joins_alone (stAt_ok l i) h
  rw [stAt_c l i (by omega) (by omega)] at hal
  refine ⟨by omega, hi, ?_, by rw [ha, hal]; rfl⟩
  unfold refX ext
  rw [seg_snoc l f i (by omega) hi, szF_snoc]
  congr 1
  simp only
  unfold wideR wide
  obtain ⟨t, ht⟩ := seg_head l f i hf h2
  have hh : (codes (seg l f i)).headD 0 = (l[f]).2.2 := by rw [ht]; rfl
  have hh2 : (codes (seg l f i ++ [l[i]])).headD 0 = (l[f]).2.2 := by rw [ht]; rfl
  rw [hh, hh2, ← hal, ← ha, stAt_c l i (by omega) (by omega)]
  split
  · rfl
  · rw [show codes (seg l f i ++ [l[i]]) = codes (seg l f i) ++ [(l[i]).2.2] from by simp [codes], wl_snoc, seg_last l f i hf h2]
theorem run_at (l : List R3) (i : Nat) (hi : i < l.length) (x : C6) (h : joins (stAt l i) (l[i]).2.2 = true) : run (stAt l i) i x (l.drop i) = run (stAt l (i + 1)) (i + 1) (ext (stAt l i) x i l[i]) (l.drop (i + 1)) := by
  rw [List.drop_eq_getElem_cons hi, run_yes h, stAt_succ l i hi]
theorem run_at_no (l : List R3) (i : Nat) (hi : i < l.length) (x : C6) (h : joins (stAt l i) (l[i]).2.2 = false) : run (stAt l i) i x (l.drop i) = x :: run (stAt l (i + 1)) (i + 1) (ext (stAt l i) (new i l[i]) i l[i]) (l.drop (i + 1)) := by
  rw [List.drop_eq_getElem_cons hi, run_no h, stAt_succ l i hi]
theorem run_end (l : List R3) (i : Nat) (hi : l.length ≤ i) (σ : Sg) (x : C6) : run σ i x (l.drop i) = [x] := by
  rw [List.drop_of_length_le hi]; rfl
theorem ofC_start (l : List R3) (h : 0 < l.length) : ofC l = run (stAt l 1) 1 (ext (stAt l 0) (new 0 l[0]) 0 l[0]) (l.drop 1) := by
  cases l with
  | nil => simp at h
  | cons r l => rfl
theorem cur_start (l : List R3) (h : 0 < l.length) : Cur l 0 1 (ext (stAt l 0) (new 0 l[0]) 0 l[0]) := cur_new l 0 h (joins_none _)

/-! Clusters are no more than runes. -/
theorem run_len : ∀ (l : List R3) (σ : Sg) (n : Nat) (x : C6), (run σ n x l).length ≤ l.length + 1 ∧ 0 < (run σ n x l).length
  | [], σ, n, x => by simp [run]
  | r :: l, σ, n, x => by
    unfold run
    split
    · have := run_len l (step σ r.2.2) (n + 1) (ext σ x n r)
      simp only [List.length_cons]
      omega
    · have := run_len l (step σ r.2.2) (n + 1) (ext σ (new n r) n r)
      simp only [List.length_cons]
      omega
theorem ofC_len (l : List R3) : (ofC l).length ≤ l.length := by
  cases l with
  | nil => simp [ofC, runN]
  | cons r l =>
    have := (run_len l (step none0 r.2.2) (0 + 1) (ext none0 (new 0 r) 0 r)).1
    simp only [ofC, runN, List.length_cons]
    omega
theorem ofC_pos (l : List R3) (h : 0 < l.length) : 0 < (ofC l).length := by
  cases l with
  | nil => simp at h
  | cons r l => exact (run_len l (step none0 r.2.2) (0 + 1) (ext none0 (new 0 r) 0 r)).2
theorem run_wide : ∀ (l : List R3) (σ : Sg) (n : Nat) (x : C6), 0 ≤ x.w ∧ x.w ≤ 2 → ∀ y ∈ run σ n x l, 0 ≤ y.w ∧ y.w ≤ 2
  | [], σ, n, x, h, y, hy => by
    rw [show run σ n x [] = [x] from rfl, List.mem_singleton] at hy
    rw [hy]
    exact h
  | r :: l, σ, n, x, h, y, hy => by
    have hw := wide_bounds σ r.2.2
    unfold run at hy
    split at hy
    · exact run_wide l _ _ _ (by unfold ext; simp only; omega) y hy
    · rw [List.mem_cons] at hy
      rcases hy with rfl | hy
      · exact h
      · exact run_wide l _ _ _ (by unfold ext new; simp only; omega) y hy
theorem ofC_wide (l : List R3) : ∀ y ∈ ofC l, 0 ≤ y.w ∧ y.w ≤ 2 := by
  cases l with
  | nil => intro y hy; simp [ofC, runN] at hy
  | cons r l =>
    have hw := wide_bounds none0 r.2.2
    exact run_wide l _ _ _ (by unfold ext new; simp only; omega)

/-! P6.6: cut ahead of a cluster. -/
def shift (d : Nat) (x : C6) : C6 := ⟨x.a, x.z, x.f + d, x.t + d, x.w, x.c⟩
theorem ext_shift (σ : Sg) (x : C6) (n d : Nat) (r : R3) : ext σ (shift d x) (n + d) r = shift d (ext σ x n r) := by
  unfold ext shift
  congr 1
  push_cast
  omega
theorem new_shift (σ : Sg) (n d : Nat) (r : R3) : ext σ (new (n + d) r) (n + d) r = shift d (ext σ (new n r) n r) := by
  unfold ext shift new
  congr 1
  push_cast
  omega
theorem run_shift (d : Nat) : ∀ (l : List R3) (σ : Sg) (n : Nat) (x : C6), run σ (n + d) (shift d x) l = (run σ n x l).map (shift d)
  | [], σ, n, x => rfl
  | r :: l, σ, n, x => by
    unfold run
    split
    · rw [ext_shift, show n + d + 1 = (n + 1) + d from by omega]
      exact run_shift d l _ _ _
    · rw [new_shift, show n + d + 1 = (n + 1) + d from by omega, List.map_cons, run_shift d l]
/-- Behind a cut the state is as at the beginning. -/
theorem step_cut {σ : Sg} {c : Int} (hs : σ.ok) (h : joins σ c = false) : step σ c = step none0 c := by
  have h0 := h
  unfold joins at h
  rw [Bool.or_eq_false_iff] at h
  obtain ⟨h1, h2⟩ := h
  unfold step
  congr 1
  · unfold stepO none0
    by_cases h6 : kindT c = 6
    · rw [if_pos h6, if_pos h6]
      split at h2
      · rename_i e
        cases ho : σ.o with
        | false => rfl
        | true => rw [hs ho] at e; cases e
      · rw [h6] at h2
        simp at h2
        rw [h2]
    · rw [if_neg h6, if_neg h6]
  · unfold stepP none0
    by_cases h45 : kindT c = 4 ∨ kindT c = 5
    · rw [if_pos h45, if_pos h45, pict_0, kind_0]
      have ha : alone (kindT σ.c) = true := by
        cases ha : alone (kindT σ.c) with
        | true => rfl
        | false =>
          exfalso
          have : rules (kindT σ.c) (kindT c) = true := by
            unfold rules trail
            rw [ha]
            rcases h45 with e | e <;> rw [e] <;> simp [alone]
          rw [this] at h1
          cases h1
      have hp : pictT σ.c = false := by
        cases hp : pictT σ.c with
        | false => rfl
        | true => rw [pict_kind hp] at ha; cases ha
      have h4 : (kindT σ.c == 4) = false := by
        cases h4 : (kindT σ.c == 4) with
        | false => rfl
        | true => rw [beq_iff_eq.1 h4] at ha; cases ha
      rw [hp, h4]
      rfl
    · rw [if_neg h45, if_neg h45]
theorem wide_cut {σ : Sg} {c : Int} (h : joins σ c = false) : wide σ c = wide none0 c := by
  rw [wide_first h, wide_first (joins_none c)]
theorem runN_cut {σ : Sg} (hs : σ.ok) (n : Nat) (r : R3) (l : List R3) (h : joins σ r.2.2 = false) : runN σ n (r :: l) = (ofC (r :: l)).map (shift n) := by
  show run _ _ _ _ = (run _ _ _ _).map _
  rw [← run_shift, step_cut hs h]
  congr 1
  · omega
  · unfold ext new shift
    simp only [wide_cut h]
    congr 1
    · push_cast; omega
    · push_cast; omega
/-- Where a cluster begins, runes can be cut. -/
theorem run_split : ∀ (l : List R3) (σ : Sg) (n : Nat) (x : C6) (k : Nat), σ.ok → 1 ≤ k → k < (run σ n x l).length →
    ∃ m, m < l.length ∧ ((run σ n x l).getD k x).f = (n + m : Nat) ∧ (run σ n x l).take k = run σ n x (l.take m) ∧ (run σ n x l).drop k = (ofC (l.drop m)).map (shift (n + m))
  | [], σ, n, x, k, hs, h1, h2 => by simp [run] at h2; omega
  | r :: l, σ, n, x, k, hs, h1, h2 => by
    cases hj : joins σ r.2.2 with
    | true =>
      rw [run_yes hj] at h2 ⊢
      obtain ⟨m, hm, hf, ht, hd⟩ := run_split l (step σ r.2.2) (n + 1) (ext σ x n r) k (step_ok _ _) h1 h2
      refine ⟨m + 1, by simpa using hm, ?_, ?_, ?_⟩
      · have e : (run (step σ r.2.2) (n + 1) (ext σ x n r) l).getD k x = (run (step σ r.2.2) (n + 1) (ext σ x n r) l).getD k (ext σ x n r) := by
          simp [h2]
        rw [e, hf]
        congr 1
        omega
      · rw [List.take_succ_cons, run_yes hj]
        exact ht
      · rw [List.drop_succ_cons, hd, show n + 1 + m = n + (m + 1) from by omega]
    | false =>
      rw [run_no hj] at h2 ⊢
      by_cases hk : k = 1
      · subst hk
        refine ⟨0, by simp, ?_, ?_, ?_⟩
        · simp only [List.getD_cons_succ]
          have : ∀ (l : List R3) (σ : Sg) (n' : Nat) (y x : C6), ((run σ n' y l).getD 0 x).f = y.f := by
            intro l
            induction l with
            | nil => intro σ n' y x; rfl
            | cons r l ih =>
              intro σ n' y x
              unfold run
              split
              · rw [ih]; rfl
              · rfl
          rw [this]
          rfl
        · rfl
        · rw [Nat.add_zero]
          have := runN_cut hs n r l hj
          simpa [runN] using this
      · obtain ⟨j, rfl⟩ : ∃ j, k = j + 1 := ⟨k - 1, by omega⟩
        simp only [List.length_cons] at h2
        obtain ⟨m, hm, hf, ht, hd⟩ := run_split l (step σ r.2.2) (n + 1) (ext σ (new n r) n r) j (step_ok _ _) (by omega) (by omega)
        refine ⟨m + 1, by simpa using hm, ?_, ?_, ?_⟩
        · rw [List.getD_cons_succ]
          have hj2 : j < (run (step σ r.2.2) (n + 1) (ext σ (new n r) n r) l).length := by omega
          have e : (run (step σ r.2.2) (n + 1) (ext σ (new n r) n r) l).getD j x = (run (step σ r.2.2) (n + 1) (ext σ (new n r) n r) l).getD j (ext σ (new n r) n r) := by
            simp [hj2]
          rw [e, hf]
          congr 1
          omega
        · rw [List.take_succ_cons, List.take_succ_cons, run_no hj, ht]
        · rw [List.drop_succ_cons, List.drop_succ_cons, hd, show n + 1 + m = n + (m + 1) from by omega]
theorem map_shift0 (l : List C6) : l.map (shift 0) = l := by
  induction l with
  | nil => rfl
  | cons x l ih => rw [List.map_cons, ih]; unfold shift; simp
theorem ofC_cut (l : List R3) (k : Nat) (hk : k < (ofC l).length) : ∃ m, m < l.length ∧ ((ofC l)[k]).f = (m : Nat) ∧ (ofC l).take k = ofC (l.take m) ∧ (ofC l).drop k = (ofC (l.drop m)).map (shift m) := by
  cases l with
  | nil => simp [ofC, runN] at hk
  | cons r l =>
    by_cases h0 : k = 0
    · subst h0
      refine ⟨0, by simp, ?_, rfl, (map_shift0 _).symm⟩
      have : ∀ (l : List R3) (σ : Sg) (n' : Nat) (y : C6) (h : 0 < (run σ n' y l).length), ((run σ n' y l)[0]).f = y.f := by
        intro l
        induction l with
        | nil => intro σ n' y h; rfl
        | cons r l ih =>
          intro σ n' y h
          cases hj : joins σ r.2.2 with
          | true => simp only [run_yes hj]; rw [ih]; rfl
          | false => simp only [run_no hj]; rfl
      exact this _ _ _ _ hk
    · obtain ⟨m, hm, hf, ht, hd⟩ := run_split l (step none0 r.2.2) (0 + 1) (ext none0 (new 0 r) 0 r) k (step_ok _ _) (by omega) hk
      refine ⟨m + 1, by simpa using hm, ?_, ?_, ?_⟩
      · have e : (run (step none0 r.2.2) (0 + 1) (ext none0 (new 0 r) 0 r) l).getD k (ext none0 (new 0 r) 0 r) = (ofC (r :: l))[k] := by
          simp only [ofC, runN] at hk ⊢
          simp [hk]
        rw [← e, hf]
        congr 1
        omega
      · exact ht
      · rw [List.drop_succ_cons]
        have := hd
        rw [show 0 + 1 + m = m + 1 from by omega] at this
        exact this
end Go.Proofs.Ytfbjgibjlppjoaa.Ku

/-
  Proved here: what parquetryref05.in, Row, Picts, Of, Pict return, for every number; they leave what was in memory. Conditions: (in) a row of at most 1000 spans; (Row) kinds from 1 to 11.
-/
set_option linter.unusedVariables false
namespace Go.Proofs.Ytfbjgibjlppjoaa.Gr
open Go.RowKit Go.Lib Go.Proofs.Ytfbjgibjlppjoaa.Co Go.Proofs.Ytfbjgibjlppjoaa.Tab Go.Proofs.Ytfbjgibjlppjoaa.Gc

theorem flatL_len : ∀ (l : List CSpan), (flatL l).length = 2 * l.length
  | [] => rfl
  | r :: l => by
    have := flatL_len l
    unfold flatL at this ⊢
    rw [List.flatMap_cons, List.length_append, this]
    simp
    omega
theorem flatL_at : ∀ (l : List CSpan) (k : Nat) (hk : k < l.length), (flatL l)[2 * k]? = some l[k].1 ∧ (flatL l)[2 * k + 1]? = some l[k].2
  | r :: l, 0, hk => ⟨rfl, rfl⟩
  | r :: l, k + 1, hk => by
    have := flatL_at l k (by simpa using hk)
    rw [show flatL (r :: l) = r.1 :: r.2 :: flatL l from rfl, show 2 * (k + 1) = 2 * k + 1 + 1 from by omega]
    simpa using this
theorem flat_at {w : World} {g : Nat} {rs : List CSpan} (h : LitAt w g (flatL rs)) {k : Nat} (hk : k < rs.length) : w.cell? ⟨g, 2 * k, none⟩ = some (.int .i64 rs[k].1) ∧ w.cell? ⟨g, 2 * k + 1, none⟩ = some (.int .i64 rs[k].2) := by
  have hl := flatL_len rs
  obtain ⟨h1, h2⟩ := flatL_at rs k hk
  rw [List.getElem?_eq_getElem (by omega), Option.some.injEq] at h1 h2
  have h3 := h.2 (2 * k) (by omega)
  have h4 := h.2 (2 * k + 1) (by omega)
  rw [h1] at h3
  rw [h2] at h4
  exact ⟨h3, h4⟩
theorem inS_take (rs : List CSpan) (c : Int) (k : Nat) (hk : k < rs.length) (h : inS (rs.take k) c = false) : inS (rs.take (k + 1)) c = (decide (rs[k].1 ≤ c) && decide (c ≤ rs[k].2)) := by
  unfold inS at h ⊢
  rw [List.take_succ_eq_append_getElem hk, List.any_append, h]
  simp
theorem inS_yes (rs : List CSpan) (c : Int) (k : Nat) (hk : k < rs.length) (h : (decide (rs[k].1 ≤ c) && decide (c ≤ rs[k].2)) = true) : inS rs c = true :=
  List.any_eq_true.2 ⟨_, List.getElem_mem hk, h⟩

set_option maxHeartbeats 1000000 in
set_option maxRecDepth 100000 in
theorem in_any (g : Nat) (rs : List CSpan) (c : Int) (n : Nat) (w : World) (hn : n = 2 * rs.length) (hR : LitAt w g (flatL rs)) (hl : rs.length ≤ 1000) :
    Calls Try.prog 55 #[.slice (some ⟨g, 0, none⟩) n n, .int .i64 c] w fun e w' => e = .returned (.bool (inS rs c)) ∧ w = w' := by
  have HR := Lib.hid hR
  have HN := Lib.hid hn
  have hn2 : n ≤ 2000 := by omega
  clear hR hn
  obtain ⟨res, hres⟩ : ∃ res, inS rs c = res := ⟨_, rfl⟩
  rw [hres]
  have HRes := Lib.hid hres
  clear hres
  go_enter Try.func55, Try.ntmps55
  go_wp2
  go_loop [5] (fun s5 => ∃ k i : Nat, k = 2 * i ∧ k ≤ n ∧ s5 = .int .i64 k ∧ inS (rs.take i) c = false) (fun s5 => n - (RowKit.intOf s5).toNat)
  case atStart => exact ⟨0, 0, rfl, Nat.zero_le _, rfl, rfl⟩
  case round =>
    obtain ⟨k, i, hki, hk, rfl, hlo⟩ := hrel
    have HLO := Lib.hid hlo
    have HKI := Lib.hid hki
    clear hlo hki
    by_cases hltk : k < n
    · have hlt : i < rs.length := by have := HN.out; have := HKI.out; omega
      have hlt1 : k + 1 < n := by have := HN.out; have := HKI.out; omega
      obtain ⟨c0, c1⟩ := flat_at HR.out hlt
      rw [← HKI.out] at c0 c1
      have HT := Lib.hid (inS_take rs c i hlt HLO.out)
      have HY := Lib.hid (inS_yes rs c i hlt)
      generalize rs[i] = r at *
      obtain ⟨a, z⟩ := r
      simp only at c0 c1 HT HY
      by_cases e1 : a ≤ c
      · have d1 : decide (a ≤ c) = true := decide_eq_true e1
        by_cases e2 : c ≤ z
        · have d2 : decide (c ≤ z) = true := decide_eq_true e2
          have HV := Lib.hid (HRes.out.symm.trans (HY.out (by simp only [d1, d2, Bool.and_self])))
          clear e1 e2
          go_wp2
          go_ret
          exact ⟨by rw [HV.out]; rfl, rfl⟩
        · have d2 : decide (c ≤ z) = false := decide_eq_false e2
          have HV := Lib.hid (show inS (rs.take (i + 1)) c = false from HT.out.trans (by rw [d2, Bool.and_false]))
          clear e1 e2
          go_wp2
          go_round
          case rel => exact ⟨k + 2, i + 1, by have := HKI.out; omega, by have := HN.out; have := HKI.out; omega, by go_num, HV.out⟩
          case measure => simp [RowKit.intOf]; omega
      · have d1 : decide (a ≤ c) = false := decide_eq_false e1
        have HV := Lib.hid (show inS (rs.take (i + 1)) c = false from HT.out.trans (by rw [d1, Bool.false_and]))
        clear e1
        go_wp2
        go_round
        case rel => exact ⟨k + 2, i + 1, by have := HKI.out; omega, by have := HN.out; have := HKI.out; omega, by go_num, HV.out⟩
        case measure => simp [RowKit.intOf]; omega
    · have HD := Lib.hid (show inS rs c = false by
        have h1 := HLO.out
        rwa [List.take_of_length_le (by have := HN.out; have := HKI.out; omega)] at h1)
      go_wp2
      go_ret
      exact ⟨by rw [← HRes.out, HD.out]; rfl, rfl⟩

def row1 : List CSpan := (rowS.getD 0 (0, [])).2
set_option maxHeartbeats 1000000 in
set_option maxRecDepth 100000 in
theorem row1_any (w : World) :
    Calls Try.prog 56 #[.int .i64 1] w fun e w' => e = .returned (.slice (some ⟨w.heap.size, 0, none⟩) 2 2) ∧ LitAt w' w.heap.size (flatL row1) ∧ Below w.heap.size w w' := by
  go_enter Try.func56, Try.ntmps56
  go_wp2_with (refine wpList_buildFlat rfl 55 3 2 (litParts (flatL row1)) rfl .i64 (flatL row1) Try.underlying55 infoI1 infoI2 (by kernel_rfl) (by decide) (by decide) rfl ?_)
  go_ret
  exact ⟨rfl, litAt_made _ _ _, (Below.refl _ _).alloc (Nat.le_refl _) _⟩
def row2 : List CSpan := (rowS.getD 1 (0, [])).2
set_option maxHeartbeats 1000000 in
set_option maxRecDepth 100000 in
theorem row2_any (w : World) :
    Calls Try.prog 56 #[.int .i64 2] w fun e w' => e = .returned (.slice (some ⟨w.heap.size, 0, none⟩) 2 2) ∧ LitAt w' w.heap.size (flatL row2) ∧ Below w.heap.size w w' := by
  go_enter Try.func56, Try.ntmps56
  go_wp2_with (refine wpList_buildFlat rfl 55 3 2 (litParts (flatL row2)) rfl .i64 (flatL row2) Try.underlying55 infoI1 infoI2 (by kernel_rfl) (by decide) (by decide) rfl ?_)
  go_ret
  exact ⟨rfl, litAt_made _ _ _, (Below.refl _ _).alloc (Nat.le_refl _) _⟩
def row3 : List CSpan := (rowS.getD 2 (0, [])).2
set_option maxHeartbeats 1000000 in
set_option maxRecDepth 100000 in
theorem row3_any (w : World) :
    Calls Try.prog 56 #[.int .i64 3] w fun e w' => e = .returned (.slice (some ⟨w.heap.size, 0, none⟩) 30 30) ∧ LitAt w' w.heap.size (flatL row3) ∧ Below w.heap.size w w' := by
  go_enter Try.func56, Try.ntmps56
  go_wp2_with (refine wpList_buildFlat rfl 55 3 30 (litParts (flatL row3)) rfl .i64 (flatL row3) Try.underlying55 infoI1 infoI2 (by kernel_rfl) (by decide) (by decide) rfl ?_)
  go_ret
  exact ⟨rfl, litAt_made _ _ _, (Below.refl _ _).alloc (Nat.le_refl _) _⟩
def row4 : List CSpan := (rowS.getD 3 (0, [])).2
set_option maxHeartbeats 1000000 in
set_option maxRecDepth 100000 in
theorem row4_any (w : World) :
    Calls Try.prog 56 #[.int .i64 4] w fun e w' => e = .returned (.slice (some ⟨w.heap.size, 0, none⟩) 72 72) ∧ LitAt w' w.heap.size (flatL row4) ∧ Below w.heap.size w w' := by
  go_enter Try.func56, Try.ntmps56
  go_wp2_with (refine wpList_buildFlat rfl 55 3 72 (litParts (flatL row4)) rfl .i64 (flatL row4) Try.underlying55 infoI1 infoI2 (by kernel_rfl) (by decide) (by decide) rfl ?_)
  go_ret
  exact ⟨rfl, litAt_made _ _ _, (Below.refl _ _).alloc (Nat.le_refl _) _⟩
def row5 : List CSpan := (rowS.getD 4 (0, [])).2
set_option maxHeartbeats 1000000 in
set_option maxRecDepth 100000 in
theorem row5_any (w : World) :
    Calls Try.prog 56 #[.int .i64 5] w fun e w' => e = .returned (.slice (some ⟨w.heap.size, 0, none⟩) 2 2) ∧ LitAt w' w.heap.size (flatL row5) ∧ Below w.heap.size w w' := by
  go_enter Try.func56, Try.ntmps56
  go_wp2_with (refine wpList_buildFlat rfl 55 3 2 (litParts (flatL row5)) rfl .i64 (flatL row5) Try.underlying55 infoI1 infoI2 (by kernel_rfl) (by decide) (by decide) rfl ?_)
  go_ret
  exact ⟨rfl, litAt_made _ _ _, (Below.refl _ _).alloc (Nat.le_refl _) _⟩
def row6 : List CSpan := (rowS.getD 5 (0, [])).2
set_option maxHeartbeats 1000000 in
set_option maxRecDepth 100000 in
theorem row6_any (w : World) :
    Calls Try.prog 56 #[.int .i64 6] w fun e w' => e = .returned (.slice (some ⟨w.heap.size, 0, none⟩) 2 2) ∧ LitAt w' w.heap.size (flatL row6) ∧ Below w.heap.size w w' := by
  go_enter Try.func56, Try.ntmps56
  go_wp2_with (refine wpList_buildFlat rfl 55 3 2 (litParts (flatL row6)) rfl .i64 (flatL row6) Try.underlying55 infoI1 infoI2 (by kernel_rfl) (by decide) (by decide) rfl ?_)
  go_ret
  exact ⟨rfl, litAt_made _ _ _, (Below.refl _ _).alloc (Nat.le_refl _) _⟩
def row7 : List CSpan := (rowS.getD 6 (0, [])).2
set_option maxHeartbeats 1000000 in
set_option maxRecDepth 100000 in
theorem row7_any (w : World) :
    Calls Try.prog 56 #[.int .i64 7] w fun e w' => e = .returned (.slice (some ⟨w.heap.size, 0, none⟩) 10 10) ∧ LitAt w' w.heap.size (flatL row7) ∧ Below w.heap.size w w' := by
  go_enter Try.func56, Try.ntmps56
  go_wp2_with (refine wpList_buildFlat rfl 55 3 10 (litParts (flatL row7)) rfl .i64 (flatL row7) Try.underlying55 infoI1 infoI2 (by kernel_rfl) (by decide) (by decide) rfl ?_)
  go_ret
  exact ⟨rfl, litAt_made _ _ _, (Below.refl _ _).alloc (Nat.le_refl _) _⟩
def row8 : List CSpan := (rowS.getD 7 (0, [])).2
set_option maxHeartbeats 1000000 in
set_option maxRecDepth 100000 in
theorem row8_any (w : World) :
    Calls Try.prog 56 #[.int .i64 8] w fun e w' => e = .returned (.slice (some ⟨w.heap.size, 0, none⟩) 16 16) ∧ LitAt w' w.heap.size (flatL row8) ∧ Below w.heap.size w w' := by
  go_enter Try.func56, Try.ntmps56
  go_wp2_with (refine wpList_buildFlat rfl 55 3 16 (litParts (flatL row8)) rfl .i64 (flatL row8) Try.underlying55 infoI1 infoI2 (by kernel_rfl) (by decide) (by decide) rfl ?_)
  go_ret
  exact ⟨rfl, litAt_made _ _ _, (Below.refl _ _).alloc (Nat.le_refl _) _⟩
def row9 : List CSpan := (rowS.getD 8 (0, [])).2
set_option maxHeartbeats 1000000 in
set_option maxRecDepth 100000 in
theorem row9_any (w : World) :
    Calls Try.prog 56 #[.int .i64 9] w fun e w' => e = .returned (.slice (some ⟨w.heap.size, 0, none⟩) 4 4) ∧ LitAt w' w.heap.size (flatL row9) ∧ Below w.heap.size w w' := by
  go_enter Try.func56, Try.ntmps56
  go_wp2_with (refine wpList_buildFlat rfl 55 3 4 (litParts (flatL row9)) rfl .i64 (flatL row9) Try.underlying55 infoI1 infoI2 (by kernel_rfl) (by decide) (by decide) rfl ?_)
  go_ret
  exact ⟨rfl, litAt_made _ _ _, (Below.refl _ _).alloc (Nat.le_refl _) _⟩
def row10 : List CSpan := (rowS.getD 9 (0, [])).2
set_option maxHeartbeats 1000000 in
set_option maxRecDepth 100000 in
theorem row10_any (w : World) :
    Calls Try.prog 56 #[.int .i64 10] w fun e w' => e = .returned (.slice (some ⟨w.heap.size, 0, none⟩) 4 4) ∧ LitAt w' w.heap.size (flatL row10) ∧ Below w.heap.size w w' := by
  go_enter Try.func56, Try.ntmps56
  go_wp2_with (refine wpList_buildFlat rfl 55 3 4 (litParts (flatL row10)) rfl .i64 (flatL row10) Try.underlying55 infoI1 infoI2 (by kernel_rfl) (by decide) (by decide) rfl ?_)
  go_ret
  exact ⟨rfl, litAt_made _ _ _, (Below.refl _ _).alloc (Nat.le_refl _) _⟩
def row11 : List CSpan := (rowS.getD 10 (0, [])).2
set_option maxHeartbeats 1000000 in
set_option maxRecDepth 100000 in
theorem row11_any (w : World) :
    Calls Try.prog 56 #[.int .i64 11] w fun e w' => e = .returned (.slice (some ⟨w.heap.size, 0, none⟩) 4 4) ∧ LitAt w' w.heap.size (flatL row11) ∧ Below w.heap.size w w' := by
  go_enter Try.func56, Try.ntmps56
  go_wp2_with (refine wpList_buildFlat rfl 55 3 4 (litParts (flatL row11)) rfl .i64 (flatL row11) Try.underlying55 infoI1 infoI2 (by kernel_rfl) (by decide) (by decide) rfl ?_)
  go_ret
  exact ⟨rfl, litAt_made _ _ _, (Below.refl _ _).alloc (Nat.le_refl _) _⟩

theorem row_any (k : Nat) (h1 : 1 ≤ k) (h2 : k < 12) : ∃ (n : Nat) (l : List CSpan), rowS[k - 1]? = some ((k : Int), l) ∧ n = 2 * l.length ∧ l.length ≤ 1000 ∧ ∀ w : World,
    Calls Try.prog 56 #[.int .i64 k] w fun e w' => e = .returned (.slice (some ⟨w.heap.size, 0, none⟩) n n) ∧ LitAt w' w.heap.size (flatL l) ∧ Below w.heap.size w w' := by
  have : k = 1 ∨ k = 2 ∨ k = 3 ∨ k = 4 ∨ k = 5 ∨ k = 6 ∨ k = 7 ∨ k = 8 ∨ k = 9 ∨ k = 10 ∨ k = 11 := by omega
  rcases this with rfl | rfl | rfl | rfl | rfl | rfl | rfl | rfl | rfl | rfl | rfl
  · exact ⟨2, row1, by kernel_rfl, by kernel_rfl, by decide +kernel, row1_any⟩
  · exact ⟨2, row2, by kernel_rfl, by kernel_rfl, by decide +kernel, row2_any⟩
  · exact ⟨30, row3, by kernel_rfl, by kernel_rfl, by decide +kernel, row3_any⟩
  · exact ⟨72, row4, by kernel_rfl, by kernel_rfl, by decide +kernel, row4_any⟩
  · exact ⟨2, row5, by kernel_rfl, by kernel_rfl, by decide +kernel, row5_any⟩
  · exact ⟨2, row6, by kernel_rfl, by kernel_rfl, by decide +kernel, row6_any⟩
  · exact ⟨10, row7, by kernel_rfl, by kernel_rfl, by decide +kernel, row7_any⟩
  · exact ⟨16, row8, by kernel_rfl, by kernel_rfl, by decide +kernel, row8_any⟩
  · exact ⟨4, row9, by kernel_rfl, by kernel_rfl, by decide +kernel, row9_any⟩
  · exact ⟨4, row10, by kernel_rfl, by kernel_rfl, by decide +kernel, row10_any⟩
  · exact ⟨4, row11, by kernel_rfl, by kernel_rfl, by decide +kernel, row11_any⟩

set_option maxRecDepth 100000 in
theorem pictsR_any (w : World) :
    Calls Try.prog 57 #[] w fun e w' => e = .returned (.slice (some ⟨w.heap.size, 0, none⟩) 154 154) ∧ LitAt w' w.heap.size (flatL pictS) ∧ Below w.heap.size w w' := by
  go_enter Try.func57, Try.ntmps57
  refine wp_seq (wp_region_lit (l := [_]) (wpList_assignTo rfl _ rfl ?_))
  show Exit.then _ _ _ _ _
  refine wp_seq ?_
  refine wp_ints 1 0 55 3 (flatL pictS) 154 Try.underlying55 infoI1 infoI2 (by kernel_rfl) (by decide) (by decide) (by kernel_rfl) ?_
  refine wp_ret ?_
  go_ret
  exact ⟨rfl, litAt_made _ _ _, (Below.refl _ _).alloc (Nat.le_refl _) _⟩
theorem p_len : 154 = 2 * pictS.length := by kernel_rfl

set_option maxHeartbeats 1000000 in
set_option maxRecDepth 100000 in
theorem refPict_any (c : Int) (w : World) :
    Calls Try.prog 51 #[.int .i64 c] w fun e w' => e = .returned (.bool (pictT c)) ∧ Below w.heap.size w w' := by
  have HN := Lib.hid (fun g W (h : LitAt W g (flatL pictS)) => in_any g pictS c 154 W p_len h (by have := p_len; omega))
  unfold pictT
  generalize inS pictS c = p at *
  go_enter Try.func51, Try.ntmps51
  go_wp2_with fail
  refine (pictsR_any _).mono ?_
  rintro e w1 ⟨rfl, hr, hb1⟩
  have HR := Lib.hid hr
  clear hr
  go_wp2_with fail
  refine (HN.out _ _ HR.out).mono ?_
  rintro e w2 ⟨rfl, rfl⟩
  go_wp2
  go_ret
  exact ⟨rfl, hb1⟩

theorem firstIn_drop {k : Nat} {r : Int × List CSpan} (h : rowS[k]? = some r) (c : Int) : firstIn (rowS.drop k) c = if inS r.2 c = true then r.1 else firstIn (rowS.drop (k + 1)) c := by
  obtain ⟨hk, rfl⟩ := List.getElem?_eq_some_iff.1 h
  rw [List.drop_eq_getElem_cons hk]
  rfl
theorem ref_at {c : Int} {i : Nat} (h : c = 44032 + 28 * i) (hi : i < 399) : refT c = 12 := by
  unfold refT
  rw [if_pos (by omega), if_pos (by omega)]
theorem ref_in {c : Int} {i : Nat} (h1 : 44032 + 28 * i < c) (h2 : c < 44032 + 28 * i + 28) (hi : i < 399) : refT c = 13 := by
  unfold refT
  rw [if_pos (by omega), if_neg (by omega)]
theorem ref_none {c : Int} (h : ¬ (44032 ≤ c ∧ c < 44032 + 28 * (399 : Nat))) : refT c = firstIn rowS c := by
  unfold refT
  rw [if_neg (by omega)]

set_option maxHeartbeats 1000000 in
set_option maxRecDepth 100000 in
theorem refOf_any (c : Int) (w : World) :
    Calls Try.prog 48 #[.int .i64 c] w fun e w' => e = .returned (.int .i64 (refT c)) ∧ Below w.heap.size w w' := by
  obtain ⟨v, hv⟩ : ∃ v, refT c = v := ⟨_, rfl⟩
  rw [hv]
  have HV := Lib.hid hv
  clear hv
  go_enter Try.func48, Try.ntmps48
  go_wp2
  go_loop [3] (fun s3 => ∃ (i : Nat) (x : Int), i ≤ 399 ∧ x = 44032 + 28 * i ∧ s3 = .int .i64 x ∧ ¬ (44032 ≤ c ∧ c < x)) (fun s3 => (56000 - RowKit.intOf s3).toNat)
  case atStart => exact ⟨0, 44032, Nat.zero_le _, rfl, rfl, by omega⟩
  case round =>
    obtain ⟨i, x, hi, hx, rfl, hno⟩ := hrel
    by_cases hlt : i < 399
    · have hx1 : 44032 ≤ x := by omega
      have hx2 : x ≤ 55176 := by omega
      have h0 : decide (x ≤ 55203) = true := decide_eq_true (by omega)
      by_cases h1 : c = x
      · have HD := Lib.hid (HV.out.symm.trans (ref_at (h1.trans hx) hlt))
        clear hx hno
        subst h1
        go_wp2
        go_ret
        exact ⟨by rw [HD.out]; rfl, Below.refl _ _⟩
      · by_cases h2 : x < c
        · have d2 : decide (x < c) = true := decide_eq_true h2
          by_cases h3 : c < x + 28
          · have d3 : decide (c < x + 28) = true := decide_eq_true h3
            have HD := Lib.hid (HV.out.symm.trans (ref_in (by omega) (by omega) hlt))
            clear hx hno
            go_wp2
            go_ret
            exact ⟨by rw [HD.out]; rfl, Below.refl _ _⟩
          · have d3 : decide (c < x + 28) = false := decide_eq_false h3
            have HH := Lib.hid (And.intro hx hno)
            clear hx hno
            go_wp2
            go_round
            case rel => exact ⟨i + 1, x + 28, by omega, by have := HH.out.1; omega, by go_num, by have := HH.out; omega⟩
            case measure => simp [RowKit.intOf]; omega
        · have d2 : decide (x < c) = false := decide_eq_false h2
          have HH := Lib.hid (And.intro hx hno)
          clear hx hno
          go_wp2
          go_round
          case rel => exact ⟨i + 1, x + 28, by omega, by have := HH.out.1; omega, by go_num, by have := HH.out; omega⟩
          case measure => simp [RowKit.intOf]; omega
    · obtain rfl : i = 399 := by omega
      obtain rfl : x = 55204 := by omega
      have HF := Lib.hid (HV.out.symm.trans (ref_none (by omega)))
      clear hx hno hi hlt
      go_wp2
      go_loopw [4] (fun s4 wx => ∃ k : Nat, 1 ≤ k ∧ k ≤ 12 ∧ s4 = .int .i64 k ∧ v = firstIn (rowS.drop (k - 1)) c ∧ Below w.heap.size w wx) (fun s4 _ => 12 - (RowKit.intOf s4).toNat)
      case atStart => exact ⟨1, by omega, by omega, rfl, HF.out, Below.refl _ _⟩
      case round =>
        obtain ⟨k, hk1, hk2, rfl, hvk, hb⟩ := hrel
        have HVK := Lib.hid hvk
        have HB := Lib.hid hb
        clear hvk hb
        by_cases hlt : k < 12
        · obtain ⟨n, l, hrow, hn, hl, hcall⟩ := row_any k hk1 hlt
          have HC := Lib.hid hcall
          have HI := Lib.hid (fun g W h => in_any g l c n W hn h hl)
          have HW := Lib.hid (HVK.out.trans (firstIn_drop hrow c))
          clear hcall hrow hn hl
          generalize inS l c = p at *
          cases p
          · go_wp2_with fail
            refine (HC.out _).mono ?_
            rintro e w1 ⟨rfl, hr, hb1⟩
            have HR := Lib.hid hr
            clear hr
            go_wp2_with fail
            refine (HI.out _ _ HR.out).mono ?_
            rintro e w2 ⟨rfl, rfl⟩
            go_wp2
            go_roundw
            case rel => exact ⟨k + 1, by omega, by omega, by go_num, by have := HW.out; simp only [Bool.false_eq_true, if_false] at this; rw [this]; congr 2; omega, HB.out.trans (hb1.mono HB.out.size)⟩
            case measure => simp [RowKit.intOf]; omega
          · go_wp2_with fail
            refine (HC.out _).mono ?_
            rintro e w1 ⟨rfl, hr, hb1⟩
            have HR := Lib.hid hr
            clear hr
            go_wp2_with fail
            refine (HI.out _ _ HR.out).mono ?_
            rintro e w2 ⟨rfl, rfl⟩
            go_wp2
            go_ret
            exact ⟨by rw [HW.out]; rfl, HB.out.trans (hb1.mono HB.out.size)⟩
        · obtain rfl : k = 12 := by omega
          have HZ := Lib.hid (HVK.out.trans (show firstIn (rowS.drop (12 - 1)) c = 0 from rfl))
          go_wp2
          go_ret
          exact ⟨by rw [HZ.out]; rfl, HB.out⟩
end Go.Proofs.Ytfbjgibjlppjoaa.Gr
