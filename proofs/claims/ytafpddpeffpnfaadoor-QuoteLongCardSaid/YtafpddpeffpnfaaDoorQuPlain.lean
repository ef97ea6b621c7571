/-
  Plain mathematics, no program in it: how a field, a record, records are written in one way, and that what was written is read as it was.
-/
import Derived.Test.YtafpddpeffpnfaaDoorCvFacts
set_option linter.unusedVariables false
namespace Go.Proofs.YtafpddpeffpnfaaDoor.Qu
open Go.Lib Go.Proofs.YtafpddpeffpnfaaDoor.Cv

/-- Each quote twice. -/
def dbl : Bs → Bs
  | [] => []
  | b :: l => if b = 34 then 34 :: 34 :: dbl l else b :: dbl l
def spB (b : UInt8) : Bool := b == 34 || b == 44 || b == 13 || b == 10
def special (x : Bs) : Bool := x.any spB
/-- A field as it is written. -/
def fieldW (x : Bs) : Bs := if special x then 34 :: (dbl x ++ [34]) else x
/-- Texts, with a mark between. -/
def joinW (m : Bs) : List Bs → Bs
  | [] => []
  | x :: l => x ++ (l.map (m ++ ·)).flatten
def recW (r : List Bs) : Bs := joinW [44] (r.map fieldW) ++ [13, 10]
def textW (R : List (List Bs)) : Bs := joinW [] (R.map recW)

theorem joinW_snoc (m : Bs) (l : List Bs) (x : Bs) : joinW m (l ++ [x]) = if l = [] then x else joinW m l ++ m ++ x := by
  cases l with
  | nil => simp [joinW]
  | cons y l => simp [joinW]
theorem joinW_two (m x y : Bs) (l : List Bs) : joinW m (x :: y :: l) = x ++ m ++ joinW m (y :: l) := by simp [joinW]
theorem joinW_take (m : Bs) (X : List Bs) (k : Nat) (h : k < X.length) : joinW m (X.take (k + 1)) = (if k = 0 then [] else joinW m (X.take k) ++ m) ++ X[k] := by
  rw [List.take_add_one, List.getElem?_eq_getElem h]
  simp only [Option.toList_some]
  rw [joinW_snoc]
  by_cases hk : k = 0
  · subst hk; simp
  · have : X.take k ≠ [] := by
      intro e
      have := congrArg List.length e
      rw [List.length_take, List.length_nil] at this
      omega
    rw [if_neg this, if_neg hk]
theorem joinW_le (m : Bs) (X : List Bs) (k : Nat) : (joinW m (X.take k)).length ≤ (joinW m X).length := by
  have h : ∀ (X : List Bs) (k : Nat), ((X.take k).map (m ++ ·)).flatten.length ≤ (X.map (m ++ ·)).flatten.length := by
    intro X
    induction X with
    | nil => intro k; simp
    | cons x X ih =>
      intro k
      cases k with
      | zero => simp
      | succ k =>
        have := ih k
        simp only [List.take_succ_cons, List.map_cons, List.flatten_cons, List.length_append] at this ⊢
        omega
  cases X with
  | nil => simp
  | cons x X =>
    cases k with
    | zero => simp [joinW]
    | succ k =>
      have := h X k
      simp only [List.take_succ_cons, joinW, List.length_append]
      omega
theorem textW_cons (r : List Bs) (R : List (List Bs)) : textW (r :: R) = recW r ++ textW R := by
  cases R with
  | nil => simp [textW, joinW]
  | cons q R => simp [textW, joinW_two]
theorem recW_two (x y : Bs) (l : List Bs) : recW (x :: y :: l) = fieldW x ++ 44 :: recW (y :: l) := by
  simp [recW, joinW_two]
theorem recW_one (x : Bs) : recW [x] = fieldW x ++ [13, 10] := by simp [recW, joinW]
theorem recW_ne (r : List Bs) : recW r ≠ [] := by simp [recW]

theorem spB_no {b : UInt8} (h : spB b = false) : b.toNat ≠ 34 ∧ b.toNat ≠ 44 ∧ b.toNat ≠ 13 ∧ b.toNat ≠ 10 := by
  simp [spB] at h
  exact ⟨fun e => h.1.1.1 (UInt8.toNat_inj.1 (by rw [e]; rfl)), fun e => h.1.1.2 (UInt8.toNat_inj.1 (by rw [e]; rfl)), fun e => h.1.2 (UInt8.toNat_inj.1 (by rw [e]; rfl)), fun e => h.2 (UInt8.toNat_inj.1 (by rw [e]; rfl))⟩
theorem bare_step {q : Nat} {b : UInt8} (hq : q = 0 ∨ q = 1) (h : spB b = false) : stepQ q b.toNat = some 1 := by
  obtain ⟨h1, h2, h3, h4⟩ := spB_no h
  rcases hq with rfl | rfl <;> simp [stepQ, h1, h2, h3, h4]
theorem bare_run : ∀ (x : Bs) (q p : Nat) (acc rest : Bs), special x = false → (q = 0 ∨ q = 1) →
    place q p (x ++ rest) = place (if x = [] then q else 1) (p + x.length) rest ∧ evs q acc (x ++ rest) = evs (if x = [] then q else 1) (acc ++ x) rest
  | [], q, p, acc, rest, _, _ => by simp
  | b :: l, q, p, acc, rest, h, hq => by
    simp only [special, List.any_cons, Bool.or_eq_false_iff] at h
    have hs := bare_step hq h.1
    have ih := bare_run l 1 (p + 1) (acc ++ [b]) rest h.2 (.inr rfl)
    have e1 : (if l = [] then 1 else 1) = 1 := by split <;> rfl
    rw [e1] at ih
    simp only [List.cons_append]
    rw [place, evs, hs]
    simp only [if_neg (show ¬ (1 : Nat) = 0 from by decide), if_neg (show ¬ (1 : Nat) = 5 from by decide), if_neg (show ¬ (1 : Nat) = 4 from by decide)]
    rw [ih.1, ih.2]
    refine ⟨?_, ?_⟩
    · simp [Nat.add_assoc, Nat.add_comm 1]
    · simp
theorem quoted_run : ∀ (x : Bs) (p : Nat) (acc rest : Bs), place 2 p (dbl x ++ rest) = place 2 (p + (dbl x).length) rest ∧ evs 2 acc (dbl x ++ rest) = evs 2 (acc ++ dbl x) rest
  | [], p, acc, rest => by simp [dbl]
  | b :: l, p, acc, rest => by
    by_cases hb : b = 34
    · subst hb
      have ih := quoted_run l (p + 1 + 1) (acc ++ [34] ++ [34]) rest
      have e : dbl (34 :: l) = 34 :: 34 :: dbl l := by simp [dbl]
      rw [e]
      simp only [List.cons_append]
      have s1 : stepQ 2 (34 : UInt8).toNat = some 3 := rfl
      have s2 : stepQ 3 (34 : UInt8).toNat = some 2 := rfl
      refine ⟨?_, ?_⟩
      · rw [place, s1]
        simp only
        rw [place, s2]
        simp only
        rw [ih.1]
        simp [Nat.add_assoc, Nat.add_comm 2]
      · rw [evs, s1]
        simp only [if_neg (show ¬ (3 : Nat) = 0 from by decide), if_neg (show ¬ (3 : Nat) = 5 from by decide), if_neg (show ¬ (3 : Nat) = 4 from by decide)]
        rw [evs, s2]
        simp only [if_neg (show ¬ (2 : Nat) = 0 from by decide), if_neg (show ¬ (2 : Nat) = 5 from by decide), if_neg (show ¬ (2 : Nat) = 4 from by decide)]
        rw [ih.2]
        simp
    · have ih := quoted_run l (p + 1) (acc ++ [b]) rest
      have hn : b.toNat ≠ 34 := fun e => hb (u8_34 e)
      have e : dbl (b :: l) = b :: dbl l := by simp [dbl, hb]
      have s1 : stepQ 2 b.toNat = some 2 := by simp [stepQ, hn]
      rw [e]
      simp only [List.cons_append]
      refine ⟨?_, ?_⟩
      · rw [place, s1]
        simp only
        rw [ih.1]
        simp [Nat.add_assoc, Nat.add_comm 1]
      · rw [evs, s1]
        simp only [if_neg (show ¬ (2 : Nat) = 0 from by decide), if_neg (show ¬ (2 : Nat) = 5 from by decide), if_neg (show ¬ (2 : Nat) = 4 from by decide)]
        rw [ih.2]
        simp
theorem field_run (x : Bs) : ∃ q, (q = 0 ∨ q = 1 ∨ q = 3) ∧ ∀ (p : Nat) (rest : Bs), place 0 p (fieldW x ++ rest) = place q (p + (fieldW x).length) rest ∧ evs 0 [] (fieldW x ++ rest) = evs q (fieldW x) rest := by
  unfold fieldW
  cases h : special x with
  | false =>
    refine ⟨if x = [] then 0 else 1, by split <;> simp, fun p rest => ?_⟩
    simp only [Bool.false_eq_true, if_false]
    have := bare_run x 0 p [] rest h (.inl rfl)
    simpa using this
  | true =>
    refine ⟨3, by simp, fun p rest => ?_⟩
    simp only [if_true, List.cons_append, List.append_assoc]
    have s1 : stepQ 0 (34 : UInt8).toNat = some 2 := rfl
    have s2 : stepQ 2 (34 : UInt8).toNat = some 3 := rfl
    refine ⟨?_, ?_⟩
    · rw [place, s1]
      simp only
      rw [(quoted_run x (p + 1) [] _).1, place, s2]
      rw [List.nil_append]
      simp only
      congr 1
      simp
      omega
    · rw [evs, s1]
      simp only [if_neg (show ¬ (2 : Nat) = 0 from by decide), if_neg (show ¬ (2 : Nat) = 5 from by decide), if_neg (show ¬ (2 : Nat) = 4 from by decide)]
      rw [(quoted_run x 0 _ _).2, evs, s2]
      simp only [if_neg (show ¬ (3 : Nat) = 0 from by decide), if_neg (show ¬ (3 : Nat) = 5 from by decide), if_neg (show ¬ (3 : Nat) = 4 from by decide)]
      simp
theorem und_dbl : ∀ x : Bs, und (dbl x) = x
  | [] => rfl
  | b :: l => by
    have ih := und_dbl l
    by_cases hb : b = 34
    · subst hb
      have e : dbl (34 :: l) = 34 :: 34 :: dbl l := by simp [dbl]
      rw [e]
      simp [und, ih]
    · have e : dbl (b :: l) = b :: dbl l := by simp [dbl, hb]
      rw [e]
      cases h : dbl l with
      | nil =>
        rw [h] at ih
        simp [und] at ih ⊢
        exact ih
      | cons c t =>
        rw [h] at ih
        simp [und, hb, ih]
theorem txt_field (x : Bs) : txt (fieldW x) = x := by
  unfold fieldW
  cases h : special x with
  | false =>
    simp only [Bool.false_eq_true, if_false]
    refine txt_bare ?_
    cases x with
    | nil => simp
    | cons b l =>
      simp only [special, List.any_cons, Bool.or_eq_false_iff] at h
      have := (spB_no h.1).1
      simp
      exact fun e => this (by rw [e]; rfl)
  | true =>
    simp only [if_true]
    rw [txt_quoted, und_dbl]

def evR : List Bs → List Ev
  | [] => []
  | [x] => [(fieldW x, true)]
  | x :: y :: l => (fieldW x, false) :: evR (y :: l)
theorem rec_run : ∀ (r : List Bs) (p : Nat) (rest : Bs), r ≠ [] → place 0 p (recW r ++ rest) = place 5 (p + (recW r).length) rest ∧ evs 0 [] (recW r ++ rest) = evR r ++ evs 5 [] rest
  | [], _, _, h => absurd rfl h
  | [x], p, rest, _ => by
    obtain ⟨q, hq, hr⟩ := field_run x
    rw [recW_one, List.append_assoc, (hr p _).1, (hr p _).2]
    rcases hq with rfl | rfl | rfl <;> simp [place, evs, stepQ, evR, Nat.add_assoc]
  | x :: y :: l, p, rest, _ => by
    obtain ⟨q, hq, hr⟩ := field_run x
    have ih := rec_run (y :: l) (p + (fieldW x).length + 1) rest (by simp)
    have s1 : stepQ q (44 : UInt8).toNat = some 0 := by rcases hq with rfl | rfl | rfl <;> rfl
    rw [recW_two, List.append_assoc, (hr p _).1, (hr p _).2]
    simp only [List.cons_append]
    refine ⟨?_, ?_⟩
    · rw [place, s1]
      simp only
      rw [ih.1]
      congr 1
      simp
      omega
    · rw [evs, s1]
      simp only [if_true]
      rw [ih.2]
      rfl
theorem grp_rec : ∀ (r : List Bs) (R : List (List Bs)) (c : List Bs), r ≠ [] → grp (R, c) (evR r) = (R ++ [c ++ r], [])
  | [], _, _, h => absurd rfl h
  | [x], R, c, _ => by simp [evR, grp, putE, txt_field]
  | x :: y :: l, R, c, _ => by
    have ih := grp_rec (y :: l) R (c ++ [x]) (by simp)
    have e : grp (R, c) (evR (x :: y :: l)) = grp (putE (R, c) (fieldW x, false)) (evR (y :: l)) := rfl
    rw [e]
    have e2 : putE (R, c) (fieldW x, false) = (R, c ++ [x]) := by simp [putE, txt_field]
    rw [e2, ih]
    simp
theorem text_run : ∀ (R R0 : List (List Bs)) (p : Nat), R ≠ [] → (∀ r ∈ R, r ≠ []) → place 0 p (textW R) = none ∧ grp (R0, []) (evs 0 [] (textW R)) = (R0 ++ R, [])
  | [], _, _, h, _ => absurd rfl h
  | [r], R0, p, _, hr => by
    have h := rec_run r p [] (hr r (by simp))
    have e : textW [r] = recW r ++ [] := by simp [textW, joinW]
    rw [e, h.1, h.2]
    have e5 : evs 5 [] [] = [] := rfl
    rw [e5, List.append_nil, grp_rec r R0 [] (hr r (by simp))]
    exact ⟨rfl, rfl⟩
  | r :: q :: R, R0, p, _, hr => by
    have h := rec_run r p (textW (q :: R)) (hr r (by simp))
    have ih := text_run (q :: R) (R0 ++ [r]) (p + (recW r).length) (by simp) (fun x hx => hr x (List.mem_cons_of_mem _ hx))
    have hne : textW (q :: R) ≠ [] := by
      rw [textW_cons]
      simp [recW_ne]
    rw [textW_cons, h.1, h.2, (five_zero hne _ []).1, (five_zero hne 0 []).2, grp_append, grp_rec r R0 [] (hr r (by simp))]
    refine ⟨ih.1, ?_⟩
    have := ih.2
    simp only [List.nil_append]
    rw [this]
    simp

theorem dbl_len : ∀ x : Bs, x.length ≤ (dbl x).length ∧ (dbl x).length ≤ 2 * x.length
  | [] => by simp [dbl]
  | b :: l => by
    have ih := dbl_len l
    unfold dbl
    split <;> simp <;> omega
theorem dbl_app : ∀ x y : Bs, dbl (x ++ y) = dbl x ++ dbl y
  | [], y => rfl
  | b :: l, y => by
    have ih := dbl_app l y
    simp only [List.cons_append, dbl]
    split <;> simp [ih]
theorem fieldW_len (x : Bs) : x.length ≤ (fieldW x).length ∧ (fieldW x).length ≤ 2 * x.length + 2 := by
  have := dbl_len x
  unfold fieldW
  split <;> simp <;> omega
def bytesR (r : List Bs) : Nat := (r.map List.length).sum
def bytesT (R : List (List Bs)) : Nat := (R.map bytesR).sum
theorem recW_len : ∀ r : List Bs, (recW r).length ≤ 2 * bytesR r + 3 * r.length + 2
  | [] => by simp [recW, joinW]
  | [x] => by
    have := (fieldW_len x).2
    rw [recW_one]
    simp [bytesR]
    omega
  | x :: y :: l => by
    have ih := recW_len (y :: l)
    have := (fieldW_len x).2
    rw [recW_two]
    simp [bytesR] at ih ⊢
    omega
theorem textW_len : ∀ R : List (List Bs), (textW R).length ≤ 2 * bytesT R + 3 * sumLen R + 2 * R.length
  | [] => by simp [textW, joinW]
  | r :: R => by
    have ih := textW_len R
    have := recW_len r
    rw [textW_cons]
    simp [bytesT, sumLen] at ih ⊢
    omega
theorem recW_join_le (r : List Bs) : (joinW [44] (r.map fieldW)).length + 2 = (recW r).length := by simp [recW]
theorem recW_le_text {R : List (List Bs)} {r : List Bs} (h : r ∈ R) : (recW r).length ≤ (textW R).length := by
  induction R with
  | nil => simp at h
  | cons q R ih =>
    rw [textW_cons, List.length_append]
    rcases List.mem_cons.1 h with rfl | h
    · omega
    · have := ih h
      omega
theorem field_le_rec {r : List Bs} {x : Bs} (h : x ∈ r) : x.length ≤ (recW r).length := by
  induction r with
  | nil => simp at h
  | cons y r ih =>
    have hy := (fieldW_len y).1
    cases r with
    | nil =>
      rw [recW_one]
      simp at h
      subst h
      simp
      omega
    | cons z r =>
      rw [recW_two, List.length_append]
      rcases List.mem_cons.1 h with rfl | h
      · omega
      · have := ih h
        simp
        omega

/-- What the records' fields have together is no more than the text. -/
theorem evs_bytes : ∀ (l : Bs) (q : Nat) (acc : Bs), ((evs q acc l).map fun e => e.1.length).sum ≤ acc.length + l.length
  | [], q, acc => by rw [evs]; split <;> simp
  | b :: l, q, acc => by
    rw [evs]
    cases hs : stepQ q b.toNat with
    | none => simp
    | some q' =>
      simp only
      have h0 := evs_bytes l 0 []
      have h5 := evs_bytes l 5 []
      have h4 := evs_bytes l 4 acc
      have h6 := evs_bytes l q' (acc ++ [b])
      split
      · simp at h0 ⊢; omega
      · split
        · simp at h5 ⊢; omega
        · split
          · simp at h4 ⊢; omega
          · simp at h6 ⊢; omega
theorem und_le : ∀ (n : Nat) (x : Bs), x.length ≤ n → (und x).length ≤ x.length
  | _, [], _ => Nat.le_refl _
  | 0, _ :: _, h => by simp at h
  | n + 1, [b], h => Nat.le_refl _
  | n + 1, b :: c :: l, h => by
    by_cases hb : b = 34 ∧ c = 34
    · have := und_le n l (by simp at h; omega)
      simp [und, hb]
      omega
    · have := und_le n (c :: l) (by simpa using h)
      simp [und, hb] at this ⊢
      exact this
theorem txt_le (x : Bs) : (txt x).length ≤ x.length := by
  unfold txt
  split
  · have := und_le _ (x.drop 1).dropLast (Nat.le_refl _)
    have e : ((x.drop 1).dropLast).length ≤ x.length := by simp; omega
    omega
  · exact Nat.le_refl _
theorem grp_bytes : ∀ (es : List Ev) (R : List (List Bs) × List Bs), bytesT (grp R es).1 + bytesR (grp R es).2 ≤ bytesT R.1 + bytesR R.2 + (es.map fun e => e.1.length).sum
  | [], R => by simp [grp]
  | e :: es, R => by
    have h := grp_bytes es (putE R e)
    have e1 : grp R (e :: es) = grp (putE R e) es := rfl
    rw [e1]
    have ht := txt_le e.1
    have hp : bytesT (putE R e).1 + bytesR (putE R e).2 ≤ bytesT R.1 + bytesR R.2 + e.1.length := by
      unfold putE
      cases he : e.2 <;> simp [bytesT, bytesR] <;> omega
    simp
    omega
theorem grp_ne : ∀ (es : List Ev) (R : List (List Bs) × List Bs), (∀ r ∈ R.1, r ≠ []) → ∀ r ∈ (grp R es).1, r ≠ []
  | [], R, h => h
  | e :: es, R, h => by
    have e1 : grp R (e :: es) = grp (putE R e) es := rfl
    rw [e1]
    refine grp_ne es _ ?_
    unfold putE
    cases he : e.2
    · simpa using h
    · intro r hr
      simp at hr
      rcases hr with hr | rfl
      · exact h r hr
      · simp
end Go.Proofs.YtafpddpeffpnfaaDoor.Qu
