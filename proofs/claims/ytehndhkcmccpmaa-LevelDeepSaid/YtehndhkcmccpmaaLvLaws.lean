/-
  What the statements of layer 11 ask of explicit levels, plainly: how deep they are; that an isolate's inside changes nothing around it; that what comes behind changes nothing ahead, as long as there is no FSI. No program in it.
-/
import Derived.Test.YtehndhkcmccpmaaLvPlain
import Derived.Laws.Bits128
set_option linter.unusedVariables false
namespace Go.Proofs.Ytehndhkcmccpmaa.Lv
open Go Go.Proofs.Ytehndhkcmccpmaa.Ba

theorem i64_and1 (n : Int) : bits .and .i64 n 1 = n % 2 := by
  have h1 : (BitVec.ofInt 64 1).toNat = 2 ^ 1 - 1 := by decide
  have key : (BitVec.ofInt 64 n &&& BitVec.ofInt 64 1).toNat = (n % ((2 ^ 64 : Nat) : Int)).toNat % 2 ^ 1 := by
    rw [BitVec.toNat_and, BitVec.toNat_ofInt, h1, Nat.and_two_pow_sub_one_eq_mod]
  show IntKind.i64.wrap ((BitVec.ofInt 64 n &&& BitVec.ofInt 64 1).toNat : Nat) = n % 2
  rw [key, IntKind.wrap_i64]
  omega
theorem i64_and255 (n : Int) : bits .and .i64 n 255 = n % 256 := by
  have h1 : (BitVec.ofInt 64 255).toNat = 2 ^ 8 - 1 := by decide
  have key : (BitVec.ofInt 64 n &&& BitVec.ofInt 64 255).toNat = (n % ((2 ^ 64 : Nat) : Int)).toNat % 2 ^ 8 := by
    rw [BitVec.toNat_and, BitVec.toNat_ofInt, h1, Nat.and_two_pow_sub_one_eq_mod]
  show IntKind.i64.wrap ((BitVec.ofInt 64 n &&& BitVec.ofInt 64 255).toNat : Nat) = n % 256
  rw [key, IntKind.wrap_i64]
  omega
/-- The lowest bit of any number. -/
theorem low_bit (x : Int) : ∃ b : Nat, b ≤ 1 ∧ bits .and .i64 x 1 = (b : Int) := by
  rw [i64_and1]
  exact ⟨(x % 2).toNat, by omega, by omega⟩

def plainB (c : Int) : Bool := decide (c < 14) || decide (22 < c)
theorem deep_cases {b : Nat} (hb : b ≤ 1) {s : St} (h : Ok b s) {c z1 z2 : Int} (ho : outS b s c = (z1, z2)) :
    (remB c = true ∧ c ≠ 10 ∧ z1 = -1 ∧ z2 = c) ∨ (remB c = false ∧ c = 10 ∧ z1 = b ∧ z2 = 10) ∨ (remB c = false ∧ c ≠ 10 ∧ (b : Int) ≤ z1 ∧ z1 ≤ 125 ∧ z2 = c) ∨ (remB c = false ∧ c ≠ 10 ∧ (b : Int) ≤ z1 ∧ z1 ≤ 125 ∧ z2 ≠ c ∧ (z2 = 0 ∨ z2 = 1)) := by
  unfold outS at ho
  cases hr : remB c with
  | true =>
    rw [if_pos hr] at ho
    injection ho with h1 h2
    exact .inl ⟨rfl, (fun e => by rw [e] at hr; cases hr), h1.symm, h2.symm⟩
  | false =>
    rw [if_neg (by rw [hr]; decide)] at ho
    by_cases h10 : c = 10
    · rw [if_pos h10] at ho
      injection ho with h1 h2
      exact .inr (.inl ⟨rfl, h10, h1.symm, by rw [← h2, h10]⟩)
    · rw [if_neg h10] at ho
      have hl := h.chain.least
      have hm := h.chain.most hb
      have hov := h.chain.ov
      by_cases ho1 : (top s.es).ov = -1
      · rw [if_pos ho1] at ho
        injection ho with h1 h2
        exact .inr (.inr (.inl ⟨rfl, h10, by omega, by omega, h2.symm⟩))
      · rw [if_neg ho1] at ho
        injection ho with h1 h2
        by_cases hc : z2 = c
        · exact .inr (.inr (.inl ⟨rfl, h10, by omega, by omega, hc⟩))
        · exact .inr (.inr (.inr ⟨rfl, h10, by omega, by omega, hc, by omega⟩))
theorem plain_same {b : Nat} {c : Int} (hp : plainB c = true) (l : List Int) : closeS c (startS b) = startS b ∧ openS c l (startS b) = startS b := by
  have h : c < 14 ∨ 22 < c := by simpa [plainB] using hp
  unfold closeS openS
  refine ⟨?_, ?_⟩
  · rw [if_neg (by omega), if_neg (by omega)]
  · rw [if_neg (by omega), if_neg (by omega), if_neg (by omega), if_neg (by omega), if_neg (by omega), if_neg (by omega), if_neg (by omega)]
theorem plain_out {b : Nat} {c z1 z2 : Int} (hr : remB c = false) (ho : outS b (startS b) c = (z1, z2)) : z1 = b ∧ z2 = c := by
  unfold outS at ho
  rw [if_neg (by rw [hr]; decide)] at ho
  by_cases h10 : c = 10
  · rw [if_pos h10] at ho
    injection ho with h1 h2
    exact ⟨h1.symm, h2.symm⟩
  · rw [if_neg h10, if_pos (show (top (startS b).es).ov = -1 from rfl)] at ho
    injection ho with h1 h2
    exact ⟨h1.symm, h2.symm⟩

/-- What comes behind changes nothing ahead, as long as there is no FSI. -/
theorem walk_ahead (b : Nat) : ∀ (a r r' : List Int) (s : St), (∀ c ∈ a, c ≠ 21) → (walkL b (a ++ r) s).take a.length = (walkL b (a ++ r') s).take a.length
  | [], r, r', s, h => by simp
  | c :: a, r, r', s, h => by
    have hc : c ≠ 21 := h c List.mem_cons_self
    have e : openS c (a ++ r) (closeS c s) = openS c (a ++ r') (closeS c s) := by
      unfold openS
      simp only [if_neg hc]
    simp only [List.cons_append, walkL, List.length_cons, List.take_succ_cons]
    rw [e, walk_ahead b a r r' _ (fun x hx => h x (List.mem_cons_of_mem _ hx))]
theorem expl_ahead (a r : List Int) (b : Nat) (h : ∀ c ∈ a, c ≠ 21) : (explL (a ++ r) b).take a.length = explL a b := by
  have h1 := walk_ahead b a r [] (startS b) h
  rw [List.append_nil] at h1
  unfold explL
  rw [h1, List.take_of_length_le (by rw [walkL_len]; exact Nat.le_refl _)]

/-- What is open in an isolate, by what was open ahead of it, and how many isolates are open in it. -/
def In (s : St) (d : Nat) (s1 : St) : Prop :=
  (s.li = 0 ∧ s.ld = 0 ∧ ∃ X e, e.iso = true ∧ s1.es = X ++ e :: s.es ∧ s1.op = s.op + 1 + isos X ∧ isos X + s1.li = d) ∨ (s1.es = s.es ∧ s1.ld = s.ld ∧ s1.op = s.op ∧ s1.li = s.li + 1 + d)
theorem In.begin_ (o : Nat) (s : St) : In s 0 (beginS o s) := by
  unfold beginS
  split
  · rename_i hf
    obtain ⟨-, h2, h3⟩ := fits_iff.1 hf
    exact .inl ⟨h2, h3, [], _, rfl, rfl, rfl, by simp [isos, h2]⟩
  · exact .inr ⟨rfl, rfl, rfl, rfl⟩
theorem In.open_ {s s1 : St} {d : Nat} (h : In s d s1) (o : Nat) : In s (d + 1) (beginS o s1) := by
  unfold beginS
  rcases h with ⟨h1, h2, X, e, h3, h4, h5, h6⟩ | ⟨h1, h2, h3, h4⟩
  · split
    · refine .inl ⟨h1, h2, _ :: X, e, h3, by simp [h4]; rfl, ?_, ?_⟩
      · simp [isos, h5]; omega
      · simp [isos]; omega
    · exact .inl ⟨h1, h2, X, e, h3, h4, h5, by simp; omega⟩
  · split
    · rename_i hf
      have := (fits_iff.1 hf).2.1
      omega
    · exact .inr ⟨h1, h2, h3, by simp; omega⟩
theorem In.embed {s s1 : St} {d : Nat} (h : In s d s1) (o : Nat) (v : Int) : In s d (embedS o v s1) := by
  unfold embedS
  rcases h with ⟨h1, h2, X, e, h3, h4, h5, h6⟩ | ⟨h1, h2, h3, h4⟩
  · split
    · exact .inl ⟨h1, h2, ⟨nxt o (top s1.es).lev, v, false⟩ :: X, e, h3, by simp [push, h4], by simp [push, isos, h5], by simp [push, isos]; omega⟩
    · split
      · exact .inl ⟨h1, h2, X, e, h3, h4, h5, h6⟩
      · exact .inl ⟨h1, h2, X, e, h3, h4, h5, h6⟩
  · split
    · rename_i hf
      have := (fits_iff.1 hf).2.1
      omega
    · split
      · omega
      · exact .inr ⟨h1, h2, h3, h4⟩
theorem In.pop {s s1 : St} {d : Nat} (h : In s d s1) : In s d (popS s1) := by
  unfold popS
  rcases h with ⟨h1, h2, X, e, h3, h4, h5, h6⟩ | ⟨h1, h2, h3, h4⟩
  · split
    · exact .inl ⟨h1, h2, X, e, h3, h4, h5, h6⟩
    · split
      · exact .inl ⟨h1, h2, X, e, h3, h4, h5, h6⟩
      · split
        · exact .inl ⟨h1, h2, X, e, h3, h4, h5, h6⟩
        · rename_i hn
          cases X with
          | nil =>
            rw [h4] at hn
            exact absurd (.inl h3) hn
          | cons x X =>
            rw [h4] at hn
            have hx : ¬ x.iso = true := fun e => hn (.inl e)
            refine .inl ⟨h1, h2, X, e, h3, by simp [h4], ?_, ?_⟩
            · unfold isos at h5
              rw [if_neg hx] at h5
              exact h5
            · unfold isos at h6
              rw [if_neg hx] at h6
              exact h6
  · rw [if_pos (by omega)]
    exact .inr ⟨h1, h2, h3, h4⟩
theorem cut_in : ∀ (X r : List E), 0 < isos X → cutI (X ++ r) = cutI X ++ r ∧ isos (cutI X) + 1 = isos X
  | [], r, h => by simp [isos] at h
  | x :: X, r, h => by
    by_cases hx : x.iso = true
    · simp only [List.cons_append, cutI, isos]
      rw [if_pos hx, if_pos hx, if_pos hx]
      exact ⟨rfl, rfl⟩
    · simp only [isos] at h
      rw [if_neg hx] at h
      obtain ⟨h1, h2⟩ := cut_in X r h
      simp only [List.cons_append, cutI, isos]
      rw [if_neg hx, if_neg hx, if_neg hx]
      exact ⟨h1, h2⟩
theorem cut_off : ∀ (X r : List E) (e : E), e.iso = true → isos X = 0 → cutI (X ++ e :: r) = r
  | [], r, e, he, _ => by simp only [List.nil_append, cutI]; rw [if_pos he]
  | x :: X, r, e, he, h => by
    simp only [isos] at h
    split at h
    · omega
    · rename_i hx
      simp only [List.cons_append, cutI]
      rw [if_neg hx]
      exact cut_off X r e he h
theorem In.close {s s1 : St} {d : Nat} (h : In s (d + 1) s1) : In s d (endS s1) := by
  unfold endS
  rcases h with ⟨h1, h2, X, e, h3, h4, h5, h6⟩ | ⟨h1, h2, h3, h4⟩
  · split
    · exact .inl ⟨h1, h2, X, e, h3, h4, h5, by simp; omega⟩
    · split
      · omega
      · obtain ⟨c1, c2⟩ := cut_in X (e :: s.es) (by omega)
        exact .inl ⟨h1, h2, cutI X, e, h3, by simp [h4, c1], by simp [h5]; omega, by simp; omega⟩
  · split
    · exact .inr ⟨h1, h2, h3, by simp; omega⟩
    · omega
theorem In.end_ {s s1 : St} (h : In s 0 s1) : endS s1 = s := by
  unfold endS
  obtain ⟨es, li, ld, op⟩ := s
  obtain ⟨es1, li1, ld1, op1⟩ := s1
  rcases h with ⟨h1, h2, X, e, h3, h4, h5, h6⟩ | ⟨h1, h2, h3, h4⟩
  · simp only at h1 h2 h4 h5 h6 ⊢
    have hX : isos X = 0 := by omega
    have hl : li1 = 0 := by omega
    rw [if_neg (by omega), if_neg (by omega), h4, cut_off X es e h3 hX]
    simp [h1, h2, hl, h5, hX]
  · simp only at h1 h2 h3 h4 ⊢
    rw [if_pos (by omega)]
    simp [h1, h2, h3, h4]
theorem In.other {s s1 : St} {d : Nat} (h : In s d s1) {c : Int} (hi : isI c = false) (hp : isP c = false) (l : List Int) : In s d (openS c l (closeS c s1)) := by
  have h1 : c ≠ 19 ∧ c ≠ 20 ∧ c ≠ 21 := by simp [isI] at hi; omega
  have h2 : c ≠ 22 := by simpa [isP] using hp
  have hcl : In s d (closeS c s1) := by
    unfold closeS
    by_cases h3 : c = 18
    · rw [if_pos h3]
      exact h.pop
    · rw [if_neg h3, if_neg h2]
      exact h
  unfold openS
  rw [if_neg h1.2.1, if_neg h1.1, if_neg h1.2.2]
  repeat' split
  all_goals first
    | exact hcl.embed _ _
    | exact hcl
theorem initI {c : Int} (hi : isI c = true) (l : List Int) (s : St) : ∃ o, openS c l (closeS c s) = beginS o s := by
  have hcs : c = 19 ∨ c = 20 ∨ c = 21 := by simpa [isI] using hi
  rcases hcs with rfl | rfl | rfl
  · exact ⟨_, rfl⟩
  · exact ⟨_, rfl⟩
  · exact ⟨_, rfl⟩
theorem closeI {c : Int} (hi : isI c = true) (s : St) : closeS c s = s := by
  have hcs : c = 19 ∨ c = 20 ∨ c = 21 := by simpa [isI] using hi
  rcases hcs with rfl | rfl | rfl <;> rfl
/-- What is open behind an isolate is what was. -/
theorem walk_inner (b : Nat) (s : St) : ∀ (zs r : List Int) (d : Nat) (s1 : St), In s d s1 → closedL zs d = true → ∃ Z, Z.length = zs.length ∧ walkL b (zs ++ 22 :: r) s1 = Z ++ outS b s 22 :: walkL b r s
  | [], r, d, s1, h, hc => by
    have hd : d = 0 := by simpa [closedL] using hc
    subst hd
    refine ⟨[], rfl, ?_⟩
    simp only [List.nil_append, walkL]
    have e1 : closeS 22 s1 = s := h.end_
    have e2 : openS 22 r s = s := rfl
    rw [e1, e2]
  | c :: zs, r, d, s1, h, hc => by
    simp only [closedL] at hc
    simp only [List.cons_append, walkL]
    by_cases hi : isI c = true
    · rw [if_pos hi] at hc
      obtain ⟨o, ho⟩ := initI hi (zs ++ 22 :: r) s1
      rw [ho]
      obtain ⟨Z, h1, h2⟩ := walk_inner b s zs r (d + 1) _ (h.open_ o) hc
      exact ⟨_ :: Z, by simp [h1], by rw [h2]; rfl⟩
    · rw [if_neg hi] at hc
      by_cases hp : isP c = true
      · rw [if_pos hp] at hc
        cases d with
        | zero => cases hc
        | succ d =>
          have hc22 : c = 22 := by simpa [isP] using hp
          subst hc22
          obtain ⟨Z, h1, h2⟩ := walk_inner b s zs r d (openS 22 (zs ++ 22 :: r) (closeS 22 s1)) h.close hc
          exact ⟨_ :: Z, by simp [h1], by rw [h2]; rfl⟩
      · rw [if_neg hp] at hc
        obtain ⟨Z, h1, h2⟩ := walk_inner b s zs r d _ (h.other (by simpa using hi) (by simpa using hp) (zs ++ 22 :: r)) hc
        exact ⟨_ :: Z, by simp [h1], by rw [h2]; rfl⟩
/-- An isolate, with something in it and without. -/
theorem walk_isolate (b : Nat) (s : St) (z : Int) (hz : isI z = true) (zs r : List Int) (hc : closedL zs 0 = true) : ∃ Z, Z.length = zs.length ∧ walkL b (z :: (zs ++ 22 :: r)) s = outS b s z :: (Z ++ outS b s 22 :: walkL b r s) := by
  simp only [walkL]
  obtain ⟨o, ho⟩ := initI hz (zs ++ 22 :: r) s
  rw [ho, closeI hz]
  obtain ⟨Z, h1, h2⟩ := walk_inner b s zs r 0 _ (In.begin_ o s) hc
  exact ⟨Z, h1, by rw [h2]⟩
theorem levE_isolate (z : Int) (hz : isI z = true) (zs r : List Int) (hc : closedL zs 0 = true) (d : Nat) : levE (z :: (zs ++ 22 :: r)) d = levE r d := by
  have h1 : levE (z :: (zs ++ 22 :: r)) d = levE (zs ++ 22 :: r) (d + 1) := by
    simp only [levE]
    rw [if_pos hz]
  have h2 := levE_closed zs (22 :: r) d 0 hc
  rw [Nat.add_zero] at h2
  rw [h1, h2]
  rfl
/-- What stands ahead sees the rest by its levels alone. -/
theorem walk_same (b : Nat) (r r' : List Int) (h : ∀ d, levE r d = levE r' d) : ∀ (a : List Int) (s : St), ∃ P s', P.length = a.length ∧ walkL b (a ++ r) s = P ++ walkL b r s' ∧ walkL b (a ++ r') s = P ++ walkL b r' s'
  | [], s => ⟨[], s, rfl, rfl, rfl⟩
  | c :: a, s => by
    have e : openS c (a ++ r) (closeS c s) = openS c (a ++ r') (closeS c s) := by
      unfold openS dirE
      rw [levE_same r r' h a 0]
    simp only [List.cons_append, walkL]
    obtain ⟨P, s', h1, h2, h3⟩ := walk_same b r r' h a (openS c (a ++ r) (closeS c s))
    refine ⟨_ :: P, s', by simp [h1], by rw [h2]; rfl, ?_⟩
    rw [← e, h3]
    rfl
theorem expl_isolate (b : Nat) (a zs r : List Int) (z : Int) (hz : isI z = true) (hc : closedL zs 0 = true) :
    ∃ P Z Q, P.length = a.length + 1 ∧ Z.length = zs.length ∧ explL (a ++ (z :: (22 :: r))) b = P ++ Q ∧ explL (a ++ (z :: (zs ++ 22 :: r))) b = P ++ (Z ++ Q) := by
  have hl : ∀ d, levE (z :: (22 :: r)) d = levE (z :: (zs ++ 22 :: r)) d := fun d => by
    rw [levE_isolate z hz zs r hc d]
    exact levE_isolate z hz [] r rfl d
  obtain ⟨P, s', h1, h2, h3⟩ := walk_same b _ _ hl a (startS b)
  obtain ⟨Z0, h4, h5⟩ := walk_isolate b s' z hz [] r rfl
  obtain ⟨Z, h6, h7⟩ := walk_isolate b s' z hz zs r hc
  have hZ0 : Z0 = [] := List.eq_nil_of_length_eq_zero h4
  subst hZ0
  refine ⟨P ++ [outS b s' z], Z, outS b s' 22 :: walkL b r s', by simp [h1], h6, ?_, ?_⟩
  · unfold explL
    rw [h2]
    have h8 : walkL b (z :: (22 :: r)) s' = outS b s' z :: ([] ++ outS b s' 22 :: walkL b r s') := h5
    rw [h8]
    simp
  · unfold explL
    rw [h3, h7]
    simp
end Go.Proofs.Ytehndhkcmccpmaa.Lv
