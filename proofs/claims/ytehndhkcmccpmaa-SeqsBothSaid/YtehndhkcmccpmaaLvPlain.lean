/-
  Explicit levels, plainly: the direction of an initiator, what is open, what each class does to it, the levels; and the facts about them that the statements ask. No program in it.
-/
import Derived.Test.YtehndhkcmccpmaaBaClPlain
set_option linter.unusedVariables false
namespace Go.Proofs.Ytehndhkcmccpmaa.Lv
open Go.Proofs.Ytehndhkcmccpmaa.Ba

/-- The level of what stands ahead of the PDI that ends what is open, behind so many more that are open. -/
def levE : List Int → Nat → Int × Bool
  | [], _ => (0, false)
  | c :: l, d => if isI c then levE l (d + 1) else if isP c then (match d with | 0 => (0, false) | d + 1 => levE l d) else if d = 0 ∧ c = 0 then (0, true) else if d = 0 ∧ (c = 1 ∨ c = 2) then (1, true) else levE l d
theorem levE_take : ∀ (l : List Int) (d : Nat), levL (l.take (endL l d)) d = levE l d
  | [], d => rfl
  | c :: l, d => by
    have e1 : ∀ x, (c :: l).take (1 + x) = c :: l.take x := fun x => by rw [Nat.add_comm]; rfl
    by_cases hi : isI c = true
    · have hp : ¬ isP c = true := fun h => by rw [isI_not_isP hi] at h; cases h
      have e2 : endL (c :: l) d = 1 + endL l (d + 1) := by simp only [endL]; rw [if_neg hp, if_pos hi]
      rw [e2, e1]
      simp only [levL, levE]
      rw [if_pos hi, if_pos hi]
      exact levE_take l (d + 1)
    · by_cases hp : isP c = true
      · cases d with
        | zero =>
          have e2 : endL (c :: l) 0 = 0 := by simp only [endL]; rw [if_pos hp]
          rw [e2]
          simp only [List.take_zero, levL, levE]
          rw [if_neg hi, if_pos hp]
        | succ d =>
          have e2 : endL (c :: l) (d + 1) = 1 + endL l d := by simp only [endL]; rw [if_pos hp]
          rw [e2, e1]
          simp only [levL, levE]
          rw [if_neg hi, if_pos hp, if_neg hi, if_pos hp]
          exact levE_take l d
      · have e2 : endL (c :: l) d = 1 + endL l d := by simp only [endL]; rw [if_neg hp, if_neg hi]
        rw [e2, e1]
        simp only [levL, levE]
        rw [if_neg hi, if_neg hp, if_neg hi, if_neg hp, levE_take l d]
theorem levE_skip : ∀ (l : List Int) (d : Nat), levE l (d + 1) = levE (l.drop (endL l d + 1)) 0
  | [], d => by simp [levE]
  | c :: l, d => by
    by_cases hi : isI c = true
    · have hp : ¬ isP c = true := fun h => by rw [isI_not_isP hi] at h; cases h
      have e2 : endL (c :: l) d = endL l (d + 1) + 1 := by simp only [endL]; rw [if_neg hp, if_pos hi, Nat.add_comm]
      rw [e2]
      simp only [List.drop_succ_cons]
      conv => lhs; simp only [levE]
      rw [if_pos hi]
      exact levE_skip l (d + 1)
    · by_cases hp : isP c = true
      · conv => lhs; simp only [levE]
        rw [if_neg hi, if_pos hp]
        cases d with
        | zero =>
          have e2 : endL (c :: l) 0 = 0 := by simp only [endL]; rw [if_pos hp]
          rw [e2]
          rfl
        | succ d =>
          have e2 : endL (c :: l) (d + 1) = endL l d + 1 := by simp only [endL]; rw [if_pos hp, Nat.add_comm]
          rw [e2]
          simp only [List.drop_succ_cons]
          exact levE_skip l d
      · have e2 : endL (c :: l) d = endL l d + 1 := by simp only [endL]; rw [if_neg hp, if_neg hi, Nat.add_comm]
        rw [e2]
        simp only [List.drop_succ_cons]
        conv => lhs; simp only [levE]
        rw [if_neg hi, if_neg hp, if_neg (by omega), if_neg (by omega)]
        exact levE_skip l d
theorem endL_succ : ∀ (l : List Int) (d : Nat), endL l d < l.length → endL l (d + 1) = endL l d + 1 + endL (l.drop (endL l d + 1)) 0
  | [], d, h => by simp [endL] at h
  | c :: l, d, h => by
    by_cases hi : isI c = true
    · have hp : ¬ isP c = true := fun h => by rw [isI_not_isP hi] at h; cases h
      have e2 : ∀ d, endL (c :: l) d = endL l (d + 1) + 1 := fun d => by simp only [endL]; rw [if_neg hp, if_pos hi, Nat.add_comm]
      rw [e2] at h ⊢
      rw [e2]
      simp only [List.drop_succ_cons]
      have := endL_succ l (d + 1) (by simpa using h)
      omega
    · by_cases hp : isP c = true
      · have e3 : endL (c :: l) (d + 1) = endL l d + 1 := by simp only [endL]; rw [if_pos hp, Nat.add_comm]
        rw [e3]
        cases d with
        | zero =>
          have e2 : endL (c :: l) 0 = 0 := by simp only [endL]; rw [if_pos hp]
          rw [e2]
          simp only [List.drop_succ_cons, List.drop_zero]
          omega
        | succ d =>
          have e2 : endL (c :: l) (d + 1) = endL l d + 1 := by simp only [endL]; rw [if_pos hp, Nat.add_comm]
          rw [e2] at h ⊢
          simp only [List.drop_succ_cons]
          have := endL_succ l d (by simpa using h)
          omega
      · have e2 : ∀ d, endL (c :: l) d = endL l d + 1 := fun d => by simp only [endL]; rw [if_neg hp, if_neg hi, Nat.add_comm]
        rw [e2] at h ⊢
        rw [e2]
        simp only [List.drop_succ_cons]
        have := endL_succ l d (by simpa using h)
        omega
theorem levE_ended : ∀ (l : List Int), endL l 0 = 0 → levE l 0 = (0, false)
  | [], _ => rfl
  | c :: l, h => by
    by_cases hp : isP c = true
    · have hi : ¬ isI c = true := fun h1 => by rw [isI_not_isP h1] at hp; cases hp
      simp only [levE]
      rw [if_neg hi, if_pos hp]
    · simp only [endL] at h
      rw [if_neg hp] at h
      split at h <;> omega
theorem levE_bit : ∀ (l : List Int) (d : Nat), (levE l d).1 = 0 ∨ (levE l d).1 = 1
  | [], d => .inl rfl
  | c :: l, d => by
    simp only [levE]
    split
    · exact levE_bit l (d + 1)
    · split
      · cases d with
        | zero => exact .inl rfl
        | succ d => exact levE_bit l d
      · split
        · exact .inl rfl
        · split
          · exact .inr rfl
          · exact levE_bit l d
/-- What stands in an isolate, closed, is passed over. -/
theorem levE_closed : ∀ (zs b : List Int) (d e : Nat), closedL zs e = true → levE (zs ++ b) (d + 1 + e) = levE b (d + 1)
  | [], b, d, e, h => by
    have : e = 0 := by simpa [closedL] using h
    subst this
    rfl
  | c :: zs, b, d, e, h => by
    simp only [closedL] at h
    simp only [List.cons_append, levE]
    by_cases hi : isI c = true
    · rw [if_pos hi] at h ⊢
      exact levE_closed zs b d (e + 1) h
    · rw [if_neg hi] at h ⊢
      by_cases hp : isP c = true
      · rw [if_pos hp] at h ⊢
        cases e with
        | zero => cases h
        | succ e =>
          exact levE_closed zs b d e h
      · rw [if_neg hp] at h ⊢
        rw [if_neg (by omega), if_neg (by omega)]
        exact levE_closed zs b d e h
theorem levE_same (r r' : List Int) (h : ∀ d, levE r d = levE r' d) : ∀ (a : List Int) (d : Nat), levE (a ++ r) d = levE (a ++ r') d
  | [], d => h d
  | c :: a, d => by
    simp only [List.cons_append, levE]
    rw [levE_same r r' h a, levE_same r r' h a]
    cases d with
    | zero => rfl
    | succ d =>
      dsimp only
      rw [levE_same r r' h a]

/-- One that is open. -/
structure E where
  lev : Nat
  ov : Int
  iso : Bool
/-- What is open, the last one first; the isolates, the embeddings that are lost; the isolates that are open. -/
structure St where
  es : List E
  li : Nat
  ld : Nat
  op : Nat
def nxt (o l : Nat) : Nat := if (l + 1) % 2 = o then l + 1 else l + 2
theorem nxt_gt (o l : Nat) : l < nxt o l := by unfold nxt; split <;> omega
def top (es : List E) : E := es.headD ⟨0, -1, false⟩
def fits (o : Nat) (s : St) : Bool := decide (nxt o (top s.es).lev ≤ 125) && (decide (s.li = 0) && decide (s.ld = 0))
def push (e : E) (s : St) : St := ⟨e :: s.es, s.li, s.ld, s.op⟩
def embedS (o : Nat) (v : Int) (s : St) : St := if fits o s = true then push ⟨nxt o (top s.es).lev, v, false⟩ s else if s.li = 0 then ⟨s.es, s.li, s.ld + 1, s.op⟩ else s
def beginS (o : Nat) (s : St) : St := if fits o s = true then ⟨⟨nxt o (top s.es).lev, -1, true⟩ :: s.es, s.li, s.ld, s.op + 1⟩ else ⟨s.es, s.li + 1, s.ld, s.op⟩
def cutI : List E → List E
  | [] => []
  | e :: r => if e.iso = true then r else cutI r
def endS (s : St) : St := if 0 < s.li then ⟨s.es, s.li - 1, s.ld, s.op⟩ else if s.op = 0 then s else ⟨cutI s.es, s.li, 0, s.op - 1⟩
def popS (s : St) : St := if 0 < s.li then s else if 0 < s.ld then ⟨s.es, s.li, s.ld - 1, s.op⟩ else if (top s.es).iso = true ∨ s.es.length = 1 then s else ⟨s.es.tail, s.li, s.ld, s.op⟩
def dirE (l : List Int) : Nat := if (levE l 0).1 = 1 then 1 else 0
theorem dirE_eq (l : List Int) : (levE l 0).1 = (dirE l : Int) := by
  unfold dirE
  rcases levE_bit l 0 with h | h
  · rw [h]; rfl
  · rw [h]; rfl
theorem dirE_le (l : List Int) : dirE l ≤ 1 := by unfold dirE; split <;> omega
def closeS (c : Int) (s : St) : St := if c = 18 then popS s else if c = 22 then endS s else s
def openS (c : Int) (l : List Int) (s : St) : St :=
  if c = 16 then embedS 1 (-1) s else if c = 14 then embedS 0 (-1) s else if c = 17 then embedS 1 1 s else if c = 15 then embedS 0 0 s else if c = 20 then beginS 1 s else if c = 19 then beginS 0 s else if c = 21 then beginS (dirE l) s else s
def remB (c : Int) : Bool := c == 16 || (c == 14 || (c == 17 || (c == 15 || (c == 18 || c == 9))))
def outS (b : Nat) (s : St) (c : Int) : Int × Int :=
  if remB c = true then (-1, c) else if c = 10 then ((b : Int), c) else if (top s.es).ov = -1 then (((top s.es).lev : Int), c) else (((top s.es).lev : Int), (top s.es).ov)
def walkL (b : Nat) : List Int → St → List (Int × Int)
  | [], _ => []
  | c :: l, s => outS b (closeS c s) c :: walkL b l (openS c l (closeS c s))
def startS (b : Nat) : St := ⟨[⟨b, -1, false⟩], 0, 0, 0⟩
def explL (l : List Int) (b : Nat) : List (Int × Int) := walkL b l (startS b)
theorem walkL_len (b : Nat) : ∀ (l : List Int) (s : St), (walkL b l s).length = l.length
  | [], _ => rfl
  | c :: l, s => by simp [walkL, walkL_len b l]
theorem explL_len (l : List Int) (b : Nat) : (explL l b).length = l.length := walkL_len b l _

/-- How many isolates are open. -/
def isos : List E → Nat
  | [] => 0
  | e :: r => if e.iso = true then isos r + 1 else isos r
theorem isos_le : ∀ (es : List E), isos es ≤ es.length
  | [] => Nat.le_refl 0
  | e :: r => by
    have := isos_le r
    simp only [isos, List.length_cons]
    split <;> omega
/-- From the paragraph's on levels rise. -/
def Chain (b : Nat) : List E → Prop
  | [] => False
  | [e] => e = ⟨b, -1, false⟩
  | e :: t :: r => t.lev < e.lev ∧ e.lev ≤ 125 ∧ (e.ov = -1 ∨ e.ov = 0 ∨ e.ov = 1) ∧ Chain b (t :: r)
theorem Chain.len {b : Nat} : ∀ {es : List E}, Chain b es → es.length + b ≤ (top es).lev + 1
  | [], h => h.elim
  | [e], h => by
    have h : e = ⟨b, -1, false⟩ := h
    subst h
    simp [top]
    omega
  | e :: t :: r, h => by
    have h1 := Chain.len h.2.2.2
    have h2 := h.1
    simp [top] at h1 ⊢
    omega
theorem Chain.pos {b : Nat} : ∀ {es : List E}, Chain b es → 0 < es.length
  | [], h => h.elim
  | _ :: _, _ => by simp
theorem Chain.most {b : Nat} (hb : b ≤ 1) : ∀ {es : List E}, Chain b es → (top es).lev ≤ 125
  | [], h => h.elim
  | [e], h => by
    have h : e = ⟨b, -1, false⟩ := h
    subst h
    simp [top]
    omega
  | e :: t :: r, h => h.2.1
theorem Chain.least {b : Nat} {es : List E} (h : Chain b es) : b ≤ (top es).lev := by
  have h1 := h.len
  have h2 := h.pos
  omega
theorem Chain.small {b : Nat} (hb : b ≤ 1) {es : List E} (h : Chain b es) : es.length ≤ 126 := by
  have h1 := h.len
  have h2 := h.most hb
  omega
theorem Chain.ov {b : Nat} : ∀ {es : List E}, Chain b es → (top es).ov = -1 ∨ (top es).ov = 0 ∨ (top es).ov = 1
  | [], h => h.elim
  | [e], h => by
    have h : e = ⟨b, -1, false⟩ := h
    subst h
    exact .inl rfl
  | e :: t :: r, h => h.2.2.1
theorem Chain.push {b : Nat} : ∀ {es : List E} {e : E}, Chain b es → (top es).lev < e.lev → e.lev ≤ 125 → (e.ov = -1 ∨ e.ov = 0 ∨ e.ov = 1) → Chain b (e :: es)
  | [], _, h, _, _, _ => h.elim
  | _ :: _, _, h, h1, h2, h3 => ⟨h1, h2, h3, h⟩
theorem Chain.cut {b : Nat} : ∀ {es : List E}, Chain b es → 0 < isos es → Chain b (cutI es) ∧ isos (cutI es) + 1 = isos es
  | [], h, _ => h.elim
  | [e], h, hp => by
    have h : e = ⟨b, -1, false⟩ := h
    subst h
    simp [isos] at hp
  | e :: t :: r, h, hp => by
    by_cases hi : e.iso = true
    · have e1 : cutI (e :: t :: r) = t :: r := by simp only [cutI]; rw [if_pos hi]
      rw [e1]
      refine ⟨h.2.2.2, ?_⟩
      conv => rhs; unfold isos
      rw [if_pos hi]
    · have e1 : cutI (e :: t :: r) = cutI (t :: r) := by
        conv => lhs; unfold cutI
        rw [if_neg hi]
      have e2 : isos (e :: t :: r) = isos (t :: r) := by
        conv => lhs; unfold isos
        rw [if_neg hi]
      rw [e2] at hp
      rw [e1, e2]
      exact Chain.cut h.2.2.2 hp
theorem Chain.off {b : Nat} : ∀ {es : List E}, Chain b es → es.length ≠ 1 → Chain b es.tail
  | [], h, _ => h.elim
  | [e], h, hn => by simp at hn
  | e :: t :: r, h, _ => h.2.2.2

/-- What is open is as it may be. -/
structure Ok (b : Nat) (s : St) : Prop where
  chain : Chain b s.es
  count : s.op = isos s.es
theorem Ok.start (b : Nat) : Ok b (startS b) := ⟨rfl, rfl⟩
theorem fits_iff {o : Nat} {s : St} : fits o s = true ↔ nxt o (top s.es).lev ≤ 125 ∧ s.li = 0 ∧ s.ld = 0 := by simp [fits]
theorem Ok.embed {b : Nat} {s : St} (h : Ok b s) (o : Nat) {v : Int} (hv : v = -1 ∨ v = 0 ∨ v = 1) : Ok b (embedS o v s) := by
  unfold embedS
  split
  · rename_i hf
    refine ⟨h.chain.push (nxt_gt _ _) (fits_iff.1 hf).1 hv, ?_⟩
    have := h.count
    simp [Lv.push, isos]
    exact this
  · split
    · exact ⟨h.chain, h.count⟩
    · exact h
theorem Ok.begin_ {b : Nat} {s : St} (h : Ok b s) (o : Nat) : Ok b (beginS o s) := by
  unfold beginS
  split
  · rename_i hf
    refine ⟨h.chain.push (nxt_gt _ _) (fits_iff.1 hf).1 (.inl rfl), ?_⟩
    have := h.count
    simp [isos]
    exact this
  · exact ⟨h.chain, h.count⟩
theorem Ok.end_ {b : Nat} {s : St} (h : Ok b s) : Ok b (endS s) := by
  unfold endS
  split
  · exact ⟨h.chain, h.count⟩
  · split
    · exact h
    · have h1 := h.count
      obtain ⟨h2, h3⟩ := h.chain.cut (by omega)
      refine ⟨h2, ?_⟩
      show s.op - 1 = isos (cutI s.es)
      omega
theorem Ok.pop {b : Nat} {s : St} (h : Ok b s) : Ok b (popS s) := by
  unfold popS
  split
  · exact h
  · split
    · exact ⟨h.chain, h.count⟩
    · split
      · exact h
      · rename_i hn
        refine ⟨h.chain.off (fun e => hn (.inr e)), ?_⟩
        have h1 := h.count
        obtain ⟨es, li, ld, op⟩ := s
        cases es with
        | nil => exact h1
        | cons e r =>
          simp only [top, List.headD_cons] at hn
          simp only [List.tail_cons]
          simp only [isos] at h1
          rw [if_neg (fun e => hn (.inl e))] at h1
          exact h1
theorem Ok.close {b : Nat} {s : St} (h : Ok b s) (c : Int) : Ok b (closeS c s) := by
  unfold closeS
  split
  · exact h.pop
  · split
    · exact h.end_
    · exact h
theorem Ok.open_ {b : Nat} {s : St} (h : Ok b s) (c : Int) (l : List Int) : Ok b (openS c l s) := by
  unfold openS
  repeat' split
  all_goals first
    | exact h
    | exact h.begin_ _
    | exact h.embed _ (.inl rfl)
    | exact h.embed _ (.inr (.inl rfl))
    | exact h.embed _ (.inr (.inr rfl))

/-- Counts grow by one at most. -/
def Few (k : Nat) (s : St) : Prop := s.li ≤ k ∧ s.ld ≤ k
theorem Few.close {k : Nat} {s : St} (h : Few k s) (c : Int) : Few k (closeS c s) := by
  obtain ⟨h1, h2⟩ := h
  unfold closeS popS endS Few
  repeat' split
  all_goals (constructor <;> (try dsimp only) <;> omega)
theorem Few.open_ {k : Nat} {s : St} (h : Few k s) (c : Int) (l : List Int) : Few (k + 1) (openS c l s) := by
  obtain ⟨h1, h2⟩ := h
  unfold openS embedS beginS push Few
  repeat' split
  all_goals (constructor <;> (try dsimp only) <;> omega)
end Go.Proofs.Ytehndhkcmccpmaa.Lv
