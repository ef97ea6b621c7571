/-
  Several texts in one, each with its own remark: CuRows, WrWd, BaPlain, LvPlain, SqPlain, SqFold, SqLev, SqIso, BiIns, BiRes, WkPlain.
-/
import Derived.Laws.Bits128
import Derived.Test.YtlocnjenkanmpaaDoorM0
import Derived.Test.YtlocnjenkanmpaaDoorRows

/-
  Rows of clusters in memory, of the call's own or of what came in: small facts.
-/
set_option linter.unusedVariables false
namespace Go.Proofs.YtlocnjenkanmpaaDoor.Ku
open Go.RowKit Go.Lib
def cellsC (l : List C6) : List Value := l.flatMap fun x => [.int .i64 x.a, .int .i64 x.z, .int .i64 x.f, .int .i64 x.t, .int .i64 x.w, .int .i64 x.c]
theorem cellsC_len (l : List C6) : (cellsC l).length = l.length * 6 := by
  induction l with
  | nil => rfl
  | cons r l ih => simp [cellsC] at ih ⊢; omega
theorem cellsC_snoc (l : List C6) (x : C6) : cellsC (l ++ [x]) = cellsC l ++ [.int .i64 x.a, .int .i64 x.z, .int .i64 x.f, .int .i64 x.t, .int .i64 x.w, .int .i64 x.c] := by simp [cellsC]
theorem cellsC_at : ∀ (l : List C6) (k : Nat) (hk : k < l.length), (cellsC l)[k * 6]? = some (.int .i64 l[k].a) ∧ (cellsC l)[k * 6 + 1]? = some (.int .i64 l[k].z) ∧ (cellsC l)[k * 6 + 2]? = some (.int .i64 l[k].f) ∧ (cellsC l)[k * 6 + 3]? = some (.int .i64 l[k].t) ∧ (cellsC l)[k * 6 + 4]? = some (.int .i64 l[k].w) ∧ (cellsC l)[k * 6 + 5]? = some (.int .i64 l[k].c)
  | r :: l, 0, _ => ⟨rfl, rfl, rfl, rfl, rfl, rfl⟩
  | r :: l, k + 1, hk => by
    have := cellsC_at l k (by simpa using hk)
    rw [show (k + 1) * 6 = k * 6 + 6 from by omega]
    exact this
/-- A row of clusters. -/
def CuAt (w : World) (A : Option Addr) (l : List C6) : Prop :=
  l = [] ∨ ∃ b off, A = some ⟨b, off, none⟩ ∧ b < w.heap.size ∧ ∀ k (hk : k < l.length), w.cell? ⟨b, off + k * 6, none⟩ = some (.int .i64 l[k].a) ∧ w.cell? ⟨b, off + k * 6 + 1, none⟩ = some (.int .i64 l[k].z) ∧ w.cell? ⟨b, off + k * 6 + 2, none⟩ = some (.int .i64 l[k].f) ∧ w.cell? ⟨b, off + k * 6 + 3, none⟩ = some (.int .i64 l[k].t) ∧ w.cell? ⟨b, off + k * 6 + 4, none⟩ = some (.int .i64 l[k].w) ∧ w.cell? ⟨b, off + k * 6 + 5, none⟩ = some (.int .i64 l[k].c)
theorem CuAt.below {w w' : World} {A : Option Addr} {l : List C6} (h : CuAt w A l) (hb : Below w.heap.size w w') : CuAt w' A l := by
  rcases h with h | ⟨b, off, hA, hlt, hc⟩
  · exact .inl h
  · refine .inr ⟨b, off, hA, Nat.lt_of_lt_of_le hlt hb.size, fun k hk => ?_⟩
    obtain ⟨h0, h1, h2, h3, h4, h5⟩ := hc k hk
    exact ⟨(hb.cell (p := ⟨b, off + k * 6, none⟩) hlt).trans h0, (hb.cell (p := ⟨b, off + k * 6 + 1, none⟩) hlt).trans h1, (hb.cell (p := ⟨b, off + k * 6 + 2, none⟩) hlt).trans h2, (hb.cell (p := ⟨b, off + k * 6 + 3, none⟩) hlt).trans h3, (hb.cell (p := ⟨b, off + k * 6 + 4, none⟩) hlt).trans h4, (hb.cell (p := ⟨b, off + k * 6 + 5, none⟩) hlt).trans h5⟩
theorem CuAt.at_ {w : World} {A : Option Addr} {l : List C6} (h : CuAt w A l) {k : Nat} (hk : k < l.length) : ∃ b off, A = some ⟨b, off, none⟩ ∧ b < w.heap.size ∧ w.cell? ⟨b, off + k * 6, none⟩ = some (.int .i64 l[k].a) ∧ w.cell? ⟨b, off + k * 6 + 1, none⟩ = some (.int .i64 l[k].z) ∧ w.cell? ⟨b, off + k * 6 + 2, none⟩ = some (.int .i64 l[k].f) ∧ w.cell? ⟨b, off + k * 6 + 3, none⟩ = some (.int .i64 l[k].t) ∧ w.cell? ⟨b, off + k * 6 + 4, none⟩ = some (.int .i64 l[k].w) ∧ w.cell? ⟨b, off + k * 6 + 5, none⟩ = some (.int .i64 l[k].c) := by
  rcases h with rfl | ⟨b, off, hA, hlt, hc⟩
  · simp at hk
  · obtain ⟨h0, h1, h2, h3, h4, h5⟩ := hc k hk
    exact ⟨b, off, hA, hlt, h0, h1, h2, h3, h4, h5⟩
theorem cuAt_own {w : World} {B : Nat} {t : TypeId} {v : Value} {l : List C6} (h : w.ownsRow B t 6 v l.length (cellsC l)) : ∃ A c, v = .slice A l.length c ∧ CuAt w A l := by
  have hc := @World.ownsRow.cells _ _ _ _ _ _ _ h
  rcases h.2 with ⟨rfl, hn⟩ | ⟨g, cap, cur, rfl, _, hg, _⟩
  · exact ⟨none, 0, by rw [hn], .inl (List.eq_nil_of_length_eq_zero hn)⟩
  · refine ⟨_, cap, rfl, .inr ⟨g, 0, rfl, (Array.getElem?_eq_some_iff.1 hg).1, fun k hk => ?_⟩⟩
    obtain ⟨h0, h1, h2, h3, h4, h5⟩ := cellsC_at l k hk
    refine ⟨?_, ?_, ?_, ?_, ?_, ?_⟩
    · have := hc (g := g) rfl _ _ h0; rw [add_off] at this; exact this
    · have := hc (g := g) rfl _ _ h1; rw [add_off] at this; exact this
    · have := hc (g := g) rfl _ _ h2; rw [add_off] at this; exact this
    · have := hc (g := g) rfl _ _ h3; rw [add_off] at this; exact this
    · have := hc (g := g) rfl _ _ h4; rw [add_off] at this; exact this
    · have := hc (g := g) rfl _ _ h5; rw [add_off] at this; exact this
theorem infoC : (Tryd.prog.info? 40).map (fun i => (i.zero, i.size, i.bytes)) = some (some (.agg #[.int .i64 0, .int .i64 0, .int .i64 0, .int .i64 0, .int .i64 0, .int .i64 0]), 6, 48) := by kernel_rfl
end Go.Proofs.YtlocnjenkanmpaaDoor.Ku

/-
  Clusters by how wide they are, plainly; a part of a row of clusters in memory. No program in it.
-/
set_option linter.unusedVariables false
namespace Go.Proofs.YtlocnjenkanmpaaDoor.Wr
open Go Go.RowKit Go.Lib Go.Proofs.YtlocnjenkanmpaaDoor.Ku
def d6 : C6 := ⟨0, 0, 0, 0, 0, 0⟩
theorem getD_at {l : List C6} {i : Nat} (h : i < l.length) : l.getD i d6 = l[i] := by simp [List.getD, List.getElem?_eq_getElem h]
theorem part_len {l : List C6} {f k : Nat} (h : f + k ≤ l.length) : ((l.drop f).take k).length = k := by
  rw [List.length_take, List.length_drop]
  omega
theorem cu_part {w : World} {l : List C6} {b off : Nat} (h : CuAt w (some ⟨b, off, none⟩) l) (f k : Nat) (hk : f + k ≤ l.length) : CuAt w (some ⟨b, off + f * 6, none⟩) ((l.drop f).take k) := by
  rcases h with rfl | ⟨b', off', e, hlt, hc⟩
  · exact .inl (by simp)
  · injection e with e
    injection e with e1 e2
    subst e1 e2
    refine .inr ⟨b, off + f * 6, rfl, hlt, fun i hi => ?_⟩
    have hik : i < k := by
      rw [part_len hk] at hi
      exact hi
    have hl : f + i < l.length := by omega
    have e : ((l.drop f).take k)[i] = l[f + i] := by
      rw [List.getElem_take, List.getElem_drop]
    rw [e]
    have := hc (f + i) hl
    rw [show off + (f + i) * 6 = off + f * 6 + i * 6 from by omega] at this
    exact this
end Go.Proofs.YtlocnjenkanmpaaDoor.Wr

/-
  Isolates among classes, plainly: the end of an initiator, the stack of what is open, what Match answers, the level; and the facts about them that the statements ask. No program in it.
-/
set_option linter.unusedVariables false
namespace Go.Proofs.YtlocnjenkanmpaaDoor.Ba
def isI (c : Int) : Bool := c == 19 || (c == 20 || c == 21)
def isP (c : Int) : Bool := c == 22
theorem isI_not_isP {c : Int} (h : isI c = true) : isP c = false := by
  simp only [isI, Bool.or_eq_true, beq_iff_eq] at h
  simp only [isP, beq_eq_false_iff_ne, ne_eq]
  omega
/-- How far the PDI stands that ends what is open at this depth; the rest's length, if there is none. -/
def endL : List Int → Nat → Nat
  | [], _ => 0
  | c :: l, d => if isP c then (match d with | 0 => 0 | d + 1 => 1 + endL l d) else if isI c then 1 + endL l (d + 1) else 1 + endL l d
/-- What ends something is a PDI. -/
theorem endL_at : ∀ (l : List Int) (d : Nat) (h : endL l d < l.length), isP l[endL l d] = true
  | [], d, h => by simp [endL] at h
  | c :: l, d, h => by
    by_cases hp : isP c = true
    · cases d with
      | zero =>
        have e : endL (c :: l) 0 = 0 := by simp only [endL]; rw [if_pos hp]
        simp only [e]
        exact hp
      | succ d =>
        have e : endL (c :: l) (d + 1) = endL l d + 1 := by simp only [endL]; rw [if_pos hp, Nat.add_comm]
        simp only [e] at h ⊢
        exact endL_at l d (by simpa using h)
    · by_cases hi : isI c = true
      · have e : endL (c :: l) d = endL l (d + 1) + 1 := by simp only [endL]; rw [if_neg hp, if_pos hi, Nat.add_comm]
        simp only [e] at h ⊢
        exact endL_at l (d + 1) (by simpa using h)
      · have e : endL (c :: l) d = endL l d + 1 := by simp only [endL]; rw [if_neg hp, if_neg hi, Nat.add_comm]
        simp only [e] at h ⊢
        exact endL_at l d (by simpa using h)
/-- The place of the PDI of the initiator at a place; how many classes there are, if it has none. -/
def endAt (l : List Int) (i : Nat) : Nat := i + 1 + endL (l.drop (i + 1)) 0
theorem endAt_gt (l : List Int) (i : Nat) : i < endAt l i := by unfold endAt; omega
theorem endAt_P (l : List Int) (i : Nat) (h : endAt l i < l.length) : isP l[endAt l i] = true := by
  have h1 := endL_at (l.drop (i + 1)) 0 (by rw [List.length_drop]; unfold endAt at h; omega)
  rw [List.getElem_drop] at h1
  exact h1
/-- One step on. -/
theorem endL_I (l : List Int) (k d : Nat) (h : k < l.length) (hi : isI l[k] = true) : k + endL (l.drop k) d = k + 1 + endL (l.drop (k + 1)) (d + 1) := by
  rw [List.drop_eq_getElem_cons h]
  simp only [endL]
  rw [if_neg (by rw [isI_not_isP hi]; decide), if_pos hi]
  omega
theorem endL_P (l : List Int) (k d : Nat) (h : k < l.length) (hp : isP l[k] = true) : k + endL (l.drop k) (d + 1) = k + 1 + endL (l.drop (k + 1)) d := by
  rw [List.drop_eq_getElem_cons h]
  simp only [endL]
  rw [if_pos hp]
  omega
theorem endL_P0 (l : List Int) (k : Nat) (h : k < l.length) (hp : isP l[k] = true) : k + endL (l.drop k) 0 = k := by
  rw [List.drop_eq_getElem_cons h]
  simp only [endL]
  rw [if_pos hp]
  omega
theorem endL_N (l : List Int) (k d : Nat) (h : k < l.length) (hp : isP l[k] = false) (hi : isI l[k] = false) : k + endL (l.drop k) d = k + 1 + endL (l.drop (k + 1)) d := by
  rw [List.drop_eq_getElem_cons h]
  simp only [endL]
  rw [if_neg (by rw [hp]; decide), if_neg (by rw [hi]; decide)]
  omega
/-- The initiators that are open behind so many classes, the last one first. -/
def stk (l : List Int) : Nat → List Nat
  | 0 => []
  | k + 1 => match l[k]? with
    | none => stk l k
    | some c => if isI c then k :: stk l k else if isP c then (stk l k).tail else stk l k
theorem stk_I {l : List Int} {k : Nat} (h : k < l.length) (hi : isI l[k] = true) : stk l (k + 1) = k :: stk l k := by
  simp only [stk, List.getElem?_eq_getElem h]
  rw [if_pos hi]
theorem stk_P {l : List Int} {k : Nat} (h : k < l.length) (hp : isP l[k] = true) : stk l (k + 1) = (stk l k).tail := by
  have hi : ¬ isI l[k] = true := fun h1 => by rw [isI_not_isP h1] at hp; cases hp
  simp only [stk, List.getElem?_eq_getElem h]
  rw [if_neg hi, if_pos hp]
theorem stk_N {l : List Int} {k : Nat} (h : k < l.length) (hp : isP l[k] = false) (hi : isI l[k] = false) : stk l (k + 1) = stk l k := by
  simp only [stk, List.getElem?_eq_getElem h]
  rw [if_neg (by rw [hi]; decide), if_neg (by rw [hp]; decide)]
/-- What is open at a depth is an initiator ahead, and ends where what is open at that depth does. -/
theorem stk_at (l : List Int) : ∀ (k : Nat), k ≤ l.length → ∀ (d t : Nat), (stk l k)[d]? = some t → t < k ∧ l[t]?.map isI = some true ∧ endAt l t = k + endL (l.drop k) d
  | 0, _, d, t, h => by simp [stk] at h
  | k + 1, hk, d, t, h => by
    have ih := stk_at l k (by omega)
    have hlt : k < l.length := by omega
    by_cases hi : isI l[k] = true
    · rw [stk_I hlt hi] at h
      cases d with
      | zero =>
        simp only [List.getElem?_cons_zero, Option.some.injEq] at h
        subst h
        exact ⟨by omega, by rw [List.getElem?_eq_getElem hlt]; simp [hi], rfl⟩
      | succ d =>
        simp only [List.getElem?_cons_succ] at h
        obtain ⟨h1, h2, h3⟩ := ih d t h
        exact ⟨by omega, h2, by rw [h3, endL_I l k d hlt hi]⟩
    · have hi : isI l[k] = false := by simpa using hi
      by_cases hp : isP l[k] = true
      · rw [stk_P hlt hp, List.getElem?_tail] at h
        obtain ⟨h1, h2, h3⟩ := ih (d + 1) t h
        exact ⟨by omega, h2, by rw [h3, endL_P l k d hlt hp]⟩
      · have hp : isP l[k] = false := by simpa using hp
        rw [stk_N hlt hp hi] at h
        obtain ⟨h1, h2, h3⟩ := ih d t h
        exact ⟨by omega, h2, by rw [h3, endL_N l k d hlt hp hi]⟩
/-- An initiator ahead that is not open has ended. -/
theorem stk_not (l : List Int) : ∀ (k : Nat), k ≤ l.length → ∀ (t : Nat) (ht : t < k) (hl : t < l.length), isI l[t] = true → t ∉ stk l k → endAt l t < k
  | 0, _, t, ht, _, _, _ => by omega
  | k + 1, hk, t, ht, hl, hit, hn => by
    have ih := stk_not l k (by omega) t
    have hlt : k < l.length := by omega
    by_cases e : t = k
    · subst e
      rw [stk_I hlt hit] at hn
      simp at hn
    · have htk : t < k := by omega
      by_cases hi : isI l[k] = true
      · rw [stk_I hlt hi] at hn
        have := ih htk hl hit (fun h => hn (List.mem_cons_of_mem _ h))
        omega
      · have hi : isI l[k] = false := by simpa using hi
        by_cases hp : isP l[k] = true
        · rw [stk_P hlt hp] at hn
          by_cases hm : t ∈ stk l k
          · cases hs : stk l k with
            | nil => rw [hs] at hm; cases hm
            | cons u r =>
              rw [hs] at hm hn
              rcases List.mem_cons.1 hm with rfl | hm
              · have h3 := (stk_at l k (by omega) 0 t (by rw [hs]; rfl)).2.2
                rw [endL_P0 l k hlt hp] at h3
                omega
              · exact absurd hm hn
          · have := ih htk hl hit hm
            omega
        · have hp : isP l[k] = false := by simpa using hp
          rw [stk_N hlt hp hi] at hn
          have := ih htk hl hit hn
          omega
theorem stk_mem {l : List Int} {k : Nat} (hk : k ≤ l.length) {t : Nat} (ht : t ∈ stk l k) : ∃ d, (stk l k)[d]? = some t ∧ t < k ∧ endAt l t = k + endL (l.drop k) d := by
  obtain ⟨d, hd⟩ := List.getElem?_of_mem ht
  obtain ⟨h1, _, h3⟩ := stk_at l k hk d t hd
  exact ⟨d, hd, h1, h3⟩
/-- An initiator ahead is open just if it has not ended. -/
theorem stk_iff {l : List Int} {k t : Nat} (hk : k ≤ l.length) (ht : t < k) (hl : t < l.length) (hi : isI l[t] = true) : t ∈ stk l k ↔ k ≤ endAt l t := by
  constructor
  · intro h
    obtain ⟨d, _, _, h3⟩ := stk_mem hk h
    omega
  · intro h
    by_cases hm : t ∈ stk l k
    · exact hm
    · have := stk_not l k hk t ht hl hi hm
      omega
theorem ends_only {l : List Int} {k i : Nat} (hk : k < l.length) (h : i < l.length) (hi : isI l[i] = true) (he : endAt l i = k) : ∃ r, stk l k = i :: r := by
  have hlt := endAt_gt l i
  have hp : isP l[k] = true := by subst he; exact endAt_P l i hk
  have hm : i ∈ stk l k := (stk_iff (by omega) (by omega) h hi).2 (by omega)
  obtain ⟨d, hd, _, h3⟩ := stk_mem (by omega) hm
  cases d with
  | zero =>
    cases hs : stk l k with
    | nil => rw [hs] at hd; simp at hd
    | cons u r =>
      rw [hs] at hd
      simp at hd
      exact ⟨r, by rw [hd]⟩
  | succ d =>
    rw [endL_P l k d hk hp] at h3
    omega
end Go.Proofs.YtlocnjenkanmpaaDoor.Ba

/-
  Explicit levels, plainly: the direction of an initiator, what is open, what each class does to it, the levels; and the facts about them that the statements ask. No program in it.
-/
set_option linter.unusedVariables false
namespace Go.Proofs.YtlocnjenkanmpaaDoor.Lv
open Go.Proofs.YtlocnjenkanmpaaDoor.Ba
/-- One that is open. -/
structure E where
  lev : Nat
  ov : Int
  iso : Bool
/-- What is open, the last one first; the isolates, the embeddings that are lost; the isolates that are open. -/
structure St where
  es : List E
  li : Nat
  ld : Nat
  op : Nat
def top (es : List E) : E := es.headD ⟨0, -1, false⟩
def push (e : E) (s : St) : St := ⟨e :: s.es, s.li, s.ld, s.op⟩
def cutI : List E → List E
  | [] => []
  | e :: r => if e.iso = true then r else cutI r
def remB (c : Int) : Bool := c == 16 || (c == 14 || (c == 17 || (c == 15 || (c == 18 || c == 9))))
/-- How many isolates are open. -/
def isos : List E → Nat
  | [] => 0
  | e :: r => if e.iso = true then isos r + 1 else isos r
/-- From the paragraph's on levels rise. -/
def Chain (b : Nat) : List E → Prop
  | [] => False
  | [e] => e = ⟨b, -1, false⟩
  | e :: t :: r => t.lev < e.lev ∧ e.lev ≤ 125 ∧ (e.ov = -1 ∨ e.ov = 0 ∨ e.ov = 1) ∧ Chain b (t :: r)
theorem Chain.len {b : Nat} : ∀ {es : List E}, Chain b es → es.length + b ≤ (top es).lev + 1
  | [], h => h.elim
  | [e], h => by
    have h : e = ⟨b, -1, false⟩ := h
    subst h
    simp [top]
    omega
  | e :: t :: r, h => by
    have h1 := Chain.len h.2.2.2
    have h2 := h.1
    simp [top] at h1 ⊢
    omega
theorem Chain.ov {b : Nat} : ∀ {es : List E}, Chain b es → (top es).ov = -1 ∨ (top es).ov = 0 ∨ (top es).ov = 1
  | [], h => h.elim
  | [e], h => by
    have h : e = ⟨b, -1, false⟩ := h
    subst h
    exact .inl rfl
  | e :: t :: r, h => h.2.2.1
theorem Chain.push {b : Nat} : ∀ {es : List E} {e : E}, Chain b es → (top es).lev < e.lev → e.lev ≤ 125 → (e.ov = -1 ∨ e.ov = 0 ∨ e.ov = 1) → Chain b (e :: es)
  | [], _, h, _, _, _ => h.elim
  | _ :: _, _, h, h1, h2, h3 => ⟨h1, h2, h3, h⟩
theorem Chain.cut {b : Nat} : ∀ {es : List E}, Chain b es → 0 < isos es → Chain b (cutI es) ∧ isos (cutI es) + 1 = isos es
  | [], h, _ => h.elim
  | [e], h, hp => by
    have h : e = ⟨b, -1, false⟩ := h
    subst h
    simp [isos] at hp
  | e :: t :: r, h, hp => by
    by_cases hi : e.iso = true
    · have e1 : cutI (e :: t :: r) = t :: r := by simp only [cutI]; rw [if_pos hi]
      rw [e1]
      refine ⟨h.2.2.2, ?_⟩
      conv => rhs; unfold isos
      rw [if_pos hi]
    · have e1 : cutI (e :: t :: r) = cutI (t :: r) := by
        conv => lhs; unfold cutI
        rw [if_neg hi]
      have e2 : isos (e :: t :: r) = isos (t :: r) := by
        conv => lhs; unfold isos
        rw [if_neg hi]
      rw [e2] at hp
      rw [e1, e2]
      exact Chain.cut h.2.2.2 hp
theorem Chain.off {b : Nat} : ∀ {es : List E}, Chain b es → es.length ≠ 1 → Chain b es.tail
  | [], h, _ => h.elim
  | [e], h, hn => by simp at hn
  | e :: t :: r, h, _ => h.2.2.2
/-- What is open is as it may be. -/
structure Ok (b : Nat) (s : St) : Prop where
  chain : Chain b s.es
  count : s.op = isos s.es
end Go.Proofs.YtlocnjenkanmpaaDoor.Lv

/-
  Sequences, plainly: kept places, what comes next in a sequence, runs, what is told of sequences; one answer alone is told so; how runs are made place by place. No program in it.
-/
set_option linter.unusedVariables false
namespace Go.Proofs.YtlocnjenkanmpaaDoor.Sq
open Go.Proofs.YtlocnjenkanmpaaDoor.Ba
/-- A run, or a sequence: three numbers, and places. -/
structure S4 where
  a : Int
  b : Int
  c : Int
  p : List Nat
/-- The level of a place; -1: it has none. -/
def L (z : List Int) (i : Nat) : Int := z.getD i (-1)
theorem L_lt {z : List Int} {i : Nat} (h : L z i ≠ -1) : i < z.length := by
  apply Classical.byContradiction
  intro hn
  exact h (by simp [L, List.getD, List.getElem?_eq_none (Nat.le_of_not_lt hn)])
/-- The kept place ahead of a place. -/
def dn (z : List Int) : Nat → Option Nat
  | 0 => none
  | i + 1 => if L z i = -1 then dn z i else some i
/-- The first kept place from a place on. -/
def up (z : List Int) (i : Nat) : Option Nat :=
  if i < z.length then (if L z i = -1 then up z (i + 1) else some i) else none
termination_by z.length - i
theorem dn_some {z : List Int} : ∀ {i j : Nat}, dn z i = some j → j < i ∧ L z j ≠ -1 ∧ ∀ k, j < k → k < i → L z k = -1
  | 0, j, h => by simp [dn] at h
  | i + 1, j, h => by
    unfold dn at h
    split at h
    · rename_i h0
      obtain ⟨h1, h2, h3⟩ := dn_some h
      refine ⟨by omega, h2, fun k hk hki => ?_⟩
      by_cases e : k = i
      · rw [e]; exact h0
      · exact h3 k hk (by omega)
    · rename_i h0
      injection h with h
      subst h
      exact ⟨by omega, h0, fun k hk hki => by omega⟩
theorem dn_none {z : List Int} : ∀ {i : Nat}, dn z i = none → ∀ k, k < i → L z k = -1
  | 0, h, k, hk => by omega
  | i + 1, h, k, hk => by
    unfold dn at h
    split at h
    · rename_i h0
      by_cases e : k = i
      · rw [e]; exact h0
      · exact dn_none h k (by omega)
    · cases h
theorem up_some {z : List Int} : ∀ (d : Nat) {i j : Nat}, z.length - i ≤ d → up z i = some j → i ≤ j ∧ L z j ≠ -1 ∧ ∀ k, i ≤ k → k < j → L z k = -1
  | d, i, j, hd, h => by
    rw [up] at h
    split at h
    · rename_i hi
      split at h
      · rename_i h0
        cases d with
        | zero => omega
        | succ d =>
          obtain ⟨h1, h2, h3⟩ := up_some d (by omega) h
          refine ⟨by omega, h2, fun k hk hkj => ?_⟩
          by_cases e : k = i
          · rw [e]; exact h0
          · exact h3 k (by omega) hkj
      · rename_i h0
        injection h with h
        subst h
        exact ⟨Nat.le_refl _, h0, fun k hk hkj => by omega⟩
    · cases h
theorem up_none {z : List Int} : ∀ (d : Nat) {i : Nat}, z.length - i ≤ d → up z i = none → ∀ k, i ≤ k → L z k = -1
  | d, i, hd, h, k, hk => by
    rw [up] at h
    split at h
    · rename_i hi
      split at h
      · rename_i h0
        cases d with
        | zero => omega
        | succ d =>
          by_cases e : k = i
          · rw [e]; exact h0
          · exact up_none d (by omega) h k (by omega)
      · cases h
    · exact Classical.byContradiction fun hn => by have := L_lt hn; omega
theorem upS {z : List Int} {i j : Nat} (h : up z i = some j) : i ≤ j ∧ L z j ≠ -1 ∧ ∀ k, i ≤ k → k < j → L z k = -1 := up_some _ (Nat.le_refl _) h
theorem upN {z : List Int} {i : Nat} (h : up z i = none) : ∀ k, i ≤ k → L z k = -1 := up_none _ (Nat.le_refl _) h
theorem up_eq {z : List Int} {i j : Nat} (h1 : i ≤ j) (h2 : L z j ≠ -1) (h3 : ∀ k, i ≤ k → k < j → L z k = -1) : up z i = some j := by
  cases h : up z i with
  | none => exact absurd (upN h j h1) h2
  | some q =>
    obtain ⟨a, b, c⟩ := upS h
    have : q = j := by
      rcases Nat.lt_trichotomy q j with hq | hq | hq
      · exact absurd (h3 q a hq) b
      · exact hq
      · exact absurd (c j h1 hq) h2
    rw [this]
theorem dn_eq {z : List Int} {i j : Nat} (h1 : j < i) (h2 : L z j ≠ -1) (h3 : ∀ k, j < k → k < i → L z k = -1) : dn z i = some j := by
  cases h : dn z i with
  | none => exact absurd (dn_none h j h1) h2
  | some q =>
    obtain ⟨a, b, c⟩ := dn_some h
    have : q = j := by
      rcases Nat.lt_trichotomy q j with hq | hq | hq
      · exact absurd (c j hq h1) h2
      · exact hq
      · exact absurd (h3 q hq a) b
    rw [this]
theorem up_dn {z : List Int} {i j : Nat} (h : dn z j = some i) (hj : L z j ≠ -1) : up z (i + 1) = some j := by
  obtain ⟨a, b, c⟩ := dn_some h
  exact up_eq (by omega) hj fun k h1 h2 => c k (by omega) h2
/-- Does a place begin a run? -/
def begins (z : List Int) (q : Nat) : Bool := match dn z q with
  | none => true
  | some t => decide (L z t ≠ L z q)
def jump (c z : List Int) (i : Nat) : Option Nat := if isI (c.getD i 0) = true ∧ endAt c i < c.length ∧ begins z (endAt c i) = true then some (endAt c i) else none
/-- What comes behind a place in its sequence. -/
def nextS (c z : List Int) (i : Nat) : Option Nat := match up z (i + 1) with
  | some q => if L z q = L z i then some q else jump c z i
  | none => jump c z i
theorem jump_some {c z : List Int} {i q : Nat} (h : jump c z i = some q) : isI (c.getD i 0) = true ∧ endAt c i = q ∧ q < c.length ∧ begins z q = true := by
  unfold jump at h
  split at h
  · rename_i h0
    injection h with h
    subst h
    exact ⟨h0.1, rfl, h0.2⟩
  · cases h
theorem nextS_cases {c z : List Int} {i q : Nat} (h : nextS c z i = some q) : (up z (i + 1) = some q ∧ L z q = L z i) ∨ (jump c z i = some q ∧ ∀ r, up z (i + 1) = some r → L z r ≠ L z i) := by
  unfold nextS at h
  cases hu : up z (i + 1) with
  | none => rw [hu] at h; exact .inr ⟨h, fun r hr => by cases hr⟩
  | some r =>
    rw [hu] at h
    dsimp only at h
    split at h
    · rename_i h0
      injection h with h
      subst h
      exact .inl ⟨rfl, h0⟩
    · rename_i h0
      exact .inr ⟨h, fun r' hr => by injection hr with hr; subst hr; exact h0⟩
theorem nextS_gt {c z : List Int} {i q : Nat} (h : nextS c z i = some q) : i < q := by
  rcases nextS_cases h with ⟨h1, _⟩ | ⟨h1, _⟩
  · have := (upS h1).1; omega
  · obtain ⟨_, h2, _, _⟩ := jump_some h1
    have := endAt_gt c i
    omega
theorem nextS_same {c z : List Int} {i q : Nat} (h : up z (i + 1) = some q) (he : L z q = L z i) : nextS c z i = some q := by
  unfold nextS
  rw [h]
  dsimp only
  rw [if_pos he]
theorem nextS_jump {c z : List Int} {i : Nat} (h : ∀ q, up z (i + 1) = some q → L z q ≠ L z i) : nextS c z i = jump c z i := by
  unfold nextS
  cases hu : up z (i + 1) with
  | none => rfl
  | some q =>
    dsimp only
    rw [if_neg (h q hu)]
def firstB (c z : List Int) (i : Nat) : Bool := (List.range i).all fun k => L z k == -1 || nextS c z k != some i
theorem firstB_iff {c z : List Int} {i : Nat} : firstB c z i = true ↔ ∀ k, k < i → L z k ≠ -1 → nextS c z k ≠ some i := by
  simp only [firstB, List.all_eq_true, List.mem_range, Bool.or_eq_true, beq_iff_eq, bne_iff_ne, ne_eq]
  constructor
  · intro h k hk h1 h2
    rcases h k hk with h3 | h3
    · exact h1 h3
    · exact h3 h2
  · intro h k hk
    by_cases h1 : L z k = -1
    · exact .inl h1
    · exact .inr (h k hk h1)
/-- The direction of the greater one of two levels. -/
def way (a b : Int) : Int := if (max a b).tmod 2 = 0 then 0 else 1
def ahead (lv : Int) (z : List Int) (i : Nat) : Int := match dn z i with
  | none => lv
  | some q => L z q
def behind (c : List Int) (lv : Int) (z : List Int) (i : Nat) : Int :=
  if isI (c.getD i 0) = true ∧ endAt c i = c.length then lv else match up z (i + 1) with
  | none => lv
  | some q => L z q
def isHd (c z : List Int) (i : Nat) : Bool := L z i != -1 && firstB c z i
def headsTo (c z : List Int) (k : Nat) : List Nat := (List.range k).filter (isHd c z)
def hd (l : List Nat) : Nat := l.headD 0
def lst (l : List Nat) : Nat := l.getLastD 0
theorem lst_snoc (l : List Nat) (x : Nat) : lst (l ++ [x]) = x := by simp [lst]
theorem hd_append {l : List Nat} (r : List Nat) (h : l ≠ []) : hd (l ++ r) = hd l := by cases l <;> simp_all [hd]
theorem lst_append (l : List Nat) {r : List Nat} (h : r ≠ []) : lst (l ++ r) = lst r := by
  unfold lst
  rw [List.getLastD_eq_getLast?, List.getLastD_eq_getLast?, List.getLast?_append]
  cases hr : r.getLast? with
  | none => exact absurd (List.getLast?_eq_none_iff.1 hr) h
  | some x => rfl
theorem lst_mem {l : List Nat} (h : l ≠ []) : lst l ∈ l := by
  unfold lst
  rw [List.getLastD_eq_getLast?]
  cases hr : l.getLast? with
  | none => exact absurd (List.getLast?_eq_none_iff.1 hr) h
  | some x => exact List.mem_of_getLast? hr
/-- Each comes behind the one ahead of it. -/
def Chn (c z : List Int) : List Nat → Prop
  | [] => True
  | [_] => True
  | x :: y :: l => nextS c z x = some y ∧ Chn c z (y :: l)
structure One (c z : List Int) (lv : Int) (s : S4) : Prop where
  ne : s.p ≠ []
  chn : Chn c z s.p
  fin : nextS c z (lst s.p) = none
  ea : s.a = L z (hd s.p)
  eb : s.b = way (L z (hd s.p)) (ahead lv z (hd s.p))
  ec : s.c = way (L z (hd s.p)) (behind c lv z (lst s.p))
/-- These are the sequences. -/
structure SeqsOk (c z : List Int) (lv : Int) (T : List S4) : Prop where
  heads : T.map (fun s => hd s.p) = headsTo c z z.length
  each : ∀ s ∈ T, One c z lv s
/-- The kept places from one on, below another. -/
def kf (z : List Int) (f t : Nat) : List Nat := (List.range' f (t - f)).filter fun i => L z i != -1
theorem kf_same (z : List Int) (f : Nat) : kf z f f = [] := by simp [kf]
theorem kf_step {z : List Int} {f t : Nat} (h : f ≤ t) : kf z f (t + 1) = kf z f t ++ (if L z t = -1 then [] else [t]) := by
  unfold kf
  rw [show t + 1 - f = (t - f) + 1 from by omega, List.range'_concat, List.filter_append]
  congr 1
  rw [show f + 1 * (t - f) = t from by omega]
  by_cases h0 : L z t = -1
  · simp [h0]
  · simp [h0]
theorem kf_mem {z : List Int} {f t k : Nat} : k ∈ kf z f t ↔ f ≤ k ∧ k < t ∧ L z k ≠ -1 := by
  simp only [kf, List.mem_filter, List.mem_range'_1, bne_iff_ne, ne_eq]
  omega
theorem kf_ne {z : List Int} {f t : Nat} (h : f < t) (hf : L z f ≠ -1) : kf z f t ≠ [] := by
  intro e
  have : f ∈ kf z f t := kf_mem.2 ⟨Nat.le_refl _, h, hf⟩
  rw [e] at this
  cases this
theorem kf_lst {z : List Int} {f t : Nat} (h : f ≤ t) (ht : L z t ≠ -1) : lst (kf z f (t + 1)) = t := by
  rw [kf_step h, if_neg ht, lst_snoc]
theorem kf_hd {z : List Int} : ∀ {d f : Nat}, L z f ≠ -1 → hd (kf z f (f + 1 + d)) = f
  | 0, f, hf => by
    rw [Nat.add_zero, kf_step (Nat.le_refl _), kf_same, if_neg hf]
    rfl
  | d + 1, f, hf => by
    rw [show f + 1 + (d + 1) = (f + 1 + d) + 1 from by omega, kf_step (by omega), hd_append _ (kf_ne (by omega) hf)]
    exact kf_hd hf
structure RunOk (c z : List Int) (lv : Int) (f t : Nat) (r : S4) : Prop where
  le : f ≤ t
  kfi : L z f ≠ -1
  kt : L z t ≠ -1
  ep : r.p = kf z f (t + 1)
  same : ∀ k, f ≤ k → k ≤ t → L z k ≠ -1 → L z k = r.a
  beg : begins z f = true
  fin : ∀ q, up z (t + 1) = some q → L z q ≠ r.a
  eb : r.b = ahead lv z f
  ec : r.c = behind c lv z t
/-- Runs, one behind the other, from a place on, to another. -/
inductive Runs (c z : List Int) (lv : Int) : Nat → Nat → List S4 → Prop
  | nil (i : Nat) : Runs c z lv i i []
  | cons {i j f t : Nat} {r : S4} {R : List S4} : up z i = some f → RunOk c z lv f t r → Runs c z lv (t + 1) j R → Runs c z lv i j (r :: R)
theorem Runs.snoc {c z : List Int} {lv : Int} {i j f t : Nat} {r : S4} {R : List S4} (h : Runs c z lv i j R) (hu : up z j = some f) (hr : RunOk c z lv f t r) : Runs c z lv i (t + 1) (R ++ [r]) := by
  induction h with
  | nil i => exact .cons hu hr (.nil _)
  | cons h1 h2 h3 ih => exact .cons h1 h2 (ih hu)
/-- Is a place one of an initiator without a PDI? -/
def opn (c : List Int) (i : Nat) : Bool := decide (isI (c.getD i 0) = true ∧ endAt c i = c.length)
/-- One place more: a run for it, if it begins one; then the place. -/
def room (c z : List Int) (lv : Int) (R : List S4) (i : Nat) : List S4 := match R.getLast? with
  | none => [⟨L z i, lv, lv, []⟩]
  | some r => if r.a = L z i then R else (if opn c (lst r.p) = true then R else R.set (R.length - 1) ⟨r.a, r.b, L z i, r.p⟩) ++ [⟨L z i, r.a, lv, []⟩]
def putIn (R : List S4) (i : Nat) : List S4 := match R.getLast? with
  | none => []
  | some r => R.set (R.length - 1) ⟨r.a, r.b, r.c, r.p ++ [i]⟩
def stepR (c z : List Int) (lv : Int) (R : List S4) (i : Nat) : List S4 := putIn (room c z lv R i) i
theorem putIn_snoc (R : List S4) (r : S4) (i : Nat) : putIn (R ++ [r]) i = R ++ [⟨r.a, r.b, r.c, r.p ++ [i]⟩] := by
  unfold putIn
  rw [List.getLast?_concat]
  simp
theorem room_snoc (c z : List Int) (lv : Int) (R : List S4) (r : S4) (i : Nat) : room c z lv (R ++ [r]) i = if r.a = L z i then R ++ [r] else R ++ [⟨r.a, r.b, if opn c (lst r.p) = true then r.c else L z i, r.p⟩] ++ [⟨L z i, r.a, lv, []⟩] := by
  unfold room
  rw [List.getLast?_concat]
  dsimp only
  split
  · rfl
  · split
    · rfl
    · simp
/-- How runs are behind so many places. -/
def RSt (c z : List Int) (lv : Int) (i : Nat) (R : List S4) : Prop :=
  (R = [] ∧ ∀ k, k < i → L z k = -1) ∨ ∃ done r f j t, R = done ++ [r] ∧ Runs c z lv 0 j done ∧ up z j = some f ∧ f ≤ t ∧ t < i ∧ (∀ k, t < k → k < i → L z k = -1) ∧ L z f ≠ -1 ∧ L z t ≠ -1 ∧ r.p = kf z f (t + 1) ∧ (∀ k, f ≤ k → k ≤ t → L z k ≠ -1 → L z k = r.a) ∧ begins z f = true ∧ r.b = ahead lv z f ∧ r.c = lv
theorem RSt.step {c z : List Int} {lv : Int} {i : Nat} {R : List S4} (h : RSt c z lv i R) : RSt c z lv (i + 1) (if L z i = -1 then R else stepR c z lv R i) := by
  by_cases h0 : L z i = -1
  · rw [if_pos h0]
    rcases h with ⟨h1, h2⟩ | ⟨done, r, f, j, t, h1, h2, h3, h4, h5, h6, h7⟩
    · refine .inl ⟨h1, fun k hk => ?_⟩
      by_cases e : k = i
      · rw [e]; exact h0
      · exact h2 k (by omega)
    · refine .inr ⟨done, r, f, j, t, h1, h2, h3, h4, by omega, fun k h8 h9 => ?_, h7⟩
      by_cases e : k = i
      · rw [e]; exact h0
      · exact h6 k h8 (by omega)
  · rw [if_neg h0]
    rcases h with ⟨h1, h2⟩ | ⟨done, r, f, j, t, h1, h2, h3, h4, h5, h6, h7, h8, h9, h10, h11, h12, h13⟩
    · subst h1
      have hd : dn z i = none := by
        cases hd : dn z i with
        | none => rfl
        | some q => obtain ⟨a, b, _⟩ := dn_some hd; exact absurd (h2 q a) b
      refine .inr ⟨[], ⟨L z i, lv, lv, [i]⟩, i, 0, i, rfl, .nil _, up_eq (by omega) h0 fun k _ hk => h2 k hk, Nat.le_refl _, by omega, fun k _ _ => by omega, h0, h0, ?_, fun k hk1 hk2 _ => ?_, ?_, ?_, rfl⟩
      · rw [kf_step (Nat.le_refl _), kf_same, if_neg h0]; rfl
      · rw [show k = i from by omega]
      · unfold begins; rw [hd]
      · unfold ahead; rw [hd]
    · subst h1
      have hdn : dn z i = some t := dn_eq h5 h8 h6
      have hup : up z (t + 1) = some i := up_dn hdn h0
      unfold stepR
      rw [room_snoc]
      by_cases he : r.a = L z i
      · rw [if_pos he, putIn_snoc]
        refine .inr ⟨done, _, f, j, i, rfl, h2, h3, by omega, by omega, fun k _ _ => by omega, h7, h0, ?_, fun k hk1 hk2 hk3 => ?_, h11, h12, h13⟩
        · show r.p ++ [i] = _
          have hk : ∀ d, t + 1 + d ≤ i → kf z f (t + 1 + d) = kf z f (t + 1) := by
            intro d
            induction d with
            | zero => intro _; rfl
            | succ d ih =>
              intro hd
              rw [show t + 1 + (d + 1) = (t + 1 + d) + 1 from by omega, kf_step (by omega), if_pos (h6 _ (by omega) (by omega)), List.append_nil]
              exact ih (by omega)
          have hk' := hk (i - (t + 1)) (by omega)
          rw [show t + 1 + (i - (t + 1)) = i from by omega] at hk'
          rw [kf_step (by omega), if_neg h0, hk', h9]
        · show L z k = r.a
          by_cases hkt : k ≤ t
          · exact h10 k hk1 hkt hk3
          · by_cases e : k = i
            · rw [e, he]
            · exact absurd (h6 k (by omega) (by omega)) hk3
      · rw [if_neg he, putIn_snoc]
        have hrt : L z t = r.a := h10 t h4 (Nat.le_refl _) h8
        have hl : lst r.p = t := by rw [h9]; exact kf_lst h4 h8
        refine .inr ⟨_, _, i, t + 1, i, rfl, h2.snoc h3 (t := t) (r := ⟨r.a, r.b, if opn c (lst r.p) = true then r.c else L z i, r.p⟩) ⟨h4, h7, h8, h9, h10, h11, fun q hq => ?_, h12, ?_⟩, hup, Nat.le_refl _, by omega, fun k _ _ => by omega, h0, h0, ?_, fun k hk1 hk2 _ => ?_, ?_, ?_, rfl⟩
        · rw [hup] at hq
          injection hq with hq
          subst hq
          exact fun e => he e.symm
        · show (if opn c (lst r.p) = true then r.c else L z i) = _
          rw [hl]
          unfold behind opn
          by_cases ho : isI (c.getD t 0) = true ∧ endAt c t = c.length
          · rw [if_pos (by simpa using ho), if_pos ho, h13]
          · rw [if_neg (by simpa using ho), if_neg ho, hup]
        · show [] ++ [i] = _
          rw [kf_step (Nat.le_refl _), kf_same, if_neg h0]
        · show L z k = L z i
          rw [show k = i from by omega]
        · unfold begins
          rw [hdn]
          simp only [decide_eq_true_eq, ne_eq]
          rw [hrt]
          exact he
        · show r.a = _
          unfold ahead
          rw [hdn]
          exact hrt.symm
/-- The kept places. -/
def kept (z : List Int) : List Nat := kf z 0 z.length
end Go.Proofs.YtlocnjenkanmpaaDoor.Sq

/-
  How sequences are made of runs, one behind the other, with a map of what waits for its PDI; that what comes of it are the sequences. No program in it.
-/
set_option linter.unusedVariables false
namespace Go.Proofs.YtlocnjenkanmpaaDoor.Sq
open Go.Proofs.YtlocnjenkanmpaaDoor.Ba
theorem isI_lt {c : List Int} {i : Nat} (h : isI (c.getD i 0) = true) : i < c.length := by
  apply Classical.byContradiction
  intro hn
  rw [show c.getD i 0 = 0 from by simp [List.getD, List.getElem?_eq_none (Nat.le_of_not_lt hn)]] at h
  cases h
theorem end_inj {c : List Int} {i j : Nat} (hi : isI (c.getD i 0) = true) (hj : isI (c.getD j 0) = true) (h : endAt c i < c.length) (e : endAt c j = endAt c i) : i = j := by
  have li := isI_lt hi
  have lj := isI_lt hj
  have ei : c.getD i 0 = c[i] := by simp [List.getD, List.getElem?_eq_getElem li]
  have ej : c.getD j 0 = c[j] := by simp [List.getD, List.getElem?_eq_getElem lj]
  rw [ei] at hi
  rw [ej] at hj
  obtain ⟨r, hr⟩ := ends_only h li hi rfl
  obtain ⟨r', hr'⟩ := ends_only h lj hj e
  rw [hr] at hr'
  injection hr' with h1 _
/-- An initiator's PDI stands at its level. -/
def Iso (c z : List Int) : Prop := ∀ j, L z j ≠ -1 → isI (c.getD j 0) = true → endAt c j < c.length → L z (endAt c j) = L z j
theorem chn_append {c z : List Int} : ∀ {l r : List Nat}, Chn c z l → Chn c z r → l ≠ [] → r ≠ [] → nextS c z (lst l) = some (hd r) → Chn c z (l ++ r)
  | [], _, _, _, h, _, _ => absurd rfl h
  | _, [], _, _, _, h, _ => absurd rfl h
  | [x], y :: r, _, h2, _, _, h => ⟨by simpa [lst, hd] using h, h2⟩
  | x :: x2 :: l, y :: r, h1, h2, _, _, h => ⟨h1.1, chn_append (l := x2 :: l) h1.2 h2 (by simp) (by simp) (by simpa [lst, hd] using h)⟩
theorem chn_up {c z : List Int} : ∀ {l : List Nat}, Chn c z l → l.Pairwise (· < ·)
  | [], _ => List.Pairwise.nil
  | [x], _ => by simp
  | x :: y :: l, h => by
    have ih := chn_up h.2
    refine List.Pairwise.cons (fun q hq => ?_) ih
    have hxy := nextS_gt h.1
    rcases List.mem_cons.1 hq with rfl | hq
    · exact hxy
    · have := (List.pairwise_cons.1 ih).1 q hq
      omega
theorem kf_chn {c z : List Int} {f t : Nat} {a : Int} (hf : L z f ≠ -1) (hs : ∀ k, f ≤ k → k ≤ t → L z k ≠ -1 → L z k = a) : ∀ (d : Nat), f + d ≤ t → Chn c z (kf z f (f + 1 + d)) ∧ dn z (f + 1 + d) = some (lst (kf z f (f + 1 + d)))
  | 0, h => by
    rw [Nat.add_zero, kf_step (Nat.le_refl _), kf_same, if_neg hf]
    refine ⟨trivial, ?_⟩
    unfold dn
    rw [if_neg hf]
    rfl
  | d + 1, h => by
    obtain ⟨h1, h2⟩ := kf_chn (c := c) hf hs d (by omega)
    rw [show f + 1 + (d + 1) = (f + 1 + d) + 1 from by omega, kf_step (by omega)]
    by_cases h0 : L z (f + 1 + d) = -1
    · rw [if_pos h0, List.append_nil]
      refine ⟨h1, ?_⟩
      conv => lhs; unfold dn
      rw [if_pos h0]
      exact h2
    · rw [if_neg h0, lst_snoc]
      obtain ⟨a1, a2, _⟩ := dn_some h2
      have hne := kf_ne (t := f + 1 + d) (by omega) hf
      have hm := kf_mem.1 (lst_mem hne)
      refine ⟨chn_append h1 (r := [f + 1 + d]) trivial hne (by simp) (nextS_same (up_dn h2 h0) ?_), ?_⟩
      · show L z (f + 1 + d) = _
        rw [hs _ (by omega) (by omega) h0, hs _ hm.1 (by omega) a2]
      · conv => lhs; unfold dn
        rw [if_neg h0]
theorem RunOk.ne {c z : List Int} {lv : Int} {f t : Nat} {r : S4} (h : RunOk c z lv f t r) : r.p ≠ [] := by
  rw [h.ep]
  have := h.le
  exact kf_ne (by omega) h.kfi
theorem RunOk.hd {c z : List Int} {lv : Int} {f t : Nat} {r : S4} (h : RunOk c z lv f t r) : hd r.p = f := by
  rw [h.ep]
  have := h.le
  have e := kf_hd (d := t - f) h.kfi
  rw [show f + 1 + (t - f) = t + 1 from by omega] at e
  exact e
theorem RunOk.lst {c z : List Int} {lv : Int} {f t : Nat} {r : S4} (h : RunOk c z lv f t r) : lst r.p = t := by
  rw [h.ep]
  exact kf_lst h.le h.kt
theorem RunOk.chn {c z : List Int} {lv : Int} {f t : Nat} {r : S4} (h : RunOk c z lv f t r) : Chn c z r.p := by
  rw [h.ep]
  have := h.le
  have e := (kf_chn (c := c) (t := t) h.kfi h.same (t - f) (by omega)).1
  rw [show f + 1 + (t - f) = t + 1 from by omega] at e
  exact e
theorem RunOk.jump {c z : List Int} {lv : Int} {f t : Nat} {r : S4} (h : RunOk c z lv f t r) : nextS c z t = jump c z t :=
  nextS_jump fun q hq => by rw [h.same t h.le (Nat.le_refl _) h.kt]; exact h.fin q hq
theorem RunOk.mem {c z : List Int} {lv : Int} {f t : Nat} {r : S4} (h : RunOk c z lv f t r) {p : Nat} (hp : p ∈ r.p) : f ≤ p ∧ p ≤ t ∧ L z p ≠ -1 ∧ L z p = r.a := by
  rw [h.ep] at hp
  obtain ⟨h1, h2, h3⟩ := kf_mem.1 hp
  exact ⟨h1, by omega, h3, h.same p h1 (by omega) h3⟩
theorem headsTo_step (c z : List Int) (k : Nat) : headsTo c z (k + 1) = headsTo c z k ++ (if isHd c z k = true then [k] else []) := by
  unfold headsTo
  rw [List.range_succ, List.filter_append]
  congr 1
  by_cases h : isHd c z k = true
  · simp [h]
  · simp [h]
theorem RunOk.heads {c z : List Int} {lv : Int} {f t bd : Nat} {r : S4} (h : RunOk c z lv f t r) (hu : up z bd = some f) : headsTo c z (t + 1) = headsTo c z bd ++ (if firstB c z f = true then [f] else []) := by
  obtain ⟨u1, u2, u3⟩ := upS hu
  have e1 : ∀ d, bd + d ≤ f → headsTo c z (bd + d) = headsTo c z bd := by
    intro d
    induction d with
    | zero => intro _; rfl
    | succ d ih =>
      intro hd
      rw [show bd + (d + 1) = (bd + d) + 1 from by omega, headsTo_step, ih (by omega), if_neg, List.append_nil]
      unfold isHd
      rw [u3 _ (by omega) (by omega)]
      simp
  have e2 : ∀ d, f + d ≤ t → headsTo c z (f + 1 + d) = headsTo c z bd ++ (if firstB c z f = true then [f] else []) := by
    intro d
    induction d with
    | zero =>
      intro _
      have := e1 (f - bd) (by omega)
      rw [show bd + (f - bd) = f from by omega] at this
      rw [Nat.add_zero, headsTo_step, this]
      congr 1
      have : isHd c z f = firstB c z f := by
        unfold isHd
        have : (L z f != -1) = true := by simpa using h.kfi
        rw [this, Bool.true_and]
      rw [this]
    | succ d ih =>
      intro hd
      have hno : ¬ isHd c z (f + 1 + d) = true := by
        unfold isHd
        by_cases h0 : L z (f + 1 + d) = -1
        · rw [h0]; simp
        · obtain ⟨-, h2⟩ := kf_chn (c := c) (t := t) h.kfi h.same d (by omega)
          obtain ⟨a1, a2, _⟩ := dn_some h2
          have hm := kf_mem.1 (lst_mem (kf_ne (t := f + 1 + d) (by omega) h.kfi))
          have hx := nextS_same (c := c) (up_dn h2 h0) (by rw [h.same _ (by omega) (by omega) h0, h.same _ hm.1 (by omega) a2])
          intro hb
          have hb2 : firstB c z (f + 1 + d) = true := by
            have := Bool.and_eq_true_iff.1 hb
            exact this.2
          exact firstB_iff.1 hb2 _ a1 a2 hx
      rw [show f + 1 + (d + 1) = (f + 1 + d) + 1 from by omega, headsTo_step, ih (by omega), if_neg hno, List.append_nil]
  have := h.le
  have e := e2 (t - f) (by omega)
  rw [show f + 1 + (t - f) = t + 1 from by omega] at e
  exact e
/-- A sequence as far as it has come. -/
structure Part (c z : List Int) (lv : Int) (bd : Nat) (s : S4) : Prop where
  ne : s.p ≠ []
  chn : Chn c z s.p
  lt : ∀ p ∈ s.p, p < bd ∧ L z p ≠ -1 ∧ L z p = s.a
  fin : nextS c z (lst s.p) = jump c z (lst s.p)
  out : ∀ q, nextS c z (lst s.p) = some q → bd ≤ q
  ea : s.a = L z (hd s.p)
  eb : s.b = way (L z (hd s.p)) (ahead lv z (hd s.p))
  ec : s.c = way (L z (hd s.p)) (behind c lv z (lst s.p))
structure SInv (c z : List Int) (lv : Int) (bd : Nat) (T : List S4) (f : Nat → Option Nat) : Prop where
  each : ∀ (m : Nat) (s : S4), T[m]? = some s → Part c z lv bd s
  heads : T.map (fun s => hd s.p) = headsTo c z bd
  uniq : ∀ (i j : Nat) (s s' : S4) (p : Nat), T[i]? = some s → T[j]? = some s' → p ∈ s.p → p ∈ s'.p → i = j
  cover : ∀ p, p < bd → L z p ≠ -1 → ∃ (i : Nat) (s : S4), T[i]? = some s ∧ p ∈ s.p
  w1 : ∀ (p m : Nat), bd ≤ p → f p = some m → ∃ s : S4, T[m]? = some s ∧ isI (c.getD (lst s.p) 0) = true ∧ endAt c (lst s.p) = p ∧ p < c.length
  w2 : ∀ (m : Nat) (s : S4), T[m]? = some s → isI (c.getD (lst s.p) 0) = true → endAt c (lst s.p) < c.length → bd ≤ endAt c (lst s.p) → f (endAt c (lst s.p)) = some m
/-- What waits, when a run is placed. -/
def updW (c : List Int) (f : Nat → Option Nat) (t m : Nat) : Nat → Option Nat := fun p => if isI (c.getD t 0) = true ∧ endAt c t < c.length ∧ p = endAt c t then some m else f p
theorem jump_ge {c z : List Int} {lv : Int} {f0 t : Nat} {r : S4} (hr : RunOk c z lv f0 t r) : ∀ q, nextS c z t = some q → t + 1 ≤ q := fun q hq => nextS_gt hq
/-- What begins a run is not within this one. -/
theorem begin_out {c z : List Int} {lv : Int} {bd f0 t q : Nat} {r : S4} (hu : up z bd = some f0) (hr : RunOk c z lv f0 t r) (hq1 : bd ≤ q) (hq2 : q ≠ f0) (j4 : begins z q = true) (hqk : L z q ≠ -1) : t + 1 ≤ q := by
  obtain ⟨u1, u2, u3⟩ := upS hu
  rcases Nat.lt_or_ge t q with h5 | h5
  · omega
  · exfalso
    rcases Nat.lt_or_ge q f0 with h7 | h7
    · exact hqk (u3 q hq1 h7)
    · have h8 : f0 < q := by omega
      obtain ⟨-, h9⟩ := kf_chn (c := c) (t := t) hr.kfi hr.same (q - f0 - 1) (by omega)
      rw [show f0 + 1 + (q - f0 - 1) = q from by omega] at h9
      unfold begins at j4
      rw [h9] at j4
      have hm := kf_mem.1 (lst_mem (kf_ne (t := q) h8 hr.kfi))
      simp only [decide_eq_true_eq, ne_eq] at j4
      exact j4 (by rw [hr.same _ hm.1 (by omega) hm.2.2, hr.same _ (by omega) h5 hqk])
theorem SInv.grown {c z : List Int} {lv : Int} (hiso : Iso c z) {bd f0 t m : Nat} {T : List S4} {f : Nat → Option Nat} {r s : S4} (h : SInv c z lv bd T f) (hu : up z bd = some f0) (hr : RunOk c z lv f0 t r) (hf : f f0 = some m) (hs : T[m]? = some s) :
    SInv c z lv (t + 1) (T.set m ⟨s.a, s.b, way r.a r.c, s.p ++ r.p⟩) (updW c f t m) := by
  obtain ⟨u1, u2, u3⟩ := upS hu
  have hle := hr.le
  obtain ⟨s', hs', hi, he, hfl⟩ := h.w1 f0 m u1 hf
  rw [hs] at hs'
  injection hs' with hs'
  subst hs'
  have hp := h.each m s hs
  have hml : m < T.length := (List.getElem?_eq_some_iff.1 hs).1
  have hlm := hp.lt _ (lst_mem hp.ne)
  have hnext : nextS c z (lst s.p) = some f0 := by
    rw [hp.fin]
    unfold jump
    rw [he, if_pos ⟨hi, hfl, hr.beg⟩]
  have hra : r.a = s.a := by
    have h1 := hiso _ hlm.2.1 hi (by rw [he]; exact hfl)
    rw [he] at h1
    rw [← hr.same f0 (Nat.le_refl _) hle u2, h1, hlm.2.2]
  have hfb : ¬ firstB c z f0 = true := fun hb => firstB_iff.1 hb _ (by omega) hlm.2.1 hnext
  have hnew : ∀ p ∈ r.p, bd ≤ p := fun p hp => by have := (hr.mem hp).1; omega
  have hother : ∀ i s1, i ≠ m → (T.set m ⟨s.a, s.b, way r.a r.c, s.p ++ r.p⟩)[i]? = some s1 → T[i]? = some s1 := fun i s1 hi h1 => by
    rwa [List.getElem?_set_ne (fun e => hi e.symm)] at h1
  have hself : ∀ s1, (T.set m ⟨s.a, s.b, way r.a r.c, s.p ++ r.p⟩)[m]? = some s1 → s1 = ⟨s.a, s.b, way r.a r.c, s.p ++ r.p⟩ := fun s1 h1 => by
    rw [List.getElem?_set_self hml] at h1
    injection h1 with h1
    exact h1.symm
  have hinj : ∀ i s1, i ≠ m → T[i]? = some s1 → ∀ q, nextS c z (lst s1.p) = some q → q ≠ f0 := fun i s1 hi2 h1 q hq e => by
    subst e
    have hp1 := h.each i s1 h1
    rw [hp1.fin] at hq
    obtain ⟨j1, j2, j3, _⟩ := jump_some hq
    have e2 := end_inj j1 hi (by rw [j2]; exact j3) (by rw [j2]; exact he)
    exact hi2 (h.uniq i m s1 s (lst s1.p) h1 hs (lst_mem hp1.ne) (by rw [e2]; exact lst_mem hp.ne))
  refine ⟨fun i s1 h1 => ?_, ?_, fun i j s1 s2 p h1 h2 hp1 hp2 => ?_, fun p hpt h0 => ?_, fun p m1 hpt h1 => ?_, fun i s1 h1 hi1 hl1 hb1 => ?_⟩
  · by_cases e : i = m
    · subst e
      rw [hself s1 h1]
      refine ⟨by simp [hp.ne], chn_append hp.chn hr.chn hp.ne hr.ne (by rw [hr.hd]; exact hnext), fun p hpm => ?_, ?_, ?_, ?_, ?_, ?_⟩
      · rcases List.mem_append.1 hpm with hpm | hpm
        · obtain ⟨a1, a2, a3⟩ := hp.lt p hpm
          exact ⟨by omega, a2, a3⟩
        · obtain ⟨a1, a2, a3, a4⟩ := hr.mem hpm
          exact ⟨by omega, a3, by rw [a4, hra]⟩
      · show nextS c z (lst (s.p ++ r.p)) = jump c z (lst (s.p ++ r.p))
        rw [lst_append _ hr.ne, hr.lst]
        exact hr.jump
      · show ∀ q, nextS c z (lst (s.p ++ r.p)) = some q → t + 1 ≤ q
        rw [lst_append _ hr.ne, hr.lst]
        exact jump_ge hr
      · show s.a = L z (hd (s.p ++ r.p))
        rw [hd_append _ hp.ne]
        exact hp.ea
      · show s.b = way (L z (hd (s.p ++ r.p))) (ahead lv z (hd (s.p ++ r.p)))
        rw [hd_append _ hp.ne]
        exact hp.eb
      · show way r.a r.c = way (L z (hd (s.p ++ r.p))) (behind c lv z (lst (s.p ++ r.p)))
        rw [hd_append _ hp.ne, lst_append _ hr.ne, hr.lst, ← hp.ea, hra, hr.ec]
    · have h2 := hother i s1 e h1
      have hp1 := h.each i s1 h2
      refine ⟨hp1.ne, hp1.chn, fun p hpm => ?_, hp1.fin, fun q hq => ?_, hp1.ea, hp1.eb, hp1.ec⟩
      · obtain ⟨a1, a2, a3⟩ := hp1.lt p hpm
        exact ⟨by omega, a2, a3⟩
      · have hq1 := hp1.out q hq
        have hq2 := hinj i s1 e h2 q hq
        rw [hp1.fin] at hq
        obtain ⟨j1, j2, j3, j4⟩ := jump_some hq
        have h6 := hiso _ (hp1.lt _ (lst_mem hp1.ne)).2.1 j1 (by rw [j2]; exact j3)
        rw [j2] at h6
        exact begin_out hu hr hq1 hq2 j4 (by rw [h6]; exact (hp1.lt _ (lst_mem hp1.ne)).2.1)
  · rw [hr.heads hu, if_neg hfb, List.append_nil, ← h.heads]
    apply List.ext_getElem?
    intro i
    simp only [List.getElem?_map, List.getElem?_set]
    by_cases e : m = i
    · subst e
      rw [if_pos rfl, if_pos hml, hs]
      simp [hd_append _ hp.ne]
    · rw [if_neg e]
  · have hwhere : ∀ i s1, (T.set m ⟨s.a, s.b, way r.a r.c, s.p ++ r.p⟩)[i]? = some s1 → p ∈ s1.p → (∃ s2, T[i]? = some s2 ∧ p ∈ s2.p) ∨ (i = m ∧ p ∈ r.p) := fun i s1 h3 h4 => by
      by_cases e : i = m
      · subst e
        rw [hself s1 h3] at h4
        rcases List.mem_append.1 h4 with h4 | h4
        · exact .inl ⟨s, hs, h4⟩
        · exact .inr ⟨rfl, h4⟩
      · exact .inl ⟨s1, hother i s1 e h3, h4⟩
    rcases hwhere i s1 h1 hp1 with ⟨s3, h3, h4⟩ | ⟨h3, h4⟩
    · rcases hwhere j s2 h2 hp2 with ⟨s5, h5, h6⟩ | ⟨h5, h6⟩
      · exact h.uniq i j s3 s5 p h3 h5 h4 h6
      · have := ((h.each i s3 h3).lt p h4).1
        have := hnew p h6
        omega
    · rcases hwhere j s2 h2 hp2 with ⟨s5, h5, h6⟩ | ⟨h5, h6⟩
      · have := ((h.each j s5 h5).lt p h6).1
        have := hnew p h4
        omega
      · rw [h3, h5]
  · rcases Nat.lt_or_ge p bd with h1 | h1
    · obtain ⟨i, s1, h2, h3⟩ := h.cover p h1 h0
      by_cases e : i = m
      · subst e
        rw [hs] at h2
        injection h2 with h2
        subst h2
        exact ⟨i, _, List.getElem?_set_self hml, List.mem_append_left _ h3⟩
      · exact ⟨i, s1, by rw [List.getElem?_set_ne (fun e' => e e'.symm)]; exact h2, h3⟩
    · have h2 : f0 ≤ p := by
        rcases Nat.lt_or_ge p f0 with h2 | h2
        · exact absurd (u3 p h1 h2) h0
        · exact h2
      refine ⟨m, _, List.getElem?_set_self hml, List.mem_append_right _ ?_⟩
      rw [hr.ep]
      exact kf_mem.2 ⟨h2, hpt, h0⟩
  · unfold updW at h1
    split at h1
    · rename_i h2
      injection h1 with h1
      subst h1
      refine ⟨_, List.getElem?_set_self hml, ?_⟩
      show isI (c.getD (lst (s.p ++ r.p)) 0) = true ∧ endAt c (lst (s.p ++ r.p)) = p ∧ p < c.length
      rw [lst_append _ hr.ne, hr.lst]
      exact ⟨h2.1, h2.2.2.symm, by rw [h2.2.2]; exact h2.2.1⟩
    · rename_i h2
      obtain ⟨s1, h3, h4, h5, h6⟩ := h.w1 p m1 (by omega) h1
      by_cases e : m1 = m
      · subst e
        rw [hs] at h3
        injection h3 with h3
        subst h3
        omega
      · exact ⟨s1, by rw [List.getElem?_set_ne (fun e' => e e'.symm)]; exact h3, h4, h5, h6⟩
  · by_cases e : i = m
    · subst e
      have h2 := hself s1 h1
      subst h2
      have h3 : lst (s.p ++ r.p) = t := by rw [lst_append _ hr.ne, hr.lst]
      simp only [h3] at hi1 hl1 hb1 ⊢
      unfold updW
      rw [if_pos ⟨hi1, hl1, rfl⟩]
    · have h2 := hother i s1 e h1
      have hp1 := h.each i s1 h2
      unfold updW
      rw [if_neg]
      · exact h.w2 i s1 h2 hi1 hl1 (by omega)
      · rintro ⟨a1, a2, a3⟩
        have e2 := end_inj hi1 a1 hl1 a3.symm
        have := (hp1.lt _ (lst_mem hp1.ne)).1
        omega
/-- All that is told of sequences. -/
structure SeqsAll (c z : List Int) (lv : Int) (T : List S4) : Prop where
  ok : SeqsOk c z lv T
  uniq : ∀ (i j : Nat) (s s' : S4) (p : Nat), T[i]? = some s → T[j]? = some s' → p ∈ s.p → p ∈ s'.p → i = j
  cover : ∀ p, L z p ≠ -1 → ∃ (i : Nat) (s : S4), T[i]? = some s ∧ p ∈ s.p
  lev : ∀ s ∈ T, ∀ p ∈ s.p, L z p ≠ -1 ∧ L z p = s.a
  up : ∀ s ∈ T, s.p.Pairwise (· < ·)
theorem SInv.all {c z : List Int} {lv : Int} (hiso : Iso c z) {bd : Nat} {T : List S4} {f : Nat → Option Nat} (h : SInv c z lv bd T f) (hu : up z bd = none) : SeqsAll c z lv T := by
  have hN := upN hu
  have hk : ∀ p, L z p ≠ -1 → p < bd := fun p hp => by
    rcases Nat.lt_or_ge p bd with h1 | h1
    · exact h1
    · exact absurd (hN p h1) hp
  have hheads : ∀ d, headsTo c z (bd + d) = headsTo c z bd := by
    intro d
    induction d with
    | zero => rfl
    | succ d ih =>
      rw [show bd + (d + 1) = (bd + d) + 1 from by omega, headsTo_step, ih, if_neg, List.append_nil]
      unfold isHd
      rw [hN _ (by omega)]
      simp
  have hlen : headsTo c z bd = headsTo c z z.length := by
    rcases Nat.lt_or_ge bd z.length with h1 | h1
    · have := hheads (z.length - bd)
      rw [show bd + (z.length - bd) = z.length from by omega] at this
      exact this.symm
    · have hback : ∀ d, headsTo c z (z.length + d) = headsTo c z z.length := by
        intro d
        induction d with
        | zero => rfl
        | succ d ih =>
          rw [show z.length + (d + 1) = (z.length + d) + 1 from by omega, headsTo_step, ih, if_neg, List.append_nil]
          unfold isHd
          have : L z (z.length + d) = -1 := Classical.byContradiction fun hn => by have := L_lt hn; omega
          rw [this]
          simp
      have := hback (bd - z.length)
      rw [show z.length + (bd - z.length) = bd from by omega] at this
      exact this
  have hpart : ∀ s ∈ T, ∃ m, T[m]? = some s := fun s hs => by
    obtain ⟨m, hm, e⟩ := List.getElem_of_mem hs
    exact ⟨m, by rw [List.getElem?_eq_getElem hm, e]⟩
  refine ⟨⟨by rw [h.heads, hlen], fun s hs => ?_⟩, h.uniq, fun p hp => h.cover p (hk p hp) hp, fun s hs p hp => ?_, fun s hs => ?_⟩
  · obtain ⟨m, hm⟩ := hpart s hs
    have hp := h.each m s hm
    refine ⟨hp.ne, hp.chn, ?_, hp.ea, hp.eb, hp.ec⟩
    cases hn : nextS c z (lst s.p) with
    | none => rfl
    | some q =>
      have h1 := hp.out q hn
      have hlm := hp.lt _ (lst_mem hp.ne)
      rw [hp.fin] at hn
      obtain ⟨j1, j2, j3, j4⟩ := jump_some hn
      have h6 := hiso _ hlm.2.1 j1 (by rw [j2]; exact j3)
      rw [j2, hN q h1] at h6
      exact absurd h6.symm hlm.2.1
  · obtain ⟨m, hm⟩ := hpart s hs
    exact ((h.each m s hm).lt p hp).2
  · obtain ⟨m, hm⟩ := hpart s hs
    exact chn_up (h.each m s hm).chn
end Go.Proofs.YtlocnjenkanmpaaDoor.Sq

/-
  What the sequences ask of explicit levels, plainly: an initiator's PDI stands at its level; what stands between stands above it, or at it. No program in it.
-/
set_option linter.unusedVariables false
namespace Go.Proofs.YtlocnjenkanmpaaDoor.Lv
open Go Go.Proofs.YtlocnjenkanmpaaDoor.Ba
def InL (s : St) (d : Nat) (s1 : St) : Prop := s1.es = s.es ∧ s1.ld = s.ld ∧ s1.op = s.op ∧ s1.li = s.li + 1 + d
theorem InL.same {s s1 : St} {d : Nat} (h : InL s d s1) : (top s1.es).lev = (top s.es).lev := by rw [h.1]
end Go.Proofs.YtlocnjenkanmpaaDoor.Lv

/-
  What the levels of a paragraph are for its sequences, plainly: an initiator's PDI stands at its level; where there is no B, an initiator and its PDI stand in one sequence; where nothing embeds, overrides or isolates there is one sequence. No program in it.
-/
set_option linter.unusedVariables false
namespace Go.Proofs.YtlocnjenkanmpaaDoor.Sq
open Go Go.Proofs.YtlocnjenkanmpaaDoor.Ba Go.Proofs.YtlocnjenkanmpaaDoor.Lv
theorem getD_at {c : List Int} {j : Nat} (h : j < c.length) : c.getD j 0 = c[j] := by simp [List.getD, List.getElem?_eq_getElem h]
end Go.Proofs.YtlocnjenkanmpaaDoor.Sq

/-
  What stands in an isolate, plainly: its places are put in behind the initiator; each sequence of the paragraph without them is one of the paragraph with them, its places moved. No program in it.
-/
set_option linter.unusedVariables false
namespace Go.Proofs.YtlocnjenkanmpaaDoor.Bi
open Go Go.Proofs.YtlocnjenkanmpaaDoor.Ba Go.Proofs.YtlocnjenkanmpaaDoor.Lv Go.Proofs.YtlocnjenkanmpaaDoor.Sq
/-- Where a place stands, when n places have been put in behind the place a. -/
def sh (a n i : Nat) : Nat := if i ≤ a then i else i + n
theorem sh_gt {a n i : Nat} (h : a < i) : sh a n i = i + n := if_neg (by omega)
/-- A paragraph's classes and levels without what stands in an isolate, and with it: n places behind the initiator, which stands at a. -/
structure Ins (cL cM zL zM : List Int) (a n : Nat) : Prop where
  c : ∀ i, cM.getD (sh a n i) 0 = cL.getD i 0
  z : ∀ i, L zM (sh a n i) = L zL i
  len : cM.length = cL.length + n
  zl : zL.length = cL.length
  zm : zM.length = cM.length
  al : a + 1 < cL.length
  ai : isI (cL.getD a 0) = true
  ea : endAt cL a = a + 1
  v : L zL a ≠ -1
  v1 : L zL (a + 1) = L zL a
  inn : ∀ k, a < k → k ≤ a + n → L zM k = -1 ∨ L zL a < L zM k
  e : ∀ i, i < cL.length → endAt cM (sh a n i) = sh a n (endAt cL i)
section
variable {cL cM zL zM : List Int} {a n : Nat}
theorem Ins.hi (h : Ins cL cM zL zM a n) {i : Nat} (hi : a < i) : L zM (i + n) = L zL i := by have := h.z i; rwa [sh_gt hi] at this
theorem Ins.v2 (h : Ins cL cM zL zM a n) : L zM (a + 1 + n) = L zL a := by rw [h.hi (Nat.lt_succ_self a), h.v1]
end
end Go.Proofs.YtlocnjenkanmpaaDoor.Bi

/-
  A paragraph's levels, plainly: what is written for each sequence, place by place; what is left has the level ahead; that what stands in an isolate changes no level around it, where so few stand ahead that it is open. No program in it.
-/
set_option linter.unusedVariables false
namespace Go.Proofs.YtlocnjenkanmpaaDoor.Bi
open Go Go.Proofs.YtlocnjenkanmpaaDoor.Ba Go.Proofs.YtlocnjenkanmpaaDoor.Lv Go.Proofs.YtlocnjenkanmpaaDoor.Sq
/-- A list's items at places. -/
def pick (l : List Int) (p : List Nat) : List Int := p.map fun i => l.getD i 0
/-- What is answered for a sequence: of three numbers, and the rows told, of codes, of classes at its places. -/
abbrev Rule := Int → Int → Int → List Int → List Int → List Int → List Int
def rowP (F : Rule) (told codes own : List Int) (s : S4) : List Int := F s.a s.b s.c (pick told s.p) (pick codes s.p) (pick own s.p)
end Go.Proofs.YtlocnjenkanmpaaDoor.Bi

/-
  Numbers, signs and marks, plainly: the seven rules as functions of a row of classes, one behind the other; that they settle, that they part at an L or an R; that rules which look at what has become ahead and at what stands behind come to the same. No program in it.
-/
set_option linter.unusedVariables false
namespace Go.Proofs.YtlocnjenkanmpaaDoor.Wk
def iso (c : Int) : Bool := decide (c = 19) || decide (c = 20) || decide (c = 21) || decide (c = 22)
def let3 (c : Int) : Bool := decide (c = 0) || decide (c = 1) || decide (c = 2)
/-- Numbers whose letter ahead is x become o. -/
def nums (x o : Int) (a : Int) : List Int → List Int
  | [] => []
  | c :: r => if let3 c then c :: nums x o c r else if c = 3 ∧ a = x then o :: nums x o a r else c :: nums x o a r
def Kp : List Int → List Int → Prop
  | [], [] => True
  | c :: r, d :: t => (d = c ∨ (2 ≤ c ∧ c ≤ 8 ∧ c ≠ 6)) ∧ Kp r t
  | _, _ => False
theorem Kp.trans : ∀ {a b c : List Int}, Kp a b → Kp b c → Kp a c
  | [], [], [], _, _ => trivial
  | _ :: _, _ :: _, _ :: _, h, g => ⟨by rcases h.1 with e | e <;> rcases g.1 with f | f <;> omega, Kp.trans h.2 g.2⟩
  | [], [], _ :: _, _, g => g.elim
  | [], _ :: _, _, h, _ => h.elim
  | _ :: _, [], _, h, _ => h.elim
  | _ :: _, _ :: _, [], _, g => g.elim
theorem Kp.at_ : ∀ {a b : List Int}, Kp a b → ∀ k (h : k < a.length) (h' : k < b.length), b[k] = a[k] ∨ (2 ≤ a[k] ∧ a[k] ≤ 8 ∧ a[k] ≠ 6)
  | [], _, _, k, h, _ => by simp at h
  | _ :: _, [], h, _, _, _ => h.elim
  | _ :: _, _ :: _, h, 0, _, _ => h.1
  | _ :: a, _ :: b, h, k + 1, h1, h2 => Kp.at_ (a := a) (b := b) h.2 k (by simpa using h1) (by simpa using h2)
end Go.Proofs.YtlocnjenkanmpaaDoor.Wk
