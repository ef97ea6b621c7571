/-
  What classes become by their brackets, plainly: letters, what a pair does, pair by pair; that only brackets of pairs and marks behind them become something, and that is L or R; that with L and R exchanged all is exchanged. No program in it.
-/
import Derived.Test.YtapeebnbiappgaaDoorPrPlain
set_option linter.unusedVariables false
namespace Go.Proofs.YtapeebnbiappgaaDoor.Pr
open Go.Proofs.YtapeebnbiappgaaDoor.Mi

/-- The letter of a class: below 0, it has none. -/
def letZ (c : Int) : Int := if c = 0 then 0 else if c = 1 ∨ c = 3 ∨ c = 6 then 1 else -1
def hasZ (l : List Int) (x : Int) : Bool := l.any fun c => decide (letZ c = x)
def aheadZ (l : List Int) (s : Int) : Int := l.foldl (fun a c => if 0 ≤ letZ c then letZ c else a) s
/-- What a pair does: below 0, nothing. -/
def becZ (l : List Int) (p : Nat × Nat) (way s : Int) : Int :=
  if hasZ ((l.take p.2).drop (p.1 + 1)) way = true then way
  else if hasZ ((l.take p.2).drop (p.1 + 1)) (1 - way) = true then (if aheadZ (l.take p.1) s = 1 - way then 1 - way else way) else -1
/-- Are all NSM from behind a place up to another? -/
def marksZ (own : List Int) (a t : Nat) : Bool := decide (a < t) && ((own.take (t + 1)).drop (a + 1)).all fun c => decide (c = 8)
def mayZ (own : List Int) (p : Nat × Nat) (k : Nat) : Bool := decide (k = p.1) || decide (k = p.2) || marksZ own p.1 k || marksZ own p.2 k
def setZ (own : List Int) (p : Nat × Nat) (c : Int) (l : List Int) : List Int := l.mapIdx fun k x => if mayZ own p k = true then c else x
def applyZ (own : List Int) (way s : Int) (l : List Int) (p : Nat × Nat) : List Int := if becZ l p way s < 0 then l else setZ own p (becZ l p way s) l
def wayZ (level : Int) : Int := if level % 2 = 0 then 0 else 1
def settleZ (T C own : List Int) (level s : Int) : List Int :=
  if T.length = C.length ∧ own.length = C.length then (findP T C).foldl (applyZ own (wayZ level) s) T else []

theorem letZ_cases (c : Int) : letZ c = 0 ∨ letZ c = 1 ∨ letZ c = -1 := by unfold letZ; split; exact .inl rfl; split; exact .inr (.inl rfl); exact .inr (.inr rfl)
theorem wayZ_01 (level : Int) : wayZ level = 0 ∨ wayZ level = 1 := by unfold wayZ; split; exact .inl rfl; exact .inr rfl
theorem becZ_01 {way : Int} (hw : way = 0 ∨ way = 1) (l : List Int) (p : Nat × Nat) (s : Int) : becZ l p way s = 0 ∨ becZ l p way s = 1 ∨ becZ l p way s = -1 := by
  unfold becZ
  split
  · omega
  · split
    · split <;> omega
    · exact .inr (.inr rfl)
theorem setZ_len (own : List Int) (p : Nat × Nat) (c : Int) (l : List Int) : (setZ own p c l).length = l.length := by simp [setZ]
theorem applyZ_len (own : List Int) (way s : Int) (l : List Int) (p : Nat × Nat) : (applyZ own way s l p).length = l.length := by
  unfold applyZ
  split
  · rfl
  · exact setZ_len _ _ _ _
theorem foldZ_len (own : List Int) (way s : Int) : ∀ (ps : List (Nat × Nat)) (l : List Int), (ps.foldl (applyZ own way s) l).length = l.length
  | [], l => rfl
  | p :: ps, l => by rw [List.foldl_cons, foldZ_len own way s ps, applyZ_len]
theorem settleZ_len {T C own : List Int} (level s : Int) (h1 : T.length = C.length) (h2 : own.length = C.length) : (settleZ T C own level s).length = T.length := by
  unfold settleZ
  rw [if_pos ⟨h1, h2⟩, foldZ_len]
theorem setZ_at (own : List Int) (p : Nat × Nat) (c : Int) (l : List Int) (i : Nat) (x : Int) (h : l[i]? = some x) : (setZ own p c l)[i]? = some (if mayZ own p i = true then c else x) := by
  unfold setZ
  rw [List.getElem?_mapIdx, h]
  rfl

/-- P14.5. -/
theorem fold_just (own : List Int) {way : Int} (hw : way = 0 ∨ way = 1) (s : Int) : ∀ (ps : List (Nat × Nat)) (l : List Int) (i : Nat) (x : Int), l[i]? = some x →
    ∃ y, (ps.foldl (applyZ own way s) l)[i]? = some y ∧ (y = x ∨ ((y = 0 ∨ y = 1) ∧ ∃ p ∈ ps, mayZ own p i = true))
  | [], l, i, x, h => ⟨x, h, .inl rfl⟩
  | p :: ps, l, i, x, h => by
    rw [List.foldl_cons]
    have step : ∃ z, (applyZ own way s l p)[i]? = some z ∧ (z = x ∨ ((z = 0 ∨ z = 1) ∧ mayZ own p i = true)) := by
      unfold applyZ
      by_cases hb : becZ l p way s < 0
      · rw [if_pos hb]
        exact ⟨x, h, .inl rfl⟩
      · rw [if_neg hb]
        refine ⟨_, setZ_at own p _ l i x h, ?_⟩
        by_cases hm : mayZ own p i = true
        · rw [if_pos hm]
          rcases becZ_01 hw l p s with e | e | e
          · exact .inr ⟨.inl e, hm⟩
          · exact .inr ⟨.inr e, hm⟩
          · omega
        · rw [if_neg hm]
          exact .inl rfl
    obtain ⟨z, hz, hzx⟩ := step
    obtain ⟨y, hy, hyz⟩ := fold_just own hw s ps _ i z hz
    refine ⟨y, hy, ?_⟩
    rcases hyz with rfl | ⟨h01, q, hq, hm⟩
    · rcases hzx with rfl | ⟨h01, hm⟩
      · exact .inl rfl
      · exact .inr ⟨h01, p, by simp, hm⟩
    · exact .inr ⟨h01, q, List.mem_cons_of_mem _ hq, hm⟩
theorem settle_just {T C own : List Int} (level s : Int) (h1 : T.length = C.length) (h2 : own.length = C.length) (i : Nat) (x : Int) (h : T[i]? = some x) :
    ∃ y, (settleZ T C own level s)[i]? = some y ∧ (y = x ∨ ((y = 0 ∨ y = 1) ∧ ∃ p ∈ findP T C, mayZ own p i = true)) := by
  unfold settleZ
  rw [if_pos ⟨h1, h2⟩]
  exact fold_just own (wayZ_01 level) s _ T i x h

/-! Exchanged. -/
def turnZ (c : Int) : Int := if c = 0 then 1 else if c = 1 then 0 else c
theorem turnZ_13 (c : Int) : turnZ c ≠ 13 ↔ c ≠ 13 := by unfold turnZ; split; omega; split <;> omega
theorem turnZ_01 {c : Int} (h : c = 0 ∨ c = 1) : turnZ c = 1 - c := by rcases h with rfl | rfl <;> rfl
theorem letZ_turn {c : Int} (h3 : c ≠ 3) (h6 : c ≠ 6) (x : Int) (hx : x = 0 ∨ x = 1) : letZ (turnZ c) = 1 - x ↔ letZ c = x := by
  unfold turnZ letZ
  by_cases h0 : c = 0
  · subst h0; simp; omega
  · by_cases h1 : c = 1
    · subst h1; simp; omega
    · simp [h0, h1, h3, h6]; omega
theorem letZ_turn' {c : Int} (h3 : c ≠ 3) (h6 : c ≠ 6) : (letZ c = -1 ∧ letZ (turnZ c) = -1) ∨ (0 ≤ letZ c ∧ letZ (turnZ c) = 1 - letZ c) := by
  unfold turnZ letZ
  by_cases h0 : c = 0
  · subst h0; simp
  · by_cases h1 : c = 1
    · subst h1; simp
    · simp [h0, h1, h3, h6]
/-- Classes without numbers. -/
def NoNum (l : List Int) : Prop := ∀ c ∈ l, c ≠ 3 ∧ c ≠ 6
theorem NoNum.sub {l m : List Int} (h : NoNum l) (hm : ∀ c ∈ m, c ∈ l) : NoNum m := fun c hc => h c (hm c hc)
theorem hasZ_turn {l : List Int} (h : NoNum l) (x : Int) (hx : x = 0 ∨ x = 1) : hasZ (l.map turnZ) (1 - x) = hasZ l x := by
  unfold hasZ
  rw [List.any_map]
  induction l with
  | nil => rfl
  | cons c r ih =>
    have hc := h c (by simp)
    rw [List.any_cons, List.any_cons, ih (h.sub (fun c hc => List.mem_cons_of_mem _ hc))]
    congr 1
    simp only [Function.comp]
    rw [decide_eq_decide]
    exact letZ_turn hc.1 hc.2 x hx
theorem aheadZ_turn : ∀ {l : List Int}, NoNum l → ∀ (s : Int), aheadZ (l.map turnZ) (1 - s) = 1 - aheadZ l s
  | [], _, s => rfl
  | c :: r, h, s => by
    have hc := h c (by simp)
    have hr : NoNum r := h.sub (fun c hc => List.mem_cons_of_mem _ hc)
    have ih := fun s => aheadZ_turn hr s
    unfold aheadZ at ih ⊢
    rw [List.map_cons, List.foldl_cons, List.foldl_cons]
    rcases letZ_turn' hc.1 hc.2 with ⟨e1, e2⟩ | ⟨e1, e2⟩
    · rw [if_neg (by omega), if_neg (by omega)]
      exact ih s
    · have := letZ_cases c
      rw [if_pos (by omega), if_pos e1, e2]
      exact ih (letZ c)
theorem becZ_turn {l : List Int} (h : NoNum l) (p : Nat × Nat) {way s : Int} (hw : way = 0 ∨ way = 1) : becZ (l.map turnZ) p (1 - way) (1 - s) = if becZ l p way s < 0 then -1 else 1 - becZ l p way s := by
  have hin : NoNum ((l.take p.2).drop (p.1 + 1)) := h.sub (fun c hc => List.mem_of_mem_take (List.mem_of_mem_drop hc))
  have hpre : NoNum (l.take p.1) := h.sub (fun c hc => List.mem_of_mem_take hc)
  unfold becZ
  rw [← List.map_take, ← List.map_drop, hasZ_turn hin way hw, hasZ_turn hin (1 - way) (by omega), ← List.map_take, aheadZ_turn hpre]
  by_cases h1 : hasZ ((l.take p.2).drop (p.1 + 1)) way = true
  · rw [if_pos h1, if_pos h1, if_neg (by omega)]
  · rw [if_neg h1, if_neg h1]
    by_cases h2 : hasZ ((l.take p.2).drop (p.1 + 1)) (1 - way) = true
    · rw [if_pos h2, if_pos h2]
      by_cases h3 : aheadZ (l.take p.1) s = 1 - way
      · rw [if_pos h3, if_pos (by omega), if_neg (by omega)]
      · rw [if_neg h3, if_neg (by omega), if_neg (by omega)]
    · rw [if_neg h2, if_neg h2]
      rfl
theorem setZ_turn (own : List Int) (p : Nat × Nat) {c : Int} (hc : c = 0 ∨ c = 1) (l : List Int) : setZ own p (1 - c) (l.map turnZ) = (setZ own p c l).map turnZ := by
  apply List.ext_getElem?
  intro i
  unfold setZ
  rw [List.getElem?_mapIdx, List.getElem?_map, List.getElem?_map, List.getElem?_mapIdx]
  cases l[i]? with
  | none => rfl
  | some x =>
    simp only [Option.map_some]
    congr 1
    by_cases hm : mayZ own p i = true
    · rw [if_pos hm, if_pos hm, turnZ_01 hc]
    · rw [if_neg hm, if_neg hm]
theorem applyZ_turn {l : List Int} (h : NoNum l) (own : List Int) (p : Nat × Nat) {way s : Int} (hw : way = 0 ∨ way = 1) : applyZ own (1 - way) (1 - s) (l.map turnZ) p = (applyZ own way s l p).map turnZ := by
  unfold applyZ
  rw [becZ_turn h p hw]
  have h01 := becZ_01 hw l p s
  by_cases hb : becZ l p way s < 0
  · rw [if_pos hb, if_pos hb, if_pos (by decide)]
  · rw [if_neg hb, if_neg hb, if_neg (by omega)]
    exact setZ_turn own p (by omega) l
theorem applyZ_num {l : List Int} (h : NoNum l) (own : List Int) (p : Nat × Nat) {way s : Int} (hw : way = 0 ∨ way = 1) : NoNum (applyZ own way s l p) := by
  intro c hc
  obtain ⟨i, hi, rfl⟩ := List.getElem_of_mem hc
  have hi' : i < l.length := by rw [applyZ_len] at hi; exact hi
  obtain ⟨y, hy, hyx⟩ := fold_just own hw s [p] l i l[i] (List.getElem?_eq_getElem hi')
  simp only [List.foldl_cons, List.foldl_nil] at hy
  rw [List.getElem?_eq_getElem hi] at hy
  injection hy with hy
  rw [hy]
  rcases hyx with rfl | ⟨e, -⟩
  · exact h _ (List.getElem_mem hi')
  · omega
theorem foldZ_turn (own : List Int) {way s : Int} (hw : way = 0 ∨ way = 1) : ∀ (ps : List (Nat × Nat)) {l : List Int}, NoNum l → ps.foldl (applyZ own (1 - way) (1 - s)) (l.map turnZ) = (ps.foldl (applyZ own way s) l).map turnZ
  | [], _, _ => rfl
  | p :: ps, l, h => by
    rw [List.foldl_cons, List.foldl_cons, applyZ_turn h own p hw]
    exact foldZ_turn own hw ps (applyZ_num h own p hw)
theorem ends_turn : ∀ (T C : List Int) (i : Nat) (st : List (Nat × Int)), ends i st ((T.map turnZ).zip C) = ends i st (T.zip C)
  | [], C, i, st => by simp
  | t :: T, [], i, st => by simp
  | t :: T, c :: C, i, st => by
    rw [List.map_cons, List.zip_cons_cons, List.zip_cons_cons, ends, ends]
    have e : (turnZ t ≠ 13 ∨ kindP c = 0) ↔ (t ≠ 13 ∨ kindP c = 0) := by rw [turnZ_13]
    by_cases h : t ≠ 13 ∨ kindP c = 0
    · rw [if_pos h, if_pos (e.2 h)]
      exact ends_turn T C (i + 1) st
    · rw [if_neg h, if_neg (fun g => h (e.1 g))]
      by_cases hk : kindP c = 1
      · rw [if_pos hk, if_pos hk]
        split
        · rfl
        · exact ends_turn T C (i + 1) _
      · rw [if_neg hk, if_neg hk]
        cases dropTo c st with
        | none => exact ends_turn T C (i + 1) st
        | some y => exact congrArg _ (ends_turn T C (i + 1) y.2)
theorem find_turn (T C : List Int) : findP (T.map turnZ) C = findP T C := by
  unfold findP
  rw [List.length_map, ends_turn]
theorem wayZ_turn {level : Int} (h : level = 0 ∨ level = 1) : wayZ (1 - level) = 1 - wayZ level := by rcases h with rfl | rfl <;> rfl
/-- P14.6. -/
theorem settle_turn {T : List Int} (h : NoNum T) (C own : List Int) {level : Int} (hl : level = 0 ∨ level = 1) (s : Int) : settleZ (T.map turnZ) C own (1 - level) (1 - s) = (settleZ T C own level s).map turnZ := by
  unfold settleZ
  rw [List.length_map, find_turn, wayZ_turn hl]
  split
  · exact foldZ_turn own (wayZ_01 level) _ h
  · rfl
end Go.Proofs.YtapeebnbiappgaaDoor.Pr
