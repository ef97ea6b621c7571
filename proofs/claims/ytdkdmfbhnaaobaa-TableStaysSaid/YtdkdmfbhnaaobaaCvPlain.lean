/-
  Plain mathematics, no program in it: records of fields out of bytes, byte by byte: the states, where a text is spoilt, which fields stand in it, their texts.
-/
import Derived.Lib.ReplaceLaws
set_option linter.unusedVariables false
namespace Go.Proofs.Ytdkdmfbhnaaobaa.Cv
open Go.Lib

abbrev Bs := List UInt8
abbrev Ev := Bs × Bool

/-- Which state a byte leads to: 0 ahead of a field, 1 in a bare one, 2 in quotes, 3 behind a quote in them, 4 behind CR, 5 behind CR LF. -/
def stepQ (q n : Nat) : Option Nat :=
  if q = 2 then (if n = 34 then some 3 else some 2)
  else if q = 4 then (if n = 10 then some 5 else none)
  else if q = 3 then (if n = 34 then some 2 else if n = 44 then some 0 else if n = 13 then some 4 else none)
  else if n = 34 then (if q = 1 then none else some 2)
  else if n = 44 then some 0 else if n = 13 then some 4 else if n = 10 then none else some 1

/-- Where it is spoilt. -/
def place : Nat → Nat → Bs → Option Nat
  | q, p, [] => if q = 2 ∨ q = 4 then some p else none
  | q, p, b :: l => match stepQ q b.toNat with
    | none => some p
    | some q' => place q' (p + 1) l

/-- The fields, as they are written, and whether their record ends with them. -/
def evs : Nat → Bs → Bs → List Ev
  | q, acc, [] => if q = 0 ∨ q = 1 ∨ q = 3 then [(acc, true)] else []
  | q, acc, b :: l => match stepQ q b.toNat with
    | none => []
    | some q' => if q' = 0 then (acc, false) :: evs 0 [] l else if q' = 5 then (acc, true) :: evs 5 [] l else if q' = 4 then evs 4 acc l else evs q' (acc ++ [b]) l

/-- Each two quotes one. -/
def und : Bs → Bs
  | [] => []
  | [b] => [b]
  | b :: c :: l => if b = 34 ∧ c = 34 then 34 :: und l else b :: und (c :: l)
def pr : Bs → Bool
  | [] => true
  | [b] => b != 34
  | b :: c :: l => if b = 34 then (c == 34 && pr l) else pr (c :: l)
/-- The text of a field as it is written. -/
def txt (x : Bs) : Bs := if x.head? = some 34 then und (x.drop 1).dropLast else x

def putE (R : List (List Bs) × List Bs) (e : Ev) : List (List Bs) × List Bs := if e.2 then (R.1 ++ [R.2 ++ [txt e.1]], []) else (R.1, R.2 ++ [txt e.1])
def grp (R : List (List Bs) × List Bs) (es : List Ev) : List (List Bs) × List Bs := es.foldl putE R
def g0 (es : List Ev) : List (List Bs) × List Bs := grp ([], []) es
theorem grp_append (R : List (List Bs) × List Bs) (es fs : List Ev) : grp R (es ++ fs) = grp (grp R es) fs := by simp [grp]
theorem g0_snoc (es : List Ev) (e : Ev) : g0 (es ++ [e]) = putE (g0 es) e := by simp [g0, grp]

def Wq (acc : Bs) : Prop := acc.head? ≠ some 34 ∨ ∃ i, acc = 34 :: (i ++ [34]) ∧ pr i = true
def OkQ (q : Nat) (acc : Bs) : Prop :=
  if q = 2 then ∃ i, acc = 34 :: i ∧ pr i = true else if q = 3 then ∃ i, acc = 34 :: (i ++ [34]) ∧ pr i = true
  else if q = 1 then acc ≠ [] ∧ acc.head? ≠ some 34 else if q = 4 then Wq acc else acc = []

structure Inv (L : Bs) (q p : Nat) (acc : Bs) (es : List Ev) : Prop where
  le : p ≤ L.length
  pl : place 0 0 L = place q p (L.drop p)
  ev : evs 0 [] L = es ++ evs q acc (L.drop p)
  ok : OkQ q acc

theorem Inv.start (L : Bs) : Inv L 0 0 [] [] := ⟨Nat.zero_le _, by rw [List.drop_zero], by rw [List.drop_zero]; rfl, by simp [OkQ]⟩

theorem drop_at {L : Bs} {p : Nat} {b : UInt8} (h : L[p]? = some b) : L.drop p = b :: L.drop (p + 1) := by
  obtain ⟨hl, rfl⟩ := List.getElem?_eq_some_iff.1 h
  exact List.drop_eq_getElem_cons hl

theorem und_app : ∀ (n : Nat) (x y : Bs), x.length ≤ n → pr x = true → und (x ++ y) = und x ++ und y ∧ pr (x ++ y) = pr y
  | _, [], y, _, _ => ⟨rfl, rfl⟩
  | 0, _ :: _, y, h, _ => by simp at h
  | n + 1, [b], y, h, hp => by
    have hb : b ≠ 34 := by simpa [pr] using hp
    cases y with
    | nil => simp [und, pr, hb]
    | cons c y => simp [und, pr, hb]
  | n + 1, b :: c :: l, y, h, hp => by
    by_cases hb : b = 34
    · subst hb
      simp [pr] at hp
      obtain ⟨rfl, hp⟩ := hp
      have ih := und_app n l y (by simp at h; omega) hp
      simp [und, pr, ih.1, ih.2]
    · have hp' : pr (c :: l) = true := by simpa [pr, hb] using hp
      have ih := und_app n (c :: l) y (by simpa using h) hp'
      simp only [List.cons_append] at ih ⊢
      simp [und, pr, hb, ih.1, ih.2]
theorem und_snoc {x : Bs} (h : pr x = true) {b : UInt8} (hb : b ≠ 34) : und (x ++ [b]) = und x ++ [b] ∧ pr (x ++ [b]) = true := by
  have := und_app _ x [b] (Nat.le_refl _) h
  exact ⟨this.1, by rw [this.2]; simpa [pr] using hb⟩
theorem und_two {x : Bs} (h : pr x = true) : und (x ++ [34, 34]) = und x ++ [34] ∧ pr (x ++ [34, 34]) = true := by
  have := und_app _ x [34, 34] (Nat.le_refl _) h
  exact ⟨this.1, by rw [this.2]; rfl⟩
theorem txt_quoted {i : Bs} : txt (34 :: (i ++ [34])) = und i := by simp [txt]
theorem txt_bare {x : Bs} (h : x.head? ≠ some 34) : txt x = x := by simp [txt, h]

theorem u8_34 {b : UInt8} (h : b.toNat = 34) : b = 34 := UInt8.toNat_inj.1 (by rw [h]; rfl)
theorem u8_34' {b : UInt8} (h : b.toNat ≠ 34) : b ≠ 34 := fun e => h (by rw [e]; rfl)

theorem head_app {x : Bs} (hx : x ≠ []) (y : Bs) : (x ++ y).head? = x.head? := by
  cases x with
  | nil => exact absurd rfl hx
  | cons a x => rfl

section
variable {L : Bs} {q p : Nat} {acc : Bs} {es : List Ev}

/-- A byte more of the field. -/
theorem Inv.more (h : Inv L q p acc es) {b : UInt8} (hb : L[p]? = some b) {q' : Nat} (hs : stepQ q b.toNat = some q') (n0 : q' ≠ 0) (n4 : q' ≠ 4) (n5 : q' ≠ 5) : Inv L q' (p + 1) (acc ++ [b]) es := by
  have hd := drop_at hb
  have hl : p < L.length := (List.getElem?_eq_some_iff.1 hb).1
  refine ⟨hl, ?_, ?_, ?_⟩
  · rw [h.pl, hd, place, hs]
  · rw [h.ev, hd, evs, hs]
    simp only [if_neg n0, if_neg n4, if_neg n5]
  · have hok := h.ok
    unfold stepQ at hs
    unfold OkQ at hok ⊢
    by_cases q2 : q = 2
    · rw [if_pos q2] at hs hok
      obtain ⟨i, rfl, hi⟩ := hok
      by_cases hn : b.toNat = 34
      · rw [if_pos hn] at hs
        injection hs with hs
        subst hs
        rw [if_neg (by decide), if_pos rfl]
        exact ⟨i, by rw [u8_34 hn]; rfl, hi⟩
      · rw [if_neg hn] at hs
        injection hs with hs
        subst hs
        rw [if_pos rfl]
        exact ⟨i ++ [b], rfl, (und_snoc hi (u8_34' hn)).2⟩
    · rw [if_neg q2] at hs hok
      by_cases q4 : q = 4
      · rw [if_pos q4] at hs
        split at hs
        · injection hs with hs; exact absurd hs.symm n5
        · cases hs
      · rw [if_neg q4] at hs
        by_cases q3 : q = 3
        · rw [if_pos q3] at hs hok
          split at hs
          · rename_i hn
            injection hs with hs
            subst hs
            obtain ⟨i, rfl, hi⟩ := hok
            rw [if_pos rfl]
            exact ⟨i ++ [34, 34], by rw [u8_34 hn]; simp, (und_two hi).2⟩
          · split at hs
            · injection hs with hs; exact absurd hs.symm n0
            · split at hs
              · injection hs with hs; exact absurd hs.symm n4
              · cases hs
        · rw [if_neg q3] at hs hok
          by_cases q1 : q = 1
          · rw [if_pos q1] at hok
            split at hs
            · cases hs
            · split at hs
              · injection hs with hs; exact absurd hs.symm n0
              · split at hs
                · injection hs with hs; exact absurd hs.symm n4
                · split at hs
                  · cases hs
                  · injection hs with hs
                    subst hs
                    rw [if_neg (by decide), if_neg (by decide), if_pos rfl]
                    exact ⟨by simp, by rw [head_app hok.1]; exact hok.2⟩
          · rw [if_neg q1, if_neg q4] at hok
            subst hok
            split at hs
            · rename_i hn
              injection hs with hs
              subst hs
              rw [if_pos rfl]
              exact ⟨[], by rw [u8_34 hn]; rfl, rfl⟩
            · rename_i hn
              split at hs
              · injection hs with hs; exact absurd hs.symm n0
              · split at hs
                · injection hs with hs; exact absurd hs.symm n4
                · split at hs
                  · cases hs
                  · injection hs with hs
                    subst hs
                    rw [if_neg (by decide), if_neg (by decide), if_pos rfl]
                    exact ⟨by simp, by simpa using u8_34' hn⟩

theorem Inv.wq (h : Inv L q p acc es) (hq : q ≠ 2) : Wq acc := by
  have hok := h.ok
  unfold OkQ at hok
  rw [if_neg hq] at hok
  split at hok
  · exact .inr hok
  · split at hok
    · exact .inl hok.2
    · split at hok
      · exact hok
      · subst hok; exact .inl (by simp)

/-- A comma. -/
theorem Inv.comma (h : Inv L q p acc es) {b : UInt8} (hb : L[p]? = some b) (hs : stepQ q b.toNat = some 0) : Inv L 0 (p + 1) [] (es ++ [(acc, false)]) := by
  have hd := drop_at hb
  have hl : p < L.length := (List.getElem?_eq_some_iff.1 hb).1
  refine ⟨hl, ?_, ?_, by simp [OkQ]⟩
  · rw [h.pl, hd, place, hs]
  · rw [h.ev, hd, evs, hs]
    simp
/-- CR. -/
theorem Inv.cr (h : Inv L q p acc es) (hq : q ≠ 2) {b : UInt8} (hb : L[p]? = some b) (hs : stepQ q b.toNat = some 4) : Inv L 4 (p + 1) acc es := by
  have hd := drop_at hb
  have hl : p < L.length := (List.getElem?_eq_some_iff.1 hb).1
  refine ⟨hl, ?_, ?_, h.wq hq⟩
  · rw [h.pl, hd, place, hs]
  · rw [h.ev, hd, evs, hs]
    simp
/-- LF behind it. -/
theorem Inv.lf (h : Inv L 4 p acc es) {b : UInt8} (hb : L[p]? = some b) (hn : b.toNat = 10) : Inv L 5 (p + 1) [] (es ++ [(acc, true)]) := by
  have hd := drop_at hb
  have hl : p < L.length := (List.getElem?_eq_some_iff.1 hb).1
  have hs : stepQ 4 b.toNat = some 5 := by rw [hn]; rfl
  refine ⟨hl, ?_, ?_, by simp [OkQ]⟩
  · rw [h.pl, hd, place, hs]
  · rw [h.ev, hd, evs, hs]
    simp
theorem stepQ_five (n : Nat) : stepQ 5 n = stepQ 0 n := by simp [stepQ]
/-- Behind CR LF, with a byte to come. -/
theorem Inv.begins (h : Inv L 5 p acc es) (hl : p < L.length) : Inv L 0 p [] es := by
  have ha : acc = [] := by simpa [OkQ] using h.ok
  subst ha
  have hd := drop_at (L := L) (p := p) (List.getElem?_eq_getElem hl)
  refine ⟨h.le, ?_, ?_, by simp [OkQ]⟩
  · rw [h.pl, hd, place, place, stepQ_five]
  · rw [h.ev, hd, evs, evs, stepQ_five]
/-- A byte that spoils. -/
theorem Inv.spoilt (h : Inv L q p acc es) {b : UInt8} (hb : L[p]? = some b) (hs : stepQ q b.toNat = none) : place 0 0 L = some p ∧ evs 0 [] L = es := by
  have hd := drop_at hb
  exact ⟨by rw [h.pl, hd, place, hs], by rw [h.ev, hd, evs, hs]; simp⟩
theorem drop_end {L : Bs} {p : Nat} (h : p = L.length) : L.drop p = [] := by rw [h]; simp
/-- The end, where it may not stand. -/
theorem Inv.cut (h : Inv L q p acc es) (hp : p = L.length) (hq : q = 2 ∨ q = 4) : place 0 0 L = some p ∧ evs 0 [] L = es := by
  refine ⟨by rw [h.pl, drop_end hp, place, if_pos hq], ?_⟩
  rw [h.ev, drop_end hp, evs]
  rcases hq with rfl | rfl <;> simp
theorem Inv.done (h : Inv L q p acc es) (hp : p = L.length) (hq : q = 0 ∨ q = 1 ∨ q = 3) : place 0 0 L = none ∧ evs 0 [] L = es ++ [(acc, true)] := by
  refine ⟨by rw [h.pl, drop_end hp, place, if_neg (by omega)], ?_⟩
  rw [h.ev, drop_end hp, evs, if_pos hq]
theorem Inv.over (h : Inv L 5 p acc es) (hp : p = L.length) : place 0 0 L = none ∧ evs 0 [] L = es := by
  refine ⟨by rw [h.pl, drop_end hp]; rfl, ?_⟩
  rw [h.ev, drop_end hp]
  simp [evs]
end

/-- The byte at a text's beginning; -1 at its end. -/
def bz : Bs → Int
  | [] => -1
  | b :: _ => b.toNat
theorem bz_end {L : Bs} {p : Nat} (h : p ≤ L.length) (hz : bz (L.drop p) = -1) : p = L.length := by
  by_cases hl : p < L.length
  · rw [drop_at (List.getElem?_eq_getElem hl), bz] at hz
    omega
  · omega
theorem bz_at {L : Bs} {p : Nat} (h : p ≤ L.length) (hz : bz (L.drop p) ≠ -1) : ∃ b, L[p]? = some b ∧ bz (L.drop p) = b.toNat := by
  by_cases hl : p < L.length
  · refine ⟨L[p], List.getElem?_eq_getElem hl, ?_⟩
    rw [drop_at (List.getElem?_eq_getElem hl), bz]
  · rw [drop_end (by omega)] at hz
    exact absurd rfl hz
theorem bz_range (l : Bs) : -1 ≤ bz l ∧ bz l < 256 := by
  cases l with
  | nil => simp [bz]
  | cons b l => simp only [bz]; have := b.toNat_lt; omega

def seg (L : Bs) (a p : Nat) : Bs := (L.drop a).take (p - a)
theorem seg_self (L : Bs) (a : Nat) : seg L a a = [] := by simp [seg]
theorem seg_snoc {L : Bs} {a p : Nat} {b : UInt8} (ha : a ≤ p) (hb : L[p]? = some b) : seg L a (p + 1) = seg L a p ++ [b] := by
  have hl : p < L.length := (List.getElem?_eq_some_iff.1 hb).1
  unfold seg
  rw [show p + 1 - a = (p - a) + 1 from by omega, List.take_add_one, List.getElem?_drop, show a + (p - a) = p from by omega, hb]
  rfl
end Go.Proofs.Ytdkdmfbhnaaobaa.Cv
