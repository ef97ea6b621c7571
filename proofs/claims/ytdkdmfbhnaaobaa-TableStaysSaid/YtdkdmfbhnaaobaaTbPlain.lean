/-
  Plain mathematics, no program in it: records as a table: how wide they are, what they are filled, turned, trimmed; where a list ends in something that counts.
-/
import Derived.Test.YtdkdmfbhnaaobaaCvPlain
set_option linter.unusedVariables false
namespace Go.Proofs.Ytdkdmfbhnaaobaa.Tb
open Go.Proofs.Ytdkdmfbhnaaobaa.Cv

abbrev Rec := List (List Bs)
theorem getD_in {α : Type} {l : List α} {i : Nat} (d : α) (h : i < l.length) : l.getD i d = l[i] := by
  rw [List.getD_eq_getElem?_getD, List.getElem?_eq_getElem h, Option.getD_some]
theorem getD_off {α : Type} {l : List α} {i : Nat} (d : α) (h : l.length ≤ i) : l.getD i d = d := by
  rw [List.getD_eq_getElem?_getD, List.getElem?_eq_none h, Option.getD_none]

def widthT (R : Rec) : Nat := R.foldl (fun m r => max m r.length) 0
theorem width_snoc (R : Rec) (r : List Bs) : widthT (R ++ [r]) = max (widthT R) r.length := by simp [widthT]
theorem width_take {R : Rec} {k : Nat} (h : k < R.length) : widthT (R.take (k + 1)) = max (widthT (R.take k)) R[k].length := by
  rw [List.take_add_one, List.getElem?_eq_getElem h]
  exact width_snoc _ _
theorem width_from (R : Rec) (m : Nat) : R.foldl (fun m r => max m r.length) m = max m (widthT R) := by
  induction R generalizing m with
  | nil => simp [widthT]
  | cons r R ih =>
    unfold widthT
    rw [List.foldl_cons, List.foldl_cons, ih, ih]
    omega
theorem width_cons (r : List Bs) (R : Rec) : widthT (r :: R) = max r.length (widthT R) := by
  show R.foldl _ (max 0 r.length) = _
  rw [width_from]
  omega
theorem len_le_width {R : Rec} {r : List Bs} (h : r ∈ R) : r.length ≤ widthT R := by
  induction R with
  | nil => simp at h
  | cons x R ih =>
    rw [width_cons]
    rcases List.mem_cons.1 h with rfl | h
    · omega
    · have := ih h; omega
theorem width_is (R : Rec) : widthT R = 0 ∨ ∃ r ∈ R, r.length = widthT R := by
  induction R with
  | nil => exact .inl rfl
  | cons x R ih =>
    rw [width_cons]
    by_cases h : x.length = max x.length (widthT R)
    · exact .inr ⟨x, by simp, h⟩
    · have e : max x.length (widthT R) = widthT R := by omega
      rw [e]
      rcases ih with ih | ⟨r, hr, hl⟩
      · exact .inl ih
      · exact .inr ⟨r, List.mem_cons_of_mem _ hr, hl⟩
theorem width_le {R : Rec} {n : Nat} (h : ∀ r ∈ R, r.length ≤ n) : widthT R ≤ n := by
  rcases width_is R with h0 | ⟨r, hr, hl⟩
  · omega
  · have := h r hr; omega
theorem width_take_le (R : Rec) (k : Nat) : widthT (R.take k) ≤ widthT R :=
  width_le fun r hr => len_le_width (List.mem_of_mem_take hr)

def fieldT (R : Rec) (i k : Nat) : Bs := (R.getD i []).getD k []
def highT (R : Rec) : Nat := max 1 R.length
def wideT (R : Rec) : Nat := max 1 (widthT R)
def tab (h w : Nat) (F : Nat → Nat → Bs) : Rec := (List.range h).map fun i => (List.range w).map fun k => F i k
def fillT (R : Rec) : Rec := tab (highT R) (wideT R) (fieldT R)
def turnT (R : Rec) : Rec := tab (wideT R) (highT R) fun k i => fieldT R i k

theorem field_in {R : Rec} {i k : Nat} (h : i < R.length) (hk : k < R[i].length) : fieldT R i k = R[i][k] := by
  unfold fieldT
  rw [getD_in _ h, getD_in _ hk]
theorem field_row {R : Rec} {i : Nat} (h : i < R.length) (k : Nat) : fieldT R i k = R[i].getD k [] := by
  unfold fieldT
  rw [getD_in _ h]
theorem field_off {R : Rec} {i : Nat} (h : R.length ≤ i) (k : Nat) : fieldT R i k = [] := by
  unfold fieldT
  rw [getD_off _ h]
  rfl
theorem field_wide {R : Rec} {i k : Nat} (h : i < R.length) (hk : R[i].length ≤ k) : fieldT R i k = [] := by
  unfold fieldT
  rw [getD_in _ h, getD_off _ hk]
theorem field_blank {R : Rec} {i k : Nat} (h : fieldT R i k ≠ []) : i < R.length ∧ k < widthT R := by
  by_cases hi : i < R.length
  · refine ⟨hi, ?_⟩
    by_cases hk : k < R[i].length
    · have := len_le_width (List.getElem_mem hi)
      omega
    · exact absurd (field_wide hi (by omega)) h
  · exact absurd (field_off (by omega) k) h

theorem tab_len (h w : Nat) (F : Nat → Nat → Bs) : (tab h w F).length = h := by simp [tab]
theorem tab_get {h w : Nat} {F : Nat → Nat → Bs} {i : Nat} (hi : i < (tab h w F).length) : (tab h w F)[i] = (List.range w).map fun k => F i k := by simp [tab]
theorem tab_mem {h w : Nat} {F : Nat → Nat → Bs} {r : List Bs} (hr : r ∈ tab h w F) : r.length = w := by
  unfold tab at hr
  rw [List.mem_map] at hr
  obtain ⟨i, _, rfl⟩ := hr
  simp
theorem tab_congr {h w : Nat} {F G : Nat → Nat → Bs} (e : ∀ i k, i < h → k < w → F i k = G i k) : tab h w F = tab h w G := by
  unfold tab
  refine List.map_congr_left fun i hi => List.map_congr_left fun k hk => e i k (List.mem_range.1 hi) (List.mem_range.1 hk)
theorem tab_field (h w : Nat) (F : Nat → Nat → Bs) (i k : Nat) : fieldT (tab h w F) i k = if i < h ∧ k < w then F i k else [] := by
  by_cases hi : i < h
  · have hi' : i < (tab h w F).length := by rw [tab_len]; exact hi
    rw [field_row hi', tab_get hi']
    by_cases hk : k < w
    · rw [if_pos ⟨hi, hk⟩, getD_in _ (by simpa using hk)]
      simp
    · rw [if_neg (by omega), getD_off _ (by simp; omega)]
  · rw [if_neg (by omega)]
    exact field_off (by rw [tab_len]; omega) k
theorem tab_width {h w : Nat} (F : Nat → Nat → Bs) (hh : 1 ≤ h) : widthT (tab h w F) = w := by
  apply Nat.le_antisymm (width_le fun r hr => Nat.le_of_eq (tab_mem hr))
  have h0 : 0 < (tab h w F).length := by rw [tab_len]; omega
  have := len_le_width (List.getElem_mem h0)
  rwa [tab_mem (List.getElem_mem h0)] at this
theorem tab_high {h w : Nat} (F : Nat → Nat → Bs) (hh : 1 ≤ h) : highT (tab h w F) = h := by unfold highT; rw [tab_len]; omega
theorem tab_wide {h w : Nat} (F : Nat → Nat → Bs) (hh : 1 ≤ h) (hw : 1 ≤ w) : wideT (tab h w F) = w := by unfold wideT; rw [tab_width F hh]; omega
theorem high_pos (R : Rec) : 1 ≤ highT R := by unfold highT; omega
theorem wide_pos (R : Rec) : 1 ≤ wideT R := by unfold wideT; omega

theorem fill_field (R : Rec) (i k : Nat) : fieldT (fillT R) i k = fieldT R i k := by
  unfold fillT
  rw [tab_field]
  split
  · rfl
  · rename_i h
    by_cases hb : fieldT R i k = []
    · rw [hb]
    · have := field_blank hb
      unfold highT wideT at h
      omega
theorem turn_field (R : Rec) (i k : Nat) : fieldT (turnT R) k i = fieldT R i k := by
  unfold turnT
  rw [tab_field]
  split
  · rfl
  · rename_i h
    by_cases hb : fieldT R i k = []
    · rw [hb]
    · have := field_blank hb
      unfold highT wideT at h
      omega
theorem fill_fill (R : Rec) : fillT (fillT R) = fillT R := by
  have e1 : highT (fillT R) = highT R := tab_high _ (high_pos R)
  have e2 : wideT (fillT R) = wideT R := tab_wide _ (high_pos R) (wide_pos R)
  show tab (highT (fillT R)) (wideT (fillT R)) (fieldT (fillT R)) = _
  rw [e1, e2]
  exact tab_congr fun i k _ _ => fill_field R i k
theorem turn_turn (R : Rec) : turnT (turnT R) = fillT R := by
  have e1 : highT (turnT R) = wideT R := tab_high _ (wide_pos R)
  have e2 : wideT (turnT R) = highT R := tab_wide _ (wide_pos R) (high_pos R)
  show tab (wideT (turnT R)) (highT (turnT R)) (fun k i => fieldT (turnT R) i k) = _
  rw [e1, e2]
  exact tab_congr fun i k _ _ => turn_field R i k

/-- Where a list ends in something that counts. -/
def lastT {α : Type} (p : α → Bool) : List α → Nat
  | [] => 0
  | x :: l => if lastT p l = 0 then (if p x then 1 else 0) else lastT p l + 1
theorem last_le {α : Type} (p : α → Bool) : ∀ l : List α, lastT p l ≤ l.length
  | [] => Nat.le_refl _
  | x :: l => by
    have := last_le p l
    rw [lastT, List.length_cons]
    split
    · split <;> omega
    · omega
theorem last_snoc {α : Type} (p : α → Bool) (x : α) : ∀ l : List α, lastT p (l ++ [x]) = if p x then l.length + 1 else lastT p l
  | [] => by simp [lastT]
  | y :: l => by
    rw [List.cons_append, lastT, last_snoc p x l]
    cases hx : p x
    · simp [lastT]
    · simp
theorem last_take {α : Type} {p : α → Bool} {l : List α} {e : Nat} (h : e < l.length) : lastT p (l.take (e + 1)) = if p l[e] then e + 1 else lastT p (l.take e) := by
  rw [List.take_add_one, List.getElem?_eq_getElem h, Option.toList_some, last_snoc, List.length_take]
  rw [show min e l.length = e by omega]
/-- What stands behind does not count; what stands right ahead does. -/
theorem last_off {α : Type} {p : α → Bool} : ∀ {l : List α} {j : Nat} (h : j < l.length), lastT p l ≤ j → p l[j] = false
  | x :: l, 0, h, hj => by
    rw [lastT] at hj
    cases hx : p x
    · exact hx
    · rw [hx] at hj
      split at hj <;> simp at hj
  | x :: l, j + 1, h, hj => by
    have hj' : lastT p l ≤ j := by
      rw [lastT] at hj
      split at hj
      · omega
      · omega
    exact last_off (l := l) (j := j) (by simpa using h) hj'
theorem last_on {α : Type} {p : α → Bool} : ∀ {l : List α} {j : Nat} (h : j < l.length), lastT p l = j + 1 → p l[j] = true
  | x :: l, 0, h, hj => by
    rw [lastT] at hj
    cases hx : p x
    · rw [hx] at hj
      split at hj <;> simp at hj
      contradiction
    · exact hx
  | x :: l, j + 1, h, hj => by
    have hj' : lastT p l = j + 1 := by
      rw [lastT] at hj
      split at hj
      · split at hj <;> omega
      · omega
    exact last_on (l := l) (j := j) (by simpa using h) hj'

def nb (x : Bs) : Bool := !x.isEmpty
def nr (r : List Bs) : Bool := !r.isEmpty
theorem nb_iff {x : Bs} : nb x = true ↔ x ≠ [] := by unfold nb; cases x <;> simp
theorem nr_iff {x : List Bs} : nr x = true ↔ x ≠ [] := by unfold nr; cases x <;> simp
def piece (r : List Bs) : List Bs := r.take (lastT nb r)
def pieces (R : Rec) : Rec := R.map piece
def cutT (R : Rec) : Rec := (pieces R).take (lastT nr (pieces R))
def trimT (R : Rec) : Rec := fillT (cutT R)

theorem piece_field (r : List Bs) (k : Nat) : (piece r).getD k [] = r.getD k [] := by
  unfold piece
  by_cases h : k < lastT nb r
  · rw [List.getD_eq_getElem?_getD, List.getD_eq_getElem?_getD, List.getElem?_take_of_lt h]
  · rw [getD_off _ (by rw [List.length_take]; omega)]
    by_cases hk : k < r.length
    · rw [getD_in _ hk]
      have := last_off hk (Nat.le_of_not_lt h)
      cases hx : r[k] with
      | nil => rfl
      | cons b l => rw [hx] at this; simp [nb] at this
    · rw [getD_off _ (by omega)]
theorem pieces_len (R : Rec) : (pieces R).length = R.length := List.length_map _
theorem pieces_get {R : Rec} {i : Nat} (h : i < (pieces R).length) : (pieces R)[i] = piece (R[i]'(by rw [← pieces_len]; exact h)) := by simp [pieces]
theorem pieces_field (R : Rec) (i k : Nat) : fieldT (pieces R) i k = fieldT R i k := by
  by_cases hi : i < R.length
  · rw [field_row hi, field_row (R := pieces R) (by simpa [pieces] using hi)]
    simp only [pieces, List.getElem_map]
    exact piece_field _ _
  · rw [field_off (R := R) (by omega), field_off (R := pieces R) (by rw [pieces_len]; omega)]
theorem cut_field (R : Rec) (i k : Nat) : fieldT (cutT R) i k = fieldT R i k := by
  rw [← pieces_field R i k]
  unfold cutT
  by_cases h : i < lastT nr (pieces R)
  · unfold fieldT
    have e : ((pieces R).take (lastT nr (pieces R))).getD i [] = (pieces R).getD i [] := by
      rw [List.getD_eq_getElem?_getD, List.getD_eq_getElem?_getD, List.getElem?_take_of_lt h]
    rw [e]
  · rw [field_off (R := (pieces R).take _) (by rw [List.length_take]; omega)]
    by_cases hi : i < (pieces R).length
    · rw [field_row hi]
      have := last_off hi (Nat.le_of_not_lt h)
      cases hx : (pieces R)[i] with
      | nil => rfl
      | cons b l => rw [hx] at this; simp [nr] at this
    · rw [field_off (R := pieces R) (by omega)]

/-- The least number from 1 on that all which count stand below. -/
def Top (Q : Nat → Prop) (m : Nat) : Prop := 1 ≤ m ∧ (∀ a, Q a → a < m) ∧ (m = 1 ∨ Q (m - 1))
theorem Top.same {Q : Nat → Prop} {m n : Nat} (h : Top Q m) (k : Top Q n) : m = n := by
  obtain ⟨h1, h2, h3⟩ := h
  obtain ⟨k1, k2, k3⟩ := k
  rcases h3 with h3 | h3
  · rcases k3 with k3 | k3
    · omega
    · have := h2 _ k3; omega
  · have := k2 _ h3
    rcases k3 with k3 | k3
    · omega
    · have := h2 _ k3; omega
def RowQ (F : Nat → Nat → Bs) (i : Nat) : Prop := ∃ k, F i k ≠ []
def ColQ (F : Nat → Nat → Bs) (k : Nat) : Prop := ∃ i, F i k ≠ []

theorem cut_rows (R : Rec) : Top (RowQ (fieldT R)) (highT (cutT R)) := by
  have hle := last_le nr (pieces R)
  have hl : (cutT R).length = lastT nr (pieces R) := by unfold cutT; rw [List.length_take]; omega
  refine ⟨high_pos _, fun a ⟨k, hk⟩ => ?_, ?_⟩
  · rw [← cut_field] at hk
    have := (field_blank hk).1
    unfold highT
    omega
  · by_cases h1 : (cutT R).length ≤ 1
    · left; unfold highT; omega
    · right
      have e : highT (cutT R) = (cutT R).length := by unfold highT; omega
      rw [e]
      have hi : (cutT R).length - 1 < (cutT R).length := by omega
      have hi2 : (cutT R).length - 1 < (pieces R).length := by omega
      have hon := last_on (p := nr) hi2 (by omega)
      rw [pieces_get hi2] at hon
      have hi3 : (cutT R).length - 1 < R.length := by have := pieces_len R; omega
      obtain ⟨r, hr⟩ : ∃ r, R[(cutT R).length - 1] = r := ⟨_, rfl⟩
      rw [hr] at hon
      have hne : lastT nb r ≠ 0 := by
        intro e0
        unfold piece at hon
        rw [e0] at hon
        simp [nr] at hon
      have hlt : lastT nb r - 1 < r.length := by have := last_le nb r; omega
      have hnb := last_on (p := nb) hlt (by omega)
      refine ⟨lastT nb r - 1, ?_⟩
      rw [field_row hi3, hr, getD_in _ hlt]
      exact nb_iff.1 hnb
theorem cut_cols (R : Rec) : Top (ColQ (fieldT R)) (wideT (cutT R)) := by
  refine ⟨wide_pos _, fun a ⟨i, hk⟩ => ?_, ?_⟩
  · rw [← cut_field] at hk
    have := (field_blank hk).2
    unfold wideT
    omega
  · by_cases h1 : widthT (cutT R) ≤ 1
    · left; unfold wideT; omega
    · right
      have e : wideT (cutT R) = widthT (cutT R) := by unfold wideT; omega
      rw [e]
      rcases width_is (cutT R) with h0 | ⟨q, hq, hl⟩
      · omega
      · have hq' : q ∈ pieces R := List.mem_of_mem_take hq
        unfold pieces at hq'
        rw [List.mem_map] at hq'
        obtain ⟨r, hr, rfl⟩ := hq'
        obtain ⟨i, hi, rfl⟩ := List.getElem_of_mem hr
        have hle := last_le nb R[i]
        have hpl : (piece R[i]).length = lastT nb R[i] := by unfold piece; rw [List.length_take]; omega
        have hlt : lastT nb R[i] - 1 < R[i].length := by omega
        have hnb := last_on (p := nb) hlt (by omega)
        refine ⟨i, ?_⟩
        rw [field_row hi, ← hl, hpl, getD_in _ hlt]
        exact nb_iff.1 hnb
theorem trim_is (R : Rec) : trimT R = tab (highT (cutT R)) (wideT (cutT R)) (fieldT R) := by
  show tab _ _ (fieldT (cutT R)) = _
  exact tab_congr fun i k _ _ => cut_field R i k
theorem trim_tops {R : Rec} {h w : Nat} (hr : Top (RowQ (fieldT R)) h) (hc : Top (ColQ (fieldT R)) w) : trimT R = tab h w (fieldT R) := by
  rw [trim_is, (cut_rows R).same hr, (cut_cols R).same hc]
theorem trim_congr {R S : Rec} (h : ∀ i k, fieldT R i k = fieldT S i k) : trimT R = trimT S := by
  have e : fieldT R = fieldT S := by funext i k; exact h i k
  have h1 := cut_rows S
  have h2 := cut_cols S
  rw [← e] at h1 h2
  rw [trim_tops h1 h2, trim_is S, e]
theorem trim_field (R : Rec) (i k : Nat) : fieldT (trimT R) i k = fieldT R i k := by
  unfold trimT
  rw [fill_field, cut_field]
theorem trim_trim (R : Rec) : trimT (trimT R) = trimT R := trim_congr fun i k => trim_field R i k
theorem trim_fill (R : Rec) : trimT (fillT R) = trimT R := trim_congr fun i k => fill_field R i k
theorem fill_len (R : Rec) : (fillT R).length = highT R := tab_len _ _ _
theorem turn_len (R : Rec) : (turnT R).length = wideT R := tab_len _ _ _
theorem trim_len (R : Rec) : (trimT R).length = highT (cutT R) := tab_len _ _ _

/-- What is wrong with a table. -/
def mayT (R : Rec) : Bool := decide (0 < widthT R) && !(R.any fun r => r.length != widthT R)
def longT (r : List Bs) : Bool := r.any fun x => decide (1024 < x.length)
def checkT (R : Rec) : Nat := if mayT R = true then (if 24 < R.length ∨ 16 < widthT R ∨ R.any longT = true then 3 else 0) else 1
theorem may_iff {R : Rec} : mayT R = true ↔ 0 < widthT R ∧ ∀ r ∈ R, r.length = widthT R := by
  unfold mayT
  rw [Bool.and_eq_true, decide_eq_true_eq, Bool.not_eq_true', List.any_eq_false]
  simp
theorem may_no {R : Rec} (h : ¬ (0 < widthT R ∧ ∀ r ∈ R, r.length = widthT R)) : checkT R = 1 := by
  unfold checkT
  rw [if_neg (fun e => h (may_iff.1 e))]
theorem may_tab {h w : Nat} (F : Nat → Nat → Bs) (hh : 1 ≤ h) (hw : 1 ≤ w) : checkT (tab h w F) ≠ 1 := by
  have hm : mayT (tab h w F) = true := may_iff.2 (by rw [tab_width F hh]; exact ⟨hw, fun r hr => tab_mem hr⟩)
  unfold checkT
  rw [if_pos hm]
  split <;> decide
theorem fill_may {R : Rec} (h : checkT R ≠ 1) : fillT R = R := by
  have hm : mayT R = true := by
    cases e : mayT R
    · unfold checkT at h; rw [e] at h; simp at h
    · rfl
  obtain ⟨h1, h2⟩ := may_iff.1 hm
  have hne : R ≠ [] := by rintro rfl; simp [widthT] at h1
  have hl : 0 < R.length := by cases R with | nil => exact absurd rfl hne | cons => simp
  have e1 : highT R = R.length := by unfold highT; omega
  have e2 : wideT R = widthT R := by unfold wideT; omega
  unfold fillT
  rw [e1, e2]
  refine List.ext_getElem (tab_len _ _ _) fun i hi hi2 => ?_
  rw [tab_get hi]
  have hw := h2 _ (List.getElem_mem hi2)
  refine List.ext_getElem (by simp [hw]) fun k hk hk2 => ?_
  simp only [List.getElem_map, List.getElem_range]
  exact field_in hi2 hk2
theorem fill_mem' {R : Rec} {i : Nat} (h : i < (fillT R).length) : (fillT R)[i].length = wideT R := tab_mem (List.getElem_mem h)
theorem blank_iff (x : Bs) : (⟨x.toArray⟩ : ByteArray).toList.isEmpty = true ↔ x = [] := by
  rw [ByteArray.toList_eq]
  show x.isEmpty = true ↔ _
  cases x <;> simp
end Go.Proofs.Ytdkdmfbhnaaobaa.Tb
