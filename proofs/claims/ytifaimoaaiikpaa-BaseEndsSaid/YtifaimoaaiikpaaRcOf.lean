/-
  Proved here: what parquetryref02.Of returns, for every number: the class that class.Of returns; it leaves what was in memory. No condition.
-/
import Derived.Test.YtifaimoaaiikpaaRcTable
import Derived.Test.YtifaimoaaiikpaaClSearch
set_option linter.unusedVariables false
namespace Go.Proofs.Ytifaimoaaiikpaa.Rc
open Go.RowKit Go.Lib Go.Proofs.Ytifaimoaaiikpaa.Cl

/-- Whether a number stands in one of these spans: from, to, from, to, .. -/
def hasSpan : List Int → Int → Bool
  | a :: b :: l, c => (decide (a ≤ c) && decide (c ≤ b)) || hasSpan l c
  | _, _ => false
def refOf : List TRow → Int → Int
  | [], _ => 0
  | r :: rs, c => if hasSpan r.2 c then r.1 else refOf rs c
theorem hasSpan_at : ∀ (l : List Int) (c : Int) (m : Nat) (h : 2 * m + 1 < l.length), l[2 * m] ≤ c → c ≤ l[2 * m + 1] → hasSpan l c = true
  | a :: b :: l, c, 0, h, h1, h2 => by
    simp only [hasSpan, Bool.or_eq_true, Bool.and_eq_true, decide_eq_true_eq]
    exact .inl ⟨h1, h2⟩
  | a :: b :: l, c, m + 1, h, h1, h2 => by
    simp only [hasSpan, Bool.or_eq_true]
    right
    exact hasSpan_at l c m (by simp at h; omega) (by simpa [Nat.mul_add] using h1) (by simpa [Nat.mul_add] using h2)
  | [a], c, m, h, _, _ => by simp at h
  | [], c, m, h, _, _ => by simp at h
theorem hasSpan_at' (l : List Int) (c : Int) (q : Nat) (hq : q % 2 = 0) (h : q + 1 < l.length) (h1 : l[q] ≤ c) (h2 : c ≤ l[q + 1]) : hasSpan l c = true := by
  obtain ⟨m, rfl⟩ : ∃ m, q = 2 * m := ⟨q / 2, by omega⟩
  exact hasSpan_at l c m h h1 h2
theorem hasSpan_none : ∀ (l : List Int) (c : Int), (∀ (m : Nat) (h : 2 * m + 1 < l.length), ¬ (l[2 * m] ≤ c ∧ c ≤ l[2 * m + 1])) → hasSpan l c = false
  | a :: b :: l, c, h => by
    simp only [hasSpan, Bool.or_eq_false_iff]
    refine ⟨?_, hasSpan_none l c fun m hm => ?_⟩
    · have := h 0 (by simp)
      simp only [Nat.mul_zero, List.getElem_cons_zero, Nat.zero_add, List.getElem_cons_succ] at this
      simp only [Bool.and_eq_false_iff, decide_eq_false_iff_not]
      omega
    · have := h (m + 1) (by simp; omega)
      simpa [Nat.mul_add] using this
  | [a], c, h => rfl
  | [], c, h => rfl
theorem hasSpan_none' (l : List Int) (c : Int) (hno : ∀ (q : Nat) (h : q + 1 < l.length), q % 2 = 0 → ¬ (l[q] ≤ c ∧ c ≤ l[q + 1])) : hasSpan l c = false :=
  hasSpan_none l c fun m h => hno (2 * m) h (by omega)
theorem refOf_at : ∀ (rows : List TRow) (c : Int) (i : Nat) (h : i < rows.length), (∀ j (hj : j < rows.length), j < i → hasSpan rows[j].2 c = false) → hasSpan rows[i].2 c = true → refOf rows c = rows[i].1
  | r :: rs, c, 0, h, _, h1 => by simp only [refOf]; rw [if_pos (by simpa using h1)]; rfl
  | r :: rs, c, i + 1, h, hlo, h1 => by
    have h0 := hlo 0 (by simp) (by omega)
    simp only [refOf]
    rw [if_neg (by simpa using h0)]
    exact refOf_at rs c i (by simpa using h) (fun j hj hji => hlo (j + 1) (Nat.succ_lt_succ hj) (by omega)) h1
theorem refOf_none : ∀ (rows : List TRow) (c : Int), (∀ j (hj : j < rows.length), hasSpan rows[j].2 c = false) → refOf rows c = 0
  | [], c, _ => rfl
  | r :: rs, c, h => by
    have h0 := h 0 (by simp)
    simp only [refOf]
    rw [if_neg (by simpa using h0)]
    exact refOf_none rs c (fun j hj => h (j + 1) (Nat.succ_lt_succ hj))

/-- The spans of a row, each with its class. -/
def rowSpans (k : Int) : List Int → List Span
  | a :: b :: l => (a, b, k) :: rowSpans k l
  | _ => []
theorem hasSpan_mem (k : Int) : ∀ (l : List Int) (c : Int), hasSpan l c = true → ∃ s ∈ rowSpans k l, s.1 ≤ c ∧ c ≤ s.2.1 ∧ s.2.2 = k
  | a :: b :: l, c, h => by
    simp only [hasSpan, Bool.or_eq_true, Bool.and_eq_true, decide_eq_true_eq] at h
    rcases h with h | h
    · exact ⟨(a, b, k), by simp [rowSpans], h.1, h.2, rfl⟩
    · obtain ⟨s, hs, h1⟩ := hasSpan_mem k l c h
      exact ⟨s, by simp [rowSpans, hs], h1⟩
  | [a], c, h => by simp [hasSpan] at h
  | [], c, h => by simp [hasSpan] at h
theorem hasSpan_of (k : Int) : ∀ (l : List Int) (c : Int) (s : Span), s ∈ rowSpans k l → s.1 ≤ c → c ≤ s.2.1 → hasSpan l c = true
  | a :: b :: l, c, s, h, h1, h2 => by
    simp only [rowSpans, List.mem_cons] at h
    simp only [hasSpan, Bool.or_eq_true, Bool.and_eq_true, decide_eq_true_eq]
    rcases h with rfl | h
    · exact .inl ⟨h1, h2⟩
    · exact .inr (hasSpan_of k l c s h h1 h2)
  | [a], c, s, h, _, _ => by simp [rowSpans] at h
  | [], c, s, h, _, _ => by simp [rowSpans] at h
theorem spans_all : (tableL.flatMap fun r => rowSpans r.1 r.2).all (fun s => spansL.contains s) = true := by kernel_rfl
theorem spans_from : spansL.all (fun s => (tableL.flatMap fun r => rowSpans r.1 r.2).contains s) = true := by kernel_rfl
theorem refOf_tab (c : Int) : ∀ (rows : List TRow), (∀ r ∈ rows, r ∈ tableL) → (∃ s ∈ spansL, s.1 ≤ c ∧ c ≤ s.2.1 ∧ refOf rows c = s.2.2) ∨ (refOf rows c = 0 ∧ ∀ r ∈ rows, hasSpan r.2 c = false)
  | [], _ => .inr ⟨rfl, by simp⟩
  | r :: rs, h => by
    cases hh : hasSpan r.2 c with
    | true =>
      obtain ⟨s, hs, h1, h2, h3⟩ := hasSpan_mem r.1 r.2 c hh
      have := List.all_eq_true.1 spans_all s (List.mem_flatMap.2 ⟨r, h r (by simp), hs⟩)
      exact .inl ⟨s, by simpa using this, h1, h2, by simp only [refOf]; rw [hh, if_pos rfl, h3]⟩
    | false =>
      have e : refOf (r :: rs) c = refOf rs c := by simp only [refOf]; rw [hh]; rfl
      rw [e]
      rcases refOf_tab c rs (fun x hx => h x (by simp [hx])) with h1 | ⟨h1, h2⟩
      · exact .inl h1
      · refine .inr ⟨h1, fun x hx => ?_⟩
        rcases List.mem_cons.1 hx with rfl | hx
        · exact hh
        · exact h2 x hx
/-- The document's table, and the program's: one class. -/
theorem ref_is (c : Int) : refOf tableL c = cls c := by
  unfold cls
  rcases refOf_tab c tableL (fun _ h => h) with ⟨s, hs, h1, h2, h3⟩ | ⟨h1, h2⟩
  · rw [h3, ofT_in rises_spans hs h1 h2]
  · rw [h1, ofT_out]
    intro s hs ⟨h3, h4⟩
    have := List.all_eq_true.1 spans_from s hs
    obtain ⟨r, hr, hs2⟩ := List.mem_flatMap.1 (List.contains_iff_mem.1 this)
    have h5 := hasSpan_of r.1 r.2 c s hs2 h3 h4
    rw [h2 r hr] at h5
    cases h5

theorem table_even : ∀ r ∈ tableL, r.2.length % 2 = 0 := by decide +kernel

set_option maxHeartbeats 1000000 in
set_option maxRecDepth 100000 in
theorem refOf_any (c : Int) (w : World) :
    Calls Try.prog 24 #[.int .i64 c] w fun e w' => e = .returned (.int .i64 (cls c)) ∧ Below w.heap.size w w' := by
  rw [← ref_is]
  have HTab := Lib.hid (table_any w)
  have hlen : tableL.length ≤ 1000 := by rw [table_len]; decide
  have heven := Lib.hid table_even
  have hshort := Lib.hid table_rows
  generalize tableL = rows at *
  go_enter Try.func24, Try.ntmps24
  go_wp2_with fail
  refine HTab.out.mono ?_
  rintro e w1 ⟨rfl, hT, hb⟩
  have hb22 := hb.size
  generalize w.heap.size + 22 = b at *
  have HT := Lib.hid hT
  clear hT HTab
  go_wp2_with fail
  go_loop [4] (fun s4 => ∃ i : Nat, i ≤ rows.length ∧ s4 = .int .i64 i ∧ ∀ j (hj : j < rows.length), j < i → hasSpan rows[j].2 c = false) (fun s4 => rows.length - (RowKit.intOf s4).toNat)
  case atStart => exact ⟨0, Nat.zero_le _, rfl, fun j _ h => by omega⟩
  case round =>
    obtain ⟨i, hi, rfl, hlo⟩ := hrel
    have HLO := Lib.hid hlo
    clear hlo
    by_cases hlt : i < rows.length
    · obtain ⟨c1, g, hg, c2, c3⟩ := HT.out.2 i hlt
      obtain ⟨r, hr⟩ : ∃ r, rows[i] = r := ⟨_, rfl⟩
      have hev : r.2.length % 2 = 0 := heven.out r (hr ▸ List.getElem_mem hlt)
      have hsh : r.2.length ≤ 1000 := (hshort.out r (hr ▸ List.getElem_mem hlt)).2
      have c3' : ∀ j (hj : j < r.2.length), w1.cell? ⟨g, j, none⟩ = some (.int .i64 r.2[j]) := by subst hr; exact c3
      clear c3
      rw [hr] at c1 c2
      have HR := Lib.hid hr
      have HC := Lib.hid c3'
      clear hr c3'
      obtain ⟨k, l⟩ := r
      simp only at c1 c2 HC hev hsh
      go_wp2_with fail
      go_loop [6] (fun s6 => ∃ q : Nat, q ≤ l.length ∧ q % 2 = 0 ∧ s6 = .int .i64 q ∧ ∀ q' (h : q' + 1 < l.length), q' % 2 = 0 → q' < q → ¬ (l[q'] ≤ c ∧ c ≤ l[q' + 1])) (fun s6 => l.length - (RowKit.intOf s6).toNat)
      case atStart => exact ⟨0, Nat.zero_le _, rfl, rfl, fun j _ _ h => by omega⟩
      case round =>
        obtain ⟨q, hq, hq2, rfl, hlo2⟩ := hrel
        have HLO2 := Lib.hid hlo2
        have HQ2 := Lib.hid hq2
        clear hlo2
        by_cases hlt2 : q < l.length
        · have hlt3 : q + 1 < l.length := by omega
          have d1 := HC.out q hlt2
          have d2 := HC.out (q + 1) hlt3
          have HA := Lib.hid (hasSpan_at' l c q HQ2.out hlt3)
          obtain ⟨a, ha⟩ : ∃ a, l[q] = a := ⟨_, rfl⟩
          obtain ⟨b', hb'⟩ : ∃ b, l[q + 1] = b := ⟨_, rfl⟩
          rw [ha] at d1
          rw [hb'] at d2
          have hstep : ¬ (a ≤ c ∧ c ≤ b') → ∀ q' (h : q' + 1 < l.length), q' % 2 = 0 → q' < q + 2 → ¬ (l[q'] ≤ c ∧ c ≤ l[q' + 1]) := by
            intro hn q' h h0 h1
            by_cases e : q' = q
            · subst e
              rw [ha, hb']
              exact hn
            · exact HLO2.out q' h h0 (by have := HQ2.out; omega)
          have HST := Lib.hid hstep
          have hA2 : a ≤ c → c ≤ b' → hasSpan l c = true := by rw [← ha, ← hb']; exact HA.out
          have HA2 := Lib.hid hA2
          clear ha hb' hstep HA hq2 hA2
          by_cases h1 : a ≤ c
          · have hd1 : decide (a ≤ c) = true := decide_eq_true h1
            by_cases h2 : c ≤ b'
            · have hd2 : decide (c ≤ b') = true := decide_eq_true h2
              have hfin := Lib.hid (refOf_at rows c i hlt HLO.out (by rw [HR.out]; exact HA2.out h1 h2))
              go_wp2
              go_ret
              refine ⟨?_, hb⟩
              rw [hfin.out, HR.out]
              rfl
            · have hd2 : decide (c ≤ b') = false := decide_eq_false h2
              go_wp2
              go_round
              case measure => simp [RowKit.intOf]; omega
              exact ⟨q + 2, by omega, by have := HQ2.out; omega, by go_num, HST.out (by omega)⟩
          · have hd1 : decide (a ≤ c) = false := decide_eq_false h1
            go_wp2
            go_round
            case measure => simp [RowKit.intOf]; omega
            exact ⟨q + 2, by omega, by have := HQ2.out; omega, by go_num, HST.out (by omega)⟩
        · clear hq2
          have hno := Lib.hid (hasSpan_none' l c (fun q' h h0 => HLO2.out q' h h0 (by omega)))
          go_wp2
          go_round
          case measure => simp [RowKit.intOf]; omega
          refine ⟨i + 1, by omega, by go_num, fun j hj hji => ?_⟩
          by_cases e : j = i
          · subst e
            rw [HR.out]
            exact hno.out
          · exact HLO.out j hj (by omega)
    · have hfin := Lib.hid (refOf_none rows c (fun j hj => HLO.out j hj (by omega)))
      go_wp2
      go_ret
      refine ⟨?_, hb⟩
      rw [hfin.out]
      rfl
end Go.Proofs.Ytifaimoaaiikpaa.Rc
