/-
  Several texts in one, each with its own remark: RcOf, WrRef, WrFits, WrFitsR, WrFirst, AppSrc, AddInts.
-/
import Derived.Laws.AppendOwn
import Derived.Deep.Upon
import Derived.Test.YtfbjgibjlppjoaaM12
import Derived.Test.YtfbjgibjlppjoaaRows
import Derived.Test.YtfbjgibjlppjoaaM0

/-
  Proved here: what parquetryref02.Of returns, for every number: the class that class.Of returns; it leaves what was in memory. No condition.
-/
set_option linter.unusedVariables false
namespace Go.Proofs.Ytfbjgibjlppjoaa.Rc
open Go.RowKit Go.Lib Go.Proofs.Ytfbjgibjlppjoaa.Cl

/-- Whether a number stands in one of these spans: from, to, from, to, .. -/
def hasSpan : List Int → Int → Bool
  | a :: b :: l, c => (decide (a ≤ c) && decide (c ≤ b)) || hasSpan l c
  | _, _ => false
def refOf : List TRow → Int → Int
  | [], _ => 0
  | r :: rs, c => if hasSpan r.2 c then r.1 else refOf rs c
theorem hasSpan_at : ∀ (l : List Int) (c : Int) (m : Nat) (h : 2 * m + 1 < l.length), l[2 * m] ≤ c → c ≤ l[2 * m + 1] → hasSpan l c = true
  | a :: b :: l, c, 0, h, h1, h2 => by
    simp only [hasSpan, Bool.or_eq_true, Bool.and_eq_true, decide_eq_true_eq]
    exact .inl ⟨h1, h2⟩
  | a :: b :: l, c, m + 1, h, h1, h2 => by
    simp only [hasSpan, Bool.or_eq_true]
    right
    exact hasSpan_at l c m (by simp at h; omega) (by simpa [Nat.mul_add] using h1) (by simpa [Nat.mul_add] using h2)
  | [a], c, m, h, _, _ => by simp at h
  | [], c, m, h, _, _ => by simp at h
theorem hasSpan_at' (l : List Int) (c : Int) (q : Nat) (hq : q % 2 = 0) (h : q + 1 < l.length) (h1 : l[q] ≤ c) (h2 : c ≤ l[q + 1]) : hasSpan l c = true := by
  obtain ⟨m, rfl⟩ : ∃ m, q = 2 * m := ⟨q / 2, by omega⟩
  exact hasSpan_at l c m h h1 h2
theorem hasSpan_none : ∀ (l : List Int) (c : Int), (∀ (m : Nat) (h : 2 * m + 1 < l.length), ¬ (l[2 * m] ≤ c ∧ c ≤ l[2 * m + 1])) → hasSpan l c = false
  | a :: b :: l, c, h => by
    simp only [hasSpan, Bool.or_eq_false_iff]
    refine ⟨?_, hasSpan_none l c fun m hm => ?_⟩
    · have := h 0 (by simp)
      simp only [Nat.mul_zero, List.getElem_cons_zero, Nat.zero_add, List.getElem_cons_succ] at this
      simp only [Bool.and_eq_false_iff, decide_eq_false_iff_not]
      omega
    · have := h (m + 1) (by simp; omega)
      simpa [Nat.mul_add] using this
  | [a], c, h => rfl
  | [], c, h => rfl
theorem hasSpan_none' (l : List Int) (c : Int) (hno : ∀ (q : Nat) (h : q + 1 < l.length), q % 2 = 0 → ¬ (l[q] ≤ c ∧ c ≤ l[q + 1])) : hasSpan l c = false :=
  hasSpan_none l c fun m h => hno (2 * m) h (by omega)
theorem refOf_at : ∀ (rows : List TRow) (c : Int) (i : Nat) (h : i < rows.length), (∀ j (hj : j < rows.length), j < i → hasSpan rows[j].2 c = false) → hasSpan rows[i].2 c = true → refOf rows c = rows[i].1
  | r :: rs, c, 0, h, _, h1 => by simp only [refOf]; rw [if_pos (by simpa using h1)]; rfl
  | r :: rs, c, i + 1, h, hlo, h1 => by
    have h0 := hlo 0 (by simp) (by omega)
    simp only [refOf]
    rw [if_neg (by simpa using h0)]
    exact refOf_at rs c i (by simpa using h) (fun j hj hji => hlo (j + 1) (Nat.succ_lt_succ hj) (by omega)) h1
theorem refOf_none : ∀ (rows : List TRow) (c : Int), (∀ j (hj : j < rows.length), hasSpan rows[j].2 c = false) → refOf rows c = 0
  | [], c, _ => rfl
  | r :: rs, c, h => by
    have h0 := h 0 (by simp)
    simp only [refOf]
    rw [if_neg (by simpa using h0)]
    exact refOf_none rs c (fun j hj => h (j + 1) (Nat.succ_lt_succ hj))

/-- The spans of a row, each with its class. -/
def rowSpans (k : Int) : List Int → List Span
  | a :: b :: l => (a, b, k) :: rowSpans k l
  | _ => []
theorem hasSpan_mem (k : Int) : ∀ (l : List Int) (c : Int), hasSpan l c = true → ∃ s ∈ rowSpans k l, s.1 ≤ c ∧ c ≤ s.2.1 ∧ s.2.2 = k
  | a :: b :: l, c, h => by
    simp only [hasSpan, Bool.or_eq_true, Bool.and_eq_true, decide_eq_true_eq] at h
    rcases h with h | h
    · exact ⟨(a, b, k), by simp [rowSpans], h.1, h.2, rfl⟩
    · obtain ⟨s, hs, h1⟩ := hasSpan_mem k l c h
      exact ⟨s, by simp [rowSpans, hs], h1⟩
  | [a], c, h => by simp [hasSpan] at h
  | [], c, h => by simp [hasSpan] at h
theorem hasSpan_of (k : Int) : ∀ (l : List Int) (c : Int) (s : Span), s ∈ rowSpans k l → s.1 ≤ c → c ≤ s.2.1 → hasSpan l c = true
  | a :: b :: l, c, s, h, h1, h2 => by
    simp only [rowSpans, List.mem_cons] at h
    simp only [hasSpan, Bool.or_eq_true, Bool.and_eq_true, decide_eq_true_eq]
    rcases h with rfl | h
    · exact .inl ⟨h1, h2⟩
    · exact .inr (hasSpan_of k l c s h h1 h2)
  | [a], c, s, h, _, _ => by simp [rowSpans] at h
  | [], c, s, h, _, _ => by simp [rowSpans] at h
theorem spans_all : (tableL.flatMap fun r => rowSpans r.1 r.2).all (fun s => spansL.contains s) = true := by kernel_rfl
theorem spans_from : spansL.all (fun s => (tableL.flatMap fun r => rowSpans r.1 r.2).contains s) = true := by kernel_rfl
theorem refOf_tab (c : Int) : ∀ (rows : List TRow), (∀ r ∈ rows, r ∈ tableL) → (∃ s ∈ spansL, s.1 ≤ c ∧ c ≤ s.2.1 ∧ refOf rows c = s.2.2) ∨ (refOf rows c = 0 ∧ ∀ r ∈ rows, hasSpan r.2 c = false)
  | [], _ => .inr ⟨rfl, by simp⟩
  | r :: rs, h => by
    cases hh : hasSpan r.2 c with
    | true =>
      obtain ⟨s, hs, h1, h2, h3⟩ := hasSpan_mem r.1 r.2 c hh
      have := List.all_eq_true.1 spans_all s (List.mem_flatMap.2 ⟨r, h r (by simp), hs⟩)
      exact .inl ⟨s, by simpa using this, h1, h2, by simp only [refOf]; rw [hh, if_pos rfl, h3]⟩
    | false =>
      have e : refOf (r :: rs) c = refOf rs c := by simp only [refOf]; rw [hh]; rfl
      rw [e]
      rcases refOf_tab c rs (fun x hx => h x (by simp [hx])) with h1 | ⟨h1, h2⟩
      · exact .inl h1
      · refine .inr ⟨h1, fun x hx => ?_⟩
        rcases List.mem_cons.1 hx with rfl | hx
        · exact hh
        · exact h2 x hx
/-- The document's table, and the program's: one class. -/
theorem ref_is (c : Int) : refOf tableL c = cls c := by
  unfold cls
  rcases refOf_tab c tableL (fun _ h => h) with ⟨s, hs, h1, h2, h3⟩ | ⟨h1, h2⟩
  · rw [h3, ofT_in rises_spans hs h1 h2]
  · rw [h1, ofT_out]
    intro s hs ⟨h3, h4⟩
    have := List.all_eq_true.1 spans_from s hs
    obtain ⟨r, hr, hs2⟩ := List.mem_flatMap.1 (List.contains_iff_mem.1 this)
    have h5 := hasSpan_of r.1 r.2 c s hs2 h3 h4
    rw [h2 r hr] at h5
    cases h5

theorem table_even : ∀ r ∈ tableL, r.2.length % 2 = 0 := by decide +kernel

set_option maxHeartbeats 1000000 in
set_option maxRecDepth 100000 in
theorem refOf_any (c : Int) (w : World) :
    Calls Try.prog 24 #[.int .i64 c] w fun e w' => e = .returned (.int .i64 (cls c)) ∧ Below w.heap.size w w' := by
  rw [← ref_is]
  have HTab := Lib.hid (table_any w)
  have hlen : tableL.length ≤ 1000 := by rw [table_len]; decide
  have heven := Lib.hid table_even
  have hshort := Lib.hid table_rows
  generalize tableL = rows at *
  go_enter Try.func24, Try.ntmps24
  go_wp2_with fail
  refine HTab.out.mono ?_
  rintro e w1 ⟨rfl, hT, hb⟩
  have hb22 := hb.size
  generalize w.heap.size + 22 = b at *
  have HT := Lib.hid hT
  clear hT HTab
  go_wp2_with fail
  go_loop [4] (fun s4 => ∃ i : Nat, i ≤ rows.length ∧ s4 = .int .i64 i ∧ ∀ j (hj : j < rows.length), j < i → hasSpan rows[j].2 c = false) (fun s4 => rows.length - (RowKit.intOf s4).toNat)
  case atStart => exact ⟨0, Nat.zero_le _, rfl, fun j _ h => by omega⟩
  case round =>
    obtain ⟨i, hi, rfl, hlo⟩ := hrel
    have HLO := Lib.hid hlo
    clear hlo
    by_cases hlt : i < rows.length
    · obtain ⟨c1, g, hg, c2, c3⟩ := HT.out.2 i hlt
      obtain ⟨r, hr⟩ : ∃ r, rows[i] = r := ⟨_, rfl⟩
      have hev : r.2.length % 2 = 0 := heven.out r (hr ▸ List.getElem_mem hlt)
      have hsh : r.2.length ≤ 1000 := (hshort.out r (hr ▸ List.getElem_mem hlt)).2
      have c3' : ∀ j (hj : j < r.2.length), w1.cell? ⟨g, j, none⟩ = some (.int .i64 r.2[j]) := by subst hr; exact c3
      clear c3
      rw [hr] at c1 c2
      have HR := Lib.hid hr
      have HC := Lib.hid c3'
      clear hr c3'
      obtain ⟨k, l⟩ := r
      simp only at c1 c2 HC hev hsh
      go_wp2_with fail
      go_loop [6] (fun s6 => ∃ q : Nat, q ≤ l.length ∧ q % 2 = 0 ∧ s6 = .int .i64 q ∧ ∀ q' (h : q' + 1 < l.length), q' % 2 = 0 → q' < q → ¬ (l[q'] ≤ c ∧ c ≤ l[q' + 1])) (fun s6 => l.length - (RowKit.intOf s6).toNat)
      case atStart => exact ⟨0, Nat.zero_le _, rfl, rfl, fun j _ _ h => by omega⟩
      case round =>
        obtain ⟨q, hq, hq2, rfl, hlo2⟩ := hrel
        have HLO2 := Lib.hid hlo2
        have HQ2 := Lib.hid hq2
        clear hlo2
        by_cases hlt2 : q < l.length
        · have hlt3 : q + 1 < l.length := by omega
          have d1 := HC.out q hlt2
          have d2 := HC.out (q + 1) hlt3
          have HA := Lib.hid (hasSpan_at' l c q HQ2.out hlt3)
          obtain ⟨a, ha⟩ : ∃ a, l[q] = a := ⟨_, rfl⟩
          obtain ⟨b', hb'⟩ : ∃ b, l[q + 1] = b := ⟨_, rfl⟩
          rw [ha] at d1
          rw [hb'] at d2
          have hstep : ¬ (a ≤ c ∧ c ≤ b') → ∀ q' (h : q' + 1 < l.length), q' % 2 = 0 → q' < q + 2 → ¬ (l[q'] ≤ c ∧ c ≤ l[q' + 1]) := by
            intro hn q' h h0 h1
            by_cases e : q' = q
            · subst e
              rw [ha, hb']
              exact hn
            · exact HLO2.out q' h h0 (by have := HQ2.out; omega)
          have HST := Lib.hid hstep
          have hA2 : a ≤ c → c ≤ b' → hasSpan l c = true := by rw [← ha, ← hb']; exact HA.out
          have HA2 := Lib.hid hA2
          clear ha hb' hstep HA hq2 hA2
          by_cases h1 : a ≤ c
          · have hd1 : decide (a ≤ c) = true := decide_eq_true h1
            by_cases h2 : c ≤ b'
            · have hd2 : decide (c ≤ b') = true := decide_eq_true h2
              have hfin := Lib.hid (refOf_at rows c i hlt HLO.out (by rw [HR.out]; exact HA2.out h1 h2))
              go_wp2
              go_ret
              refine ⟨?_, hb⟩
              rw [hfin.out, HR.out]
              rfl
            · have hd2 : decide (c ≤ b') = false := decide_eq_false h2
              go_wp2
              go_round
              case measure => simp [RowKit.intOf]; omega
              exact ⟨q + 2, by omega, by have := HQ2.out; omega, by go_num, HST.out (by omega)⟩
          · have hd1 : decide (a ≤ c) = false := decide_eq_false h1
            go_wp2
            go_round
            case measure => simp [RowKit.intOf]; omega
            exact ⟨q + 2, by omega, by have := HQ2.out; omega, by go_num, HST.out (by omega)⟩
        · clear hq2
          have hno := Lib.hid (hasSpan_none' l c (fun q' h h0 => HLO2.out q' h h0 (by omega)))
          go_wp2
          go_round
          case measure => simp [RowKit.intOf]; omega
          refine ⟨i + 1, by omega, by go_num, fun j hj hji => ?_⟩
          by_cases e : j = i
          · subst e
            rw [HR.out]
            exact hno.out
          · exact HLO.out j hj (by omega)
    · have hfin := Lib.hid (refOf_none rows c (fun j hj => HLO.out j hj (by omega)))
      go_wp2
      go_ret
      refine ⟨?_, hb⟩
      rw [hfin.out]
      rfl
end Go.Proofs.Ytfbjgibjlppjoaa.Rc

/-
  Proved here: what parquetryref17's Break, Blank, Shown, More return, for every row of clusters of at most 2^40: the plain ones. They leave what was in memory.
-/
set_option linter.unusedVariables false
namespace Go.Proofs.Ytfbjgibjlppjoaa.Wr
open Go Go.RowKit Go.Lib Go.Proofs.Ytfbjgibjlppjoaa.Ku

set_option maxHeartbeats 1000000 in
set_option maxRecDepth 100000 in
theorem rbreak_any (x : C6) (w : World) : Calls Try.prog 10 #[.agg #[.int .i64 x.a, .int .i64 x.z, .int .i64 x.f, .int .i64 x.t, .int .i64 x.w, .int .i64 x.c]] w fun e w' => e = .returned (.bool (brk x)) ∧ Below w.heap.size w w' := by
  have HO := Lib.hid (fun W => Rc.refOf_any x.c W)
  have hb := (Below.refl w.heap.size w).alloc (Nat.le_refl _) (.cells #[.int .i64 x.a, .int .i64 x.z, .int .i64 x.f, .int .i64 x.t, .int .i64 x.w, .int .i64 x.c] 26)
  have HB := Lib.hid hb
  unfold brk
  generalize Cl.cls x.c = v at *
  clear hb
  go_enter Try.func10, Try.ntmps10
  go_wp2_with fail
  refine (HO.out _).mono ?_
  rintro e w1 ⟨rfl, hb1⟩
  go_wp2_with fail
  go_ret
  exact ⟨rfl, HB.out.trans (hb1.mono HB.out.size)⟩

set_option maxHeartbeats 1000000 in
set_option maxRecDepth 100000 in
theorem rblank_any (x : C6) (w : World) : Calls Try.prog 12 #[.agg #[.int .i64 x.a, .int .i64 x.z, .int .i64 x.f, .int .i64 x.t, .int .i64 x.w, .int .i64 x.c]] w fun e w' => e = .returned (.bool (x.c == 32)) ∧ Below w.heap.size w w' := by
  have hb := (Below.refl w.heap.size w).alloc (Nat.le_refl _) (.cells #[.int .i64 x.a, .int .i64 x.z, .int .i64 x.f, .int .i64 x.t, .int .i64 x.w, .int .i64 x.c] 26)
  have HB := Lib.hid hb
  clear hb
  go_enter Try.func12, Try.ntmps12
  go_wp2_with fail
  go_ret
  exact ⟨rfl, HB.out⟩

set_option maxHeartbeats 1000000 in
set_option maxRecDepth 100000 in
theorem rshown_any (A : Option Addr) (l : List C6) (n c : Nat) (w : World) (hR : CuAt w A l) (hl : l.length = n) (hn : n ≤ 1099511627776) :
    Calls Try.prog 14 #[.slice A n c] w fun e w' => e = .returned (.int .i64 (shownN l)) ∧ Below w.heap.size w w' := by
  have HR := Lib.hid hR
  cases n with
  | zero =>
    have e : l = [] := List.eq_nil_of_length_eq_zero hl
    subst e
    rw [shownN_nil]
    clear hR hl
    go_enter Try.func14, Try.ntmps14
    go_wp2
    go_ret
    exact ⟨rfl, Below.refl _ _⟩
  | succ m =>
    have hm : m < l.length := by omega
    obtain ⟨g, off, rfl, hg, c0, c1, c2, c3, c4, c5⟩ := hR.at_ hm
    have HBK := Lib.hid (fun W => rbreak_any l[m] W)
    have hs : shownN l = if brk l[m] = true then m else m + 1 := by
      unfold shownN
      rw [hl, Nat.add_sub_cancel, getD_at hm]
    have hw1 : IntKind.i64.wrap (((m + 1 : Nat) : Int) - 1) = (m : Int) := by rw [IntKind.wrap_i64]; omega
    have hw2 : IntKind.i64.wrap ((m : Int) + 1 - 1) = (m : Int) := by rw [IntKind.wrap_i64]; omega
    have hw3 : IntKind.i64.wrap (m : Int) = (m : Int) := by rw [IntKind.wrap_i64]; omega
    have hmi : (0 : Int) ≤ (m : Int) := by omega
    have hmi2 : (m : Int) < (m : Int) + 1 := by omega
    have hmi3 : (m : Int) < ((m + 1 : Nat) : Int) := by omega
    have hmi4 : decide ((0 : Int) < (m : Int) + 1) = true := decide_eq_true (by omega)
    rw [hs]
    generalize l[m] = x at *
    cases hb : brk x with
    | true =>
      rw [hb] at HBK
      rw [if_pos rfl]
      clear hs hm hR hb
      go_enter Try.func14, Try.ntmps14
      go_wp2_with fail
      refine (HBK.out _).mono ?_
      rintro e w1 ⟨rfl, hb1⟩
      go_wp2_with fail
      go_ret
      exact ⟨rfl, hb1⟩
    | false =>
      rw [hb] at HBK
      rw [if_neg (by decide)]
      clear hs hm hR hb
      go_enter Try.func14, Try.ntmps14
      go_wp2_with fail
      refine (HBK.out _).mono ?_
      rintro e w1 ⟨rfl, hb1⟩
      go_wp2_with fail
      go_ret
      exact ⟨rfl, hb1⟩

set_option maxHeartbeats 2000000 in
set_option maxRecDepth 100000 in
theorem rmore_any (A : Option Addr) (l : List C6) (n c : Nat) (s : Int) (w : World) (hR : CuAt w A l) (hl : l.length = n) (hn : n ≤ 1099511627776) (hs : s ≤ 9223372036854775807) :
    Calls Try.prog 21 #[.slice A n c, .int .i64 s] w fun e w' => e = .returned (.bool (moreK (Wd l) n 0 s)) ∧ w' = w := by
  have HR := Lib.hid hR
  have HL := Lib.hid hl
  obtain ⟨R, hr⟩ : ∃ R, moreK (Wd l) n 0 s = R := ⟨_, rfl⟩
  have HRR := Lib.hid hr
  rw [hr]
  clear hR hl hr
  go_enter Try.func21, Try.ntmps21
  go_wp2_with fail
  go_loopw [1, 5] (fun s1 s5 wx => ∃ (k : Nat) (v : Int), k ≤ n ∧ s5 = .int .i64 k ∧ s1 = .int .i64 v ∧ v ≤ 9223372036854775807 ∧ moreK (Wd l) (n - k) k v = R ∧ wx = w) (fun _ s5 _ => n - (RowKit.intOf s5).toNat)
  case atStart => exact ⟨0, s, Nat.zero_le _, rfl, rfl, hs, HRR.out, rfl⟩
  case round =>
    obtain ⟨k, v, hk, rfl, rfl, hv, hm, rfl⟩ := hrel
    by_cases hlt : k < n
    · have hkl : k < l.length := by rw [HL.out]; exact hlt
      obtain ⟨g, off, rfl, hg, c0, c1, c2, c3, c4, c5⟩ := HR.out.at_ hkl
      rw [show n - k = (n - (k + 1)) + 1 from by omega, moreK_cons, Wd_at hkl] at hm
      generalize l[k] = x at *
      obtain ⟨q, hq⟩ : ∃ q, max x.w 0 = q := ⟨_, rfl⟩
      have hq0 : 0 ≤ q := by omega
      rw [hq] at hm
      have hk0 : (0 : Int) ≤ (k : Int) := by omega
      have hk1 : (k : Int) < (n : Int) := by omega
      by_cases hvq : v < q
      · rw [if_pos hvq] at hm
        have HM := Lib.hid hm
        have t1 : decide (v < q) = true := decide_eq_true hvq
        clear hm
        go_wp2_with fail
        all_goals go_ret
        all_goals exact ⟨by rw [← HM.out]; rfl, rfl⟩
      · rw [if_neg hvq] at hm
        have HM := Lib.hid hm
        have t1 : decide (v < q) = false := decide_eq_false hvq
        have t2 : IntKind.i64.wrap (v - q) = v - q := IntWalk.i64_in _ (by omega)
        clear hm
        go_wp2_with fail
        all_goals go_roundw
        case rel => exact ⟨k + 1, v - q, by omega, by go_num, by first | rfl | (congr 1; split <;> omega), by omega, HM.out, by first | rfl | trivial⟩
        case measure => simp [RowKit.intOf]; omega
    · obtain rfl : k = n := by omega
      rw [Nat.sub_self, moreK_nil] at hm
      subst hm
      go_wp2_with fail
      go_ret
      exact ⟨rfl, rfl⟩
end Go.Proofs.Ytfbjgibjlppjoaa.Wr

/-
  Proved here: what parquetryref17.Fits returns, for every row of clusters of at most 2^40: the plain place. It leaves what was in memory.
-/
set_option linter.unusedVariables false
namespace Go.Proofs.Ytfbjgibjlppjoaa.Wr
open Go Go.RowKit Go.Lib Go.Proofs.Ytfbjgibjlppjoaa.Ku

/-- The place behind the last one that fits, for any number as the first. -/
def fitsN (l : List C6) (x w : Int) : Nat := if (l.length : Int) ≤ max x 0 then l.length else endF (Wd l) l.length (max x 0).toNat w
theorem fit_go {W : Nat → Int} {n f k : Nat} {w : Int} (hk : f ≤ k) (hn : k < n) (h : fitK W (k - f) f w = k - f) (hm : moreK W (k + 1 - f) f w = false) : fitK W (k + 1 - f) f w = k + 1 - f := by
  have h1 := of_decide_eq_false hm
  have h2 := fitK_le W (k + 1 - f) f w
  omega
theorem fit_stop {W : Nat → Int} {n f k : Nat} {w : Int} (hk : f ≤ k) (hn : k < n) (h : fitK W (k - f) f w = k - f) (hm : moreK W (k + 1 - f) f w = true) : endF W n f w = k := by
  have h1 := of_decide_eq_true hm
  rw [fitK_min W (n - f) (k + 1 - f) f w (by omega)] at h1
  rw [fitK_min W (n - f) (k - f) f w (by omega)] at h
  unfold endF
  omega

set_option maxHeartbeats 2000000 in
set_option maxRecDepth 100000 in
theorem rfits_in (A : Option Addr) (l : List C6) (n c f : Nat) (s : Int) (w : World) (hR : CuAt w A l) (hl : l.length = n) (hn : n ≤ 1099511627776) (hc : n ≤ c) (hs : s ≤ 9223372036854775807) (hf : f < n) (x : Int) (hx : max x 0 = (f : Int)) :
    Calls Try.prog 16 #[.slice A n c, .int .i64 x, .int .i64 s] w fun e w' => e = .returned (.int .i64 (endF (Wd l) n f s : Nat)) ∧ w' = w := by
  obtain ⟨g, off, rfl, -⟩ := hR.at_ (k := 0) (by omega)
  have HR := Lib.hid hR
  have HL := Lib.hid hl
  have HMO := Lib.hid (fun (k : Nat) (h1 : f ≤ k) (h2 : k < n) (cc : Nat) => (show Calls Try.prog 21 #[.slice (some ⟨g, off + f * 6, none⟩) (k + 1 - f) cc, .int .i64 s] w fun e w' => e = .returned (.bool (moreK (Wd l) (k + 1 - f) f s)) ∧ w' = w from by
    have h := rmore_any (some ⟨g, off + f * 6, none⟩) ((l.drop f).take (k + 1 - f)) (k + 1 - f) cc s w (cu_part hR f (k + 1 - f) (by omega)) (part_len (by omega)) (by omega) hs
    rw [more_part] at h
    exact h))
  have HGO := Lib.hid (fun (k : Nat) (h1 : f ≤ k) (h2 : k < n) (h3 : fitK (Wd l) (k - f) f s = k - f) => And.intro (fun hm => fit_go (n := n) h1 h2 h3 hm) (fun hm => fit_stop (n := n) h1 h2 h3 hm))
  have HEND := Lib.hid (fun (h3 : fitK (Wd l) (n - f) f s = n - f) => (show endF (Wd l) n f s = n from by unfold endF; omega))
  generalize hE : endF (Wd l) n f s = E at *
  clear hR hl hE
  have jf0 : (0 : Int) ≤ (f : Int) := by omega
  have jf1 : (f : Int) < (n : Int) := by omega
  have jf2 : decide ((n : Int) ≤ (f : Int)) = false := decide_eq_false (by omega)
  have jf3 : decide (n ≤ f) = false := decide_eq_false (by omega)
  by_cases hneg : x < 0
  · obtain rfl : f = 0 := by omega
    have jf4 : decide (n = 0) = false := decide_eq_false (by omega)
    go_enter Try.func16, Try.ntmps16
    go_wp2_with fail
    go_loopw [7] (fun s7 wx => ∃ k : Nat, 0 ≤ k ∧ k ≤ n ∧ s7 = .int .i64 k ∧ fitK (Wd l) (k - 0) 0 s = k - 0 ∧ wx = w) (fun s7 _ => n - (RowKit.intOf s7).toNat)
    case atStart => exact ⟨0, Nat.le_refl _, by omega, rfl, by rw [Nat.sub_self]; rfl, rfl⟩
    case round =>
      obtain ⟨k, hfk, hk, rfl, hfit, rfl⟩ := hrel
      have HFIT := Lib.hid hfit
      clear hfit
      by_cases hlt : k < n
      · obtain ⟨hgo, hst⟩ := HGO.out k hfk hlt HFIT.out
        have HM := Lib.hid (fun cc => HMO.out k hfk hlt cc)
        have jk0 : (0 : Int) ≤ (k : Int) := by omega
        have jk1 : (k : Int) < (n : Int) := by omega
        have jk2 : (0 : Int) ≤ (k : Int) + 1 := by omega
        have jk3 : (k : Int) + 1 ≤ (c : Int) := by omega
        cases hm : moreK (Wd l) (k + 1 - 0) 0 s with
        | true =>
          rw [hm] at HM
          have HE := Lib.hid (hst hm)
          clear hgo hst hm HGO HMO
          go_wp2_with fail
          refine (HM.out _).mono ?_
          rintro e w2 ⟨rfl, rfl⟩
          go_wp2_with fail
          go_ret
          exact ⟨by rw [← HE.out]; rfl, rfl⟩
        | false =>
          rw [hm] at HM
          have HE := Lib.hid (hgo hm)
          clear hgo hst hm
          go_wp2_with fail
          refine (HM.out _).mono ?_
          rintro e w2 ⟨rfl, rfl⟩
          go_wp2_with fail
          go_roundw
          case rel => exact ⟨k + 1, by omega, by omega, by go_num, HE.out, by first | rfl | trivial⟩
          case measure => simp [RowKit.intOf]; omega
      · obtain rfl : k = n := by omega
        have HE := Lib.hid (HEND.out HFIT.out)
        clear HGO HMO HEND hlt
        go_wp2_with fail
        go_ret
        exact ⟨by rw [← HE.out]; rfl, rfl⟩
  · obtain rfl : x = (f : Int) := by omega
    go_enter Try.func16, Try.ntmps16
    go_wp2_with fail
    go_loopw [7] (fun s7 wx => ∃ k : Nat, f ≤ k ∧ k ≤ n ∧ s7 = .int .i64 k ∧ fitK (Wd l) (k - f) f s = k - f ∧ wx = w) (fun s7 _ => n - (RowKit.intOf s7).toNat)
    case atStart => exact ⟨f, Nat.le_refl _, by omega, rfl, by rw [Nat.sub_self]; rfl, rfl⟩
    case round =>
      obtain ⟨k, hfk, hk, rfl, hfit, rfl⟩ := hrel
      have HFIT := Lib.hid hfit
      clear hfit
      by_cases hlt : k < n
      · obtain ⟨hgo, hst⟩ := HGO.out k hfk hlt HFIT.out
        have HM := Lib.hid (fun cc => HMO.out k hfk hlt cc)
        have jk0 : (0 : Int) ≤ (k : Int) := by omega
        have jk1 : (k : Int) < (n : Int) := by omega
        have jk2 : (f : Int) ≤ (k : Int) + 1 := by omega
        have jk3 : (k : Int) + 1 ≤ (c : Int) := by omega
        cases hm : moreK (Wd l) (k + 1 - f) f s with
        | true =>
          rw [hm] at HM
          have HE := Lib.hid (hst hm)
          clear hgo hst hm HGO HMO
          go_wp2_with fail
          refine (HM.out _).mono ?_
          rintro e w2 ⟨rfl, rfl⟩
          go_wp2_with fail
          go_ret
          exact ⟨by rw [← HE.out]; rfl, rfl⟩
        | false =>
          rw [hm] at HM
          have HE := Lib.hid (hgo hm)
          clear hgo hst hm
          go_wp2_with fail
          refine (HM.out _).mono ?_
          rintro e w2 ⟨rfl, rfl⟩
          go_wp2_with fail
          go_roundw
          case rel => exact ⟨k + 1, by omega, by omega, by go_num, HE.out, by first | rfl | trivial⟩
          case measure => simp [RowKit.intOf]; omega
      · obtain rfl : k = n := by omega
        have HE := Lib.hid (HEND.out HFIT.out)
        clear HGO HMO HEND hlt
        go_wp2_with fail
        go_ret
        exact ⟨by rw [← HE.out]; rfl, rfl⟩
end Go.Proofs.Ytfbjgibjlppjoaa.Wr

/-
  Proved here: what parquetryref17.Fits returns, for every row of clusters of at most 2^40 and every two numbers: the plain place. It leaves what was in memory.
-/
set_option linter.unusedVariables false
namespace Go.Proofs.Ytfbjgibjlppjoaa.Wr
open Go Go.RowKit Go.Lib Go.Proofs.Ytfbjgibjlppjoaa.Ku

set_option maxHeartbeats 2000000 in
set_option maxRecDepth 100000 in
theorem rfits_any (A : Option Addr) (l : List C6) (n c : Nat) (x s : Int) (w : World) (hR : CuAt w A l) (hl : l.length = n) (hn : n ≤ 1099511627776) (hc : n ≤ c) (hs : s ≤ 9223372036854775807) :
    Calls Try.prog 16 #[.slice A n c, .int .i64 x, .int .i64 s] w fun e w' => e = .returned (.int .i64 (fitsN l x s)) ∧ w' = w := by
  by_cases h : (n : Int) ≤ max x 0
  · have e : fitsN l x s = n := by unfold fitsN; rw [hl, if_pos h]
    rw [e]
    clear e hR hl
    by_cases hneg : x < 0
    · obtain rfl : n = 0 := by omega
      go_enter Try.func16, Try.ntmps16
      go_wp2
      go_ret
      exact ⟨rfl, rfl⟩
    · have k1 : decide (x < 0) = false := decide_eq_false hneg
      have k2 : decide ((n : Int) ≤ x) = true := decide_eq_true (by omega)
      go_enter Try.func16, Try.ntmps16
      go_wp2
      go_ret
      exact ⟨rfl, rfl⟩
  · have e : fitsN l x s = endF (Wd l) n (max x 0).toNat s := by unfold fitsN; rw [hl, if_neg h]
    rw [e]
    exact rfits_in A l n c (max x 0).toNat s w hR hl hn hc hs (by omega) x (by omega)
end Go.Proofs.Ytfbjgibjlppjoaa.Wr

/-
  Proved here: what parquetryref17.first returns, for every row of clusters of at most 2^40, from a place in it on: the first line from there on. It leaves what was in memory.
-/
set_option linter.unusedVariables false
namespace Go.Proofs.Ytfbjgibjlppjoaa.Wr
open Go Go.RowKit Go.Lib Go.Proofs.Ytfbjgibjlppjoaa.Ku

theorem cu_cells {w : World} {l : List C6} {g off k : Nat} (h : CuAt w (some ⟨g, off, none⟩) l) (hk : k < l.length) : w.cell? ⟨g, off + k * 6, none⟩ = some (.int .i64 l[k].a) ∧ w.cell? ⟨g, off + k * 6 + 1, none⟩ = some (.int .i64 l[k].z) ∧ w.cell? ⟨g, off + k * 6 + 2, none⟩ = some (.int .i64 l[k].f) ∧ w.cell? ⟨g, off + k * 6 + 3, none⟩ = some (.int .i64 l[k].t) ∧ w.cell? ⟨g, off + k * 6 + 4, none⟩ = some (.int .i64 l[k].w) ∧ w.cell? ⟨g, off + k * 6 + 5, none⟩ = some (.int .i64 l[k].c) := by
  obtain ⟨b, o, e, -, h0, h1, h2, h3, h4, h5⟩ := h.at_ hk
  injection e with e
  injection e with e1 e2
  subst e1 e2
  exact ⟨h0, h1, h2, h3, h4, h5⟩
/-- What a scan knows ahead of place k: whether there was one that is no blank, and the last gap. -/
def Scan (B : Nat → Bool) (f E k : Nat) (v : Int) (b : Bool) : Prop := (b = true ↔ ∃ j, f ≤ j ∧ j < k ∧ B j = false) ∧ ((v = -1 ∧ ∀ i, i < k → ¬ Gap B f E i) ∨ ∃ g : Nat, v = g ∧ g < k ∧ Gap B f E g ∧ ∀ i, g < i → i < k → ¬ Gap B f E i)
theorem Scan.start (B : Nat → Bool) (f E : Nat) : Scan B f E f (-1) false :=
  ⟨⟨fun h => (by cases h), fun ⟨j, h1, h2, _⟩ => (by omega)⟩, .inl ⟨rfl, fun i hi h => (by have := h.1; omega)⟩⟩
theorem Scan.no {B : Nat → Bool} {f E k : Nat} {v : Int} {b : Bool} (h : Scan B f E k v b) (hk : f ≤ k) (hb : B k = false) : Scan B f E (k + 1) v true := by
  obtain ⟨h1, h2⟩ := h
  refine ⟨⟨fun _ => ⟨k, hk, by omega, hb⟩, fun _ => rfl⟩, ?_⟩
  rcases h2 with ⟨e, h3⟩ | ⟨g, e, h3, h4, h5⟩
  · refine .inl ⟨e, fun i hi hg => ?_⟩
    by_cases he : i = k
    · subst he; rw [hg.2.2.1] at hb; cases hb
    · exact h3 i (by omega) hg
  · refine .inr ⟨g, e, by omega, h4, fun i hi1 hi2 hg => ?_⟩
    by_cases he : i = k
    · subst he; rw [hg.2.2.1] at hb; cases hb
    · exact h5 i hi1 (by omega) hg
theorem Scan.gap {B : Nat → Bool} {f E k : Nat} {v : Int} (h : Scan B f E k v true) (hk : f ≤ k) (hE : k ≤ E) (hb : B k = true) : Scan B f E (k + 1) k true := by
  obtain ⟨j, j1, j2, j3⟩ := h.1.1 rfl
  exact ⟨⟨fun _ => ⟨j, j1, by omega, j3⟩, fun _ => rfl⟩, .inr ⟨k, rfl, by omega, ⟨hk, hE, hb, j, j1, j2, j3⟩, fun i h1 h2 => by omega⟩⟩
theorem Scan.lead {B : Nat → Bool} {f E k : Nat} {v : Int} (h : Scan B f E k v false) (hk : f ≤ k) (hb : B k = true) : Scan B f E (k + 1) v false := by
  obtain ⟨h1, h2⟩ := h
  have hn : ¬ ∃ j, f ≤ j ∧ j < k ∧ B j = false := fun x => by have := h1.2 x; cases this
  refine ⟨⟨fun x => (by cases x), fun ⟨j, j1, j2, j3⟩ => ?_⟩, ?_⟩
  · exfalso
    by_cases he : j = k
    · subst he; rw [hb] at j3; cases j3
    · exact hn ⟨j, j1, by omega, j3⟩
  · have hg : ¬ Gap B f E k := fun x => by obtain ⟨_, _, _, j, j1, j2, j3⟩ := x; exact hn ⟨j, j1, j2, j3⟩
    rcases h2 with ⟨e, h3⟩ | ⟨g, e, h3, h4, h5⟩
    · refine .inl ⟨e, fun i hi hgi => ?_⟩
      by_cases he : i = k
      · subst he; exact hg hgi
      · exact h3 i (by omega) hgi
    · refine .inr ⟨g, e, by omega, h4, fun i hi1 hi2 hgi => ?_⟩
      by_cases he : i = k
      · subst he; exact hg hgi
      · exact h5 i hi1 (by omega) hgi

set_option maxHeartbeats 4000000 in
set_option maxRecDepth 100000 in
theorem rfirst_any (A : Option Addr) (l : List C6) (n c f : Nat) (s : Int) (w : World) (hR : CuAt w A l) (hl : l.length = n) (hn : n ≤ 1099511627776) (hc : n ≤ c) (hs : s ≤ 9223372036854775807) (hf : f < n) :
    Calls Try.prog 27 #[.slice A n c, .int .i64 f, .int .i64 s] w fun e w' => ∃ t sh : Nat, e = .returned (.tuple #[.int .i64 t, .int .i64 sh]) ∧ First (Wd l) (Bl l) n f s t sh ∧ Below w.heap.size w w' := by
  obtain ⟨g, off, rfl, -⟩ := hR.at_ (k := 0) (by omega)
  have HCC := Lib.hid (fun (k : Nat) (hk : k < l.length) (V : World) (h : Below w.heap.size w V) => cu_cells (hR.below h) hk)
  have HBK := Lib.hid (fun (x : C6) V => rblank_any x V)
  have HL := Lib.hid hl
  have HMO := Lib.hid (fun (cc : Nat) => (show Calls Try.prog 21 #[.slice (some ⟨g, off + f * 6, none⟩) (n - f) cc, .int .i64 s] w fun e w' => e = .returned (.bool (moreK (Wd l) (n - f) f s)) ∧ w' = w from by
    have h := rmore_any (some ⟨g, off + f * 6, none⟩) ((l.drop f).take (n - f)) (n - f) cc s w (cu_part hR f (n - f) (by omega)) (part_len (by omega)) (by omega) hs
    rw [more_part] at h
    exact h))
  have HFI := Lib.hid (rfits_in (some ⟨g, off, none⟩) l n c f s w hR hl hn hc hs hf (f : Int) (by omega))
  have HFA := Lib.hid (fun (h : endF (Wd l) n f s = n) => First.all (W := Wd l) (B := Bl l) h)
  have HFG := Lib.hid (fun b t sh h1 h2 h3 h4 h5 h6 h7 h8 h9 h10 => First.gap (W := Wd l) (B := Bl l) (n := n) (f := f) (w := s) b t sh h1 h2 h3 h4 h5 h6 h7 h8 h9 h10)
  have HFC := Lib.hid (fun h1 h2 => First.cut (W := Wd l) (B := Bl l) (n := n) (f := f) (w := s) h1 h2)
  have HEL := Lib.hid (endF_le (Wd l) s (Nat.le_of_lt hf))
  have HBLA := Lib.hid (fun (k : Nat) (hk : k < l.length) => Bl_at hk)
  have hmd : moreK (Wd l) (n - f) f s = decide (endF (Wd l) n f s < n) := by
    unfold moreK endF
    rw [decide_eq_decide]
    omega
  rw [hmd] at HMO
  have jf0 : (0 : Int) ≤ (f : Int) := by omega
  have jf1 : (f : Int) < (n : Int) := by omega
  have jf2 : (f : Int) ≤ (n : Int) := by omega
  have jf3 : (n : Int) ≤ (c : Int) := by omega
  clear hR hl hmd
  generalize endF (Wd l) n f s = E at *
  have hE1 := HEL.out.1
  have hE2 := HEL.out.2
  by_cases hEn : E < n
  · rw [decide_eq_true hEn] at HMO
    go_enter Try.func27, Try.ntmps27
    go_wp2_with fail
    refine (HMO.out _).mono ?_
    rintro e w1 ⟨rfl, rfl⟩
    go_wp2_with fail
    refine HFI.out.mono ?_
    rintro e w1 ⟨rfl, rfl⟩
    clear HMO HFI
    go_wp2_with fail
    go_loopw [9, 10, 11] (fun s9 s10 s11 wx => ∃ (k : Nat) (v : Int) (b : Bool), f ≤ k ∧ k ≤ E + 1 ∧ s11 = .int .i64 k ∧ s9 = .int .i64 v ∧ s10 = .bool b ∧ Scan (Bl l) f E k v b ∧ Below w1.heap.size w1 wx) (fun _ _ s11 _ => E + 1 - (RowKit.intOf s11).toNat)
    case atStart => exact ⟨f, -1, false, Nat.le_refl _, by omega, rfl, rfl, rfl, Scan.start _ _ _, Below.refl _ _⟩
    case round =>
      obtain ⟨k, v, b, hfk, hk, rfl, rfl, rfl, hsc, hb⟩ := hrel
      have HSC := Lib.hid hsc
      have HB := Lib.hid hb
      clear hsc
      by_cases hlt : k ≤ E
      · have hkl : k < l.length := by rw [HL.out]; omega
        have HCK := Lib.hid (fun V h => HCC.out k hkl V h)
        obtain ⟨c0, c1, c2, c3, c4, c5⟩ := HCK.out wr hb
        have HBV := Lib.hid (HBLA.out k hkl)
        generalize l[k] = x at *
        have HBX := Lib.hid (fun V => HBK.out x V)
        have jk0 : (0 : Int) ≤ (k : Int) := by omega
        have jk1 : (k : Int) < (n : Int) := by omega
        have jk2 : decide ((k : Int) ≤ (E : Int)) = true := decide_eq_true (by omega)
        clear hb hkl
        cases hbl : (x.c == 32) with
        | true =>
          rw [hbl] at HBX HBV
          clear hbl
          cases b with
          | true =>
            have HSN := Lib.hid (HSC.out.gap hfk hlt HBV.out)
            clear HSC
            go_wp2_with fail
            refine (HBX.out _).mono ?_
            rintro e w2 ⟨rfl, hb2⟩
            have HB2 := Lib.hid (HB.out.trans (hb2.mono HB.out.size))
            obtain ⟨c0, c1, c2, c3, c4, c5⟩ := HCK.out w2 HB2.out
            clear hb2
            go_wp2_with fail
            go_roundw
            case rel => exact ⟨k + 1, k, true, by omega, by omega, by go_num, rfl, rfl, HSN.out, HB2.out⟩
            case measure => simp [RowKit.intOf] <;> omega
          | false =>
            have HSN := Lib.hid (HSC.out.lead hfk HBV.out)
            clear HSC
            go_wp2_with fail
            refine (HBX.out _).mono ?_
            rintro e w2 ⟨rfl, hb2⟩
            have HB2 := Lib.hid (HB.out.trans (hb2.mono HB.out.size))
            obtain ⟨c0, c1, c2, c3, c4, c5⟩ := HCK.out w2 HB2.out
            clear hb2
            go_wp2_with fail
            refine (HBX.out _).mono ?_
            rintro e w3 ⟨rfl, hb3⟩
            have HB3 := Lib.hid (HB2.out.trans (hb3.mono HB2.out.size))
            obtain ⟨c0, c1, c2, c3, c4, c5⟩ := HCK.out w3 HB3.out
            clear hb3
            go_wp2_with fail
            go_roundw
            case rel => exact ⟨k + 1, v, false, by omega, by omega, by go_num, rfl, rfl, HSN.out, HB3.out⟩
            case measure => simp [RowKit.intOf] <;> omega
        | false =>
          rw [hbl] at HBX HBV
          clear hbl
          have HSN := Lib.hid (HSC.out.no hfk HBV.out)
          clear HSC
          cases b with
          | true =>
            go_wp2_with fail
            refine (HBX.out _).mono ?_
            rintro e w2 ⟨rfl, hb2⟩
            have HB2 := Lib.hid (HB.out.trans (hb2.mono HB.out.size))
            obtain ⟨c0, c1, c2, c3, c4, c5⟩ := HCK.out w2 HB2.out
            clear hb2
            go_wp2_with fail
            go_roundw
            case rel => exact ⟨k + 1, v, true, by omega, by omega, by go_num, rfl, rfl, HSN.out, HB2.out⟩
            case measure => simp [RowKit.intOf] <;> omega
          | false =>
            go_wp2_with fail
            refine (HBX.out _).mono ?_
            rintro e w2 ⟨rfl, hb2⟩
            have HB2 := Lib.hid (HB.out.trans (hb2.mono HB.out.size))
            obtain ⟨c0, c1, c2, c3, c4, c5⟩ := HCK.out w2 HB2.out
            clear hb2
            go_wp2_with fail
            refine (HBX.out _).mono ?_
            rintro e w3 ⟨rfl, hb3⟩
            have HB3 := Lib.hid (HB2.out.trans (hb3.mono HB2.out.size))
            obtain ⟨c0, c1, c2, c3, c4, c5⟩ := HCK.out w3 HB3.out
            clear hb3
            go_wp2_with fail
            go_roundw
            case rel => exact ⟨k + 1, v, true, by omega, by omega, by go_num, rfl, rfl, HSN.out, HB3.out⟩
            case measure => simp [RowKit.intOf] <;> omega
      · obtain rfl : k = E + 1 := by omega
        rw [show ((E + 1 : Nat) : Int) = (E : Int) + 1 from rfl]
        obtain ⟨-, hsc⟩ := HSC.out
        clear HSC
        have jk2 : decide ((E : Int) + 1 ≤ (E : Int)) = false := decide_eq_false (by omega)
        rcases hsc with ⟨rfl, hno⟩ | ⟨b0, rfl, hb1, hb2, hb3⟩
        · have HCUT := Lib.hid (HFC.out hEn (fun i hi => hno i (by have := hi.2.1; omega) hi))
          clear hno hb HFG HFC HFA HCC HBK
          by_cases hEf : E = f
          · subst hEf
            rw [show max E (E + 1) = E + 1 from by omega] at HCUT
            go_wp2_with fail
            go_ret2
            exact ⟨E + 1, E + 1, rfl, HCUT.out, HB.out⟩
          · rw [show max E (f + 1) = E from by omega] at HCUT
            have je1 : ((E : Int) == (f : Int)) = false := beq_eq_false_iff_ne.2 (by omega)
            have je2 : (E == f) = false := beq_eq_false_iff_ne.2 hEf
            go_wp2_with fail
            go_ret2
            exact ⟨E, E, rfl, HCUT.out, HB.out⟩
        · have HG := Lib.hid hb2
          have HGL := Lib.hid (fun i (h1 : b0 < i) (h2 : Gap (Bl l) f E i) => hb3 i h1 (by have := h2.2.1; omega) h2)
          have hbE : b0 ≤ E := hb2.2.1
          have HBB := Lib.hid hb2.2.2.1
          clear hb2 hb3 hb HFC HFA
          have jb0 : decide ((b0 : Int) < 0) = false := decide_eq_false (by omega)
          have hbn : b0 < n := by omega
          go_wp2_with fail
          go_loopw [12] (fun s12 wx => ∃ sh : Nat, s12 = .int .i64 sh ∧ sh ≤ b0 ∧ (∀ i, sh ≤ i → i ≤ b0 → Bl l i = true) ∧ Below w1.heap.size w1 wx) (fun s12 _ => (RowKit.intOf s12).toNat)
          case atStart => exact ⟨b0, rfl, Nat.le_refl _, fun i h1 h2 => by rw [show i = b0 from by omega]; exact HBB.out, HB.out⟩
          case round =>
            obtain ⟨sh, rfl, hsb, hall, hb4⟩ := hrel
            have HB4 := Lib.hid hb4
            have HALL := Lib.hid hall
            have hfs := HG.out.shown (t := b0 + 1) (s := sh) (by omega) (fun i h1 h2 => HALL.out i h1 (by omega))
            clear hb4 hall HB
            obtain ⟨m, rfl⟩ : ∃ m, sh = m + 1 := ⟨sh - 1, by omega⟩
            have hml : m < l.length := by rw [HL.out]; omega
            have HCM := Lib.hid (fun V h => HCC.out m hml V h)
            obtain ⟨c0, c1, c2, c3, c4, c5⟩ := HCM.out wr HB4.out
            have HBV := Lib.hid (HBLA.out m hml)
            generalize l[m] = x at *
            have HBX := Lib.hid (fun V => HBK.out x V)
            have e1 : IntKind.i64.wrap ((m : Int) + 1 - 1) = (m : Int) := by rw [IntKind.wrap_i64]; omega
            have e2 : IntKind.i64.wrap (m : Int) = (m : Int) := by rw [IntKind.wrap_i64]; omega
            have jm0 : (0 : Int) ≤ (m : Int) := by omega
            have jm1 : (m : Int) < (n : Int) := by omega
            have jm2 : decide ((0 : Int) < (m : Int) + 1) = true := decide_eq_true (by omega)
            clear hml
            cases hbl : (x.c == 32) with
            | true =>
              rw [hbl] at HBX HBV
              clear hbl
              have HALL2 := Lib.hid (show ∀ i, m ≤ i → i ≤ b0 → Bl l i = true from fun i h1 h2 => by
                by_cases e : i = m
                · rw [e]; exact HBV.out
                · exact HALL.out i (by omega) h2)
              go_wp2_with fail
              refine (HBX.out _).mono ?_
              rintro e w5 ⟨rfl, hb5⟩
              have HB5 := Lib.hid (HB4.out.trans (hb5.mono HB4.out.size))
              clear hb5
              go_wp2_with fail
              go_roundw
              case rel => exact ⟨m, by first | rfl | go_num, by omega, HALL2.out, HB5.out⟩
              case measure => simp [RowKit.intOf] <;> omega
            | false =>
              rw [hbl] at HBX HBV
              clear hbl
              go_wp2_with fail
              refine (HBX.out _).mono ?_
              rintro e w5 ⟨rfl, hb5⟩
              have HB5 := Lib.hid (HB4.out.trans (hb5.mono HB4.out.size))
              clear hb5 c0 c1 c2 c3 c4 c5
              go_wp2_with fail
              go_loopw [13] (fun s13 wx => ∃ t : Nat, s13 = .int .i64 t ∧ b0 < t ∧ t ≤ n ∧ (∀ i, b0 < i → i < t → Bl l i = true) ∧ Below w1.heap.size w1 wx) (fun s13 _ => n - (RowKit.intOf s13).toNat)
              case atStart => exact ⟨b0 + 1, by go_num, by omega, by omega, fun i h1 h2 => by omega, HB5.out⟩
              case round =>
                obtain ⟨t, rfl, hbt, htn, hall3, hb6⟩ := hrel
                have HB6 := Lib.hid hb6
                have HALL3 := Lib.hid hall3
                clear hb6 hall3
                have HTS := Lib.hid (show ∀ i, m + 1 ≤ i → i < t → Bl l i = true from fun i h1 h2 => by
                  by_cases e : i ≤ b0
                  · exact HALL.out i h1 e
                  · exact HALL3.out i (by omega) h2)
                by_cases htl : t < n
                · have htl2 : t < l.length := by rw [HL.out]; exact htl
                  obtain ⟨c0, c1, c2, c3, c4, c5⟩ := HCC.out t htl2 wr HB6.out
                  have HBV2 := Lib.hid (HBLA.out t htl2)
                  generalize l[t] = y at *
                  have HBY := Lib.hid (fun V => HBK.out y V)
                  have jt0 : (0 : Int) ≤ (t : Int) := by omega
                  have jt1 : (t : Int) < (n : Int) := by omega
                  clear htl2
                  cases hbl : (y.c == 32) with
                  | true =>
                    rw [hbl] at HBY HBV2
                    clear hbl
                    go_wp2_with fail
                    refine (HBY.out _).mono ?_
                    rintro e w7 ⟨rfl, hb7⟩
                    have HB7 := Lib.hid (HB6.out.trans (hb7.mono HB6.out.size))
                    clear hb7
                    go_wp2_with fail
                    go_roundw
                    case rel => exact ⟨t + 1, by go_num, by omega, by omega, fun i h1 h2 => by
                      by_cases e : i = t
                      · rw [e]; exact HBV2.out
                      · exact HALL3.out i h1 (by omega), HB7.out⟩
                    case measure => simp [RowKit.intOf] <;> omega
                  | false =>
                    rw [hbl] at HBY HBV2
                    clear hbl
                    have HF := Lib.hid (HFG.out b0 t (m + 1) hEn HG.out HGL.out hsb HTS.out (by omega) HBV.out hbt htn (fun _ => HBV2.out))
                    go_wp2_with fail
                    refine (HBY.out _).mono ?_
                    rintro e w7 ⟨rfl, hb7⟩
                    have HB7 := Lib.hid (HB6.out.trans (hb7.mono HB6.out.size))
                    clear hb7
                    go_wp2_with fail
                    go_ret2
                    exact ⟨t, m + 1, rfl, HF.out, HB7.out⟩
                · obtain rfl : t = n := by omega
                  have HF := Lib.hid (HFG.out b0 t (m + 1) hEn HG.out HGL.out hsb HTS.out (by omega) HBV.out hbt htn (fun h => by omega))
                  go_wp2_with fail
                  go_ret2
                  exact ⟨t, m + 1, rfl, HF.out, HB6.out⟩
  · obtain rfl : E = n := by omega
    rw [decide_eq_false hEn] at HMO
    have HF := Lib.hid (HFA.out rfl)
    clear HFG HFC HFA HCC HBK HFI
    go_enter Try.func27, Try.ntmps27
    go_wp2_with fail
    refine (HMO.out _).mono ?_
    rintro e w1 ⟨rfl, rfl⟩
    go_wp2_with fail
    go_ret2
    exact ⟨E, E, rfl, HF.out, Below.refl _ _⟩
end Go.Proofs.Ytfbjgibjlppjoaa.Wr

/-
  A law for the builtin append onto a row of the call's own, of whatever slice is appended, nil too: one way through.
-/
set_option linter.unusedVariables false
namespace Go.Proofs.Ytfbjgibjlppjoaa
open Go

theorem wpList_append_src {P : Program} (w : World) {ops : Array Oper} {rest : List Oper} {o : Oper} {a : Act} {Q : Exit → Act → World → Prop} (hgd : o.guard = none) (s x : Operand) (t : TypeId)
    (ho : o.op = .call { callee := .builtin .append, args := #[s, x], argTypes := #[t, t] })
    (base : Nat) (e : TypeId) (i : TypeInfo) (z : Value) (size bytes : Nat) (ht : P.underlying t = some (.slice e)) (hi : P.info? e = some i) (hz : i.zero = some z)
    (hsize : i.size = size) (hby : i.bytes = bytes) (hzs : z.cells.size = size) (hsz : 0 < size)
    (v : Value) (n : Nat) (xs : List Value) (hs : a.eval s = v) (hown : w.ownsRow base e size v n xs)
    (A : Option Addr) (m c : Nat) (news : List Value) (hx : a.eval x = .slice A m c) (hl : news.length = m * size) (hA : A = none → m = 0) (hnews : ∀ ad, A = some ad → ∀ j u, news[j]? = some u → w.cell? (ad.add j) = some u) (h1 : ∀ u ∈ news, u.oneCell' = true)
    (h63 : n + m ≤ maxLen) (hbytes : (n + m) * bytes ≤ 140737488355328) (hbase : base ≤ w.heap.size)
    (h : ∀ v' w', w'.ownsRow base e size v' (n + m) (xs ++ news) → w.grownBy w' v.ownBlock → wpList P ops Q rest (a.put o.dst v') w') : wpList P ops Q (o :: rest) a w := by
  cases A with
  | some ad => exact wpList_append_own w hgd s x t ho base e i z size bytes ht hi hz hsize hby hzs hsz v n xs hs hown ad m c news hx hl (hnews ad rfl) h1 h63 hbytes hbase (fun v' w' h2 h3 _ => h v' w' h2 h3)
  | none =>
    obtain rfl := hA rfl
    obtain rfl : news = [] := List.eq_nil_of_length_eq_zero (by omega)
    have hshape : ∃ b k d, v = .slice b k d ∧ k ≤ d := by
      rcases hown.2 with ⟨rfl, _⟩ | ⟨g, cap, cur, rfl, _, _, hle, _⟩
      · exact ⟨_, _, _, rfl, Nat.le_refl _⟩
      · exact ⟨_, _, _, rfl, hle⟩
    obtain ⟨b, k, d, rfl, hkd⟩ := hshape
    have hr := run_append_nothing (P := P) w t t o.type e i ht hi b k d hkd (.slice none 0 c) (Src.ofNil w ht c)
    refine wpList_plain hgd fun K hK => ?_
    unfold Oper.wp execOp
    simp only [ho, resolve, invoke, builtin, Sem.run_bind, Sem.run_pure, Result.andThen_ok, List.map_toArray, List.map_cons, List.map_nil, hs, hx, hr]
    refine hK _ _ (h _ _ ?_ ⟨rfl, rfl, rfl, Nat.le_refl _, fun _ _ _ => rfl⟩)
    rw [Nat.add_zero, List.append_nil]
    exact hown
end Go.Proofs.Ytfbjgibjlppjoaa

/-
  The built-in append of ints onto a row of the call's own, of whatever row of ints, in one step of a walk: what is owned then, and that nothing below the row's base changes.
-/
set_option linter.unusedVariables false
namespace Go.Proofs.Ytfbjgibjlppjoaa.Cl
open Go Go.RowKit Go.Lib

/-- The cells of a row of ints. -/
def icl (zs : List Int) : List Value := zs.map (Value.int .i64)
theorem icl_snoc (a : List Int) (z : Int) : icl (a ++ [z]) = icl a ++ [.int .i64 z] := by simp [icl]
theorem icl_append (a b : List Int) : icl (a ++ b) = icl a ++ icl b := by simp [icl]
theorem icl_len (a : List Int) : (icl a).length = a.length := by simp [icl]
theorem intsAt_icl {w : World} {B n : Nat} {v : Value} {zs : List Int} (h : w.ownsRow B 3 1 v n (icl zs)) (hn : zs.length = n) : ∃ A c, v = .slice A n c ∧ IntsAt w A zs := by
  subst hn
  exact intsAt_own h
theorem made_ints (zs : List Int) (cs : Array Value) (e : TypeId) (w : World) (h : cs = (zs.map (Value.int .i64)).toArray) : IntsAt (w.alloc (.cells cs e)) (some ⟨w.heap.size, 0, none⟩) zs := by
  subst h
  refine .inr ⟨w.heap.size, 0, rfl, by simp, fun j z hz => ?_⟩
  obtain ⟨hj, rfl⟩ := List.getElem?_eq_some_iff.1 hz
  simp [hj]
theorem made_ints' {W : World} {B : Nat} {zs : List Int} {cs : Array Value} {e : TypeId} (hB : W.heap.size = B) (h : cs = (zs.map (Value.int .i64)).toArray) : IntsAt (W.alloc (.cells cs e)) (some ⟨B, 0, none⟩) zs := by
  subst hB
  exact made_ints zs cs e W h
theorem below_made (w : World) (o : Obj) : Below w.heap.size w (w.alloc o) := (Below.refl _ _).alloc (Nat.le_refl _) _

theorem wpList_add {ops : Array Oper} {rest : List Oper} {o : Oper} {a : Act} {Q : Exit → Act → World → Prop} {w : World} (hgd : o.guard = none) (s x : Operand)
    (ho : o.op = .call { callee := .builtin .append, args := #[s, x], argTypes := #[55, 55] })
    (base : Nat) (v : Value) (n : Nat) (zs : List Int) (hs : a.eval s = v) (hown : w.ownsRow base 3 1 v n (icl zs))
    (A : Option Addr) (m c : Nat) (ys : List Int) (hx : a.eval x = .slice A m c) (hy : IntsAt w A ys) (hl : ys.length = m) (hnm : n + m ≤ 1099511627776) (hbase : base ≤ w.heap.size)
    (h : ∀ v' w', w'.ownsRow base 3 1 v' (n + m) (icl (zs ++ ys)) → Below base w w' → wpList Try.prog ops Q rest (a.put o.dst v') w') : wpList Try.prog ops Q (o :: rest) a w := by
  obtain ⟨i0, hi, hz0, hz1, hz2⟩ := info_parts infoInt
  refine wpList_append_src w hgd s x 55 ho base 3 i0 (.int .i64 0) 1 8 Try.underlying55 hi hz0 hz1 hz2 rfl (by decide) v n (icl zs) hs hown A m c (icl ys) hx (by rw [icl_len, hl, Nat.mul_one])
    (fun e => by rw [← hl]; exact hy.nil_len e) (fun ad had => ?_) (ints_one _) (by unfold maxLen; omega) (by omega) hbase (fun v' w' h2 h3 => h v' w' (by rw [icl_append]; exact h2) ?_)
  · subst had
    exact hy.news
  · exact (Below.refl base w).grown h3 hbase (fun k hk => (hown.lt k hk).1)
end Go.Proofs.Ytfbjgibjlppjoaa.Cl
