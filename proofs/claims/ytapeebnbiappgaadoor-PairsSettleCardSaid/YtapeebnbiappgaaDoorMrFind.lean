/-
  Proved here: what parquetryref03.inRows, inPairs return at rows as the document has them; they leave what was in memory.
-/
import Derived.Test.YtapeebnbiappgaaDoorMrTab
import Derived.Test.YtapeebnbiappgaaDoorMiSearch
set_option linter.unusedVariables false
namespace Go.Proofs.YtapeebnbiappgaaDoor.Mr
open Go.RowKit Go.Lib Go.Proofs.YtapeebnbiappgaaDoor.Mi Go.Proofs.YtapeebnbiappgaaDoor.Tab

/-- Rows of pairs of neighbours; pairs. -/
def rowB (r : MRow) : Bool := decide (0 ≤ r.1) && (decide (r.1 < r.2.1) && (decide (r.2.1 ≤ 100000) && ((r.2.1 - r.1) % 2 == 1 && r.2.2 == 1)))
def twoB (r : MRow) : Bool := decide (0 ≤ r.1) && (decide (r.1 < r.2.1) && (decide (r.2.1 ≤ 100000) && (r.2.1 - r.1 == r.2.2)))
theorem rowB_is {r : MRow} (h : rowB r = true) : 0 ≤ r.1 ∧ r.1 < r.2.1 ∧ r.2.1 ≤ 100000 ∧ (r.2.1 - r.1) % 2 = 1 ∧ r.2.2 = 1 := by
  simp only [rowB, Bool.and_eq_true, decide_eq_true_eq, beq_iff_eq] at h
  exact ⟨h.1, h.2.1, h.2.2.1, h.2.2.2.1, h.2.2.2.2⟩
theorem twoB_is {r : MRow} (h : twoB r = true) : 0 ≤ r.1 ∧ r.1 < r.2.1 ∧ r.2.1 ≤ 100000 ∧ r.2.1 - r.1 = r.2.2 := by
  simp only [twoB, Bool.and_eq_true, decide_eq_true_eq, beq_iff_eq] at h
  exact ⟨h.1, h.2.1, h.2.2.1, h.2.2.2⟩
theorem row_first {r : MRow} {c : Int} {m : Nat} (h : rowB r = true) (hc : c = r.1 + 2 * m) (hm : r.1 + 2 * m < r.2.1) : hasB r c = true ∧ pairR r c = (1, c + 1) := by
  obtain ⟨h1, h2, h3, h4, h5⟩ := rowB_is h
  obtain ⟨a, b, s⟩ := r
  simp only at *
  subst hc h5
  unfold hasB pairR
  simp only [Bool.and_eq_true, decide_eq_true_eq, beq_iff_eq]
  refine ⟨⟨by omega, by omega, by omega⟩, ?_⟩
  rw [if_pos (by omega)]
theorem row_second {r : MRow} {c : Int} {m : Nat} (h : rowB r = true) (hc : c = r.1 + 2 * m + 1) (hm : r.1 + 2 * m < r.2.1) : hasB r c = true ∧ pairR r c = (2, c - 1) := by
  obtain ⟨h1, h2, h3, h4, h5⟩ := rowB_is h
  obtain ⟨a, b, s⟩ := r
  simp only at *
  subst hc h5
  unfold hasB pairR
  simp only [Bool.and_eq_true, decide_eq_true_eq, beq_iff_eq]
  refine ⟨⟨by omega, by omega, by omega⟩, ?_⟩
  rw [if_neg (by omega)]
theorem row_not {r : MRow} {c : Int} {m : Nat} (h : rowB r = true) (hm : r.2.1 ≤ r.1 + 2 * m) (hc : c < r.1 ∨ r.1 + 2 * m ≤ c) : hasB r c = false := by
  obtain ⟨h1, h2, h3, h4, h5⟩ := rowB_is h
  obtain ⟨a, b, s⟩ := r
  simp only at *
  unfold hasB
  simp only [Bool.and_eq_false_iff, decide_eq_false_iff_not]
  omega
theorem two_first {r : MRow} (h : twoB r = true) : hasB r r.1 = true ∧ pairR r r.1 = (1, r.2.1) := by
  obtain ⟨h1, h2, h3, h4⟩ := twoB_is h
  obtain ⟨a, b, s⟩ := r
  simp only at *
  subst h4
  unfold hasB pairR
  simp only [Bool.and_eq_true, decide_eq_true_eq, beq_iff_eq]
  refine ⟨⟨by omega, by omega, by simp⟩, ?_⟩
  rw [if_pos (by simp)]
  congr 1
  omega
theorem two_second {r : MRow} (h : twoB r = true) : hasB r r.2.1 = true ∧ pairR r r.2.1 = (2, r.1) := by
  obtain ⟨h1, h2, h3, h4⟩ := twoB_is h
  obtain ⟨a, b, s⟩ := r
  simp only at *
  subst h4
  unfold hasB pairR
  simp only [Bool.and_eq_true, decide_eq_true_eq, beq_iff_eq]
  refine ⟨⟨by omega, by omega, by simp⟩, ?_⟩
  rw [Int.ediv_self (by omega), if_neg (by decide)]
  congr 1
  omega
theorem two_not {r : MRow} {c : Int} (h : twoB r = true) (hc1 : c ≠ r.1) (hc2 : c ≠ r.2.1) : hasB r c = false := by
  obtain ⟨h1, h2, h3, h4⟩ := twoB_is h
  obtain ⟨a, b, s⟩ := r
  simp only at *
  subst h4
  unfold hasB
  simp only [Bool.and_eq_false_iff, decide_eq_false_iff_not, beq_eq_false_iff_ne]
  by_cases h5 : a ≤ c
  · by_cases h6 : c ≤ b
    · right; right
      rw [Int.emod_eq_of_lt (by omega) (by omega)]
      omega
    · exact .inr (.inl h6)
  · exact .inl h5

theorem ret2 {a b c d : Int} (h1 : a = c) (h2 : b = d) : Ending.returned (.tuple #[.int .i64 a, .int .i64 b]) = .returned (.tuple #[.int .i64 c, .int .i64 d]) := by rw [h1, h2]
theorem flat_at {w : World} {g : Nat} {rs : List MRow} (h : LitAt w g (flatR rs)) {k : Nat} (hk : k < rs.length) : w.cell? ⟨g, 2 * k, none⟩ = some (.int .i64 rs[k].1) ∧ w.cell? ⟨g, 2 * k + 1, none⟩ = some (.int .i64 rs[k].2.1) := by
  have hl := flatR_len rs
  obtain ⟨h1, h2⟩ := flatR_at rs k hk
  rw [List.getElem?_eq_getElem (by omega), Option.some.injEq] at h1 h2
  have h3 := h.2 (2 * k) (by omega)
  have h4 := h.2 (2 * k + 1) (by omega)
  rw [h1] at h3
  rw [h2] at h4
  exact ⟨h3, h4⟩

set_option maxHeartbeats 1000000 in
set_option maxRecDepth 100000 in
theorem inRows_any (g : Nat) (rs : List MRow) (c : Int) (n : Nat) (w : World) (hn : n = 2 * rs.length) (hR : LitAt w g (flatR rs)) (hl : rs.length ≤ 1000) (hok : ∀ r ∈ rs, rowB r = true) :
    Calls Tryd.prog 42 #[.slice (some ⟨g, 0, none⟩) n n, .int .i64 c] w fun e w' => e = .returned (.tuple #[.int .i64 (inR rs c).1, .int .i64 (inR rs c).2]) ∧ w = w' := by
  have HR := Lib.hid hR
  have HOK := Lib.hid hok
  have HN := Lib.hid hn
  have hn2 : n ≤ 2000 := by omega
  clear hR hok hn
  obtain ⟨res, hres⟩ : ∃ res, inR rs c = res := ⟨_, rfl⟩
  rw [hres]
  have HRes := Lib.hid hres
  clear hres
  go_enter Tryd.func42, Tryd.ntmps42
  go_wp2
  go_loop [6] (fun s6 => ∃ k i : Nat, k = 2 * i ∧ k ≤ n ∧ s6 = .int .i64 k ∧ ∀ j (hj : j < rs.length), j < i → hasB rs[j] c = false) (fun s6 => n - (RowKit.intOf s6).toNat)
  case atStart => exact ⟨0, 0, rfl, Nat.zero_le _, rfl, fun j _ h => by omega⟩
  case round =>
    obtain ⟨k, i, hki, hk, rfl, hlo⟩ := hrel
    have HLO := Lib.hid hlo
    have HKI := Lib.hid hki
    clear hlo hki
    by_cases hltk : k < n
    · have hlt : i < rs.length := by have := HN.out; have := HKI.out; omega
      have hlt1 : k + 1 < n := by have := HN.out; have := HKI.out; omega
      obtain ⟨c0, c1⟩ := flat_at HR.out hlt
      rw [← HKI.out] at c0 c1
      have hr := HOK.out _ (List.getElem_mem hlt)
      obtain ⟨r, hrr⟩ : ∃ r, rs[i] = r := ⟨_, rfl⟩
      rw [hrr] at c0 c1 hr
      have HRR := Lib.hid hrr
      clear hrr
      obtain ⟨b1, b2, b3, b4, b5⟩ := rowB_is hr
      have HB4 := Lib.hid b4
      have HB5 := Lib.hid b5
      have HRB := Lib.hid hr
      clear hr b4 b5
      have HF : ∀ m : Nat, c = r.1 + 2 * m → r.1 + 2 * m < r.2.1 → res = (1, c + 1) := fun m h1 h2 => by
        obtain ⟨h3, h4⟩ := row_first HRB.out h1 h2
        rw [← HRes.out, inR_at rs c i hlt HLO.out (by rw [HRR.out]; exact h3), HRR.out, h4]
      have HS : ∀ m : Nat, c = r.1 + 2 * m + 1 → r.1 + 2 * m < r.2.1 → res = (2, c - 1) := fun m h1 h2 => by
        obtain ⟨h3, h4⟩ := row_second HRB.out h1 h2
        rw [← HRes.out, inR_at rs c i hlt HLO.out (by rw [HRR.out]; exact h3), HRR.out, h4]
      have HX : ∀ m : Nat, r.2.1 ≤ r.1 + 2 * m → (c < r.1 ∨ r.1 + 2 * m ≤ c) → ∀ j (hj : j < rs.length), j < i + 1 → hasB rs[j] c = false := fun m h1 h2 j hj hji => by
        by_cases e : j = i
        · subst e; rw [HRR.out]; exact row_not HRB.out h1 h2
        · exact HLO.out j hj (by omega)
      have HF' := Lib.hid HF
      have HS' := Lib.hid HS
      have HX' := Lib.hid HX
      clear HF HS HX
      generalize r.1 = a0 at *
      generalize r.2.1 = z0 at *
      go_wp2_with fail
      go_loop [7] (fun s7 => ∃ m : Nat, a0 + 2 * m ≤ z0 + 1 ∧ s7 = .int .i64 (a0 + 2 * m) ∧ (c < a0 ∨ a0 + 2 * m ≤ c)) (fun s7 => (z0 + 1 - RowKit.intOf s7).toNat)
      case atStart => exact ⟨0, by omega, by simp, by omega⟩
      case round =>
        obtain ⟨m, hm, rfl, hc⟩ := hrel
        by_cases hm2 : a0 + 2 * m < z0
        · by_cases e1 : c = a0 + 2 * m
          · have hd : (c == a0 + 2 * m) = true := by simpa using e1
            have HD := Lib.hid (HF'.out m e1 hm2)
            have HE := Lib.hid e1
            clear e1
            go_wp2
            go_ret2
            exact ⟨ret2 (by rw [HD.out]) (by rw [HD.out, HE.out]), rfl⟩
          · have hd : (c == a0 + 2 * m) = false := by simpa using e1
            by_cases e2 : c = a0 + 2 * m + 1
            · have hd2 : (c == a0 + 2 * m + 1) = true := by simpa using e2
              have HD := Lib.hid (HS'.out m e2 hm2)
              have HE := Lib.hid e2
              clear e1 e2
              go_wp2
              go_ret2
              exact ⟨ret2 (by rw [HD.out]) (by rw [HD.out, HE.out]; omega), rfl⟩
            · have hd2 : (c == a0 + 2 * m + 1) = false := by simpa using e2
              have hnext : c < a0 ∨ a0 + 2 * ((m + 1 : Nat) : Int) ≤ c := by omega
              have HNE := Lib.hid hnext
              clear hnext e1 e2 hc
              go_wp2
              go_round
              case rel => exact ⟨m + 1, by have := HB4.out; omega, by go_num, HNE.out⟩
              case measure => simp [RowKit.intOf]; omega
        · have HX2 := Lib.hid (HX'.out m (by omega) hc)
          clear hc
          go_wp2
          go_round
          case rel => exact ⟨k + 2, i + 1, by have := HKI.out; omega, by omega, by go_num, HX2.out⟩
          case measure => simp [RowKit.intOf]; omega
    · have HD := Lib.hid (inR_none rs c fun r hr => by
        obtain ⟨j, hj, rfl⟩ := List.mem_iff_getElem.1 hr
        exact HLO.out j hj (by have := HN.out; have := HKI.out; omega))
      go_wp2
      go_ret2
      exact ⟨ret2 (by rw [← HRes.out, HD.out]) (by rw [← HRes.out, HD.out]), rfl⟩

set_option maxHeartbeats 1000000 in
set_option maxRecDepth 100000 in
theorem inPairs_any (g : Nat) (rs : List MRow) (c : Int) (n : Nat) (w : World) (hn : n = 2 * rs.length) (hR : LitAt w g (flatR rs)) (hl : rs.length ≤ 1000) (hok : ∀ r ∈ rs, twoB r = true) :
    Calls Tryd.prog 44 #[.slice (some ⟨g, 0, none⟩) n n, .int .i64 c] w fun e w' => e = .returned (.tuple #[.int .i64 (inR rs c).1, .int .i64 (inR rs c).2]) ∧ Below w.heap.size w w' := by
  have HR := Lib.hid hR
  have HOK := Lib.hid hok
  have HN := Lib.hid hn
  have hn2 : n ≤ 2000 := by omega
  clear hR hok hn
  obtain ⟨res, hres⟩ : ∃ res, inR rs c = res := ⟨_, rfl⟩
  rw [hres]
  have HRes := Lib.hid hres
  clear hres
  go_enter Tryd.func44, Tryd.ntmps44
  go_wp2
  go_loop [6] (fun s6 => ∃ k i : Nat, k = 2 * i ∧ k ≤ n ∧ s6 = .int .i64 k ∧ ∀ j (hj : j < rs.length), j < i → hasB rs[j] c = false) (fun s6 => n - (RowKit.intOf s6).toNat)
  case atStart => exact ⟨0, 0, rfl, Nat.zero_le _, rfl, fun j _ h => by omega⟩
  case round =>
    obtain ⟨k, i, hki, hk, rfl, hlo⟩ := hrel
    have HLO := Lib.hid hlo
    have HKI := Lib.hid hki
    clear hlo hki
    by_cases hltk : k < n
    · have hlt : i < rs.length := by have := HN.out; have := HKI.out; omega
      have hlt1 : k + 1 < n := by have := HN.out; have := HKI.out; omega
      obtain ⟨c0, c1⟩ := flat_at HR.out hlt
      rw [← HKI.out] at c0 c1
      have hr := HOK.out _ (List.getElem_mem hlt)
      obtain ⟨r, hrr⟩ : ∃ r, rs[i] = r := ⟨_, rfl⟩
      rw [hrr] at c0 c1 hr
      have HRR := Lib.hid hrr
      clear hrr
      have HRB := Lib.hid hr
      clear hr
      have HF : c = r.1 → res = (1, r.2.1) := fun h1 => by
        obtain ⟨h3, h4⟩ := two_first HRB.out
        rw [← h1] at h3 h4
        rw [← HRes.out, inR_at rs c i hlt HLO.out (by rw [HRR.out]; exact h3), HRR.out, h4]
      have HS : c = r.2.1 → res = (2, r.1) := fun h1 => by
        obtain ⟨h3, h4⟩ := two_second HRB.out
        rw [← h1] at h3 h4
        rw [← HRes.out, inR_at rs c i hlt HLO.out (by rw [HRR.out]; exact h3), HRR.out, h4]
      have HX : c ≠ r.1 → c ≠ r.2.1 → ∀ j (hj : j < rs.length), j < i + 1 → hasB rs[j] c = false := fun h1 h2 j hj hji => by
        by_cases e : j = i
        · subst e; rw [HRR.out]; exact two_not HRB.out h1 h2
        · exact HLO.out j hj (by omega)
      have HF' := Lib.hid HF
      have HS' := Lib.hid HS
      have HX' := Lib.hid HX
      clear HF HS HX
      generalize r.1 = a0 at *
      generalize r.2.1 = z0 at *
      by_cases e1 : c = a0
      · have hd : (c == a0) = true := by simpa using e1
        have HD := Lib.hid (HF'.out e1)
        clear e1
        go_wp2_with fail
        go_quiet (fail)
        all_goals go_wp2
        all_goals go_ret2
        all_goals exact ⟨ret2 (by rw [HD.out]) (by rw [HD.out]), below_drewN (Below.refl _ _) _⟩
      · have hd : (c == a0) = false := by simpa using e1
        by_cases e2 : c = z0
        · have hd2 : (c == z0) = true := by simpa using e2
          have HD := Lib.hid (HS'.out e2)
          clear e1 e2
          go_wp2_with fail
          go_quiet (fail)
          all_goals go_wp2
          all_goals go_ret2
          all_goals exact ⟨ret2 (by rw [HD.out]) (by rw [HD.out]), below_drewN (Below.refl _ _) _⟩
        · have hd2 : (c == z0) = false := by simpa using e2
          have HX2 := Lib.hid (HX'.out e1 e2)
          clear e1 e2
          go_wp2
          go_round
          case rel => exact ⟨k + 2, i + 1, by have := HKI.out; omega, by omega, by go_num, HX2.out⟩
          case measure => simp [RowKit.intOf]; omega
    · have HD := Lib.hid (inR_none rs c fun r hr => by
        obtain ⟨j, hj, rfl⟩ := List.mem_iff_getElem.1 hr
        exact HLO.out j hj (by have := HN.out; have := HKI.out; omega))
      go_wp2
      go_ret2
      exact ⟨ret2 (by rw [← HRes.out, HD.out]) (by rw [← HRes.out, HD.out]), Below.refl _ _⟩
end Go.Proofs.YtapeebnbiappgaaDoor.Mr
