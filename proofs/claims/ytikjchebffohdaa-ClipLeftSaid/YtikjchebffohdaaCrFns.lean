/-
  Proved here: what parquetryref04.Narrow, Wide, in, Of return, for every number; they leave what was in memory. Condition (in): a row of at most 1000 spans.
-/
import Derived.Test.YtikjchebffohdaaArrKit
import Derived.Test.YtikjchebffohdaaCoPlain
set_option linter.unusedVariables false
namespace Go.Proofs.Ytikjchebffohdaa.Cr
open Go.RowKit Go.Lib Go.Proofs.Ytikjchebffohdaa.Co Go.Proofs.Ytikjchebffohdaa.Tab

theorem flatL_len : ∀ (l : List CSpan), (flatL l).length = 2 * l.length
  | [] => rfl
  | r :: l => by
    have := flatL_len l
    unfold flatL at this ⊢
    rw [List.flatMap_cons, List.length_append, this]
    simp
    omega
theorem flatL_at : ∀ (l : List CSpan) (k : Nat) (hk : k < l.length), (flatL l)[2 * k]? = some l[k].1 ∧ (flatL l)[2 * k + 1]? = some l[k].2
  | r :: l, 0, hk => ⟨rfl, rfl⟩
  | r :: l, k + 1, hk => by
    have := flatL_at l k (by simpa using hk)
    rw [show flatL (r :: l) = r.1 :: r.2 :: flatL l from rfl, show 2 * (k + 1) = 2 * k + 1 + 1 from by omega]
    simpa using this
theorem flat_at {w : World} {g : Nat} {rs : List CSpan} (h : LitAt w g (flatL rs)) {k : Nat} (hk : k < rs.length) : w.cell? ⟨g, 2 * k, none⟩ = some (.int .i64 rs[k].1) ∧ w.cell? ⟨g, 2 * k + 1, none⟩ = some (.int .i64 rs[k].2) := by
  have hl := flatL_len rs
  obtain ⟨h1, h2⟩ := flatL_at rs k hk
  rw [List.getElem?_eq_getElem (by omega), Option.some.injEq] at h1 h2
  have h3 := h.2 (2 * k) (by omega)
  have h4 := h.2 (2 * k + 1) (by omega)
  rw [h1] at h3
  rw [h2] at h4
  exact ⟨h3, h4⟩
theorem inS_take (rs : List CSpan) (c : Int) (k : Nat) (hk : k < rs.length) (h : inS (rs.take k) c = false) : inS (rs.take (k + 1)) c = (decide (rs[k].1 ≤ c) && decide (c ≤ rs[k].2)) := by
  unfold inS at h ⊢
  rw [List.take_succ_eq_append_getElem hk, List.any_append, h]
  simp
theorem inS_yes (rs : List CSpan) (c : Int) (k : Nat) (hk : k < rs.length) (h : (decide (rs[k].1 ≤ c) && decide (c ≤ rs[k].2)) = true) : inS rs c = true :=
  List.any_eq_true.2 ⟨_, List.getElem_mem hk, h⟩

set_option maxHeartbeats 1000000 in
set_option maxRecDepth 100000 in
theorem in_any (g : Nat) (rs : List CSpan) (c : Int) (n : Nat) (w : World) (hn : n = 2 * rs.length) (hR : LitAt w g (flatL rs)) (hl : rs.length ≤ 1000) :
    Calls Try.prog 39 #[.slice (some ⟨g, 0, none⟩) n n, .int .i64 c] w fun e w' => e = .returned (.bool (inS rs c)) ∧ w = w' := by
  have HR := Lib.hid hR
  have HN := Lib.hid hn
  have hn2 : n ≤ 2000 := by omega
  clear hR hn
  obtain ⟨res, hres⟩ : ∃ res, inS rs c = res := ⟨_, rfl⟩
  rw [hres]
  have HRes := Lib.hid hres
  clear hres
  go_enter Try.func39, Try.ntmps39
  go_wp2
  go_loop [5] (fun s5 => ∃ k i : Nat, k = 2 * i ∧ k ≤ n ∧ s5 = .int .i64 k ∧ inS (rs.take i) c = false) (fun s5 => n - (RowKit.intOf s5).toNat)
  case atStart => exact ⟨0, 0, rfl, Nat.zero_le _, rfl, rfl⟩
  case round =>
    obtain ⟨k, i, hki, hk, rfl, hlo⟩ := hrel
    have HLO := Lib.hid hlo
    have HKI := Lib.hid hki
    clear hlo hki
    by_cases hltk : k < n
    · have hlt : i < rs.length := by have := HN.out; have := HKI.out; omega
      have hlt1 : k + 1 < n := by have := HN.out; have := HKI.out; omega
      obtain ⟨c0, c1⟩ := flat_at HR.out hlt
      rw [← HKI.out] at c0 c1
      have HT := Lib.hid (inS_take rs c i hlt HLO.out)
      have HY := Lib.hid (inS_yes rs c i hlt)
      generalize rs[i] = r at *
      obtain ⟨a, z⟩ := r
      simp only at c0 c1 HT HY
      by_cases e1 : a ≤ c
      · have d1 : decide (a ≤ c) = true := decide_eq_true e1
        by_cases e2 : c ≤ z
        · have d2 : decide (c ≤ z) = true := decide_eq_true e2
          have HV := Lib.hid (HRes.out.symm.trans (HY.out (by simp only [d1, d2, Bool.and_self])))
          clear e1 e2
          go_wp2
          go_ret
          exact ⟨by rw [HV.out]; rfl, rfl⟩
        · have d2 : decide (c ≤ z) = false := decide_eq_false e2
          have HV := Lib.hid (show inS (rs.take (i + 1)) c = false from HT.out.trans (by rw [d2, Bool.and_false]))
          clear e1 e2
          go_wp2
          go_round
          case rel => exact ⟨k + 2, i + 1, by have := HKI.out; omega, by have := HN.out; have := HKI.out; omega, by go_num, HV.out⟩
          case measure => simp [RowKit.intOf]; omega
      · have d1 : decide (a ≤ c) = false := decide_eq_false e1
        have HV := Lib.hid (show inS (rs.take (i + 1)) c = false from HT.out.trans (by rw [d1, Bool.false_and]))
        clear e1
        go_wp2
        go_round
        case rel => exact ⟨k + 2, i + 1, by have := HKI.out; omega, by have := HN.out; have := HKI.out; omega, by go_num, HV.out⟩
        case measure => simp [RowKit.intOf]; omega
    · have HD := Lib.hid (show inS rs c = false by
        have h1 := HLO.out
        rwa [List.take_of_length_le (by have := HN.out; have := HKI.out; omega)] at h1)
      go_wp2
      go_ret
      exact ⟨by rw [← HRes.out, HD.out]; rfl, rfl⟩

set_option maxRecDepth 100000 in
theorem narrowR_any (w : World) :
    Calls Try.prog 40 #[] w fun e w' => e = .returned (.slice (some ⟨w.heap.size, 0, none⟩) 90 90) ∧ LitAt w' w.heap.size (flatL narrowS) ∧ Below w.heap.size w w' := by
  go_enter Try.func40, Try.ntmps40
  refine wp_seq (wp_region_lit (l := [_]) (wpList_assignTo rfl _ rfl ?_))
  show Exit.then _ _ _ _ _
  refine wp_seq ?_
  refine wp_ints 1 0 57 3 (flatL narrowS) 90 Try.underlying57 infoI1 infoI2 (by kernel_rfl) (by decide) (by decide) (by kernel_rfl) ?_
  refine wp_ret ?_
  go_ret
  exact ⟨rfl, litAt_made _ _ _, (Below.refl _ _).alloc (Nat.le_refl _) _⟩
set_option maxRecDepth 100000 in
theorem wideR_any (w : World) :
    Calls Try.prog 41 #[] w fun e w' => e = .returned (.slice (some ⟨w.heap.size, 0, none⟩) 184 184) ∧ LitAt w' w.heap.size (flatL wideS) ∧ Below w.heap.size w w' := by
  go_enter Try.func41, Try.ntmps41
  refine wp_seq (wp_region_lit (l := [_]) (wpList_assignTo rfl _ rfl ?_))
  show Exit.then _ _ _ _ _
  refine wp_seq ?_
  refine wp_ints 1 0 57 3 (flatL wideS) 184 Try.underlying57 infoI1 infoI2 (by kernel_rfl) (by decide) (by decide) (by kernel_rfl) ?_
  refine wp_ret ?_
  go_ret
  exact ⟨rfl, litAt_made _ _ _, (Below.refl _ _).alloc (Nat.le_refl _) _⟩

theorem n_len : 90 = 2 * narrowS.length := by kernel_rfl
theorem w_len : 184 = 2 * wideS.length := by kernel_rfl
set_option maxHeartbeats 1000000 in
set_option maxRecDepth 100000 in
theorem refOf_any (c : Int) (w : World) :
    Calls Try.prog 33 #[.int .i64 c] w fun e w' => e = .returned (.int .i64 (slotsT c)) ∧ Below w.heap.size w w' := by
  have HN := Lib.hid (fun g W (h : LitAt W g (flatL narrowS)) => in_any g narrowS c 90 W n_len h (by have := n_len; omega))
  have HW := Lib.hid (fun g W (h : LitAt W g (flatL wideS)) => in_any g wideS c 184 W w_len h (by have := w_len; omega))
  unfold slotsT
  generalize inS narrowS c = p at *
  generalize inS wideS c = q at *
  cases p
  · cases q
    all_goals
      go_enter Try.func33, Try.ntmps33
      go_wp2_with fail
      refine (narrowR_any _).mono ?_
      rintro e w1 ⟨rfl, hr, hb1⟩
      have HR := Lib.hid hr
      clear hr
      go_wp2_with fail
      refine (HN.out _ _ HR.out).mono ?_
      rintro e w2 ⟨rfl, rfl⟩
      go_wp2_with fail
      refine (wideR_any _).mono ?_
      rintro e w2 ⟨rfl, hr, hb2⟩
      have HQ := Lib.hid hr
      clear hr
      go_wp2_with fail
      refine (HW.out _ _ HQ.out).mono ?_
      rintro e w3 ⟨rfl, rfl⟩
      go_wp2
      go_ret
      exact ⟨rfl, hb1.trans (hb2.mono hb1.size)⟩
  · go_enter Try.func33, Try.ntmps33
    go_wp2_with fail
    refine (narrowR_any _).mono ?_
    rintro e w1 ⟨rfl, hr, hb1⟩
    have HR := Lib.hid hr
    clear hr
    go_wp2_with fail
    refine (HN.out _ _ HR.out).mono ?_
    rintro e w2 ⟨rfl, rfl⟩
    go_wp2
    go_ret
    exact ⟨rfl, hb1⟩
end Go.Proofs.Ytikjchebffohdaa.Cr
