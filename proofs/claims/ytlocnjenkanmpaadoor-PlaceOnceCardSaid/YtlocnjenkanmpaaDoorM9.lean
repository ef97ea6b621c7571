/-
  Several texts in one, each with its own remark: KrSmall, GrFns.
-/
import Derived.Deep.RegionWith
import Derived.Test.YtlocnjenkanmpaaDoorM1
import Derived.Test.YtlocnjenkanmpaaDoorM2
import Derived.Test.YtlocnjenkanmpaaDoorM0

/-
  Proved here: what parquetryref06.alone and .syllable return. They leave what was in memory. No condition.
-/
set_option linter.unusedVariables false
namespace Go.Proofs.YtlocnjenkanmpaaDoor.Ku
open Go.RowKit Go.Lib
set_option maxHeartbeats 1000000 in
set_option maxRecDepth 100000 in
theorem alone_any (k : Int) (w : World) :
    Calls Tryd.prog 53 #[.int .i64 k] w fun e w' => e = .returned (.bool (alone k)) ∧ w = w' := by
  unfold alone
  cases h1 : (k == 1) <;> cases h2 : (k == 2) <;> cases h3 : (k == 3)
  all_goals
    go_enter Tryd.func53, Tryd.ntmps53
    go_wp2
    go_ret
    exact ⟨rfl, rfl⟩
theorem syl_eq (a b : Int) : syl a b = bif a == 9 then b == 9 || (b == 10 || (b == 12 || b == 13)) else bif a == 12 || a == 10 then b == 10 || b == 11 else (a == 13 || a == 11) && b == 11 := by
  unfold syl
  by_cases h1 : a = 9
  · rw [if_pos h1, show (a == 9) = true from by simpa using h1]
    rfl
  · rw [if_neg h1, show (a == 9) = false from by simpa using h1]
    by_cases h2 : a = 12 ∨ a = 10
    · rw [if_pos h2, show (a == 12 || a == 10) = true from by simpa using h2]
      rfl
    · rw [if_neg h2, show (a == 12 || a == 10) = false from by simpa using h2]
      rfl
set_option maxHeartbeats 1000000 in
set_option maxRecDepth 100000 in
theorem syllable_any (a b : Int) (w : World) :
    Calls Tryd.prog 54 #[.int .i64 a, .int .i64 b] w fun e w' => e = .returned (.bool (syl a b)) ∧ w = w' := by
  rw [syl_eq]
  cases h9 : (a == 9)
  · cases h12 : (a == 12) <;> cases h10 : (a == 10)
    · cases h13 : (a == 13) <;> cases h11 : (a == 11) <;> cases g11 : (b == 11)
      all_goals
        go_enter Tryd.func54, Tryd.ntmps54
        go_wp2
        go_ret
        exact ⟨rfl, rfl⟩
    all_goals
      cases g10 : (b == 10) <;> cases g11 : (b == 11)
      all_goals
        go_enter Tryd.func54, Tryd.ntmps54
        go_wp2
        go_ret
        exact ⟨rfl, rfl⟩
  · cases g9 : (b == 9)
    · cases g10 : (b == 10)
      · cases g12 : (b == 12) <;> cases g13 : (b == 13)
        all_goals
          go_enter Tryd.func54, Tryd.ntmps54
          go_wp2
          go_ret
          exact ⟨rfl, rfl⟩
      · go_enter Tryd.func54, Tryd.ntmps54
        go_wp2
        go_ret
        exact ⟨rfl, rfl⟩
    · go_enter Tryd.func54, Tryd.ntmps54
      go_wp2
      go_ret
      exact ⟨rfl, rfl⟩
end Go.Proofs.YtlocnjenkanmpaaDoor.Ku

/-
  Proved here: what parquetryref05.in, Row, Picts, Of, Pict return, for every number; they leave what was in memory. Conditions: (in) a row of at most 1000 spans; (Row) kinds from 1 to 11.
-/
set_option linter.unusedVariables false
namespace Go.Proofs.YtlocnjenkanmpaaDoor.Gr
open Go.RowKit Go.Lib Go.Proofs.YtlocnjenkanmpaaDoor.Co Go.Proofs.YtlocnjenkanmpaaDoor.Tab Go.Proofs.YtlocnjenkanmpaaDoor.Gc
theorem flatL_len : ∀ (l : List CSpan), (flatL l).length = 2 * l.length
  | [] => rfl
  | r :: l => by
    have := flatL_len l
    unfold flatL at this ⊢
    rw [List.flatMap_cons, List.length_append, this]
    simp
    omega
theorem flatL_at : ∀ (l : List CSpan) (k : Nat) (hk : k < l.length), (flatL l)[2 * k]? = some l[k].1 ∧ (flatL l)[2 * k + 1]? = some l[k].2
  | r :: l, 0, hk => ⟨rfl, rfl⟩
  | r :: l, k + 1, hk => by
    have := flatL_at l k (by simpa using hk)
    rw [show flatL (r :: l) = r.1 :: r.2 :: flatL l from rfl, show 2 * (k + 1) = 2 * k + 1 + 1 from by omega]
    simpa using this
theorem flat_at {w : World} {g : Nat} {rs : List CSpan} (h : LitAt w g (flatL rs)) {k : Nat} (hk : k < rs.length) : w.cell? ⟨g, 2 * k, none⟩ = some (.int .i64 rs[k].1) ∧ w.cell? ⟨g, 2 * k + 1, none⟩ = some (.int .i64 rs[k].2) := by
  have hl := flatL_len rs
  obtain ⟨h1, h2⟩ := flatL_at rs k hk
  rw [List.getElem?_eq_getElem (by omega), Option.some.injEq] at h1 h2
  have h3 := h.2 (2 * k) (by omega)
  have h4 := h.2 (2 * k + 1) (by omega)
  rw [h1] at h3
  rw [h2] at h4
  exact ⟨h3, h4⟩
theorem inS_take (rs : List CSpan) (c : Int) (k : Nat) (hk : k < rs.length) (h : inS (rs.take k) c = false) : inS (rs.take (k + 1)) c = (decide (rs[k].1 ≤ c) && decide (c ≤ rs[k].2)) := by
  unfold inS at h ⊢
  rw [List.take_succ_eq_append_getElem hk, List.any_append, h]
  simp
theorem inS_yes (rs : List CSpan) (c : Int) (k : Nat) (hk : k < rs.length) (h : (decide (rs[k].1 ≤ c) && decide (c ≤ rs[k].2)) = true) : inS rs c = true :=
  List.any_eq_true.2 ⟨_, List.getElem_mem hk, h⟩
set_option maxHeartbeats 1000000 in
set_option maxRecDepth 100000 in
theorem in_any (g : Nat) (rs : List CSpan) (c : Int) (n : Nat) (w : World) (hn : n = 2 * rs.length) (hR : LitAt w g (flatL rs)) (hl : rs.length ≤ 1000) :
    Calls Tryd.prog 72 #[.slice (some ⟨g, 0, none⟩) n n, .int .i64 c] w fun e w' => e = .returned (.bool (inS rs c)) ∧ w = w' := by
  have HR := Lib.hid hR
  have HN := Lib.hid hn
  have hn2 : n ≤ 2000 := by omega
  clear hR hn
  obtain ⟨res, hres⟩ : ∃ res, inS rs c = res := ⟨_, rfl⟩
  rw [hres]
  have HRes := Lib.hid hres
  clear hres
  go_enter Tryd.func72, Tryd.ntmps72
  go_wp2
  go_loop [5] (fun s5 => ∃ k i : Nat, k = 2 * i ∧ k ≤ n ∧ s5 = .int .i64 k ∧ inS (rs.take i) c = false) (fun s5 => n - (RowKit.intOf s5).toNat)
  case atStart => exact ⟨0, 0, rfl, Nat.zero_le _, rfl, rfl⟩
  case round =>
    obtain ⟨k, i, hki, hk, rfl, hlo⟩ := hrel
    have HLO := Lib.hid hlo
    have HKI := Lib.hid hki
    clear hlo hki
    by_cases hltk : k < n
    · have hlt : i < rs.length := by have := HN.out; have := HKI.out; omega
      have hlt1 : k + 1 < n := by have := HN.out; have := HKI.out; omega
      obtain ⟨c0, c1⟩ := flat_at HR.out hlt
      rw [← HKI.out] at c0 c1
      have HT := Lib.hid (inS_take rs c i hlt HLO.out)
      have HY := Lib.hid (inS_yes rs c i hlt)
      generalize rs[i] = r at *
      obtain ⟨a, z⟩ := r
      simp only at c0 c1 HT HY
      by_cases e1 : a ≤ c
      · have d1 : decide (a ≤ c) = true := decide_eq_true e1
        by_cases e2 : c ≤ z
        · have d2 : decide (c ≤ z) = true := decide_eq_true e2
          have HV := Lib.hid (HRes.out.symm.trans (HY.out (by simp only [d1, d2, Bool.and_self])))
          clear e1 e2
          go_wp2
          go_ret
          exact ⟨by rw [HV.out]; rfl, rfl⟩
        · have d2 : decide (c ≤ z) = false := decide_eq_false e2
          have HV := Lib.hid (show inS (rs.take (i + 1)) c = false from HT.out.trans (by rw [d2, Bool.and_false]))
          clear e1 e2
          go_wp2
          go_round
          case rel => exact ⟨k + 2, i + 1, by have := HKI.out; omega, by have := HN.out; have := HKI.out; omega, by go_num, HV.out⟩
          case measure => simp [RowKit.intOf]; omega
      · have d1 : decide (a ≤ c) = false := decide_eq_false e1
        have HV := Lib.hid (show inS (rs.take (i + 1)) c = false from HT.out.trans (by rw [d1, Bool.false_and]))
        clear e1
        go_wp2
        go_round
        case rel => exact ⟨k + 2, i + 1, by have := HKI.out; omega, by have := HN.out; have := HKI.out; omega, by go_num, HV.out⟩
        case measure => simp [RowKit.intOf]; omega
    · have HD := Lib.hid (show inS rs c = false by
        have h1 := HLO.out
        rwa [List.take_of_length_le (by have := HN.out; have := HKI.out; omega)] at h1)
      go_wp2
      go_ret
      exact ⟨by rw [← HRes.out, HD.out]; rfl, rfl⟩
def row1 : List CSpan := (rowS.getD 0 (0, [])).2
set_option maxHeartbeats 1000000 in
set_option maxRecDepth 100000 in
theorem row1_any (w : World) :
    Calls Tryd.prog 73 #[.int .i64 1] w fun e w' => e = .returned (.slice (some ⟨w.heap.size, 0, none⟩) 2 2) ∧ LitAt w' w.heap.size (flatL row1) ∧ Below w.heap.size w w' := by
  go_enter Tryd.func73, Tryd.ntmps73
  go_wp2_with (refine wpList_buildFlat rfl 23 3 2 (litParts (flatL row1)) rfl .i64 (flatL row1) Tryd.underlying23 infoI1 infoI2 (by kernel_rfl) (by decide) (by decide) rfl ?_)
  go_ret
  exact ⟨rfl, litAt_made _ _ _, (Below.refl _ _).alloc (Nat.le_refl _) _⟩
def row2 : List CSpan := (rowS.getD 1 (0, [])).2
set_option maxHeartbeats 1000000 in
set_option maxRecDepth 100000 in
theorem row2_any (w : World) :
    Calls Tryd.prog 73 #[.int .i64 2] w fun e w' => e = .returned (.slice (some ⟨w.heap.size, 0, none⟩) 2 2) ∧ LitAt w' w.heap.size (flatL row2) ∧ Below w.heap.size w w' := by
  go_enter Tryd.func73, Tryd.ntmps73
  go_wp2_with (refine wpList_buildFlat rfl 23 3 2 (litParts (flatL row2)) rfl .i64 (flatL row2) Tryd.underlying23 infoI1 infoI2 (by kernel_rfl) (by decide) (by decide) rfl ?_)
  go_ret
  exact ⟨rfl, litAt_made _ _ _, (Below.refl _ _).alloc (Nat.le_refl _) _⟩
def row3 : List CSpan := (rowS.getD 2 (0, [])).2
set_option maxHeartbeats 1000000 in
set_option maxRecDepth 100000 in
theorem row3_any (w : World) :
    Calls Tryd.prog 73 #[.int .i64 3] w fun e w' => e = .returned (.slice (some ⟨w.heap.size, 0, none⟩) 30 30) ∧ LitAt w' w.heap.size (flatL row3) ∧ Below w.heap.size w w' := by
  go_enter Tryd.func73, Tryd.ntmps73
  go_wp2_with (refine wpList_buildFlat rfl 23 3 30 (litParts (flatL row3)) rfl .i64 (flatL row3) Tryd.underlying23 infoI1 infoI2 (by kernel_rfl) (by decide) (by decide) rfl ?_)
  go_ret
  exact ⟨rfl, litAt_made _ _ _, (Below.refl _ _).alloc (Nat.le_refl _) _⟩
def row4 : List CSpan := (rowS.getD 3 (0, [])).2
set_option maxHeartbeats 1000000 in
set_option maxRecDepth 100000 in
theorem row4_any (w : World) :
    Calls Tryd.prog 73 #[.int .i64 4] w fun e w' => e = .returned (.slice (some ⟨w.heap.size, 0, none⟩) 72 72) ∧ LitAt w' w.heap.size (flatL row4) ∧ Below w.heap.size w w' := by
  go_enter Tryd.func73, Tryd.ntmps73
  go_wp2_with (refine wpList_buildFlat rfl 23 3 72 (litParts (flatL row4)) rfl .i64 (flatL row4) Tryd.underlying23 infoI1 infoI2 (by kernel_rfl) (by decide) (by decide) rfl ?_)
  go_ret
  exact ⟨rfl, litAt_made _ _ _, (Below.refl _ _).alloc (Nat.le_refl _) _⟩
def row5 : List CSpan := (rowS.getD 4 (0, [])).2
set_option maxHeartbeats 1000000 in
set_option maxRecDepth 100000 in
theorem row5_any (w : World) :
    Calls Tryd.prog 73 #[.int .i64 5] w fun e w' => e = .returned (.slice (some ⟨w.heap.size, 0, none⟩) 2 2) ∧ LitAt w' w.heap.size (flatL row5) ∧ Below w.heap.size w w' := by
  go_enter Tryd.func73, Tryd.ntmps73
  go_wp2_with (refine wpList_buildFlat rfl 23 3 2 (litParts (flatL row5)) rfl .i64 (flatL row5) Tryd.underlying23 infoI1 infoI2 (by kernel_rfl) (by decide) (by decide) rfl ?_)
  go_ret
  exact ⟨rfl, litAt_made _ _ _, (Below.refl _ _).alloc (Nat.le_refl _) _⟩
def row6 : List CSpan := (rowS.getD 5 (0, [])).2
set_option maxHeartbeats 1000000 in
set_option maxRecDepth 100000 in
theorem row6_any (w : World) :
    Calls Tryd.prog 73 #[.int .i64 6] w fun e w' => e = .returned (.slice (some ⟨w.heap.size, 0, none⟩) 2 2) ∧ LitAt w' w.heap.size (flatL row6) ∧ Below w.heap.size w w' := by
  go_enter Tryd.func73, Tryd.ntmps73
  go_wp2_with (refine wpList_buildFlat rfl 23 3 2 (litParts (flatL row6)) rfl .i64 (flatL row6) Tryd.underlying23 infoI1 infoI2 (by kernel_rfl) (by decide) (by decide) rfl ?_)
  go_ret
  exact ⟨rfl, litAt_made _ _ _, (Below.refl _ _).alloc (Nat.le_refl _) _⟩
def row7 : List CSpan := (rowS.getD 6 (0, [])).2
set_option maxHeartbeats 1000000 in
set_option maxRecDepth 100000 in
theorem row7_any (w : World) :
    Calls Tryd.prog 73 #[.int .i64 7] w fun e w' => e = .returned (.slice (some ⟨w.heap.size, 0, none⟩) 10 10) ∧ LitAt w' w.heap.size (flatL row7) ∧ Below w.heap.size w w' := by
  go_enter Tryd.func73, Tryd.ntmps73
  go_wp2_with (refine wpList_buildFlat rfl 23 3 10 (litParts (flatL row7)) rfl .i64 (flatL row7) Tryd.underlying23 infoI1 infoI2 (by kernel_rfl) (by decide) (by decide) rfl ?_)
  go_ret
  exact ⟨rfl, litAt_made _ _ _, (Below.refl _ _).alloc (Nat.le_refl _) _⟩
def row8 : List CSpan := (rowS.getD 7 (0, [])).2
set_option maxHeartbeats 1000000 in
set_option maxRecDepth 100000 in
theorem row8_any (w : World) :
    Calls Tryd.prog 73 #[.int .i64 8] w fun e w' => e = .returned (.slice (some ⟨w.heap.size, 0, none⟩) 16 16) ∧ LitAt w' w.heap.size (flatL row8) ∧ Below w.heap.size w w' := by
  go_enter Tryd.func73, Tryd.ntmps73
  go_wp2_with (refine wpList_buildFlat rfl 23 3 16 (litParts (flatL row8)) rfl .i64 (flatL row8) Tryd.underlying23 infoI1 infoI2 (by kernel_rfl) (by decide) (by decide) rfl ?_)
  go_ret
  exact ⟨rfl, litAt_made _ _ _, (Below.refl _ _).alloc (Nat.le_refl _) _⟩
def row9 : List CSpan := (rowS.getD 8 (0, [])).2
set_option maxHeartbeats 1000000 in
set_option maxRecDepth 100000 in
theorem row9_any (w : World) :
    Calls Tryd.prog 73 #[.int .i64 9] w fun e w' => e = .returned (.slice (some ⟨w.heap.size, 0, none⟩) 4 4) ∧ LitAt w' w.heap.size (flatL row9) ∧ Below w.heap.size w w' := by
  go_enter Tryd.func73, Tryd.ntmps73
  go_wp2_with (refine wpList_buildFlat rfl 23 3 4 (litParts (flatL row9)) rfl .i64 (flatL row9) Tryd.underlying23 infoI1 infoI2 (by kernel_rfl) (by decide) (by decide) rfl ?_)
  go_ret
  exact ⟨rfl, litAt_made _ _ _, (Below.refl _ _).alloc (Nat.le_refl _) _⟩
def row10 : List CSpan := (rowS.getD 9 (0, [])).2
set_option maxHeartbeats 1000000 in
set_option maxRecDepth 100000 in
theorem row10_any (w : World) :
    Calls Tryd.prog 73 #[.int .i64 10] w fun e w' => e = .returned (.slice (some ⟨w.heap.size, 0, none⟩) 4 4) ∧ LitAt w' w.heap.size (flatL row10) ∧ Below w.heap.size w w' := by
  go_enter Tryd.func73, Tryd.ntmps73
  go_wp2_with (refine wpList_buildFlat rfl 23 3 4 (litParts (flatL row10)) rfl .i64 (flatL row10) Tryd.underlying23 infoI1 infoI2 (by kernel_rfl) (by decide) (by decide) rfl ?_)
  go_ret
  exact ⟨rfl, litAt_made _ _ _, (Below.refl _ _).alloc (Nat.le_refl _) _⟩
def row11 : List CSpan := (rowS.getD 10 (0, [])).2
set_option maxHeartbeats 1000000 in
set_option maxRecDepth 100000 in
theorem row11_any (w : World) :
    Calls Tryd.prog 73 #[.int .i64 11] w fun e w' => e = .returned (.slice (some ⟨w.heap.size, 0, none⟩) 4 4) ∧ LitAt w' w.heap.size (flatL row11) ∧ Below w.heap.size w w' := by
  go_enter Tryd.func73, Tryd.ntmps73
  go_wp2_with (refine wpList_buildFlat rfl 23 3 4 (litParts (flatL row11)) rfl .i64 (flatL row11) Tryd.underlying23 infoI1 infoI2 (by kernel_rfl) (by decide) (by decide) rfl ?_)
  go_ret
  exact ⟨rfl, litAt_made _ _ _, (Below.refl _ _).alloc (Nat.le_refl _) _⟩
theorem row_any (k : Nat) (h1 : 1 ≤ k) (h2 : k < 12) : ∃ (n : Nat) (l : List CSpan), rowS[k - 1]? = some ((k : Int), l) ∧ n = 2 * l.length ∧ l.length ≤ 1000 ∧ ∀ w : World,
    Calls Tryd.prog 73 #[.int .i64 k] w fun e w' => e = .returned (.slice (some ⟨w.heap.size, 0, none⟩) n n) ∧ LitAt w' w.heap.size (flatL l) ∧ Below w.heap.size w w' := by
  have : k = 1 ∨ k = 2 ∨ k = 3 ∨ k = 4 ∨ k = 5 ∨ k = 6 ∨ k = 7 ∨ k = 8 ∨ k = 9 ∨ k = 10 ∨ k = 11 := by omega
  rcases this with rfl | rfl | rfl | rfl | rfl | rfl | rfl | rfl | rfl | rfl | rfl
  · exact ⟨2, row1, by kernel_rfl, by kernel_rfl, by decide +kernel, row1_any⟩
  · exact ⟨2, row2, by kernel_rfl, by kernel_rfl, by decide +kernel, row2_any⟩
  · exact ⟨30, row3, by kernel_rfl, by kernel_rfl, by decide +kernel, row3_any⟩
  · exact ⟨72, row4, by kernel_rfl, by kernel_rfl, by decide +kernel, row4_any⟩
  · exact ⟨2, row5, by kernel_rfl, by kernel_rfl, by decide +kernel, row5_any⟩
  · exact ⟨2, row6, by kernel_rfl, by kernel_rfl, by decide +kernel, row6_any⟩
  · exact ⟨10, row7, by kernel_rfl, by kernel_rfl, by decide +kernel, row7_any⟩
  · exact ⟨16, row8, by kernel_rfl, by kernel_rfl, by decide +kernel, row8_any⟩
  · exact ⟨4, row9, by kernel_rfl, by kernel_rfl, by decide +kernel, row9_any⟩
  · exact ⟨4, row10, by kernel_rfl, by kernel_rfl, by decide +kernel, row10_any⟩
  · exact ⟨4, row11, by kernel_rfl, by kernel_rfl, by decide +kernel, row11_any⟩
set_option maxRecDepth 100000 in
theorem pictsR_any (w : World) :
    Calls Tryd.prog 74 #[] w fun e w' => e = .returned (.slice (some ⟨w.heap.size, 0, none⟩) 154 154) ∧ LitAt w' w.heap.size (flatL pictS) ∧ Below w.heap.size w w' := by
  go_enter Tryd.func74, Tryd.ntmps74
  refine wp_seq (wp_region_lit (l := [_]) (wpList_assignTo rfl _ rfl ?_))
  show Exit.then _ _ _ _ _
  refine wp_seq ?_
  refine wp_ints 1 0 23 3 (flatL pictS) 154 Tryd.underlying23 infoI1 infoI2 (by kernel_rfl) (by decide) (by decide) (by kernel_rfl) ?_
  refine wp_ret ?_
  go_ret
  exact ⟨rfl, litAt_made _ _ _, (Below.refl _ _).alloc (Nat.le_refl _) _⟩
theorem p_len : 154 = 2 * pictS.length := by kernel_rfl
set_option maxHeartbeats 1000000 in
set_option maxRecDepth 100000 in
theorem refPict_any (c : Int) (w : World) :
    Calls Tryd.prog 55 #[.int .i64 c] w fun e w' => e = .returned (.bool (pictT c)) ∧ Below w.heap.size w w' := by
  have HN := Lib.hid (fun g W (h : LitAt W g (flatL pictS)) => in_any g pictS c 154 W p_len h (by have := p_len; omega))
  unfold pictT
  generalize inS pictS c = p at *
  go_enter Tryd.func55, Tryd.ntmps55
  go_wp2_with fail
  refine (pictsR_any _).mono ?_
  rintro e w1 ⟨rfl, hr, hb1⟩
  have HR := Lib.hid hr
  clear hr
  go_wp2_with fail
  refine (HN.out _ _ HR.out).mono ?_
  rintro e w2 ⟨rfl, rfl⟩
  go_wp2
  go_ret
  exact ⟨rfl, hb1⟩
theorem firstIn_drop {k : Nat} {r : Int × List CSpan} (h : rowS[k]? = some r) (c : Int) : firstIn (rowS.drop k) c = if inS r.2 c = true then r.1 else firstIn (rowS.drop (k + 1)) c := by
  obtain ⟨hk, rfl⟩ := List.getElem?_eq_some_iff.1 h
  rw [List.drop_eq_getElem_cons hk]
  rfl
theorem ref_at {c : Int} {i : Nat} (h : c = 44032 + 28 * i) (hi : i < 399) : refT c = 12 := by
  unfold refT
  rw [if_pos (by omega), if_pos (by omega)]
theorem ref_in {c : Int} {i : Nat} (h1 : 44032 + 28 * i < c) (h2 : c < 44032 + 28 * i + 28) (hi : i < 399) : refT c = 13 := by
  unfold refT
  rw [if_pos (by omega), if_neg (by omega)]
theorem ref_none {c : Int} (h : ¬ (44032 ≤ c ∧ c < 44032 + 28 * (399 : Nat))) : refT c = firstIn rowS c := by
  unfold refT
  rw [if_neg (by omega)]
set_option maxHeartbeats 1000000 in
set_option maxRecDepth 100000 in
theorem refOf_any (c : Int) (w : World) :
    Calls Tryd.prog 52 #[.int .i64 c] w fun e w' => e = .returned (.int .i64 (refT c)) ∧ Below w.heap.size w w' := by
  obtain ⟨v, hv⟩ : ∃ v, refT c = v := ⟨_, rfl⟩
  rw [hv]
  have HV := Lib.hid hv
  clear hv
  go_enter Tryd.func52, Tryd.ntmps52
  go_wp2
  go_loop [3] (fun s3 => ∃ (i : Nat) (x : Int), i ≤ 399 ∧ x = 44032 + 28 * i ∧ s3 = .int .i64 x ∧ ¬ (44032 ≤ c ∧ c < x)) (fun s3 => (56000 - RowKit.intOf s3).toNat)
  case atStart => exact ⟨0, 44032, Nat.zero_le _, rfl, rfl, by omega⟩
  case round =>
    obtain ⟨i, x, hi, hx, rfl, hno⟩ := hrel
    by_cases hlt : i < 399
    · have hx1 : 44032 ≤ x := by omega
      have hx2 : x ≤ 55176 := by omega
      have h0 : decide (x ≤ 55203) = true := decide_eq_true (by omega)
      by_cases h1 : c = x
      · have HD := Lib.hid (HV.out.symm.trans (ref_at (h1.trans hx) hlt))
        clear hx hno
        subst h1
        go_wp2
        go_ret
        exact ⟨by rw [HD.out]; rfl, Below.refl _ _⟩
      · by_cases h2 : x < c
        · have d2 : decide (x < c) = true := decide_eq_true h2
          by_cases h3 : c < x + 28
          · have d3 : decide (c < x + 28) = true := decide_eq_true h3
            have HD := Lib.hid (HV.out.symm.trans (ref_in (by omega) (by omega) hlt))
            clear hx hno
            go_wp2
            go_ret
            exact ⟨by rw [HD.out]; rfl, Below.refl _ _⟩
          · have d3 : decide (c < x + 28) = false := decide_eq_false h3
            have HH := Lib.hid (And.intro hx hno)
            clear hx hno
            go_wp2
            go_round
            case rel => exact ⟨i + 1, x + 28, by omega, by have := HH.out.1; omega, by go_num, by have := HH.out; omega⟩
            case measure => simp [RowKit.intOf]; omega
        · have d2 : decide (x < c) = false := decide_eq_false h2
          have HH := Lib.hid (And.intro hx hno)
          clear hx hno
          go_wp2
          go_round
          case rel => exact ⟨i + 1, x + 28, by omega, by have := HH.out.1; omega, by go_num, by have := HH.out; omega⟩
          case measure => simp [RowKit.intOf]; omega
    · obtain rfl : i = 399 := by omega
      obtain rfl : x = 55204 := by omega
      have HF := Lib.hid (HV.out.symm.trans (ref_none (by omega)))
      clear hx hno hi hlt
      go_wp2
      go_loopw [4] (fun s4 wx => ∃ k : Nat, 1 ≤ k ∧ k ≤ 12 ∧ s4 = .int .i64 k ∧ v = firstIn (rowS.drop (k - 1)) c ∧ Below w.heap.size w wx) (fun s4 _ => 12 - (RowKit.intOf s4).toNat)
      case atStart => exact ⟨1, by omega, by omega, rfl, HF.out, Below.refl _ _⟩
      case round =>
        obtain ⟨k, hk1, hk2, rfl, hvk, hb⟩ := hrel
        have HVK := Lib.hid hvk
        have HB := Lib.hid hb
        clear hvk hb
        by_cases hlt : k < 12
        · obtain ⟨n, l, hrow, hn, hl, hcall⟩ := row_any k hk1 hlt
          have HC := Lib.hid hcall
          have HI := Lib.hid (fun g W h => in_any g l c n W hn h hl)
          have HW := Lib.hid (HVK.out.trans (firstIn_drop hrow c))
          clear hcall hrow hn hl
          generalize inS l c = p at *
          cases p
          · go_wp2_with fail
            refine (HC.out _).mono ?_
            rintro e w1 ⟨rfl, hr, hb1⟩
            have HR := Lib.hid hr
            clear hr
            go_wp2_with fail
            refine (HI.out _ _ HR.out).mono ?_
            rintro e w2 ⟨rfl, rfl⟩
            go_wp2
            go_roundw
            case rel => exact ⟨k + 1, by omega, by omega, by go_num, by have := HW.out; simp only [Bool.false_eq_true, if_false] at this; rw [this]; congr 2; omega, HB.out.trans (hb1.mono HB.out.size)⟩
            case measure => simp [RowKit.intOf]; omega
          · go_wp2_with fail
            refine (HC.out _).mono ?_
            rintro e w1 ⟨rfl, hr, hb1⟩
            have HR := Lib.hid hr
            clear hr
            go_wp2_with fail
            refine (HI.out _ _ HR.out).mono ?_
            rintro e w2 ⟨rfl, rfl⟩
            go_wp2
            go_ret
            exact ⟨by rw [HW.out]; rfl, HB.out.trans (hb1.mono HB.out.size)⟩
        · obtain rfl : k = 12 := by omega
          have HZ := Lib.hid (HVK.out.trans (show firstIn (rowS.drop (12 - 1)) c = 0 from rfl))
          go_wp2
          go_ret
          exact ⟨by rw [HZ.out]; rfl, HB.out⟩
end Go.Proofs.YtlocnjenkanmpaaDoor.Gr
