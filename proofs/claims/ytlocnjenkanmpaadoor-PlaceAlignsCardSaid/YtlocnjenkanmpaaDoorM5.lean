/-
  Several texts in one, each with its own remark: PlRow, SqNs, LvRem, MrTab, MiKit, MrFind, MrPair, MrGlyph, StepKit, BrSmall, BoSwap, BrOrder.
-/
import Derived.Carry
import Derived.ProofKit
import Derived.OpenShut
import Derived.Below
import Derived.Lib.Hide
import Derived.WalkKit
import Derived.Deep.QuietTactic
import Derived.BigQuiet
import Derived.IntWalk
import Derived.OwnWalk
import Derived.Deep.RegionWith
import Derived.Laws.AppendOwn
import Derived.Deep.RegionLaw
import Derived.RegionTactic
import Derived.ChangeAlike
import Derived.BigRegion
import Derived.Test.YtlocnjenkanmpaaDoorM2
import Derived.Test.YtlocnjenkanmpaaDoorRows
import Derived.Test.YtlocnjenkanmpaaDoorM0
import Derived.Test.YtlocnjenkanmpaaDoorM1

/-
  The slots of clusters in an order: of one more; how many at most. No program in it.
-/
set_option linter.unusedVariables false
namespace Go.Proofs.YtlocnjenkanmpaaDoor.Pl
open Go Go.Proofs.YtlocnjenkanmpaaDoor.Ku Go.Proofs.YtlocnjenkanmpaaDoor.Wr
theorem row_snoc {Y : List Sn} {o : List Nat} {i : Nat} (h : i < o.length) : rowP Y (o.take (i + 1)) = rowP Y (o.take i) ++ blkP (Y.getD o[i] sn0) := by
  unfold rowP
  rw [List.take_succ_eq_append_getElem h, List.flatMap_append]
  simp
theorem row_le {Y : List Sn} (hw : ∀ y ∈ Y, y.1.w ≤ 2) : ∀ (o : List Nat), (rowP Y o).length ≤ 2 * o.length
  | [] => by simp [rowP]
  | j :: o => by
    have ih := row_le hw o
    have e : rowP Y (j :: o) = blkP (Y.getD j sn0) ++ rowP Y o := by simp [rowP]
    have h2 : (Y.getD j sn0).1.w ≤ 2 := by
      rw [List.getD_eq_getElem?_getD]
      cases h : Y[j]? with
      | none => simp [sn0, d6]
      | some y => simpa using hw y (List.mem_of_getElem? h)
    rw [e, List.length_append, List.length_cons]
    unfold blkP
    rw [blk_len]
    omega
end Go.Proofs.YtlocnjenkanmpaaDoor.Pl

/-
  Places as numbers. No program in it.
-/
set_option linter.unusedVariables false
namespace Go.Proofs.YtlocnjenkanmpaaDoor.Sq
open Go
def ns (l : List Nat) : List Int := l.map fun p : Nat => (p : Int)
theorem ns_len (l : List Nat) : (ns l).length = l.length := by simp [ns]
end Go.Proofs.YtlocnjenkanmpaaDoor.Sq

/-
  Proved here: what the document's own Removed (parquetryref11) returns, for every number. It leaves what was in memory.
-/
set_option linter.unusedVariables false
namespace Go.Proofs.YtlocnjenkanmpaaDoor.Lv
open Go Go.RowKit Go.Lib
set_option maxHeartbeats 1000000 in
set_option maxRecDepth 100000 in
theorem nRemoved_any (c : Int) (w : World) :
    Calls Tryd.prog 84 #[.int .i64 c] w fun x w' => x = .returned (.bool (remB c)) ∧ w = w' := by
  unfold remB
  cases h1 : (c == 16)
  case' false => cases h2 : (c == 14)
  case' false.false => cases h3 : (c == 17)
  case' false.false.false => cases h4 : (c == 15)
  case' false.false.false.false => cases h5 : (c == 18)
  case' false.false.false.false.false => cases h6 : (c == 9)
  all_goals
    go_enter Tryd.func84, Tryd.ntmps84
    go_wp2
    go_ret
    exact ⟨rfl, rfl⟩
end Go.Proofs.YtlocnjenkanmpaaDoor.Lv

/-
  Proved here: what parquetryref03.brackets, lone return: slices of their numbers; they leave what was in memory. No condition.
-/
set_option linter.unusedVariables false
namespace Go.Proofs.YtlocnjenkanmpaaDoor.Mr
open Go.RowKit Go.Lib Go.Proofs.YtlocnjenkanmpaaDoor.Mi Go.Proofs.YtlocnjenkanmpaaDoor.Tab
def flatR (l : List MRow) : List Int := l.flatMap fun r => [r.1, r.2.1]
theorem flatR_len : ∀ (l : List MRow), (flatR l).length = 2 * l.length
  | [] => rfl
  | r :: l => by
    have := flatR_len l
    unfold flatR at this ⊢
    rw [List.flatMap_cons, List.length_append, this]
    simp
    omega
theorem flatR_at : ∀ (l : List MRow) (k : Nat) (hk : k < l.length), (flatR l)[2 * k]? = some l[k].1 ∧ (flatR l)[2 * k + 1]? = some l[k].2.1
  | r :: l, 0, hk => ⟨rfl, rfl⟩
  | r :: l, k + 1, hk => by
    have := flatR_at l k (by simpa using hk)
    rw [show flatR (r :: l) = r.1 :: r.2.1 :: flatR l from rfl, show 2 * (k + 1) = 2 * k + 1 + 1 from by omega]
    simpa using this
set_option maxRecDepth 100000 in
theorem brackets_any (w : World) :
    Calls Tryd.prog 96 #[] w fun e w' => e = .returned (.slice (some ⟨w.heap.size, 0, none⟩) 44 44) ∧ LitAt w' w.heap.size (flatR brRows) ∧ Below w.heap.size w w' := by
  go_enter Tryd.func96, Tryd.ntmps96
  refine wp_seq (wp_region_lit (l := [_]) (wpList_assignTo rfl _ rfl ?_))
  show Exit.then _ _ _ _ _
  refine wp_seq ?_
  refine wp_ints 1 0 23 3 (flatR brRows) 44 Tryd.underlying23 infoI1 infoI2 (by kernel_rfl) (by decide) (by decide) (by kernel_rfl) ?_
  refine wp_ret ?_
  go_ret
  exact ⟨rfl, litAt_made _ _ _, (Below.refl _ _).alloc (Nat.le_refl _) _⟩
set_option maxRecDepth 100000 in
theorem lone_true (w : World) :
    Calls Tryd.prog 82 #[.bool true] w fun e w' => e = .returned (.slice (some ⟨w.heap.size, 0, none⟩) 8 8) ∧ LitAt w' w.heap.size (flatR brPairs) ∧ Below w.heap.size w w' := by
  go_enter Tryd.func82, Tryd.ntmps82
  go_wp2
  go_ret
  exact ⟨rfl, litAt_made (flatR brPairs) _ _, (Below.refl _ _).alloc (Nat.le_refl _) _⟩
set_option maxRecDepth 100000 in
theorem lone_false (w : World) :
    Calls Tryd.prog 82 #[.bool false] w fun e w' => e = .returned (.slice (some ⟨w.heap.size, 0, none⟩) 18 18) ∧ LitAt w' w.heap.size (flatR sgPairs) ∧ Below w.heap.size w w' := by
  go_enter Tryd.func82, Tryd.ntmps82
  go_wp2
  go_ret
  exact ⟨rfl, litAt_made (flatR sgPairs) _ _, (Below.refl _ _).alloc (Nat.le_refl _) _⟩
end Go.Proofs.YtlocnjenkanmpaaDoor.Mr

/-
  Small facts: a world that drew; the first row that has a number. No program in it.
-/
set_option linter.unusedVariables false
namespace Go.Proofs.YtlocnjenkanmpaaDoor.Mi
open Go.RowKit Go.Lib
theorem below_drewN {B : Nat} {a w : World} (h : Below B a w) (n : Nat) : Below B a (w.drewN n) := ⟨h.os, h.tape, h.output, h.size, h.block⟩
theorem below_drew {B : Nat} {a w : World} (h : Below B a w) : Below B a w.drew := ⟨h.os, h.tape, h.output, h.size, h.block⟩
/-- The first row that has a number, or that none does. -/
theorem first_is : ∀ (l : List MRow) (c : Int), (∃ (i : Nat) (h : i < l.length), (∀ j (hj : j < l.length), j < i → hasB l[j] c = false) ∧ hasB l[i] c = true) ∨ (∀ r ∈ l, hasB r c = false)
  | [], c => .inr (by simp)
  | r :: l, c => by
    cases h : hasB r c with
    | true => exact .inl ⟨0, by simp, fun j _ hj => by omega, h⟩
    | false =>
      rcases first_is l c with ⟨i, hi, h1, h2⟩ | h1
      · refine .inl ⟨i + 1, Nat.succ_lt_succ hi, fun j hj hji => ?_, h2⟩
        cases j with
        | zero => exact h
        | succ j => exact h1 j (by simpa using hj) (by omega)
      · refine .inr fun x hx => ?_
        rcases List.mem_cons.1 hx with rfl | hx
        · exact h
        · exact h1 x hx
end Go.Proofs.YtlocnjenkanmpaaDoor.Mi

/-
  Proved here: what parquetryref03.inRows, inPairs return at rows as the document has them; they leave what was in memory.
-/
set_option linter.unusedVariables false
namespace Go.Proofs.YtlocnjenkanmpaaDoor.Mr
open Go.RowKit Go.Lib Go.Proofs.YtlocnjenkanmpaaDoor.Mi Go.Proofs.YtlocnjenkanmpaaDoor.Tab
/-- Rows of pairs of neighbours; pairs. -/
def rowB (r : MRow) : Bool := decide (0 ≤ r.1) && (decide (r.1 < r.2.1) && (decide (r.2.1 ≤ 100000) && ((r.2.1 - r.1) % 2 == 1 && r.2.2 == 1)))
def twoB (r : MRow) : Bool := decide (0 ≤ r.1) && (decide (r.1 < r.2.1) && (decide (r.2.1 ≤ 100000) && (r.2.1 - r.1 == r.2.2)))
theorem rowB_is {r : MRow} (h : rowB r = true) : 0 ≤ r.1 ∧ r.1 < r.2.1 ∧ r.2.1 ≤ 100000 ∧ (r.2.1 - r.1) % 2 = 1 ∧ r.2.2 = 1 := by
  simp only [rowB, Bool.and_eq_true, decide_eq_true_eq, beq_iff_eq] at h
  exact ⟨h.1, h.2.1, h.2.2.1, h.2.2.2.1, h.2.2.2.2⟩
theorem twoB_is {r : MRow} (h : twoB r = true) : 0 ≤ r.1 ∧ r.1 < r.2.1 ∧ r.2.1 ≤ 100000 ∧ r.2.1 - r.1 = r.2.2 := by
  simp only [twoB, Bool.and_eq_true, decide_eq_true_eq, beq_iff_eq] at h
  exact ⟨h.1, h.2.1, h.2.2.1, h.2.2.2⟩
theorem row_first {r : MRow} {c : Int} {m : Nat} (h : rowB r = true) (hc : c = r.1 + 2 * m) (hm : r.1 + 2 * m < r.2.1) : hasB r c = true ∧ pairR r c = (1, c + 1) := by
  obtain ⟨h1, h2, h3, h4, h5⟩ := rowB_is h
  obtain ⟨a, b, s⟩ := r
  simp only at *
  subst hc h5
  unfold hasB pairR
  simp only [Bool.and_eq_true, decide_eq_true_eq, beq_iff_eq]
  refine ⟨⟨by omega, by omega, by omega⟩, ?_⟩
  rw [if_pos (by omega)]
theorem row_second {r : MRow} {c : Int} {m : Nat} (h : rowB r = true) (hc : c = r.1 + 2 * m + 1) (hm : r.1 + 2 * m < r.2.1) : hasB r c = true ∧ pairR r c = (2, c - 1) := by
  obtain ⟨h1, h2, h3, h4, h5⟩ := rowB_is h
  obtain ⟨a, b, s⟩ := r
  simp only at *
  subst hc h5
  unfold hasB pairR
  simp only [Bool.and_eq_true, decide_eq_true_eq, beq_iff_eq]
  refine ⟨⟨by omega, by omega, by omega⟩, ?_⟩
  rw [if_neg (by omega)]
theorem row_not {r : MRow} {c : Int} {m : Nat} (h : rowB r = true) (hm : r.2.1 ≤ r.1 + 2 * m) (hc : c < r.1 ∨ r.1 + 2 * m ≤ c) : hasB r c = false := by
  obtain ⟨h1, h2, h3, h4, h5⟩ := rowB_is h
  obtain ⟨a, b, s⟩ := r
  simp only at *
  unfold hasB
  simp only [Bool.and_eq_false_iff, decide_eq_false_iff_not]
  omega
theorem two_first {r : MRow} (h : twoB r = true) : hasB r r.1 = true ∧ pairR r r.1 = (1, r.2.1) := by
  obtain ⟨h1, h2, h3, h4⟩ := twoB_is h
  obtain ⟨a, b, s⟩ := r
  simp only at *
  subst h4
  unfold hasB pairR
  simp only [Bool.and_eq_true, decide_eq_true_eq, beq_iff_eq]
  refine ⟨⟨by omega, by omega, by simp⟩, ?_⟩
  rw [if_pos (by simp)]
  congr 1
  omega
theorem two_second {r : MRow} (h : twoB r = true) : hasB r r.2.1 = true ∧ pairR r r.2.1 = (2, r.1) := by
  obtain ⟨h1, h2, h3, h4⟩ := twoB_is h
  obtain ⟨a, b, s⟩ := r
  simp only at *
  subst h4
  unfold hasB pairR
  simp only [Bool.and_eq_true, decide_eq_true_eq, beq_iff_eq]
  refine ⟨⟨by omega, by omega, by simp⟩, ?_⟩
  rw [Int.ediv_self (by omega), if_neg (by decide)]
  congr 1
  omega
theorem two_not {r : MRow} {c : Int} (h : twoB r = true) (hc1 : c ≠ r.1) (hc2 : c ≠ r.2.1) : hasB r c = false := by
  obtain ⟨h1, h2, h3, h4⟩ := twoB_is h
  obtain ⟨a, b, s⟩ := r
  simp only at *
  subst h4
  unfold hasB
  simp only [Bool.and_eq_false_iff, decide_eq_false_iff_not, beq_eq_false_iff_ne]
  by_cases h5 : a ≤ c
  · by_cases h6 : c ≤ b
    · right; right
      rw [Int.emod_eq_of_lt (by omega) (by omega)]
      omega
    · exact .inr (.inl h6)
  · exact .inl h5
theorem ret2 {a b c d : Int} (h1 : a = c) (h2 : b = d) : Ending.returned (.tuple #[.int .i64 a, .int .i64 b]) = .returned (.tuple #[.int .i64 c, .int .i64 d]) := by rw [h1, h2]
theorem flat_at {w : World} {g : Nat} {rs : List MRow} (h : LitAt w g (flatR rs)) {k : Nat} (hk : k < rs.length) : w.cell? ⟨g, 2 * k, none⟩ = some (.int .i64 rs[k].1) ∧ w.cell? ⟨g, 2 * k + 1, none⟩ = some (.int .i64 rs[k].2.1) := by
  have hl := flatR_len rs
  obtain ⟨h1, h2⟩ := flatR_at rs k hk
  rw [List.getElem?_eq_getElem (by omega), Option.some.injEq] at h1 h2
  have h3 := h.2 (2 * k) (by omega)
  have h4 := h.2 (2 * k + 1) (by omega)
  rw [h1] at h3
  rw [h2] at h4
  exact ⟨h3, h4⟩
set_option maxHeartbeats 1000000 in
set_option maxRecDepth 100000 in
theorem inRows_any (g : Nat) (rs : List MRow) (c : Int) (n : Nat) (w : World) (hn : n = 2 * rs.length) (hR : LitAt w g (flatR rs)) (hl : rs.length ≤ 1000) (hok : ∀ r ∈ rs, rowB r = true) :
    Calls Tryd.prog 79 #[.slice (some ⟨g, 0, none⟩) n n, .int .i64 c] w fun e w' => e = .returned (.tuple #[.int .i64 (inR rs c).1, .int .i64 (inR rs c).2]) ∧ w = w' := by
  have HR := Lib.hid hR
  have HOK := Lib.hid hok
  have HN := Lib.hid hn
  have hn2 : n ≤ 2000 := by omega
  clear hR hok hn
  obtain ⟨res, hres⟩ : ∃ res, inR rs c = res := ⟨_, rfl⟩
  rw [hres]
  have HRes := Lib.hid hres
  clear hres
  go_enter Tryd.func79, Tryd.ntmps79
  go_wp2
  go_loop [6] (fun s6 => ∃ k i : Nat, k = 2 * i ∧ k ≤ n ∧ s6 = .int .i64 k ∧ ∀ j (hj : j < rs.length), j < i → hasB rs[j] c = false) (fun s6 => n - (RowKit.intOf s6).toNat)
  case atStart => exact ⟨0, 0, rfl, Nat.zero_le _, rfl, fun j _ h => by omega⟩
  case round =>
    obtain ⟨k, i, hki, hk, rfl, hlo⟩ := hrel
    have HLO := Lib.hid hlo
    have HKI := Lib.hid hki
    clear hlo hki
    by_cases hltk : k < n
    · have hlt : i < rs.length := by have := HN.out; have := HKI.out; omega
      have hlt1 : k + 1 < n := by have := HN.out; have := HKI.out; omega
      obtain ⟨c0, c1⟩ := flat_at HR.out hlt
      rw [← HKI.out] at c0 c1
      have hr := HOK.out _ (List.getElem_mem hlt)
      obtain ⟨r, hrr⟩ : ∃ r, rs[i] = r := ⟨_, rfl⟩
      rw [hrr] at c0 c1 hr
      have HRR := Lib.hid hrr
      clear hrr
      obtain ⟨b1, b2, b3, b4, b5⟩ := rowB_is hr
      have HB4 := Lib.hid b4
      have HB5 := Lib.hid b5
      have HRB := Lib.hid hr
      clear hr b4 b5
      have HF : ∀ m : Nat, c = r.1 + 2 * m → r.1 + 2 * m < r.2.1 → res = (1, c + 1) := fun m h1 h2 => by
        obtain ⟨h3, h4⟩ := row_first HRB.out h1 h2
        rw [← HRes.out, inR_at rs c i hlt HLO.out (by rw [HRR.out]; exact h3), HRR.out, h4]
      have HS : ∀ m : Nat, c = r.1 + 2 * m + 1 → r.1 + 2 * m < r.2.1 → res = (2, c - 1) := fun m h1 h2 => by
        obtain ⟨h3, h4⟩ := row_second HRB.out h1 h2
        rw [← HRes.out, inR_at rs c i hlt HLO.out (by rw [HRR.out]; exact h3), HRR.out, h4]
      have HX : ∀ m : Nat, r.2.1 ≤ r.1 + 2 * m → (c < r.1 ∨ r.1 + 2 * m ≤ c) → ∀ j (hj : j < rs.length), j < i + 1 → hasB rs[j] c = false := fun m h1 h2 j hj hji => by
        by_cases e : j = i
        · subst e; rw [HRR.out]; exact row_not HRB.out h1 h2
        · exact HLO.out j hj (by omega)
      have HF' := Lib.hid HF
      have HS' := Lib.hid HS
      have HX' := Lib.hid HX
      clear HF HS HX
      generalize r.1 = a0 at *
      generalize r.2.1 = z0 at *
      go_wp2_with fail
      go_loop [7] (fun s7 => ∃ m : Nat, a0 + 2 * m ≤ z0 + 1 ∧ s7 = .int .i64 (a0 + 2 * m) ∧ (c < a0 ∨ a0 + 2 * m ≤ c)) (fun s7 => (z0 + 1 - RowKit.intOf s7).toNat)
      case atStart => exact ⟨0, by omega, by simp, by omega⟩
      case round =>
        obtain ⟨m, hm, rfl, hc⟩ := hrel
        by_cases hm2 : a0 + 2 * m < z0
        · by_cases e1 : c = a0 + 2 * m
          · have hd : (c == a0 + 2 * m) = true := by simpa using e1
            have HD := Lib.hid (HF'.out m e1 hm2)
            have HE := Lib.hid e1
            clear e1
            go_wp2
            go_ret2
            exact ⟨ret2 (by rw [HD.out]) (by rw [HD.out, HE.out]), rfl⟩
          · have hd : (c == a0 + 2 * m) = false := by simpa using e1
            by_cases e2 : c = a0 + 2 * m + 1
            · have hd2 : (c == a0 + 2 * m + 1) = true := by simpa using e2
              have HD := Lib.hid (HS'.out m e2 hm2)
              have HE := Lib.hid e2
              clear e1 e2
              go_wp2
              go_ret2
              exact ⟨ret2 (by rw [HD.out]) (by rw [HD.out, HE.out]; omega), rfl⟩
            · have hd2 : (c == a0 + 2 * m + 1) = false := by simpa using e2
              have hnext : c < a0 ∨ a0 + 2 * ((m + 1 : Nat) : Int) ≤ c := by omega
              have HNE := Lib.hid hnext
              clear hnext e1 e2 hc
              go_wp2
              go_round
              case rel => exact ⟨m + 1, by have := HB4.out; omega, by go_num, HNE.out⟩
              case measure => simp [RowKit.intOf]; omega
        · have HX2 := Lib.hid (HX'.out m (by omega) hc)
          clear hc
          go_wp2
          go_round
          case rel => exact ⟨k + 2, i + 1, by have := HKI.out; omega, by omega, by go_num, HX2.out⟩
          case measure => simp [RowKit.intOf]; omega
    · have HD := Lib.hid (inR_none rs c fun r hr => by
        obtain ⟨j, hj, rfl⟩ := List.mem_iff_getElem.1 hr
        exact HLO.out j hj (by have := HN.out; have := HKI.out; omega))
      go_wp2
      go_ret2
      exact ⟨ret2 (by rw [← HRes.out, HD.out]) (by rw [← HRes.out, HD.out]), rfl⟩
set_option maxHeartbeats 1000000 in
set_option maxRecDepth 100000 in
theorem inPairs_any (g : Nat) (rs : List MRow) (c : Int) (n : Nat) (w : World) (hn : n = 2 * rs.length) (hR : LitAt w g (flatR rs)) (hl : rs.length ≤ 1000) (hok : ∀ r ∈ rs, twoB r = true) :
    Calls Tryd.prog 81 #[.slice (some ⟨g, 0, none⟩) n n, .int .i64 c] w fun e w' => e = .returned (.tuple #[.int .i64 (inR rs c).1, .int .i64 (inR rs c).2]) ∧ Below w.heap.size w w' := by
  have HR := Lib.hid hR
  have HOK := Lib.hid hok
  have HN := Lib.hid hn
  have hn2 : n ≤ 2000 := by omega
  clear hR hok hn
  obtain ⟨res, hres⟩ : ∃ res, inR rs c = res := ⟨_, rfl⟩
  rw [hres]
  have HRes := Lib.hid hres
  clear hres
  go_enter Tryd.func81, Tryd.ntmps81
  go_wp2
  go_loop [6] (fun s6 => ∃ k i : Nat, k = 2 * i ∧ k ≤ n ∧ s6 = .int .i64 k ∧ ∀ j (hj : j < rs.length), j < i → hasB rs[j] c = false) (fun s6 => n - (RowKit.intOf s6).toNat)
  case atStart => exact ⟨0, 0, rfl, Nat.zero_le _, rfl, fun j _ h => by omega⟩
  case round =>
    obtain ⟨k, i, hki, hk, rfl, hlo⟩ := hrel
    have HLO := Lib.hid hlo
    have HKI := Lib.hid hki
    clear hlo hki
    by_cases hltk : k < n
    · have hlt : i < rs.length := by have := HN.out; have := HKI.out; omega
      have hlt1 : k + 1 < n := by have := HN.out; have := HKI.out; omega
      obtain ⟨c0, c1⟩ := flat_at HR.out hlt
      rw [← HKI.out] at c0 c1
      have hr := HOK.out _ (List.getElem_mem hlt)
      obtain ⟨r, hrr⟩ : ∃ r, rs[i] = r := ⟨_, rfl⟩
      rw [hrr] at c0 c1 hr
      have HRR := Lib.hid hrr
      clear hrr
      have HRB := Lib.hid hr
      clear hr
      have HF : c = r.1 → res = (1, r.2.1) := fun h1 => by
        obtain ⟨h3, h4⟩ := two_first HRB.out
        rw [← h1] at h3 h4
        rw [← HRes.out, inR_at rs c i hlt HLO.out (by rw [HRR.out]; exact h3), HRR.out, h4]
      have HS : c = r.2.1 → res = (2, r.1) := fun h1 => by
        obtain ⟨h3, h4⟩ := two_second HRB.out
        rw [← h1] at h3 h4
        rw [← HRes.out, inR_at rs c i hlt HLO.out (by rw [HRR.out]; exact h3), HRR.out, h4]
      have HX : c ≠ r.1 → c ≠ r.2.1 → ∀ j (hj : j < rs.length), j < i + 1 → hasB rs[j] c = false := fun h1 h2 j hj hji => by
        by_cases e : j = i
        · subst e; rw [HRR.out]; exact two_not HRB.out h1 h2
        · exact HLO.out j hj (by omega)
      have HF' := Lib.hid HF
      have HS' := Lib.hid HS
      have HX' := Lib.hid HX
      clear HF HS HX
      generalize r.1 = a0 at *
      generalize r.2.1 = z0 at *
      by_cases e1 : c = a0
      · have hd : (c == a0) = true := by simpa using e1
        have HD := Lib.hid (HF'.out e1)
        clear e1
        go_wp2_with fail
        go_quiet (fail)
        all_goals go_wp2
        all_goals go_ret2
        all_goals exact ⟨ret2 (by rw [HD.out]) (by rw [HD.out]), below_drewN (Below.refl _ _) _⟩
      · have hd : (c == a0) = false := by simpa using e1
        by_cases e2 : c = z0
        · have hd2 : (c == z0) = true := by simpa using e2
          have HD := Lib.hid (HS'.out e2)
          clear e1 e2
          go_wp2_with fail
          go_quiet (fail)
          all_goals go_wp2
          all_goals go_ret2
          all_goals exact ⟨ret2 (by rw [HD.out]) (by rw [HD.out]), below_drewN (Below.refl _ _) _⟩
        · have hd2 : (c == z0) = false := by simpa using e2
          have HX2 := Lib.hid (HX'.out e1 e2)
          clear e1 e2
          go_wp2
          go_round
          case rel => exact ⟨k + 2, i + 1, by have := HKI.out; omega, by omega, by go_num, HX2.out⟩
          case measure => simp [RowKit.intOf]; omega
    · have HD := Lib.hid (inR_none rs c fun r hr => by
        obtain ⟨j, hj, rfl⟩ := List.mem_iff_getElem.1 hr
        exact HLO.out j hj (by have := HN.out; have := HKI.out; omega))
      go_wp2
      go_ret2
      exact ⟨ret2 (by rw [← HRes.out, HD.out]) (by rw [← HRes.out, HD.out]), Below.refl _ _⟩
end Go.Proofs.YtlocnjenkanmpaaDoor.Mr

/-
  Proved here: what parquetryref03.Pair returns, for every number: what mirror's does. It leaves what was in memory.
-/
set_option linter.unusedVariables false
namespace Go.Proofs.YtlocnjenkanmpaaDoor.Mr
open Go.RowKit Go.Lib Go.Proofs.YtlocnjenkanmpaaDoor.Mi Go.Proofs.YtlocnjenkanmpaaDoor.Tab
theorem brRows_ok : ∀ r ∈ brRows, rowB r = true := by decide +kernel
theorem brPairs_ok : ∀ r ∈ brPairs, twoB r = true := by decide +kernel
theorem sgRows_ok : ∀ r ∈ sgRows, rowB r = true := by decide +kernel
theorem sgPairs_ok : ∀ r ∈ sgPairs, twoB r = true := by decide +kernel
set_option maxHeartbeats 1000000 in
set_option maxRecDepth 100000 in
theorem refPair_any (c : Int) (w : World) :
    Calls Tryd.prog 78 #[.int .i64 c] w fun e w' => e = .returned (.tuple #[.int .i64 (pairT c).1, .int .i64 (pairT c).2]) ∧ Below w.heap.size w w' := by
  have HP := Lib.hid (fun (g : Nat) (W : World) (h : LitAt W g (flatR brRows)) => inRows_any g brRows c 44 W (by kernel_rfl) h (by decide +kernel) brRows_ok)
  have HQ := Lib.hid (fun (g : Nat) (W : World) (h : LitAt W g (flatR brPairs)) => inPairs_any g brPairs c 8 W (by kernel_rfl) h (by decide +kernel) brPairs_ok)
  have he : pairT c = if (inR brRows c).1 = 0 then inR brPairs c else inR brRows c := inR_append brRows brPairs c
  rw [he]
  clear he
  generalize inR brRows c = p at *
  generalize inR brPairs c = q at *
  obtain ⟨k, o⟩ := p
  obtain ⟨m, x⟩ := q
  simp only at HP HQ ⊢
  by_cases h1 : k = 0
  · subst h1
    rw [if_pos rfl]
    go_enter Tryd.func78, Tryd.ntmps78
    go_wp2_with fail
    refine (brackets_any _).mono ?_
    rintro e w1 ⟨rfl, hL1, hb1⟩
    go_wp2_with fail
    refine (HP.out _ _ hL1).mono ?_
    rintro e w2 ⟨rfl, rfl⟩
    go_wp2_with fail
    refine (lone_true _).mono ?_
    rintro e w3 ⟨rfl, hL3, hb3⟩
    go_wp2_with fail
    refine (HQ.out _ _ hL3).mono ?_
    rintro e w4 ⟨rfl, hb4⟩
    go_wp2
    go_ret2
    have hb13 := hb1.trans (hb3.mono hb1.size)
    exact ⟨rfl, hb13.trans (hb4.mono hb13.size)⟩
  · rw [if_neg h1]
    have d1 : (k == 0) = false := by simpa using h1
    clear h1
    go_enter Tryd.func78, Tryd.ntmps78
    go_wp2_with fail
    refine (brackets_any _).mono ?_
    rintro e w1 ⟨rfl, hL1, hb1⟩
    go_wp2_with fail
    refine (HP.out _ _ hL1).mono ?_
    rintro e w2 ⟨rfl, rfl⟩
    go_wp2
    go_ret2
    exact ⟨rfl, hb1⟩
end Go.Proofs.YtlocnjenkanmpaaDoor.Mr

/-
  Proved here: what parquetryref03.Glyph returns, for every number: what mirror's does; it leaves what was in memory. No condition.
-/
set_option linter.unusedVariables false
namespace Go.Proofs.YtlocnjenkanmpaaDoor.Mr
open Go.RowKit Go.Lib Go.Proofs.YtlocnjenkanmpaaDoor.Mi Go.Proofs.YtlocnjenkanmpaaDoor.Tab
set_option maxRecDepth 100000 in
theorem others_any (w : World) :
    Calls Tryd.prog 80 #[] w fun e w' => e = .returned (.slice (some ⟨w.heap.size, 0, none⟩) 14 14) ∧ LitAt w' w.heap.size (flatR sgRows) ∧ Below w.heap.size w w' := by
  go_enter Tryd.func80, Tryd.ntmps80
  refine wp_seq (wp_region_lit (l := [_]) (wpList_assignTo rfl _ rfl ?_))
  show Exit.then _ _ _ _ _
  refine wp_seq ?_
  refine wp_ints 1 0 23 3 (flatR sgRows) 14 Tryd.underlying23 infoI1 infoI2 (by kernel_rfl) (by decide) (by decide) (by kernel_rfl) ?_
  refine wp_ret ?_
  go_ret
  exact ⟨rfl, litAt_made _ _ _, (Below.refl _ _).alloc (Nat.le_refl _) _⟩
set_option maxHeartbeats 1000000 in
set_option maxRecDepth 100000 in
theorem refGlyph_any (c : Int) (w : World) :
    Calls Tryd.prog 58 #[.int .i64 c] w fun e w' => e = .returned (.int .i64 (glyphT c)) ∧ Below w.heap.size w w' := by
  have CA := Lib.hid (fun W => refPair_any c W)
  have HP := Lib.hid (fun (g : Nat) (W : World) (h : LitAt W g (flatR sgRows)) => inRows_any g sgRows c 14 W (by kernel_rfl) h (by decide +kernel) sgRows_ok)
  have HQ := Lib.hid (fun (g : Nat) (W : World) (h : LitAt W g (flatR sgPairs)) => inPairs_any g sgPairs c 18 W (by kernel_rfl) h (by decide +kernel) sgPairs_ok)
  have he : inR sgL c = if (inR sgRows c).1 = 0 then inR sgPairs c else inR sgRows c := inR_append sgRows sgPairs c
  unfold glyphT
  rw [he]
  clear he
  generalize pairT c = r at *
  generalize inR sgRows c = p at *
  generalize inR sgPairs c = q at *
  obtain ⟨k, o⟩ := r
  obtain ⟨m, x⟩ := p
  obtain ⟨l, y⟩ := q
  simp only at CA HP HQ ⊢
  by_cases h1 : k = 0
  · subst h1
    rw [if_pos rfl]
    by_cases h2 : m = 0
    · subst h2
      rw [if_pos rfl]
      simp only
      have main : ∀ v : Int, (if l = 0 then c else y) = v → Calls Tryd.prog 58 #[.int .i64 c] w fun e w' => e = .returned (.int .i64 v) ∧ Below w.heap.size w w' := by
        intro v hv
        by_cases h3 : l = 0
        · obtain rfl : c = v := by rwa [if_pos h3] at hv
          subst h3
          clear hv
          go_enter Tryd.func58, Tryd.ntmps58
          go_wp2_with fail
          refine (CA.out _).mono ?_
          rintro e w0 ⟨rfl, hb0⟩
          go_wp2_with fail
          refine (others_any _).mono ?_
          rintro e w1 ⟨rfl, hL1, hb1⟩
          go_wp2_with fail
          refine (HP.out _ _ hL1).mono ?_
          rintro e w2 ⟨rfl, rfl⟩
          go_wp2_with fail
          refine (lone_false _).mono ?_
          rintro e w3 ⟨rfl, hL3, hb3⟩
          go_wp2_with fail
          refine (HQ.out _ _ hL3).mono ?_
          rintro e w4 ⟨rfl, hb4⟩
          go_wp2
          go_ret
          have hb11 := hb0.trans (hb1.mono hb0.size)
          have hb13 := hb11.trans (hb3.mono hb11.size)
          exact ⟨rfl, hb13.trans (hb4.mono hb13.size)⟩
        · obtain rfl : y = v := by rwa [if_neg h3] at hv
          have d3 : (l == 0) = false := by simpa using h3
          clear hv h3
          go_enter Tryd.func58, Tryd.ntmps58
          go_wp2_with fail
          refine (CA.out _).mono ?_
          rintro e w0 ⟨rfl, hb0⟩
          go_wp2_with fail
          refine (others_any _).mono ?_
          rintro e w1 ⟨rfl, hL1, hb1⟩
          go_wp2_with fail
          refine (HP.out _ _ hL1).mono ?_
          rintro e w2 ⟨rfl, rfl⟩
          go_wp2_with fail
          refine (lone_false _).mono ?_
          rintro e w3 ⟨rfl, hL3, hb3⟩
          go_wp2_with fail
          refine (HQ.out _ _ hL3).mono ?_
          rintro e w4 ⟨rfl, hb4⟩
          go_wp2
          go_ret
          have hb11 := hb0.trans (hb1.mono hb0.size)
          have hb13 := hb11.trans (hb3.mono hb11.size)
          exact ⟨rfl, hb13.trans (hb4.mono hb13.size)⟩
      exact main _ rfl
    · rw [if_neg h2, if_neg (show ¬ m = 0 from h2)]
      have d2 : (m == 0) = false := by simpa using h2
      clear h2
      go_enter Tryd.func58, Tryd.ntmps58
      go_wp2_with fail
      refine (CA.out _).mono ?_
      rintro e w0 ⟨rfl, hb0⟩
      go_wp2_with fail
      refine (others_any _).mono ?_
      rintro e w1 ⟨rfl, hL1, hb1⟩
      go_wp2_with fail
      refine (HP.out _ _ hL1).mono ?_
      rintro e w2 ⟨rfl, rfl⟩
      go_wp2
      go_ret
      exact ⟨rfl, hb0.trans (hb1.mono hb0.size)⟩
  · rw [if_neg h1]
    have d1 : (k == 0) = false := by simpa using h1
    clear h1
    go_enter Tryd.func58, Tryd.ntmps58
    go_wp2_with fail
    refine (CA.out _).mono ?_
    rintro e w0 ⟨rfl, hb0⟩
    go_wp2
    go_ret
    exact ⟨rfl, hb0⟩
end Go.Proofs.YtlocnjenkanmpaaDoor.Mr

/-
  Steps of a region that draws its order: an append onto a row of the call's own, a call of a function by its contract. No program in it.
-/
set_option linter.unusedVariables false
namespace Go.Proofs.YtlocnjenkanmpaaDoor
open Go Go.RowKit
theorem step_append_own {P : Program} {ops : Array Oper} {o : Oper} {a : Act} {w : World} {K : Act → World → Prop} {Q : Exit → Act → World → Prop} {E : Prop}
    (hg : o.guard = none) (s x : Operand) (t : TypeId) (ho : o.op = Op.call { callee := Callee.builtin Builtin.append, args := #[s, x], argTypes := #[t, t] })
    (base : Nat) (e : TypeId) (i : TypeInfo) (z : Value) (size bytes : Nat) (ht : P.underlying t = some (.slice e)) (hi : P.info? e = some i) (hz : i.zero = some z)
    (hsize : i.size = size) (hby : i.bytes = bytes) (hzs : z.cells.size = size) (hsz : 0 < size)
    (v : Value) (n : Nat) (xs : List Value) (hs : a.eval s = v) (hown : w.ownsRow base e size v n xs)
    (ad : Addr) (m c : Nat) (news : List Value) (hx : a.eval x = .slice (some ad) m c) (hl : news.length = m * size) (hnews : ∀ j u, news[j]? = some u → w.cell? (ad.add j) = some u) (h1 : ∀ u ∈ news, u.oneCell' = true)
    (h63 : n + m ≤ maxLen) (hbytes : (n + m) * bytes ≤ 140737488355328) (hbase : base ≤ w.heap.size)
    (h : ∀ v' w', w'.ownsRow base e size v' (n + m) (xs ++ news) → w.grownBy w' v.ownBlock → K (a.put o.dst v') w') :
    if Region.wanted o (yielded ops a.tmps) = true then Oper.wp P o a w K Q else E := by
  have hw : Region.wanted o (yielded ops a.tmps) = true := by simp [Region.wanted, hg]
  rw [if_pos hw]
  exact wp_append_own w s x t ho base e i z size bytes ht hi hz hsize hby hzs hsz v n xs hs hown ad m c news hx hl hnews h1 h63 hbytes hbase fun v' w' h2 h3 _ => h v' w' h2 h3
theorem step_call {P : Program} {ops : Array Oper} {o : Oper} {a : Act} {w : World} {K : Act → World → Prop} {Q : Exit → Act → World → Prop} {E : Prop}
    (hg : o.guard = none) (f : FuncId) (xs : Array Operand) (ts : Array TypeId) (ho : o.op = Op.call { callee := Callee.value (Operand.func f), args := xs, argTypes := ts })
    (hf : ∀ args w, (callFunc f args).run P w = .ok (.enter f args) w) (vs : Array Value) (hv : xs.map a.eval = vs)
    (R : Value → World → Prop) (hc : Calls P f vs w fun e w' => ∃ v, e = .returned v ∧ R v w')
    (h : ∀ v w', R v w' → K (a.put o.dst v) w') :
    if Region.wanted o (yielded ops a.tmps) = true then Oper.wp P o a w K Q else E := by
  have hw : Region.wanted o (yielded ops a.tmps) = true := by simp [Region.wanted, hg]
  rw [if_pos hw]
  unfold Oper.wp
  simp [execOp, ho, resolve, invoke, hv, hf, Act.eval, Deferred.ofValue]
  refine hc.mono ?_
  rintro e w' ⟨v, rfl, hR⟩
  exact h v w' hR
end Go.Proofs.YtlocnjenkanmpaaDoor

/-
  Proved here: what parquetryref16's blank, Cut, Shown return: the plain ones. They leave what was in memory.
-/
set_option linter.unusedVariables false
namespace Go.Proofs.YtlocnjenkanmpaaDoor.Bi
open Go Go.RowKit Go.Lib Go.Proofs.YtlocnjenkanmpaaDoor.Cl
set_option maxHeartbeats 2000000 in
set_option maxRecDepth 100000 in
theorem rblank_any (c : Int) (w : World) : Calls Tryd.prog 60 #[.int .i64 c] w fun e w' => e = .returned (.bool (blankB c)) ∧ w' = w := by
  have hp : ∀ x : Int, (c == x) = true → c = x := fun x h => by simpa using h
  have HR := Lib.hid (fun W => Lv.nRemoved_any c W)
  cases h1 : (c == 12)
  case' false => cases h2 : (c == 19)
  case' false.false => cases h3 : (c == 20)
  case' false.false.false => cases h4 : (c == 21)
  case' false.false.false.false => cases h5 : (c == 22)
  case false.false.false.false.false =>
    have e : blankB c = Lv.remB c := by
      have n1 : ¬ c = 12 := by simpa using h1
      have n2 : ¬ c = 19 := by simpa using h2
      have n3 : ¬ c = 20 := by simpa using h3
      have n4 : ¬ c = 21 := by simpa using h4
      have n5 : ¬ c = 22 := by simpa using h5
      unfold blankB Ba.isI Ba.isP
      rw [decide_eq_false n1, h2, h3, h4, h5]
      rfl
    rw [e]
    clear e hp
    generalize Lv.remB c = b at *
    go_enter Tryd.func60, Tryd.ntmps60
    go_wp2_with fail
    refine (HR.out _).mono ?_
    rintro e w1 ⟨rfl, rfl⟩
    go_wp2_with fail
    go_ret
    exact ⟨rfl, rfl⟩
  case true =>
    have e : blankB c = true := by rw [hp 12 h1]; rfl
    rw [e]
    clear e hp HR
    go_enter Tryd.func60, Tryd.ntmps60
    go_wp2
    go_ret
    exact ⟨rfl, rfl⟩
  case false.true =>
    have e : blankB c = true := by rw [hp 19 h2]; rfl
    rw [e]
    clear e hp HR
    go_enter Tryd.func60, Tryd.ntmps60
    go_wp2
    go_ret
    exact ⟨rfl, rfl⟩
  case false.false.true =>
    have e : blankB c = true := by rw [hp 20 h3]; rfl
    rw [e]
    clear e hp HR
    go_enter Tryd.func60, Tryd.ntmps60
    go_wp2
    go_ret
    exact ⟨rfl, rfl⟩
  case false.false.false.true =>
    have e : blankB c = true := by rw [hp 21 h4]; rfl
    rw [e]
    clear e hp HR
    go_enter Tryd.func60, Tryd.ntmps60
    go_wp2
    go_ret
    exact ⟨rfl, rfl⟩
  case false.false.false.false.true =>
    have e : blankB c = true := by rw [hp 22 h5]; rfl
    rw [e]
    clear e hp HR
    go_enter Tryd.func60, Tryd.ntmps60
    go_wp2
    go_ret
    exact ⟨rfl, rfl⟩
set_option maxHeartbeats 1000000 in
theorem rcut_any (n : Int) (w : World) : Calls Tryd.prog 57 #[.int .i64 n] w fun e w' => e = .returned (.int .i64 (Bo.cutL n)) ∧ w' = w := by
  first
  | (
    unfold Bo.cutL
    go_enter Tryd.func57, Tryd.ntmps57
    go_wp2
    go_ret
    exact ⟨rfl, rfl⟩)
  | (
    by_cases h0 : n < 0
    · rw [show Bo.cutL n = 0 from by unfold Bo.cutL; omega]
      go_enter Tryd.func57, Tryd.ntmps57
      go_wp2
      go_ret
      exact ⟨rfl, rfl⟩
    · by_cases h1 : 126 < n
      · rw [show Bo.cutL n = 126 from by unfold Bo.cutL; omega]
        go_enter Tryd.func57, Tryd.ntmps57
        go_wp2
        go_ret
        exact ⟨rfl, rfl⟩
      · rw [show Bo.cutL n = n from by unfold Bo.cutL; omega]
        go_enter Tryd.func57, Tryd.ntmps57
        go_wp2
        go_ret
        exact ⟨rfl, rfl⟩)
set_option maxHeartbeats 1000000 in
theorem rshown_any (c l : Int) (w : World) : Calls Tryd.prog 40 #[.int .i64 c, .int .i64 l] w fun e w' => e = .returned (.int .i64 (shownP c l)) ∧ Below w.heap.size w w' := by
  have HG := Lib.hid (fun W => Mr.refGlyph_any c W)
  by_cases hm : l.tmod 2 = 0
  · have m1 : (l.tmod 2 != 0) = false := by simpa using hm
    rw [show shownP c l = c from if_pos hm]
    clear hm
    go_enter Tryd.func40, Tryd.ntmps40
    go_wp2
    go_ret
    exact ⟨rfl, Below.refl _ _⟩
  · have m1 : (l.tmod 2 != 0) = true := by simpa using hm
    rw [show shownP c l = Mi.glyphT c from if_neg hm]
    clear hm
    generalize Mi.glyphT c = v at *
    go_enter Tryd.func40, Tryd.ntmps40
    go_wp2_with fail
    refine (HG.out _).mono ?_
    rintro e w1 ⟨rfl, hb⟩
    go_wp2_with fail
    go_ret
    exact ⟨rfl, hb⟩
end Go.Proofs.YtlocnjenkanmpaaDoor.Bi

/-
  An exchange of two places of a row, plainly; a row of places of the call's own: what it holds, and what is stored into it. No program in it but its types.
-/
set_option linter.unusedVariables false
namespace Go.Proofs.YtlocnjenkanmpaaDoor.Bi
open Go Go.RowKit Go.Lib Go.Proofs.YtlocnjenkanmpaaDoor.Cl Go.Proofs.YtlocnjenkanmpaaDoor.Bo
theorem swap_set (D R Y M X : List Nat) (x y : Nat) (t : Nat) (hY : Y.length = t) :
    (((D ++ (Y ++ (x :: M ++ [y]) ++ X) ++ R).set (D.length + t) y).set (D.length + t + M.length + 1) x) = D ++ ((Y ++ [y]) ++ M ++ (x :: X)) ++ R := by
  subst hY
  have e1 : D ++ (Y ++ (x :: M ++ [y]) ++ X) ++ R = (D ++ Y) ++ x :: (M ++ [y] ++ X ++ R) := by simp
  have e2 : (D ++ Y) ++ y :: (M ++ [y] ++ X ++ R) = (D ++ Y ++ [y] ++ M) ++ y :: (X ++ R) := by simp
  rw [e1, List.set_append_right _ _ (by simp), show D.length + Y.length - (D ++ Y).length = 0 from by simp, List.set_cons_zero, e2, List.set_append_right _ _ (by simp; omega),
    show D.length + Y.length + M.length + 1 - (D ++ Y ++ [y] ++ M).length = 0 from by simp; omega, List.set_cons_zero]
  simp
theorem swap_at (D R Y M X : List Nat) (x y : Nat) (t : Nat) (hY : Y.length = t) :
    (D ++ (Y ++ (x :: M ++ [y]) ++ X) ++ R)[D.length + t]? = some x ∧ (D ++ (Y ++ (x :: M ++ [y]) ++ X) ++ R)[D.length + t + M.length + 1]? = some y := by
  subst hY
  have e1 : D ++ (Y ++ (x :: M ++ [y]) ++ X) ++ R = (D ++ Y) ++ x :: (M ++ [y] ++ X ++ R) := by simp
  have e2 : D ++ (Y ++ (x :: M ++ [y]) ++ X) ++ R = (D ++ Y ++ [x] ++ M) ++ y :: (X ++ R) := by simp
  constructor
  · rw [e1, List.getElem?_append_right (by simp), show D.length + Y.length - (D ++ Y).length = 0 from by simp]; rfl
  · rw [e2, List.getElem?_append_right (by simp; omega), show D.length + Y.length + M.length + 1 - (D ++ Y ++ [x] ++ M).length = 0 from by simp; omega]; rfl
theorem two_ends {α : Type} : ∀ (M : List α), 2 ≤ M.length → ∃ x M' y, M = x :: M' ++ [y]
  | [], h => by simp at h
  | [x], h => by simp at h
  | x :: z :: r, _ => by
    obtain ⟨M', y, h⟩ : ∃ M' y, z :: r = M' ++ [y] := ⟨(z :: r).dropLast, (z :: r).getLast (by simp), (List.dropLast_concat_getLast (by simp)).symm⟩
    exact ⟨x, M', y, by rw [h]; simp⟩
theorem rev_short {α : Type} (M : List α) (h : M.length ≤ 1) : M.reverse = M := by
  match M, h with
  | [], _ => rfl
  | [x], _ => rfl
theorem own_nat {V : World} {base g n c : Nat} {O : List Nat} (h : V.ownsRow base 3 1 (.slice (some ⟨g, 0, none⟩) n c) n (icl (Sq.ns O))) {i x : Nat} (hx : O[i]? = some x) : V.cell? ⟨g, i, none⟩ = some (.int .i64 (x : Int)) ∧ V.frozen? ⟨g, i, none⟩ = false := by
  have hi := (List.getElem?_eq_some_iff.1 hx).1
  have hl : (icl (Sq.ns O)).length = n * 1 := h.1
  rw [icl_len, Sq.ns_len] at hl
  refine ⟨?_, h.frozenAt _⟩
  rw [h.cellAt _ (by omega)]
  simp [icl, Sq.ns, hx]
theorem own_put {V : World} {base g n c : Nat} {O : List Nat} (h : V.ownsRow base 3 1 (.slice (some ⟨g, 0, none⟩) n c) n (icl (Sq.ns O))) (i x : Nat) : (V.setCell ⟨g, i, none⟩ (.int .i64 (x : Int))).ownsRow base 3 1 (.slice (some ⟨g, 0, none⟩) n c) n (icl (Sq.ns (O.set i x))) := by
  have := (h.stored i (.int .i64 (x : Int))).1
  rw [show (icl (Sq.ns O)).set i (.int .i64 (x : Int)) = icl (Sq.ns (O.set i x)) from by simp [icl, Sq.ns]] at this
  exact this
theorem range_snoc (k : Nat) : Sq.ns (List.range (k + 1)) = Sq.ns (List.range k) ++ [(k : Int)] := by simp [Sq.ns, List.range_succ]
end Go.Proofs.YtlocnjenkanmpaaDoor.Bi

/-
  Proved here: what parquetryref16.Order returns, for every row of numbers of at most 2^40: the plain order of levels. It leaves what was in memory.
-/
set_option linter.unusedVariables false
namespace Go.Proofs.YtlocnjenkanmpaaDoor.Bi
open Go Go.RowKit Go.Lib Go.Proofs.YtlocnjenkanmpaaDoor.Cl Go.Proofs.YtlocnjenkanmpaaDoor.Bo
set_option maxHeartbeats 4000000 in
set_option maxRecDepth 100000 in
theorem rorder_any (A0 : Option Addr) (T : List Int) (n cp : Nat) (w : World) (hA : IntsAt w A0 T) (hl : T.length = n) (hn : n ≤ 1099511627776) :
    Calls Tryd.prog 39 #[.slice A0 n cp] w fun e w' => ∃ A c, e = .returned (.slice A n c) ∧ w'.ownsRow w.heap.size 3 1 (.slice A n c) n (icl (Sq.ns (orderP T))) ∧ Below w.heap.size w w' := by
  have HA := Lib.hid hA
  have HL := Lib.hid hl
  have HFP := Lib.hid (show orderP T = ordFrom (lvAt T) 126 (List.range n) from by unfold orderP; rw [hl])
  generalize orderP T = OP at *
  clear hA hl
  go_enter Tryd.func39, Tryd.ntmps39
  go_wp2_with fail
  go_loopw [3, 4] (fun s3 s4 wx => ∃ k : Nat, k ≤ n ∧ s4 = .int .i64 k ∧ wx.ownsRow w.heap.size 3 1 s3 k (icl (Sq.ns (List.range k))) ∧ Below w.heap.size w wx) (fun _ s4 _ => n - (RowKit.intOf s4).toNat)
  case atStart => exact ⟨0, Nat.zero_le _, rfl, World.ownsRow_nil _ _ _ _, Below.refl _ _⟩
  case round =>
    obtain ⟨k, hk, rfl, hown, hb⟩ := hrel
    have HO := Lib.hid hown
    have HB := Lib.hid hb
    clear hown
    by_cases hlt : k < n
    · have hsz := HB.out.size
      clear hb
      go_wp2_with (at_builtin; refine wpList_add rfl _ _ rfl w.heap.size _ k (Sq.ns (List.range k)) rfl (ownsRow_below HO.out (below_made _ _)) (some ⟨wr.heap.size, 0, none⟩) 1 1 [(k : Int)] rfl (made_ints [(k : Int)] _ _ _ rfl) rfl (by omega) (by simp; omega) ?_)
      intro v' w2 hown2 hb2
      have hb3 := (HB.out.trans ((below_made wr (.cells #[.int .i64 (k : Int)] 3)).mono hsz)).trans hb2
      have HO2 := Lib.hid (show w2.ownsRow w.heap.size 3 1 v' (k + 1) (icl (Sq.ns (List.range (k + 1)))) from by rw [range_snoc]; exact hown2)
      have HB2 := Lib.hid hb3
      clear hown2 hb2 hb3
      go_wp2_with fail
      go_roundw
      case rel => exact ⟨k + 1, by omega, by go_num, HO2.out, HB2.out⟩
      case measure => simp [RowKit.intOf] <;> omega
    · obtain rfl : k = n := by omega
      obtain ⟨A, c, rfl, -⟩ := intsAt_icl HO.out (by simp [Sq.ns])
      clear hb
      go_wp2_with fail
      go_loopw [5, 6, 7] (fun s5 s6 s7 wx => ∃ (q : Nat) (O : List Nat), q ≤ 126 ∧ s5 = .int .i64 q ∧ O.length = k ∧ (∀ x ∈ O, x < k) ∧ ordFrom (lvAt T) q O = OP ∧ wx.ownsRow w.heap.size 3 1 (.slice A k c) k (icl (Sq.ns O)) ∧ Below w.heap.size w wx) (fun s5 _ _ _ => (RowKit.intOf s5).toNat)
      case atStart => exact ⟨126, List.range k, Nat.le_refl _, rfl, by simp, fun x hx => List.mem_range.1 hx, HFP.out.symm, HO.out, HB.out⟩
      case round =>
        obtain ⟨q, O, hq, rfl, hol, hox, hof, hown, hb⟩ := hrel
        have HW := Lib.hid hown
        have HBW := Lib.hid hb
        have HOL := Lib.hid hol
        have HOX := Lib.hid hox
        have HOF := Lib.hid hof
        clear HO HB HFP hol hox hof hown hb
        cases q with
        | zero =>
          have HE := Lib.hid (show O = OP from HOF.out)
          go_wp2_with fail
          go_ret
          exact ⟨A, c, rfl, by rw [← HE.out]; exact HW.out, HBW.out⟩
        | succ q =>
          obtain ⟨pr, hpr⟩ : ∃ pr : Nat → Bool, pr = fun j => decide ((q : Int) + 1 ≤ lvAt T j) := ⟨_, rfl⟩
          have HPR := Lib.hid hpr
          have HRV := Lib.hid (show ordFrom (lvAt T) q (revGo pr [] O) = OP from by rw [hpr]; exact HOF.out)
          have HMEM := Lib.hid (fun y => revGo_mem pr O [] y)
          have HLEN := Lib.hid (revGo_len pr O [])
          clear hpr HOF
          rw [show (((q + 1 : Nat) : Int)) = (q : Int) + 1 from rfl]
          have k1 : decide ((1 : Int) ≤ (q : Int) + 1) = true := decide_eq_true (by omega)
          have k1b : (0 : Int) ≤ (q : Int) := by omega
          go_wp2_with fail
          go_loopw [6, 7] (fun s6 s7 wx => ∃ (i fr : Nat) (D S R : List Nat), s7 = .int .i64 i ∧ s6 = .int .i64 fr ∧ (∀ x ∈ D ++ (S ++ R), x < k) ∧ ((D.length = fr ∧ fr + S.length = i ∧ i + R.length = k ∧ D ++ revGo pr S.reverse R = revGo pr [] O) ∨ (i = k + 1 ∧ S = [] ∧ R = [] ∧ D = revGo pr [] O)) ∧ wx.ownsRow w.heap.size 3 1 (.slice A k c) k (icl (Sq.ns (D ++ (S ++ R)))) ∧ Below w.heap.size w wx) (fun _ s7 _ => k + 1 - (RowKit.intOf s7).toNat)
          case atStart => exact ⟨0, 0, [], [], O, rfl, rfl, by simpa using HOX.out, .inl ⟨rfl, rfl, by simpa using HOL.out, rfl⟩, by simpa using HW.out, HBW.out⟩
          case round =>
            obtain ⟨i, fr, D, S, R, rfl, rfl, hmem, hcase, hown, hb⟩ := hrel
            have HO1 := Lib.hid hown
            have HB1 := Lib.hid hb
            have HM1 := Lib.hid hmem
            clear HW HBW hown hb hmem k1
            rcases hcase with ⟨hD, hS, hR, heq⟩ | ⟨rfl, rfl, rfl, heq⟩
            · have HD := Lib.hid hD
              clear hD
              have HS := Lib.hid hS
              have HRl := Lib.hid hR
              have HEQ := Lib.hid heq
              clear heq
              by_cases hik : i < k
              · obtain ⟨x, R2, rfl⟩ : ∃ x R2, R = x :: R2 := by
                  cases R with
                  | nil => simp at hR; omega
                  | cons x R2 => exact ⟨x, R2, rfl⟩
                have hxk : x < k := HM1.out x (by simp)
                have hat : (D ++ (S ++ x :: R2))[i]? = some x := by
                  have e : D ++ (S ++ x :: R2) = (D ++ S) ++ x :: R2 := by simp
                  rw [e, List.getElem?_append_right (by simp; have := HD.out; omega), show i - (D ++ S).length = 0 from by simp; have := HD.out; omega]
                  rfl
                obtain ⟨g, rfl⟩ : ∃ g, A = some ⟨g, 0, none⟩ := by
                  rcases HO1.out.2 with ⟨e, h0⟩ | ⟨g, cap, cur, e, _⟩
                  · omega
                  · injection e with e1 _ _
                    exact ⟨g, e1⟩
                obtain ⟨hc1, -⟩ := own_nat HO1.out hat
                have hxT : x < T.length := by rw [HL.out]; exact hxk
                obtain ⟨g0, o0, rfl, hc0⟩ := (HA.out.below HB1.out).at_ hxT
                have hlv : Bo.cutL T[x] = lvAt T x := by unfold lvAt; simp [List.getD, List.getElem?_eq_getElem hxT]
                have HCUT := Lib.hid (fun (V : World) => show Calls Tryd.prog 57 #[.int .i64 T[x]] V fun e w' => e = .returned (.int .i64 (lvAt T x)) ∧ w' = V from by rw [← hlv]; exact rcut_any T[x] V)
                have hi0 : (0 : Int) ≤ (i : Int) := by omega
                have hi1 : (i : Int) < (k : Int) := by omega
                have hi2 : decide ((i : Int) ≤ (k : Int)) = true := decide_eq_true (by omega)
                have hx0 : (0 : Int) ≤ (x : Int) := by omega
                have hx1 : (x : Int) < (k : Int) := by omega
                have HPX := Lib.hid (show pr x = decide ((q : Int) + 1 ≤ lvAt T x) from by rw [HPR.out])
                generalize T[x] = tx at *
                generalize lvAt T x = lx at *
                clear hat hxT hlv hS hR
                cases hp : decide ((q : Int) + 1 ≤ lx) with
                | true =>
                  have HE := Lib.hid (show D ++ revGo pr (S ++ [x]).reverse R2 = revGo pr [] O from by
                    rw [← HEQ.out]
                    congr 1
                    conv => rhs; unfold revGo
                    rw [if_pos (by rw [HPX.out]; exact hp), List.reverse_append]
                    rfl)
                  go_wp2_with fail
                  refine (HCUT.out _).mono ?_
                  rintro e w3 ⟨rfl, rfl⟩
                  clear HCUT
                  go_wp2_with fail
                  go_roundw
                  case rel =>
                    refine ⟨i + 1, fr, D, S ++ [x], R2, by go_num, rfl, by simpa using HM1.out, .inl ⟨HD.out, by have := HS.out; simp; omega, by have := HRl.out; simp at this; omega, HE.out⟩, by simpa using HO1.out, HB1.out⟩
                  case measure => simp [RowKit.intOf] <;> omega
                | false =>
                  have HE := Lib.hid (show (D ++ S.reverse ++ [x]) ++ revGo pr [] R2 = revGo pr [] O from by
                    rw [← HEQ.out]
                    conv => rhs; unfold revGo
                    rw [if_neg (by rw [HPX.out, hp]; decide)]
                    simp)
                  go_wp2_with fail
                  refine (HCUT.out _).mono ?_
                  rintro e w3 ⟨rfl, rfl⟩
                  clear HCUT
                  go_wp2_with fail
                  go_loopw [8, 9] (fun s8 s9 wx => ∃ (t a mm : Nat) (Y M X : List Nat), s8 = .int .i64 a ∧ s9 = .int .i64 ((mm : Int) - 1) ∧ a = fr + t ∧ mm = fr + t + M.length ∧ Y.length = t ∧ X.length = t ∧ Y ++ M.reverse ++ X = S.reverse ∧ wx.ownsRow w.heap.size 3 1 (.slice (some ⟨g, 0, none⟩) k c) k (icl (Sq.ns (D ++ (Y ++ M ++ X) ++ (x :: R2)))) ∧ Below w.heap.size w wx) (fun s8 s9 _ => ((RowKit.intOf s9).toNat + 1) - (RowKit.intOf s8).toNat)
                  case atStart => exact ⟨0, fr, i, [], S, [], rfl, rfl, rfl, by have := HS.out; omega, rfl, rfl, by simp, by simpa using HO1.out, HB1.out⟩
                  case round =>
                    obtain ⟨t, a, mm, Y, M, X, rfl, rfl, ha, hmm, hY, hX, hrev, hown2, hb2⟩ := hrel
                    have HO2 := Lib.hid hown2
                    have HB2 := Lib.hid hb2
                    have HY := Lib.hid hY
                    have HX := Lib.hid hX
                    have HREV := Lib.hid hrev
                    have HSL := Lib.hid (show t + M.length + t = S.length from by have := congrArg List.length hrev; simp at this; omega)
                    clear hown2 hb2 hrev
                    by_cases hM : 2 ≤ M.length
                    · obtain ⟨x', M', y', rfl⟩ := two_ends M hM
                      obtain ⟨b2, hb2⟩ : ∃ b2, fr + t + M'.length + 1 = b2 := ⟨_, rfl⟩
                      have hmb : ((mm : Int) - 1) = (b2 : Int) := by simp at hmm; omega
                      rw [hmb]
                      have hab : a < b2 := by omega
                      have hbk : b2 < k := by have := HSL.out; have := HS.out; have := HRl.out; simp at *; omega
                      have hgA : ∃ g1, (some ⟨g, 0, none⟩ : Option Addr) = some ⟨g1, 0, none⟩ := by
                        rcases HO2.out.2 with ⟨e, h0⟩ | ⟨g1, cap, cur, e, _⟩
                        · omega
                        · injection e with e1 _ _
                          exact ⟨g1, e1⟩
                      obtain ⟨g1, hg1⟩ := hgA
                      have hO2 := HO2.out
                      rw [hg1] at hO2
                      obtain ⟨s1, s2⟩ := swap_at D (x :: R2) Y M' X x' y' t hY
                      have hset := swap_set D (x :: R2) Y M' X x' y' t hY
                      rw [HD.out, ← ha] at s1
                      rw [HD.out, hb2] at s2
                      rw [HD.out, hb2, ← ha] at hset
                      obtain ⟨p1, q1⟩ := own_nat hO2 s1
                      obtain ⟨p2, q2⟩ := own_nat hO2 s2
                      have hO3 := own_put hO2 a y'
                      have s3 : ((D ++ (Y ++ (x' :: M' ++ [y']) ++ X) ++ (x :: R2)).set a y')[b2]? = some y' := by rw [List.getElem?_set_ne (by omega)]; exact s2
                      obtain ⟨p3, q3⟩ := own_nat hO3 s3
                      have hO4 := own_put hO3 b2 x'
                      rw [hset] at hO4
                      have hgw := (hO2.lt g1 rfl).1
                      have HB4 := Lib.hid ((HB2.out.setCell (p := ⟨g1, a, none⟩) hgw (.int .i64 (y' : Int))).setCell (p := ⟨g1, b2, none⟩) hgw (.int .i64 (x' : Int)))
                      have HO4 := Lib.hid hO4
                      have HG1 := Lib.hid hg1
                      have j1 : decide ((a : Int) < (b2 : Int)) = true := decide_eq_true (by omega)
                      have j2 : decide (a < b2) = true := decide_eq_true hab
                      have ja0 : (0 : Int) ≤ (a : Int) := by omega
                      have ja1 : (a : Int) < (k : Int) := by omega
                      have jb0 : (0 : Int) ≤ (b2 : Int) := by omega
                      have jb1 : (b2 : Int) < (k : Int) := by omega
                      have t1 : decide ((a : Int) < 0) = false := decide_eq_false (by omega)
                      have t2 : decide ((b2 : Int) < 0) = false := decide_eq_false (by omega)
                      have t3 : decide ((k : Int) ≤ (a : Int)) = false := decide_eq_false (by omega)
                      have t4 : decide ((k : Int) ≤ (b2 : Int)) = false := decide_eq_false (by omega)
                      have t5 : decide (k ≤ a) = false := decide_eq_false (by omega)
                      have t6 : decide (k ≤ b2) = false := decide_eq_false (by omega)
                      have HX1 := Lib.hid (show a + 1 = fr + (t + 1) ∧ (b2 : Int) - 1 = ((b2 : Nat) : Int) - 1 ∧ b2 = fr + (t + 1) + M'.length from ⟨by omega, rfl, by omega⟩)
                      clear hO2 hO3 hO4 hset s1 s2 s3 hgw hmb hM hmm ha hb2 hY hX
                      obtain rfl : g = g1 := by have := HG1.out; injection this with e; injection e
                      go_wp2_with fail
                      go_region
                      all_goals go_wp2_with fail
                      all_goals go_roundw
                      case rel => exact ⟨t + 1, a + 1, b2, Y ++ [y'], M', x' :: X, by go_num, by first | rfl | go_num, HX1.out.1, HX1.out.2.2, by simp [HY.out], by simp [HX.out], by rw [← HREV.out]; simp, HO4.out, HB4.out.drew⟩
                      case measure => simp [RowKit.intOf] <;> omega
                    · have HRS := Lib.hid (rev_short M (by omega))
                      have j1 : decide ((a : Int) < (mm : Int) - 1) = false := decide_eq_false (by omega)
                      have HO5 := Lib.hid (show wr.ownsRow w.heap.size 3 1 (.slice (some ⟨g, 0, none⟩) k c) k (icl (Sq.ns (D ++ S.reverse ++ (x :: R2)))) from by
                        have e : Y ++ M ++ X = S.reverse := by rw [← HREV.out, HRS.out]
                        rw [← e]
                        exact HO2.out)
                      clear ha hmm hY hX hM
                      go_wp2_with fail
                      go_roundw
                      case rel => exact ⟨i + 1, i + 1, D ++ S.reverse ++ [x], [], R2, by go_num, by go_num, by simpa using HM1.out, .inl ⟨by have := HS.out; have := HD.out; simp <;> omega, by simp, by have := HRl.out; simp at this; omega, HE.out⟩, by simpa using HO5.out, HB2.out⟩
                      case measure => simp [RowKit.intOf] <;> omega
              · obtain rfl : k = i := by omega
                obtain rfl : R = [] := by cases R with
                  | nil => rfl
                  | cons x R2 => simp at hR
                have HE := Lib.hid (show D ++ S.reverse = revGo pr [] O from by rw [← HEQ.out]; rfl)
                clear hS hR hik
                go_wp2_with fail
                go_loopw [8, 9] (fun s8 s9 wx => ∃ (t a mm : Nat) (Y M X : List Nat), s8 = .int .i64 a ∧ s9 = .int .i64 ((mm : Int) - 1) ∧ a = fr + t ∧ mm = fr + t + M.length ∧ Y.length = t ∧ X.length = t ∧ Y ++ M.reverse ++ X = S.reverse ∧ wx.ownsRow w.heap.size 3 1 (.slice A k c) k (icl (Sq.ns (D ++ (Y ++ M ++ X) ++ []))) ∧ Below w.heap.size w wx) (fun s8 s9 _ => ((RowKit.intOf s9).toNat + 1) - (RowKit.intOf s8).toNat)
                case atStart => exact ⟨0, fr, k, [], S, [], rfl, rfl, rfl, by have := HS.out; omega, rfl, rfl, by simp, by simpa using HO1.out, HB1.out⟩
                case round =>
                  obtain ⟨t, a, mm, Y, M, X, rfl, rfl, ha, hmm, hY, hX, hrev, hown2, hb2⟩ := hrel
                  have HO2 := Lib.hid hown2
                  have HB2 := Lib.hid hb2
                  have HY := Lib.hid hY
                  have HX := Lib.hid hX
                  have HREV := Lib.hid hrev
                  have HSL := Lib.hid (show t + M.length + t = S.length from by have := congrArg List.length hrev; simp at this; omega)
                  clear hown2 hb2 hrev
                  by_cases hM : 2 ≤ M.length
                  · obtain ⟨x', M', y', rfl⟩ := two_ends M hM
                    obtain ⟨b2, hb2⟩ : ∃ b2, fr + t + M'.length + 1 = b2 := ⟨_, rfl⟩
                    have hmb : ((mm : Int) - 1) = (b2 : Int) := by simp at hmm; omega
                    rw [hmb]
                    have hab : a < b2 := by omega
                    have hbk : b2 < k := by have := HSL.out; have := HS.out; have := HRl.out; simp at *; omega
                    have hgA : ∃ g1, A = some ⟨g1, 0, none⟩ := by
                      rcases HO2.out.2 with ⟨e, h0⟩ | ⟨g1, cap, cur, e, _⟩
                      · omega
                      · injection e with e1 _ _
                        exact ⟨g1, e1⟩
                    obtain ⟨g1, hg1⟩ := hgA
                    have hO2 := HO2.out
                    rw [hg1] at hO2
                    obtain ⟨s1, s2⟩ := swap_at D [] Y M' X x' y' t hY
                    have hset := swap_set D [] Y M' X x' y' t hY
                    rw [HD.out, ← ha] at s1
                    rw [HD.out, hb2] at s2
                    rw [HD.out, hb2, ← ha] at hset
                    obtain ⟨p1, q1⟩ := own_nat hO2 s1
                    obtain ⟨p2, q2⟩ := own_nat hO2 s2
                    have hO3 := own_put hO2 a y'
                    have s3 : ((D ++ (Y ++ (x' :: M' ++ [y']) ++ X) ++ []).set a y')[b2]? = some y' := by rw [List.getElem?_set_ne (by omega)]; exact s2
                    obtain ⟨p3, q3⟩ := own_nat hO3 s3
                    have hO4 := own_put hO3 b2 x'
                    rw [hset] at hO4
                    have hgw := (hO2.lt g1 rfl).1
                    have HB4 := Lib.hid ((HB2.out.setCell (p := ⟨g1, a, none⟩) hgw (.int .i64 (y' : Int))).setCell (p := ⟨g1, b2, none⟩) hgw (.int .i64 (x' : Int)))
                    have HO4 := Lib.hid hO4
                    have HG1 := Lib.hid hg1
                    have j1 : decide ((a : Int) < (b2 : Int)) = true := decide_eq_true (by omega)
                    have j2 : decide (a < b2) = true := decide_eq_true hab
                    have ja0 : (0 : Int) ≤ (a : Int) := by omega
                    have ja1 : (a : Int) < (k : Int) := by omega
                    have jb0 : (0 : Int) ≤ (b2 : Int) := by omega
                    have jb1 : (b2 : Int) < (k : Int) := by omega
                    have t1 : decide ((a : Int) < 0) = false := decide_eq_false (by omega)
                    have t2 : decide ((b2 : Int) < 0) = false := decide_eq_false (by omega)
                    have t3 : decide ((k : Int) ≤ (a : Int)) = false := decide_eq_false (by omega)
                    have t4 : decide ((k : Int) ≤ (b2 : Int)) = false := decide_eq_false (by omega)
                    have t5 : decide (k ≤ a) = false := decide_eq_false (by omega)
                    have t6 : decide (k ≤ b2) = false := decide_eq_false (by omega)
                    have HX1 := Lib.hid (show a + 1 = fr + (t + 1) ∧ (b2 : Int) - 1 = ((b2 : Nat) : Int) - 1 ∧ b2 = fr + (t + 1) + M'.length from ⟨by omega, rfl, by omega⟩)
                    clear hO2 hO3 hO4 hset s1 s2 s3 hgw hmb hM hmm ha hb2 hY hX
                    subst hg1
                    go_wp2_with fail
                    go_region
                    all_goals go_wp2_with fail
                    all_goals go_roundw
                    case rel => exact ⟨t + 1, a + 1, b2, Y ++ [y'], M', x' :: X, by go_num, by first | rfl | go_num, HX1.out.1, HX1.out.2.2, by simp [HY.out], by simp [HX.out], by rw [← HREV.out]; simp, HO4.out, HB4.out.drew⟩
                    case measure => simp [RowKit.intOf] <;> omega
                  · have HRS := Lib.hid (rev_short M (by omega))
                    have j1 : decide ((a : Int) < (mm : Int) - 1) = false := decide_eq_false (by omega)
                    have HO5 := Lib.hid (show wr.ownsRow w.heap.size 3 1 (.slice A k c) k (icl (Sq.ns (D ++ S.reverse ++ []))) from by
                      have e : Y ++ M ++ X = S.reverse := by rw [← HREV.out, HRS.out]
                      rw [← e]
                      exact HO2.out)
                    clear ha hmm hY hX hM
                    go_wp2_with fail
                    go_roundw
                    case rel => exact ⟨k + 1, k + 1, D ++ S.reverse, [], [], by go_num, by go_num, by simpa using HM1.out, .inr ⟨rfl, rfl, rfl, HE.out⟩, by simpa using HO5.out, HB2.out⟩
                    case measure => simp [RowKit.intOf] <;> omega
            · have HE := Lib.hid (show D = revGo pr [] O from heq)
              have hi2 : decide ((k : Int) + 1 ≤ (k : Int)) = false := decide_eq_false (by omega)
              clear heq
              go_wp2_with fail
              go_roundw
              case rel =>
                refine ⟨q, revGo pr [] O, by omega, by go_num, ?_, ?_, HRV.out, ?_, HB1.out⟩
                · rw [HLEN.out]; simpa using HOL.out
                · intro y hy
                  rw [HMEM.out] at hy
                  rcases hy with hy | hy
                  · cases hy
                  · exact HOX.out y hy
                · rw [← HE.out]; simpa using HO1.out
              case measure => simp [RowKit.intOf] <;> omega
end Go.Proofs.YtlocnjenkanmpaaDoor.Bi
