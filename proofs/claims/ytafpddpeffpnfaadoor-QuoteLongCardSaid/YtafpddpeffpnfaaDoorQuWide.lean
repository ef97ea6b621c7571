/-
  Proved here: what parquetrylaw08.wide says of records: where it is false, they are few, and short; it leaves memory as it is. What such records' texts are no longer than.
-/
import Derived.Test.YtafpddpeffpnfaaDoorQuPrint
import Derived.Test.YtafpddpeffpnfaaDoorCvMore
set_option linter.unusedVariables false
namespace Go.Proofs.YtafpddpeffpnfaaDoor.Qu
open Go Go.RowKit Go.Lib Go.Proofs.YtafpddpeffpnfaaDoor.Cv

structure Small (R : List (List Bs)) : Prop where
  num : R.length ≤ 100
  sum : sumLen R ≤ 100
  each : ∀ r ∈ R, ∀ x ∈ r, x.length ≤ 3000
  bytes : bytesT R ≤ 3000

theorem fits_of {m : Bs} {X : List Bs} (h : (joinW m X).length ≤ 65536) : fits m X := fun k _ => Nat.le_trans (joinW_le m X k) h
theorem recsOk_of {R : List (List Bs)} (hn : R.length ≤ 1000000) (hm : ∀ r ∈ R, r.length ≤ 1000000) (ht : (textW R).length ≤ 65536) : RecsOk R := by
  refine ⟨fits_of ht, hn, fun r hr => ?_, by omega⟩
  have h1 := recW_le_text hr
  have h2 := recW_join_le r
  exact ⟨fits_of (by omega), hm r hr, fun x hx => by have := field_le_rec hx; omega, by omega⟩
theorem Small.len {R : List (List Bs)} (h : Small R) : (textW R).length ≤ 65536 := by
  have h1 := textW_len R
  have h2 := h.num
  have h3 := h.sum
  have h4 := h.bytes
  omega
theorem Small.rows {R : List (List Bs)} (h : Small R) : ∀ r ∈ R, r.length ≤ 1000000 := fun r hr => by
  have := sum_ge R r hr
  have := h.sum
  omega
theorem Small.ok {R : List (List Bs)} (h : Small R) : RecsOk R := recsOk_of (by have := h.num; omega) h.rows h.len

theorem sum_take (R : List (List Bs)) (k : Nat) (h : k < R.length) : sumLen (R.take (k + 1)) = sumLen (R.take k) + R[k].length := by
  rw [List.take_add_one, List.getElem?_eq_getElem h, Option.toList_some]
  unfold sumLen
  rw [List.map_append, List.sum_append]
  simp only [List.map_cons, List.map_nil, List.sum_cons, List.sum_nil, Nat.add_zero]
theorem bytes_take (R : List (List Bs)) (k : Nat) (h : k < R.length) : bytesT (R.take (k + 1)) = bytesT (R.take k) + bytesR R[k] := by
  rw [List.take_add_one, List.getElem?_eq_getElem h, Option.toList_some]
  unfold bytesT
  rw [List.map_append, List.sum_append]
  simp only [List.map_cons, List.map_nil, List.sum_cons, List.sum_nil, Nat.add_zero]
theorem bytesR_take (r : List Bs) (k : Nat) (h : k < r.length) : bytesR (r.take (k + 1)) = bytesR (r.take k) + r[k].length := by
  rw [List.take_add_one, List.getElem?_eq_getElem h, Option.toList_some]
  unfold bytesR
  rw [List.map_append, List.sum_append]
  simp only [List.map_cons, List.map_nil, List.sum_cons, List.sum_nil, Nat.add_zero]
theorem bytesR_le (r : List Bs) (h : ∀ x ∈ r, x.length ≤ 3000) : bytesR r ≤ 3000 * r.length := by
  induction r with
  | nil => simp [bytesR]
  | cons x r ih =>
    have h1 := h x (by simp)
    have h2 := ih fun y hy => h y (List.mem_cons_of_mem _ hy)
    simp [bytesR] at h2 ⊢
    omega
theorem bytesT_le (R : List (List Bs)) (h : ∀ r ∈ R, ∀ x ∈ r, x.length ≤ 3000) : bytesT R ≤ 3000 * sumLen R := by
  induction R with
  | nil => simp [bytesT]
  | cons r R ih =>
    have h1 := bytesR_le r (h r (by simp))
    have h2 := ih fun y hy => h y (List.mem_cons_of_mem _ hy)
    simp [bytesT, sumLen] at h1 h2 ⊢
    omega
theorem each_take {R : List (List Bs)} {k : Nat} (h : k < R.length) (h1 : ∀ r ∈ R.take k, ∀ x ∈ r, x.length ≤ 3000) (h2 : ∀ x ∈ R[k], x.length ≤ 3000) : ∀ r ∈ R.take (k + 1), ∀ x ∈ r, x.length ≤ 3000 := by
  intro r hr
  rw [List.take_add_one, List.getElem?_eq_getElem h, Option.toList_some, List.mem_append] at hr
  rcases hr with hr | hr
  · exact h1 r hr
  · rw [List.mem_singleton] at hr
    subst hr
    exact h2
theorem eachR_take {r : List Bs} {k : Nat} (h : k < r.length) (h1 : ∀ x ∈ r.take k, x.length ≤ 3000) (h2 : r[k].length ≤ 3000) : ∀ x ∈ r.take (k + 1), x.length ≤ 3000 := by
  intro x hx
  rw [List.take_add_one, List.getElem?_eq_getElem h, Option.toList_some, List.mem_append] at hx
  rcases hx with hx | hx
  · exact h1 x hx
  · rw [List.mem_singleton] at hx
    subst hx
    exact h2

def WidePost (R : List (List Bs)) (w : World) (e : Ending) (w' : World) : Prop := (∃ b, e = .returned (.bool b) ∧ (b = false → Small R)) ∧ w' = w

set_option maxHeartbeats 2000000 in
set_option maxRecDepth 1000000 in
theorem wide_any (A : Option Addr) (R : List (List Bs)) (n c : Nat) (hn : n = R.length) (w : World) (hA : RecsAt w A R) (hl : R.length ≤ 140737488355328) (hr : ∀ r ∈ R, r.length ≤ 140737488355328) (hx : ∀ r ∈ R, ∀ x ∈ r, x.length ≤ 140737488355328) :
    Calls Tryd.prog 12 #[.slice A n c] w (WidePost R w) := by
  subst hn
  have HA := Lib.hid hA
  have HR := Lib.hid hr
  have HX := Lib.hid hx
  clear hA hr hx
  by_cases h100 : 100 < R.length
  · have hz : (100 : Int) < (R.length : Int) := by omega
    go_enter Tryd.func12, Tryd.ntmps12
    go_wp2_with fail
    go_ret
    exact ⟨⟨true, rfl, fun h => by cases h⟩, rfl⟩
  · have hz : ¬ (100 : Int) < (R.length : Int) := by omega
    go_enter Tryd.func12, Tryd.ntmps12
    go_wp2_with fail
    go_loopw [3, 4, 5] (fun s3 s4 s5 wx => wx = w ∧ ∃ k m b : Nat, k ≤ R.length ∧ s5 = .int .i64 k ∧ s3 = .int .i64 m ∧ s4 = .int .i64 (3000 - (b : Int)) ∧ m = sumLen (R.take k) ∧ b = bytesT (R.take k) ∧ m ≤ 100 ∧ b ≤ 300000 ∧ ∀ r ∈ R.take k, ∀ x ∈ r, x.length ≤ 3000) (fun _ _ s5 _ => R.length - (RowKit.intOf s5).toNat)
    case atStart => exact ⟨rfl, 0, 0, 0, Nat.zero_le _, rfl, rfl, rfl, rfl, rfl, by omega, by omega, by simp⟩
    case round =>
      obtain ⟨hwx, k, m, b, hk, rfl, rfl, rfl, hm, hb, hm1, hb1, hall⟩ := hrel
      obtain rfl := hwx.symm
      have HM := Lib.hid hm
      have HB := Lib.hid hb
      have HALL := Lib.hid hall
      clear hm hb hall
      by_cases hlt : k < R.length
      · obtain ⟨g, off, A1, c1, rfl, hc, hv⟩ := HA.out.at_ hlt
        have hrl := HR.out R[k] (List.getElem_mem hlt)
        have hxl := HX.out R[k] (List.getElem_mem hlt)
        have hs := sum_take R k hlt
        have hbt := bytes_take R k hlt
        have het := each_take hlt HALL.out
        obtain ⟨r, hre⟩ : ∃ r, R[k] = r := ⟨_, rfl⟩
        rw [hre] at hc hv hrl hxl hs hbt het
        have HS := Lib.hid hs
        have HBT := Lib.hid hbt
        have HET := Lib.hid het
        have HV := Lib.hid hv
        have HXL := Lib.hid hxl
        clear hre hs hbt het hv hxl
        by_cases hbig : 100 < m + r.length
        · have hz2 : (100 : Int) < (m : Int) + (r.length : Int) := by omega
          go_wp2_with fail
          go_ret
          exact ⟨⟨true, rfl, fun h => by cases h⟩, rfl⟩
        · have hz2 : ¬ (100 : Int) < (m : Int) + (r.length : Int) := by omega
          go_wp2_with fail
          go_loopw [4, 6] (fun s4 s6 wx => wx = w ∧ ∃ j b2 : Nat, j ≤ r.length ∧ s6 = .int .i64 j ∧ s4 = .int .i64 (3000 - (b2 : Int)) ∧ b2 = b + bytesR (r.take j) ∧ b2 ≤ b + 3000 * j ∧ ∀ x ∈ r.take j, x.length ≤ 3000) (fun _ s6 _ => r.length - (RowKit.intOf s6).toNat)
          case atStart => exact ⟨rfl, 0, b, Nat.zero_le _, rfl, rfl, rfl, by omega, by simp⟩
          case round =>
            obtain ⟨hwx, j, b2, hj, rfl, rfl, hb2, hb3, hall2⟩ := hrel
            obtain rfl := hwx.symm
            have HB2 := Lib.hid hb2
            have HALL2 := Lib.hid hall2
            clear hb2 hall2
            by_cases hlj : j < r.length
            · have hlc : j < (rowC r).length := by simpa [rowC] using hlj
              obtain ⟨g2, off2, rfl, hc2⟩ := HV.out.at_ hlc
              have e2 : (rowC r)[j] = .string ⟨r[j].toArray⟩ := by simp [rowC, bx]
              rw [e2] at hc2
              have hx1 := HXL.out r[j] (List.getElem_mem hlj)
              have hbr := bytesR_take r j hlj
              have her := eachR_take hlj HALL2.out
              obtain ⟨y, hy⟩ : ∃ y, r[j] = y := ⟨_, rfl⟩
              rw [hy] at hc2 hx1 hbr her
              obtain ⟨Y, hY⟩ : ∃ Y : ByteArray, (⟨y.toArray⟩ : ByteArray) = Y := ⟨_, rfl⟩
              have hYs : Y.size = y.length := by rw [← hY]; show y.toArray.size = _; simp
              rw [hY] at hc2
              have HBR := Lib.hid hbr
              have HER := Lib.hid her
              clear hbr her hy hY e2 hlc
              by_cases hy3 : 3000 < y.length
              · have hz3 : (3000 : Int) < (y.length : Int) := by omega
                go_wp2_with fail
                go_ret
                exact ⟨⟨true, rfl, fun h => by cases h⟩, rfl⟩
              · have hz3 : ¬ (3000 : Int) < (y.length : Int) := by omega
                go_wp2_with fail
                go_roundw
                case measure => simp [RowKit.intOf]; omega
                case rel => exact ⟨trivial, j + 1, b2 + y.length, by omega, by go_num, by go_num, by rw [HBR.out, HB2.out]; omega, by omega, HER.out (by omega)⟩
            · have e : r.take j = r := List.take_of_length_le (by omega)
              have HE := Lib.hid e
              clear e
              go_wp2_with fail
              go_roundw
              case measure => simp [RowKit.intOf]; omega
              case rel =>
                have hb4 := HB2.out
                have ha4 := HALL2.out
                rw [HE.out] at hb4 ha4
                have hmt : m + r.length = sumLen (R.take (k + 1)) := by rw [HS.out, ← HM.out]
                have hbt2 : b2 = bytesT (R.take (k + 1)) := by rw [HBT.out, ← HB.out, hb4]
                have hle := bytesT_le _ (HET.out ha4)
                exact ⟨trivial, k + 1, m + r.length, b2, by omega, by go_num, by go_num, rfl, hmt, hbt2, by omega, by omega, HET.out ha4⟩
      · have e : R.take k = R := List.take_of_length_le (by omega)
        have hm2 := HM.out
        have hb2 := HB.out
        have ha2 := HALL.out
        rw [e] at hm2 hb2 ha2
        have HE := Lib.hid (And.intro hm2 (And.intro hb2 ha2))
        clear hm2 hb2 ha2 e
        go_wp2_with fail
        go_ret
        refine ⟨⟨_, rfl, fun h => ?_⟩, rfl⟩
        have h' : ¬ (3000 - (b : Int) < 0) := of_decide_eq_false h
        exact ⟨by omega, by have := HE.out.1; omega, HE.out.2.2, by have := HE.out.2.1; omega⟩
end Go.Proofs.YtafpddpeffpnfaaDoor.Qu
