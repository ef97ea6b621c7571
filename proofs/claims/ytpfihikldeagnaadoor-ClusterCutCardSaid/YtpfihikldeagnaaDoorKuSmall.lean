/-
  Proved here: what cluster.nothing, cluster.has, the closure of cluster.Find return; parquetryref06.alone, .syllable. They leave what was in memory. No condition.
-/
import Derived.Test.YtpfihikldeagnaaDoorKuRows
import Derived.Test.YtpfihikldeagnaaDoorArrKit
import Derived.Test.YtpfihikldeagnaaDoorSoSearch
import Derived.Deep.RegionWith
set_option linter.unusedVariables false
namespace Go.Proofs.YtpfihikldeagnaaDoor.Ku
open Go.RowKit Go.Lib

set_option maxHeartbeats 1000000 in
set_option maxRecDepth 100000 in
theorem alone_any (k : Int) (w : World) :
    Calls Tryd.prog 40 #[.int .i64 k] w fun e w' => e = .returned (.bool (alone k)) ∧ w = w' := by
  unfold alone
  cases h1 : (k == 1) <;> cases h2 : (k == 2) <;> cases h3 : (k == 3)
  all_goals
    go_enter Tryd.func40, Tryd.ntmps40
    go_wp2
    go_ret
    exact ⟨rfl, rfl⟩

theorem syl_eq (a b : Int) : syl a b = bif a == 9 then b == 9 || (b == 10 || (b == 12 || b == 13)) else bif a == 12 || a == 10 then b == 10 || b == 11 else (a == 13 || a == 11) && b == 11 := by
  unfold syl
  by_cases h1 : a = 9
  · rw [if_pos h1, show (a == 9) = true from by simpa using h1]
    rfl
  · rw [if_neg h1, show (a == 9) = false from by simpa using h1]
    by_cases h2 : a = 12 ∨ a = 10
    · rw [if_pos h2, show (a == 12 || a == 10) = true from by simpa using h2]
      rfl
    · rw [if_neg h2, show (a == 12 || a == 10) = false from by simpa using h2]
      rfl

set_option maxHeartbeats 1000000 in
set_option maxRecDepth 100000 in
theorem syllable_any (a b : Int) (w : World) :
    Calls Tryd.prog 41 #[.int .i64 a, .int .i64 b] w fun e w' => e = .returned (.bool (syl a b)) ∧ w = w' := by
  rw [syl_eq]
  cases h9 : (a == 9)
  · cases h12 : (a == 12) <;> cases h10 : (a == 10)
    · cases h13 : (a == 13) <;> cases h11 : (a == 11) <;> cases g11 : (b == 11)
      all_goals
        go_enter Tryd.func41, Tryd.ntmps41
        go_wp2
        go_ret
        exact ⟨rfl, rfl⟩
    all_goals
      cases g10 : (b == 10) <;> cases g11 : (b == 11)
      all_goals
        go_enter Tryd.func41, Tryd.ntmps41
        go_wp2
        go_ret
        exact ⟨rfl, rfl⟩
  · cases g9 : (b == 9)
    · cases g10 : (b == 10)
      · cases g12 : (b == 12) <;> cases g13 : (b == 13)
        all_goals
          go_enter Tryd.func41, Tryd.ntmps41
          go_wp2
          go_ret
          exact ⟨rfl, rfl⟩
      · go_enter Tryd.func41, Tryd.ntmps41
        go_wp2
        go_ret
        exact ⟨rfl, rfl⟩
    · go_enter Tryd.func41, Tryd.ntmps41
      go_wp2
      go_ret
      exact ⟨rfl, rfl⟩

theorem infoS : (Tryd.prog.info? 47).map (·.size) = some 6 := by kernel_rfl

set_option maxHeartbeats 1000000 in
set_option maxRecDepth 100000 in
theorem nothing_any (w : World) :
    Calls Tryd.prog 22 #[] w fun e w' => e = .returned (.agg #[.int .i64 0, .int .i64 0, .int .i64 0, .int .i64 3, .int .i64 0, .bool false]) ∧ Below w.heap.size w w' := by
  have hi := infoS
  go_enter Tryd.func22, Tryd.ntmps22
  go_wp2
  exact bodyPost_ret (results_cell_row Tryd.results22 _ _ w.heap.size 47 _ (0, 0) _ (by kernel_rfl) (heap_alloc_last w _) Tryd.underlying47 rfl hi) (by kernel_rfl) ⟨rfl, (Below.refl _ _).alloc (Nat.le_refl _) _⟩

theorem u64_mod (n : Int) : IntKind.u64.wrap n = n % 18446744073709551616 := by
  simp [IntKind.wrap, IntKind.bits, IntKind.signed]
/-- A cluster that has a byte, as the code asks. -/
theorem has_wrap (a z p : Int) (h0 : 0 < z) (h1 : a ≤ p) (ha : -9223372036854775808 ≤ a ∧ a ≤ 9223372036854775807) (hz : z ≤ 9223372036854775807) (hp : -9223372036854775808 ≤ p ∧ p ≤ 9223372036854775807) :
    decide (IntKind.u64.wrap (IntKind.u64.wrap p - IntKind.u64.wrap a) < IntKind.u64.wrap z) = decide (p < a + z) := by
  rw [u64_mod, u64_mod, u64_mod, u64_mod, decide_eq_decide]
  omega
/-- The numbers of a cluster are ints. -/
def okN (n : Int) : Prop := -9223372036854775808 ≤ n ∧ n ≤ 9223372036854775807

set_option maxHeartbeats 1000000 in
set_option maxRecDepth 100000 in
theorem has_any (x : C6) (p : Int) (w : World) (ha : okN x.a) (hz : okN x.z) (hp : okN p) :
    Calls Tryd.prog 31 #[.agg #[.int .i64 x.a, .int .i64 x.z, .int .i64 x.f, .int .i64 x.t, .int .i64 x.w, .int .i64 x.c], .int .i64 p] w fun e w' => e = .returned (.bool (hasT x p)) ∧ Below w.heap.size w w' := by
  obtain ⟨a, z, f, t, v, c⟩ := x
  unfold hasT
  simp only at *
  have HW := Lib.hid (fun h0 h1 => has_wrap a z p h0 h1 ha hz.2 hp)
  clear ha hz hp
  cases h1 : decide (0 < z)
  · go_enter Tryd.func31, Tryd.ntmps31
    go_wp2
    go_ret
    exact ⟨rfl, (Below.refl _ _).alloc (Nat.le_refl _) _⟩
  · cases h2 : decide (a ≤ p)
    · go_enter Tryd.func31, Tryd.ntmps31
      go_wp2
      go_ret
      exact ⟨rfl, (Below.refl _ _).alloc (Nat.le_refl _) _⟩
    · go_enter Tryd.func31, Tryd.ntmps31
      go_wp2
      go_ret
      exact ⟨by rw [HW.out (of_decide_eq_true h1) (of_decide_eq_true h2)]; rfl, (Below.refl _ _).alloc (Nat.le_refl _) _⟩

set_option maxHeartbeats 1000000 in
set_option maxRecDepth 100000 in
theorem closure_any (x : C6) (p : Int) (g : Nat) (w : World) (hg : g < w.heap.size) (hc : w.cell? ⟨g, 0, none⟩ = some (.int .i64 p)) (ha : okN x.a) (hz : okN x.z) (hp : okN p) :
    Calls Tryd.prog 30 #[.agg #[.int .i64 x.a, .int .i64 x.z, .int .i64 x.f, .int .i64 x.t, .int .i64 x.w, .int .i64 x.c], .pointer (some ⟨g, 0, none⟩)] w fun e w' => e = .returned (.bool (hasT x p)) ∧ Below w.heap.size w w' := by
  have HH := Lib.hid (fun W => has_any x p W ha hz hp)
  obtain ⟨a, z, f, t, v, c⟩ := x
  simp only at *
  clear ha hz hp
  generalize hasT _ _ = r at *
  have hb1 : Below w.heap.size w (w.alloc (.cells #[.int .i64 a, .int .i64 z, .int .i64 f, .int .i64 t, .int .i64 v, .int .i64 c] 32)) := (Below.refl _ _).alloc (Nat.le_refl _) _
  have hc1 := (hb1.cell (p := ⟨g, 0, none⟩) hg).trans hc
  have HB := Lib.hid hb1
  clear hb1
  go_enter Tryd.func30, Tryd.ntmps30
  go_wp2_with fail
  refine (HH.out _).mono ?_
  rintro e w4 ⟨rfl, hb4⟩
  go_wp2
  go_ret
  exact ⟨rfl, HB.out.trans (hb4.mono HB.out.size)⟩

set_option maxHeartbeats 1000000 in
set_option maxRecDepth 100000 in
/-- slices.IndexFunc, with the closure of Find. -/
theorem index_any (A : Option Addr) (l : List C6) (n : Nat) (p : Int) (g : Nat) (w : World) (hR : CuAt w A l) (hl : l.length ≤ 1099511627776) (hok : ∀ x ∈ l, okN x.a ∧ okN x.z) (hp : okN p) (hg : g < w.heap.size) (hc : w.cell? ⟨g, 0, none⟩ = some (.int .i64 p)) :
    Calls Tryd.prog 29 #[.slice A l.length n, .func (.func 30) #[] #[.pointer (some ⟨g, 0, none⟩)]] w fun e w' => e = .returned (.int .i64 (if findN l p < l.length then (findN l p : Int) else -1)) ∧ Below w.heap.size w w' := by
  have hent := enters_of (P := Tryd.prog) Tryd.func30 (by kernel_rfl) rfl
  have HR := Lib.hid hR
  have HC := Lib.hid hc
  have HO := Lib.hid hok
  obtain ⟨res, hres⟩ : ∃ res : Int, (if findN l p < l.length then (findN l p : Int) else -1) = res := ⟨_, rfl⟩
  rw [hres]
  have HRes := Lib.hid hres
  clear hR hc hok hres
  go_enter Tryd.func29, Tryd.ntmps29
  go_wp2_with fail
  go_loopw [8] (fun s8 wx => ∃ k : Nat, k ≤ l.length ∧ s8 = .int .i64 k ∧ Below w.heap.size w wx ∧ ∀ j (hj : j < k) (hjl : j < l.length), hasT l[j] p = false) (fun s8 _ => l.length - (RowKit.intOf s8).toNat)
  case atStart => exact ⟨0, Nat.zero_le _, rfl, Below.refl _ _, fun j hj => by omega⟩
  case round =>
    obtain ⟨k, hk, rfl, hbw, hno⟩ := hrel
    by_cases hlt : k < l.length
    · obtain ⟨b, off, rfl, hblt, c0, c1, c2, c3, c4, c5⟩ := (HR.out.below hbw).at_ hlt
      have hoks := HO.out l[k] (List.getElem_mem hlt)
      have HH := Lib.hid (fun W hg hc => closure_any l[k] p g W hg hc hoks.1 hoks.2 hp)
      have hgw : g < wr.heap.size := Nat.lt_of_lt_of_le hg hbw.size
      have hcw := (hbw.cell (p := ⟨g, 0, none⟩) hg).trans HC.out
      have HY := Lib.hid (fun h => findN_yes l p k hlt h (fun j hj => hno j hj (by omega)))
      have HN := Lib.hid (fun (h : hasT l[k] p = false) => (fun j (hj : j < k + 1) (hjl : j < l.length) => (if hjk : j < k then hno j hjk hjl else by
        obtain rfl : j = k := by omega
        exact h : hasT l[j] p = false)))
      have HB := Lib.hid hbw
      clear hno hoks hbw
      cases hv : hasT l[k] p with
      | true =>
        rw [hv] at HH
        have hy := HY.out hv
        have HV := Lib.hid (show res = (k : Int) by rw [← HRes.out, if_pos (by omega), hy])
        clear hv hy HY HN HRes
        generalize l[k] = x at *
        obtain ⟨xa, xz, xf, xt, xw, xc⟩ := x
        simp only at *
        go_wp2_with fail
        refine (HH.out _ hgw hcw).mono ?_
        rintro e w4 ⟨rfl, hb4⟩
        go_wp2
        go_ret
        exact ⟨by rw [HV.out]; rfl, HB.out.trans (hb4.mono HB.out.size)⟩
      | false =>
        rw [hv] at HH
        have hn := Lib.hid (HN.out hv)
        clear hv HY HN
        generalize l[k] = x at HH c0 c1 c2 c3 c4 c5
        obtain ⟨xa, xz, xf, xt, xw, xc⟩ := x
        simp only at HH c0 c1 c2 c3 c4 c5
        go_wp2_with fail
        refine (HH.out _ hgw hcw).mono ?_
        rintro e w4 ⟨rfl, hb4⟩
        go_wp2
        go_roundw
        case rel => exact ⟨k + 1, by omega, by go_num, HB.out.trans (hb4.mono HB.out.size), hn.out⟩
        case measure => simp [RowKit.intOf]; omega
    · have hf := findN_no l p (fun j hj => hno j (by omega) hj)
      have HV := Lib.hid (show res = -1 by rw [← HRes.out, if_neg (by omega)])
      clear hno
      go_wp2
      go_ret
      exact ⟨by rw [HV.out]; rfl, hbw⟩

set_option maxHeartbeats 1000000 in
set_option maxRecDepth 100000 in
theorem find_any (A : Option Addr) (l : List C6) (n : Nat) (p : Int) (w : World) (hR : CuAt w A l) (hl : l.length ≤ 1099511627776) (hok : ∀ x ∈ l, okN x.a ∧ okN x.z) (hp : okN p) :
    Calls Tryd.prog 16 #[.slice A l.length n, .int .i64 p] w fun e w' => e = .returned (.tuple #[.int .i64 (if findN l p < l.length then (findN l p : Int) else 0), .bool (decide (findN l p < l.length))]) ∧ Below w.heap.size w w' := by
  have hb1 : Below w.heap.size w (w.alloc (.cells #[.int .i64 p] 3)) := (Below.refl _ _).alloc (Nat.le_refl _) _
  have HX := Lib.hid (index_any A l n p w.heap.size (w.alloc (.cells #[.int .i64 p] 3)) (hR.below hb1) hl hok hp (by simp) (by simp))
  have HB := Lib.hid hb1
  have hfl := findN_le l p
  clear hb1 hR hok
  generalize findN l p = y at *
  by_cases hy : y < l.length
  · have hd : decide (y < l.length) = true := decide_eq_true hy
    rw [if_pos hy] at HX
    rw [if_pos hy, hd]
    go_enter Tryd.func16, Tryd.ntmps16
    go_wp2_with fail
    refine HX.out.mono ?_
    rintro e w4 ⟨rfl, hb4⟩
    go_wp2
    go_ret2
    exact ⟨rfl, HB.out.trans (hb4.mono HB.out.size)⟩
  · have hd : decide (y < l.length) = false := decide_eq_false hy
    rw [if_neg hy] at HX
    rw [if_neg hy, hd]
    go_enter Tryd.func16, Tryd.ntmps16
    go_wp2_with fail
    refine HX.out.mono ?_
    rintro e w4 ⟨rfl, hb4⟩
    go_wp2
    go_ret2
    exact ⟨rfl, HB.out.trans (hb4.mono HB.out.size)⟩
end Go.Proofs.YtpfihikldeagnaaDoor.Ku
