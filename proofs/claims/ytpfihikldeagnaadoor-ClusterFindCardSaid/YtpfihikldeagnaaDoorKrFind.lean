/-
  Proved here: what parquetryref06.Find returns, for every row of clusters of at most 2^40, of ints; it leaves what was in memory.
-/
import Derived.Test.YtpfihikldeagnaaDoorKuSmall
set_option linter.unusedVariables false
namespace Go.Proofs.YtpfihikldeagnaaDoor.Ku
open Go.RowKit Go.Lib Go.Proofs.YtpfihikldeagnaaDoor.Arr

set_option maxHeartbeats 2000000 in
set_option maxRecDepth 100000 in
theorem rfind_any (A : Option Addr) (l : List C6) (n : Nat) (p : Int) (w : World) (hR : CuAt w A l) (hl : l.length ≤ 1099511627776) (hok : ∀ x ∈ l, okN x.a ∧ okN x.z) (hp : okN p) :
    Calls Tryd.prog 17 #[.slice A l.length n, .int .i64 p] w fun e w' => e = .returned (.int .i64 (if findN l p < l.length then (findN l p : Int) else -1)) ∧ Below w.heap.size w w' := by
  have HR := Lib.hid hR
  have HO := Lib.hid hok
  obtain ⟨res, hres⟩ : ∃ res : Int, (if findN l p < l.length then (findN l p : Int) else -1) = res := ⟨_, rfl⟩
  rw [hres]
  have HRes := Lib.hid hres
  clear hR hok hres
  go_enter Tryd.func17, Tryd.ntmps17
  go_wp2_with fail
  go_loopw [5] (fun s5 wx => ∃ k : Nat, k ≤ l.length ∧ s5 = .int .i64 k ∧ Below w.heap.size w wx ∧ ∀ j (hj : j < k) (hjl : j < l.length), hasT l[j] p = false) (fun s5 _ => l.length - (RowKit.intOf s5).toNat)
  case atStart => exact ⟨0, Nat.zero_le _, rfl, Below.refl _ _, fun j hj => by omega⟩
  case round =>
    obtain ⟨k, hk, rfl, hbw, hno⟩ := hrel
    by_cases hlt : k < l.length
    · obtain ⟨b, off, rfl, hblt, c0, c1, c2, c3, c4, c5⟩ := (HR.out.below hbw).at_ hlt
      obtain ⟨o1, o2⟩ := HO.out l[k] (List.getElem_mem hlt)
      have HY := Lib.hid (show hasT l[k] p = true → res = (k : Int) from fun h => by
        have hf := findN_yes l p k hlt h (fun j hj => hno j hj (by omega))
        rw [← HRes.out, hf, if_pos hlt])
      have HN := Lib.hid (show hasT l[k] p = false → ∀ j (hj : j < k + 1) (hjl : j < l.length), hasT l[j] p = false from fun h j hj hjl => (if hjk : j < k then hno j hjk hjl else by
        obtain rfl : j = k := by omega
        exact h))
      have HB := Lib.hid hbw
      clear hno hbw
      have hhas : hasT l[k] p = (decide (0 < l[k].z) && (decide (l[k].a ≤ p) && decide (p < l[k].a + l[k].z))) := rfl
      rw [hhas] at HY HN
      clear hhas
      generalize l[k].a = a at *
      generalize l[k].z = z at *
      unfold okN at *
      by_cases h1 : z < 1
      · have HN2 := Lib.hid (HN.out (by rw [decide_eq_false (by omega : ¬ 0 < z)]; rfl))
        have d1 : decide (z < 1) = true := decide_eq_true h1
        clear HY HN h1
        go_wp2
        go_roundw
        case rel => exact ⟨k + 1, by omega, by go_num, HB.out.alloc HB.out.size _, HN2.out⟩
        case measure => simp [RowKit.intOf]; omega
      · have d1 : decide (z < 1) = false := decide_eq_false h1
        by_cases h2 : p < a
        · have HN2 := Lib.hid (HN.out (by rw [decide_eq_false (by omega : ¬ a ≤ p), Bool.false_and, Bool.and_false]))
          have d2 : decide (p < a) = true := decide_eq_true h2
          clear HY HN h1 h2
          go_wp2
          go_roundw
          case rel => exact ⟨k + 1, by omega, by go_num, HB.out.alloc HB.out.size _, HN2.out⟩
          case measure => simp [RowKit.intOf]; omega
        · have d2 : decide (p < a) = false := decide_eq_false h2
          by_cases h3 : a < 0
          · have d3 : decide (a < 0) = true := decide_eq_true h3
            have d4 : decide (0 ≤ a) = false := decide_eq_false (by omega)
            have hw : IntKind.i64.wrap (z + a) = z + a := IntWalk.i64_in _ (by omega)
            by_cases h4 : p < z + a
            · have HV := Lib.hid (HY.out (by rw [decide_eq_true (by omega : 0 < z), decide_eq_true (by omega : a ≤ p), decide_eq_true (by omega : p < a + z)]; rfl))
              have d5 : decide (p < z + a) = true := decide_eq_true h4
              clear HY HN h1 h2 h3 h4
              go_wp2
              go_ret
              exact ⟨by rw [HV.out]; rfl, HB.out.alloc HB.out.size _⟩
            · have HN2 := Lib.hid (HN.out (by rw [decide_eq_false (by omega : ¬ p < a + z), Bool.and_false, Bool.and_false]))
              have d5 : decide (p < z + a) = false := decide_eq_false h4
              clear HY HN h1 h2 h3 h4
              go_wp2
              go_roundw
              case rel => exact ⟨k + 1, by omega, by go_num, HB.out.alloc HB.out.size _, HN2.out⟩
              case measure => simp [RowKit.intOf]; omega
          · have d3 : decide (a < 0) = false := decide_eq_false h3
            have d4 : decide (0 ≤ a) = true := decide_eq_true (by omega)
            have hw : IntKind.i64.wrap (p - a) = p - a := IntWalk.i64_in _ (by omega)
            by_cases h4 : p - a < z
            · have HV := Lib.hid (HY.out (by rw [decide_eq_true (by omega : 0 < z), decide_eq_true (by omega : a ≤ p), decide_eq_true (by omega : p < a + z)]; rfl))
              have d5 : decide (p - a < z) = true := decide_eq_true h4
              clear HY HN h1 h2 h3 h4
              go_wp2
              go_ret
              exact ⟨by rw [HV.out]; rfl, HB.out.alloc HB.out.size _⟩
            · have HN2 := Lib.hid (HN.out (by rw [decide_eq_false (by omega : ¬ p < a + z), Bool.and_false, Bool.and_false]))
              have d5 : decide (p - a < z) = false := decide_eq_false h4
              clear HY HN h1 h2 h3 h4
              go_wp2
              go_roundw
              case rel => exact ⟨k + 1, by omega, by go_num, HB.out.alloc HB.out.size _, HN2.out⟩
              case measure => simp [RowKit.intOf]; omega
    · have hf := findN_no l p (fun j hj => hno j (by omega) hj)
      have HV := Lib.hid (show res = -1 by rw [← HRes.out, if_neg (by omega)])
      clear hno
      go_wp2
      go_ret
      exact ⟨by rw [HV.out]; rfl, hbw⟩
end Go.Proofs.YtpfihikldeagnaaDoor.Ku
