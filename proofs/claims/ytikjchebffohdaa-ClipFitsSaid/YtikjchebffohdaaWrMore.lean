/-
  Proved here: what parquetryref17.More returns, for every row of clusters of at most 2^40: whether they take more. It leaves what was in memory.
-/
import Derived.Test.YtikjchebffohdaaWrWd
set_option linter.unusedVariables false
namespace Go.Proofs.Ytikjchebffohdaa.Wr
open Go Go.RowKit Go.Lib Go.Proofs.Ytikjchebffohdaa.Ku

set_option maxHeartbeats 2000000 in
set_option maxRecDepth 100000 in
theorem rmore_any (A : Option Addr) (l : List C6) (n c : Nat) (s : Int) (w : World) (hR : CuAt w A l) (hl : l.length = n) (hn : n ≤ 1099511627776) (hs : s ≤ 9223372036854775807) :
    Calls Try.prog 10 #[.slice A n c, .int .i64 s] w fun e w' => e = .returned (.bool (moreK (Wd l) n 0 s)) ∧ w' = w := by
  have HR := Lib.hid hR
  have HL := Lib.hid hl
  obtain ⟨R, hr⟩ : ∃ R, moreK (Wd l) n 0 s = R := ⟨_, rfl⟩
  have HRR := Lib.hid hr
  rw [hr]
  clear hR hl hr
  go_enter Try.func10, Try.ntmps10
  go_wp2_with fail
  go_loopw [1, 5] (fun s1 s5 wx => ∃ (k : Nat) (v : Int), k ≤ n ∧ s5 = .int .i64 k ∧ s1 = .int .i64 v ∧ v ≤ 9223372036854775807 ∧ moreK (Wd l) (n - k) k v = R ∧ wx = w) (fun _ s5 _ => n - (RowKit.intOf s5).toNat)
  case atStart => exact ⟨0, s, Nat.zero_le _, rfl, rfl, hs, HRR.out, rfl⟩
  case round =>
    obtain ⟨k, v, hk, rfl, rfl, hv, hm, rfl⟩ := hrel
    by_cases hlt : k < n
    · have hkl : k < l.length := by rw [HL.out]; exact hlt
      obtain ⟨g, off, rfl, hg, c0, c1, c2, c3, c4, c5⟩ := HR.out.at_ hkl
      rw [show n - k = (n - (k + 1)) + 1 from by omega, moreK_cons, Wd_at hkl] at hm
      generalize l[k] = x at *
      obtain ⟨q, hq⟩ : ∃ q, max x.w 0 = q := ⟨_, rfl⟩
      have hq0 : 0 ≤ q := by omega
      rw [hq] at hm
      have hk0 : (0 : Int) ≤ (k : Int) := by omega
      have hk1 : (k : Int) < (n : Int) := by omega
      by_cases hvq : v < q
      · rw [if_pos hvq] at hm
        have HM := Lib.hid hm
        have t1 : decide (v < q) = true := decide_eq_true hvq
        clear hm
        go_wp2_with fail
        all_goals go_ret
        all_goals exact ⟨by rw [← HM.out]; rfl, rfl⟩
      · rw [if_neg hvq] at hm
        have HM := Lib.hid hm
        have t1 : decide (v < q) = false := decide_eq_false hvq
        have t2 : IntKind.i64.wrap (v - q) = v - q := IntWalk.i64_in _ (by omega)
        clear hm
        go_wp2_with fail
        all_goals go_roundw
        case rel => exact ⟨k + 1, v - q, by omega, by go_num, by first | rfl | (congr 1; split <;> omega), by omega, HM.out, by first | rfl | trivial⟩
        case measure => simp [RowKit.intOf]; omega
    · obtain rfl : k = n := by omega
      rw [Nat.sub_self, moreK_nil] at hm
      subst hm
      go_wp2_with fail
      go_ret
      exact ⟨rfl, rfl⟩
end Go.Proofs.Ytikjchebffohdaa.Wr
