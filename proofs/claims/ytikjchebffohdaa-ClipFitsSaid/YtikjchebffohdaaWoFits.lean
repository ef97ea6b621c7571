/-
  Proved here: what wrap.Fits returns, for every row of clusters of at most 2^40, every two numbers: the plain place. It leaves what was in memory.
-/
import Derived.Test.YtikjchebffohdaaWrWd
import Derived.Lib.MinMax
set_option linter.unusedVariables false
namespace Go.Proofs.Ytikjchebffohdaa.Wr
open Go Go.RowKit Go.Lib Go.Proofs.Ytikjchebffohdaa.Ku

set_option maxHeartbeats 2000000 in
set_option maxRecDepth 100000 in
theorem fits_beyond (A : Option Addr) (n c : Nat) (x s : Int) (w : World) (hx : (n : Int) ≤ max x 0) :
    Calls Try.prog 25 #[.slice A n c, .int .i64 x, .int .i64 s] w fun e w' => e = .returned (.int .i64 n) ∧ w' = w := by
  obtain ⟨z, hz⟩ : ∃ z, max x 0 = z := ⟨_, rfl⟩
  rw [hz] at hx
  have t1 : decide (z < (n : Int)) = false := decide_eq_false (by omega)
  clear hx
  go_enter Try.func25, Try.ntmps25
  go_wp2_with fail
  go_loopw [7] (fun s7 wx => s7 = .int .i64 z ∧ wx = w) (fun _ _ => 0)
  case atStart => exact ⟨by first | rfl | (congr 1; omega), rfl⟩
  case round =>
    obtain ⟨rfl, rfl⟩ := hrel
    clear hz
    go_wp2_with fail
    go_ret
    exact ⟨rfl, rfl⟩

set_option maxHeartbeats 2000000 in
set_option maxRecDepth 100000 in
theorem fits_in (A : Option Addr) (l : List C6) (n c f : Nat) (x s : Int) (w : World) (hR : CuAt w A l) (hl : l.length = n) (hn : n ≤ 1099511627776) (hs : s ≤ 9223372036854775807) (hf : f < n) (hx : max x 0 = (f : Int)) :
    Calls Try.prog 25 #[.slice A n c, .int .i64 x, .int .i64 s] w fun e w' => e = .returned (.int .i64 (endF (Wd l) n f s : Nat)) ∧ w' = w := by
  have HR := Lib.hid hR
  have HL := Lib.hid hl
  obtain ⟨R, hr⟩ : ∃ R, endF (Wd l) n f s = R := ⟨_, rfl⟩
  have HRR := Lib.hid hr
  rw [hr]
  clear hR hl hr
  go_enter Try.func25, Try.ntmps25
  go_wp2_with fail
  go_loopw [2, 7] (fun s2 s7 wx => ∃ (k : Nat) (v : Int), k ≤ n ∧ s7 = .int .i64 k ∧ s2 = .int .i64 v ∧ v ≤ 9223372036854775807 ∧ k + fitK (Wd l) (n - k) k v = R ∧ wx = w) (fun _ s7 _ => n - (RowKit.intOf s7).toNat)
  case atStart => exact ⟨f, s, Nat.le_of_lt hf, by first | rfl | (congr 1; omega), rfl, hs, HRR.out, rfl⟩
  case round =>
    obtain ⟨k, v, hk, rfl, rfl, hv, hm, rfl⟩ := hrel
    clear hx
    by_cases hlt : k < n
    · have hkl : k < l.length := by rw [HL.out]; exact hlt
      obtain ⟨g, off, rfl, hg, c0, c1, c2, c3, c4, c5⟩ := HR.out.at_ hkl
      rw [show n - k = (n - (k + 1)) + 1 from by omega] at hm
      unfold fitK at hm
      rw [Wd_at hkl] at hm
      generalize l[k] = x at *
      obtain ⟨q, hq⟩ : ∃ q, max x.w 0 = q := ⟨_, rfl⟩
      have hq0 : 0 ≤ q := by omega
      rw [hq] at hm
      have hk0 : (0 : Int) ≤ (k : Int) := by omega
      have hk1 : (k : Int) < (n : Int) := by omega
      by_cases hvq : v < q
      · rw [if_pos hvq] at hm
        have HM := Lib.hid hm
        have t1 : decide (v < q) = true := decide_eq_true hvq
        clear hm
        go_wp2_with fail
        all_goals go_ret
        all_goals exact ⟨by rw [← HM.out]; rfl, rfl⟩
      · rw [if_neg hvq] at hm
        have HM := Lib.hid (show k + 1 + fitK (Wd l) (n - (k + 1)) (k + 1) (v - q) = R by omega)
        have t1 : decide (v < q) = false := decide_eq_false hvq
        have t2 : IntKind.i64.wrap (v - q) = v - q := IntWalk.i64_in _ (by omega)
        clear hm
        go_wp2_with fail
        all_goals go_roundw
        case rel => exact ⟨k + 1, v - q, by omega, by go_num, by first | rfl | (congr 1; split <;> omega), by omega, HM.out, by first | rfl | trivial⟩
        case measure => simp [RowKit.intOf]; omega
    · obtain rfl : k = n := by omega
      rw [Nat.sub_self] at hm
      have HM := Lib.hid (show k = R from hm)
      clear hm
      have t1 : decide ((k : Int) < (k : Int)) = false := decide_eq_false (by omega)
      go_wp2_with fail
      all_goals go_ret
      all_goals exact ⟨by rw [← HM.out]; rfl, rfl⟩
end Go.Proofs.Ytikjchebffohdaa.Wr
