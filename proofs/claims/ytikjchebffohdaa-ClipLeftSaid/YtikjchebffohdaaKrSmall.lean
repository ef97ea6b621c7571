/-
  Proved here: what parquetryref06.alone and .syllable return. They leave what was in memory. No condition.
-/
import Derived.Test.YtikjchebffohdaaCuRows
import Derived.Test.YtikjchebffohdaaArrKit
import Derived.Deep.RegionWith
set_option linter.unusedVariables false
namespace Go.Proofs.Ytikjchebffohdaa.Ku
open Go.RowKit Go.Lib

set_option maxHeartbeats 1000000 in
set_option maxRecDepth 100000 in
theorem alone_any (k : Int) (w : World) :
    Calls Try.prog 30 #[.int .i64 k] w fun e w' => e = .returned (.bool (alone k)) ∧ w = w' := by
  unfold alone
  cases h1 : (k == 1) <;> cases h2 : (k == 2) <;> cases h3 : (k == 3)
  all_goals
    go_enter Try.func30, Try.ntmps30
    go_wp2
    go_ret
    exact ⟨rfl, rfl⟩

theorem syl_eq (a b : Int) : syl a b = bif a == 9 then b == 9 || (b == 10 || (b == 12 || b == 13)) else bif a == 12 || a == 10 then b == 10 || b == 11 else (a == 13 || a == 11) && b == 11 := by
  unfold syl
  by_cases h1 : a = 9
  · rw [if_pos h1, show (a == 9) = true from by simpa using h1]
    rfl
  · rw [if_neg h1, show (a == 9) = false from by simpa using h1]
    by_cases h2 : a = 12 ∨ a = 10
    · rw [if_pos h2, show (a == 12 || a == 10) = true from by simpa using h2]
      rfl
    · rw [if_neg h2, show (a == 12 || a == 10) = false from by simpa using h2]
      rfl

set_option maxHeartbeats 1000000 in
set_option maxRecDepth 100000 in
theorem syllable_any (a b : Int) (w : World) :
    Calls Try.prog 31 #[.int .i64 a, .int .i64 b] w fun e w' => e = .returned (.bool (syl a b)) ∧ w = w' := by
  rw [syl_eq]
  cases h9 : (a == 9)
  · cases h12 : (a == 12) <;> cases h10 : (a == 10)
    · cases h13 : (a == 13) <;> cases h11 : (a == 11) <;> cases g11 : (b == 11)
      all_goals
        go_enter Try.func31, Try.ntmps31
        go_wp2
        go_ret
        exact ⟨rfl, rfl⟩
    all_goals
      cases g10 : (b == 10) <;> cases g11 : (b == 11)
      all_goals
        go_enter Try.func31, Try.ntmps31
        go_wp2
        go_ret
        exact ⟨rfl, rfl⟩
  · cases g9 : (b == 9)
    · cases g10 : (b == 10)
      · cases g12 : (b == 12) <;> cases g13 : (b == 13)
        all_goals
          go_enter Try.func31, Try.ntmps31
          go_wp2
          go_ret
          exact ⟨rfl, rfl⟩
      · go_enter Try.func31, Try.ntmps31
        go_wp2
        go_ret
        exact ⟨rfl, rfl⟩
    · go_enter Try.func31, Try.ntmps31
      go_wp2
      go_ret
      exact ⟨rfl, rfl⟩
end Go.Proofs.Ytikjchebffohdaa.Ku
