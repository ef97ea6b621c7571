/-
  Proved here: what opens of the statements of layer 11 returns, for every number; it leaves what was in memory. No condition.
-/
import Derived.Test.YtehndhkcmccpmaaBaRef
set_option linter.unusedVariables false
namespace Go.Proofs.Ytehndhkcmccpmaa.Ba
open Go.RowKit Go.Lib Go.Proofs.Ytehndhkcmccpmaa.Cl

set_option maxHeartbeats 1000000 in
theorem opens_any (c : Int) (w : World) :
    Calls Try.prog 28 #[.int .i64 c] w fun e w' => e = .returned (.bool (isI c)) ∧ w = w' := by
  unfold isI
  cases h1 : (c == 19) <;> cases h2 : (c == 20) <;> cases h3 : (c == 21)
  all_goals
    go_enter Try.func28, Try.ntmps28
    go_wp2
    go_ret
    exact ⟨rfl, rfl⟩
end Go.Proofs.Ytehndhkcmccpmaa.Ba
