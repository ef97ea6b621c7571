/-
  Proved here: what runes.odd and runes.size return, for every string, every place in it and every code.
-/
import Derived.Test.YtpfihikldeagnaaDoorRnSmall
import Derived.Test.YtpfihikldeagnaaDoorRnPlain
set_option linter.unusedVariables false
namespace Go.Proofs.YtpfihikldeagnaaDoor.Rn
open Go.RowKit Go.Lib

set_option maxHeartbeats 400000 in
theorem odd_any (s : ByteArray) (p : Nat) (c : Int) (w : World) (hp : p ≤ s.size) (hs : s.size ≤ 9223372036854775807) :
    Calls Tryd.prog 45 #[.string s, .int .i64 p, .int .i32 c] w fun e w' => e = .returned (.bool (oddB (s.data.toList.drop p) c)) ∧ w = w' := by
  cases hc : (c == 65533)
  · go_enter Tryd.func45, Tryd.ntmps45
    go_wp2
    go_ret
    refine ⟨ret_bool ?_, rfl⟩
    simp [oddB, hc]
  · go_enter Tryd.func45, Tryd.ntmps45
    go_wp2_with (go_at_call 60; refine (hasPrefix_any _ _ _).mono ?_; rintro e w' ⟨rfl, rfl⟩)
    go_ret
    refine ⟨ret_bool ?_, rfl⟩
    simp only [oddB, hc, Bool.true_and]
    rw [List.take_of_length_le (by rw [List.length_drop, ← Lib.size_eq]; omega)]

set_option maxHeartbeats 400000 in
theorem size_any (s : ByteArray) (p : Nat) (c : Int) (w : World) (hp : p ≤ s.size) (hs : s.size ≤ 9223372036854775807) :
    Calls Tryd.prog 32 #[.string s, .int .i64 p, .int .i32 c] w fun e w' => e = .returned (.int .i64 (if oddB (s.data.toList.drop p) c then 1 else Lib.runeLen c)) ∧ w = w' := by
  cases hc : oddB (s.data.toList.drop p) c
  · go_enter Tryd.func32, Tryd.ntmps32
    go_wp2_with fail
    refine (odd_any _ _ _ _ hp hs).mono ?_
    rintro e w' ⟨rfl, rfl⟩
    go_wp2_with (go_at_call 46; refine (runeLen_any _ _).mono ?_; rintro e w' ⟨rfl, rfl⟩)
    go_ret
    exact ⟨ret_int (by simp), rfl⟩
  · go_enter Tryd.func32, Tryd.ntmps32
    go_wp2_with fail
    refine (odd_any _ _ _ _ hp hs).mono ?_
    rintro e w' ⟨rfl, rfl⟩
    go_wp2_with fail
    go_ret
    exact ⟨ret_int (by simp), rfl⟩

end Go.Proofs.YtpfihikldeagnaaDoor.Rn
