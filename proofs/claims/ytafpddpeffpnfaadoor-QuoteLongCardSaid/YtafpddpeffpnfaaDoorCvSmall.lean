/-
  Proved here: what csv.byteAt, csv.isBare return, for every text and place; they leave what was in memory.
-/
import Derived.Test.YtafpddpeffpnfaaDoorCvKit
import Derived.Test.YtafpddpeffpnfaaDoorCvPlain
set_option linter.unusedVariables false
namespace Go.Proofs.YtafpddpeffpnfaaDoor.Cv
open Go.RowKit Go.Lib

def bareZ (z : Int) : Bool := decide (z ≠ 34 ∧ z ≠ 44 ∧ z ≠ 13 ∧ z ≠ 10 ∧ z ≠ -1)
abbrev tx (s : ByteArray) : Bs := s.data.toList

theorem tx_size (s : ByteArray) : (tx s).length = s.size := (Lib.size_eq s).symm
theorem tx_get (s : ByteArray) (p : Nat) (h : p < s.size) : (tx s)[p]? = some s[p] := by
  unfold tx
  rw [Array.getElem?_toList]
  exact Array.getElem?_eq_getElem (xs := s.data) (by simpa using h)

set_option maxHeartbeats 1000000 in
set_option maxRecDepth 100000 in
theorem byteAt_any (s : ByteArray) (p : Nat) (w : World) (hs : s.size ≤ 1000000) (hp : p ≤ 1000000) :
    Calls Tryd.prog 38 #[.string s, .int .i64 p] w fun e w' => e = .returned (.int .i64 (bz ((tx s).drop p))) ∧ w = w' := by
  by_cases h : p < s.size
  · have hb : bz ((tx s).drop p) = (s[p].toNat : Int) := by rw [drop_at (tx_get s p h)]; rfl
    rw [hb]
    have HB := Lib.hid hb
    clear hb
    go_enter Tryd.func38, Tryd.ntmps38
    go_wp2
    go_ret
    exact ⟨congrArg (fun z => Ending.returned (.int .i64 z)) (IntWalk.wrap64_in _ ⟨by omega, by have := s[p].toNat_lt; omega⟩), rfl⟩
  · have hb : bz ((tx s).drop p) = -1 := by rw [List.drop_eq_nil_of_le (by rw [tx_size]; omega)]; rfl
    rw [hb]
    have HB := Lib.hid hb
    clear hb
    go_enter Tryd.func38, Tryd.ntmps38
    go_wp2
    go_ret
    exact ⟨rfl, rfl⟩

set_option maxHeartbeats 1000000 in
set_option maxRecDepth 100000 in
theorem isBare_any (z : Int) (w : World) :
    Calls Tryd.prog 39 #[.int .i64 z] w fun e w' => e = .returned (.bool (bareZ z)) ∧ w = w' := by
  by_cases h : bareZ z = true
  · rw [h]
    have h' : z ≠ 34 ∧ z ≠ 44 ∧ z ≠ 13 ∧ z ≠ 10 ∧ z ≠ -1 := by simpa [bareZ] using h
    clear h
    obtain ⟨h1, h2, h3, h4, h5⟩ := h'
    go_enter Tryd.func39, Tryd.ntmps39
    go_wp2
    go_ret
    exact ⟨rfl, rfl⟩
  · have hb : bareZ z = false := by simpa using h
    rw [hb]
    have h' : z = 34 ∨ z = 44 ∨ z = 13 ∨ z = 10 ∨ z = -1 := by simp [bareZ] at hb; omega
    clear h hb
    rcases h' with rfl | rfl | rfl | rfl | rfl
    all_goals
      go_enter Tryd.func39, Tryd.ntmps39
      go_wp2
      go_ret
      exact ⟨rfl, rfl⟩
end Go.Proofs.YtafpddpeffpnfaaDoor.Cv
