/-
  Proved here: what isEmpty, slices.IndexFunc and slices.ContainsFunc with it return, for all records; they leave what was in memory.
-/
import Derived.Test.YtafpddpeffpnfaaDoorCvSame
import Derived.Test.YtafpddpeffpnfaaDoorQuPlain
import Derived.Shelf.Abstract
set_option linter.unusedVariables false
namespace Go.Proofs.YtafpddpeffpnfaaDoor.Qu
open Go Go.RowKit Go.Lib Go.Proofs.YtafpddpeffpnfaaDoor.Cv

theorem zero_eq (n : Nat) : ((n : Int) == 0) = decide (n = 0) := by
  rw [Bool.eq_iff_iff]
  simp
set_option maxRecDepth 100000 in
theorem empty_any (A : Option Addr) (n c : Nat) (w : World) : Calls Tryd.prog 23 #[.slice A n c] w fun e w' => e = .returned (.bool (decide (n = 0))) ∧ w' = w := by
  rw [← zero_eq]
  go_enter Tryd.func23, Tryd.ntmps23
  go_wp2
  go_ret
  exact ⟨rfl, rfl⟩

def anyEmpty (R : List (List Bs)) : Bool := R.any fun r => r.isEmpty
theorem anyEmpty_hit {R : List (List Bs)} {k : Nat} (h : k < R.length) (h0 : decide (R[k].length = 0) = true) : anyEmpty R = true := by
  unfold anyEmpty
  rw [List.any_eq_true]
  exact ⟨R[k], List.getElem_mem h, by simpa using h0⟩
theorem anyEmpty_step {R : List (List Bs)} {k : Nat} (h : k < R.length) (hn : anyEmpty (R.take k) = false) (h0 : decide (R[k].length = 0) = false) : anyEmpty (R.take (k + 1)) = false := by
  unfold anyEmpty at *
  rw [List.take_add_one, List.getElem?_eq_getElem h, List.any_append, hn]
  simpa using h0
theorem anyEmpty_false {R : List (List Bs)} (h : anyEmpty R = false) : ∀ r ∈ R, r ≠ [] := by
  intro r hr e
  unfold anyEmpty at h
  rw [List.any_eq_false] at h
  exact h r hr (by rw [e]; rfl)

set_option maxHeartbeats 1000000 in
set_option maxRecDepth 100000 in
theorem index_any (A : Option Addr) (R : List (List Bs)) (c : Nat) (w : World) (hR : RecsAt w A R) (hl : R.length ≤ 1000000) :
    Calls Tryd.prog 33 #[.slice A R.length c, .func (.func 23) #[] #[]] w fun e w' => (∃ z : Int, e = .returned (.int .i64 z) ∧ decide (0 ≤ z) = anyEmpty R) ∧ w' = w := by
  have hent := enters_of (P := Tryd.prog) Tryd.func23 (by kernel_rfl) rfl
  have HR := Lib.hid hR
  clear hR
  go_enter Tryd.func33, Tryd.ntmps33
  go_wp2_with fail
  go_loopw [8] (fun s8 wx => ∃ k : Nat, k ≤ R.length ∧ s8 = .int .i64 k ∧ wx = w ∧ anyEmpty (R.take k) = false) (fun s8 _ => R.length - (RowKit.intOf s8).toNat)
  case atStart => exact ⟨0, Nat.zero_le _, rfl, rfl, by simp [anyEmpty]⟩
  case round =>
    obtain ⟨k, hk, rfl, rfl, hno⟩ := hrel
    have HN := Lib.hid hno
    clear hno
    by_cases hlt : k < R.length
    · obtain ⟨b, off, A', c', rfl, hc, hv⟩ := HR.out.at_ hlt
      have HE := Lib.hid (empty_any A' R[k].length c' wr)
      clear hv
      cases hz : decide (R[k].length = 0) with
      | true =>
        rw [hz] at HE
        have HZ := Lib.hid (anyEmpty_hit hlt hz)
        clear hz
        generalize R[k].length = m at *
        go_wp2_with fail
        refine HE.out.mono ?_
        rintro e w4 ⟨rfl, rfl⟩
        go_wp2
        go_ret
        exact ⟨⟨k, rfl, by rw [HZ.out]; simp⟩, rfl⟩
      | false =>
        rw [hz] at HE
        have HZ := Lib.hid (anyEmpty_step hlt HN.out hz)
        clear hz
        generalize R[k].length = m at *
        go_wp2_with fail
        refine HE.out.mono ?_
        rintro e w4 ⟨rfl, rfl⟩
        go_wp2
        go_roundw
        case rel => exact ⟨k + 1, by omega, by go_num, trivial, HZ.out⟩
        case measure => simp [RowKit.intOf]; omega
    · have e : R.take k = R := List.take_of_length_le (by omega)
      rw [e] at HN
      go_wp2
      go_ret
      exact ⟨⟨-1, rfl, by rw [HN.out]; rfl⟩, rfl⟩

set_option maxHeartbeats 1000000 in
set_option maxRecDepth 100000 in
theorem contains_any (A : Option Addr) (R : List (List Bs)) (c : Nat) (w : World) (hR : RecsAt w A R) (hl : R.length ≤ 1000000) :
    Calls Tryd.prog 22 #[.slice A R.length c, .func (.func 23) #[] #[]] w fun e w' => e = .returned (.bool (anyEmpty R)) ∧ w' = w := by
  have hI := index_any A R c w hR hl
  obtain ⟨y, hy⟩ : ∃ y, anyEmpty R = y := ⟨_, rfl⟩
  rw [hy] at hI
  rw [hy]
  have HI := Lib.hid hI
  clear hR hI hy
  go_enter Tryd.func22, Tryd.ntmps22
  go_wp2_with fail
  refine HI.out.mono ?_
  rintro e w4 ⟨⟨z, rfl, hz⟩, rfl⟩
  subst hz
  clear HI
  go_wp2
  go_ret
  exact ⟨rfl, rfl⟩
end Go.Proofs.YtafpddpeffpnfaaDoor.Qu
