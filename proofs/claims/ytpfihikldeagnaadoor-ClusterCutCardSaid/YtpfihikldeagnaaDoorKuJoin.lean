/-
  Proved here: what (cluster.seen).joins and .wide return. They leave what was in memory. Condition (joins): the code's row of numbers holds what the program's text lays.
-/
import Derived.Test.YtpfihikldeagnaaDoorKuSmall
import Derived.Test.YtpfihikldeagnaaDoorGcOf
import Derived.Deep.RegionWith
set_option linter.unusedVariables false
namespace Go.Proofs.YtpfihikldeagnaaDoor.Ku
open Go.RowKit Go.Lib Go.Proofs.YtpfihikldeagnaaDoor.Arr Go.Proofs.YtpfihikldeagnaaDoor.Gc

/-- The code's row, a bit a kind. -/
def behindL : List Int := [304, 4, 0, 0, 304, 304, 304, 16369, 304, 14128, 3376, 2352, 3376, 2352]
/-- The variable holds what the program's text lays. -/
def Held (w : World) : Prop := 0 < w.heap.size ∧ ∀ k (hk : k < behindL.length), w.cell? ⟨0, k, none⟩ = some (.int .u16 behindL[k])
theorem Held.below {w w' : World} (h : Held w) (hb : Below w.heap.size w w') : Held w' :=
  ⟨Nat.lt_of_lt_of_le h.1 hb.size, fun k hk => (hb.cell (p := ⟨0, k, none⟩) h.1).trans (h.2 k hk)⟩

theorem bits_rules0 : ((List.range 14).all fun a => (List.range 14).all fun b => (bits BinOp.and IntKind.u16 (behindL.getD a 0 / 2 ^ b) 1 != 0) == rules a b) = true := by kernel_rfl
theorem bits_rules {a b : Nat} (ha : a < behindL.length) (hb : b ≤ 13) : (bits BinOp.and IntKind.u16 (behindL[a] / 2 ^ b) 1 != 0) = rules a b := by
  have h14 : a < 14 := ha
  have h := List.all_eq_true.1 (List.all_eq_true.1 bits_rules0 a (List.mem_range.2 h14)) b (List.mem_range.2 (by omega))
  rw [beq_iff_eq] at h
  rw [← h]
  simp [List.getD, ha]
theorem bits_alone0 : ((List.range 14).all fun b => (bits BinOp.and IntKind.i64 (14 / 2 ^ b) 1 != 0) == alone b) = true := by kernel_rfl
theorem bits_alone {b : Nat} (hb : b ≤ 13) : (bits BinOp.and IntKind.i64 (14 / 2 ^ b) 1 != 0) = alone b := by
  have h := List.all_eq_true.1 bits_alone0 b (List.mem_range.2 (by omega))
  rwa [beq_iff_eq] at h

set_option maxHeartbeats 1000000 in
set_option maxRecDepth 100000 in
theorem joins_any (a1 z1 c1 f1 : Int) (k1 k2 : Nat) (p1 : Bool) (a2 z2 c2 f2 : Int) (p2 : Bool) (w : World) (hH : Held w) (h1 : k1 ≤ 13) (h2 : k2 ≤ 13) (hf : 0 ≤ f1) :
    Calls Tryd.prog 24 #[.agg #[.int .i64 a1, .int .i64 z1, .int .i64 c1, .int .i64 k1, .int .i64 f1, .bool p1], .agg #[.int .i64 a2, .int .i64 z2, .int .i64 c2, .int .i64 k2, .int .i64 f2, .bool p2]] w fun e w' =>
      e = .returned (.bool (rules k1 k2 || (if k1 = 5 then p1 && pictT c2 else (k2 == 6) && decide (f1 % 2 = 1)))) ∧ Below w.heap.size w w' := by
  have HP := Lib.hid (fun W => gPict_any c2 W)
  obtain ⟨res, hres⟩ : ∃ res : Bool, (rules k1 k2 || (if k1 = 5 then p1 && pictT c2 else (k2 == 6) && decide (f1 % 2 = 1))) = res := ⟨_, rfl⟩
  rw [hres]
  have HRes := Lib.hid hres
  have h1l : k1 < behindL.length := by show k1 < 14; omega
  have hcell := hH.2 k1 h1l
  have hbit := bits_rules h1l h2
  have h0w := hH.1
  generalize behindL[k1] = b at *
  generalize rules k1 k2 = r at *
  clear hres
  generalize pictT c2 = q at *
  have h14 : k1 < 14 := by omega
  have h14i : (k1 : Int) < 14 := by omega
  clear hH h1l
  have hbx : Below w.heap.size w ((w.alloc (.cells #[.int .i64 a1, .int .i64 z1, .int .i64 c1, .int .i64 k1, .int .i64 f1, .bool p1] 47)).alloc (.cells #[.int .i64 a2, .int .i64 z2, .int .i64 c2, .int .i64 k2, .int .i64 f2, .bool p2] 47)) := ((Below.refl _ _).alloc (Nat.le_refl _) _).alloc (by simp) _
  have HBX := Lib.hid hbx
  clear hbx
  cases r with
  | true =>
    have HV := Lib.hid (show res = true by rw [← HRes.out]; rfl)
    clear HRes
    go_enter Tryd.func24, Tryd.ntmps24
    go_wp2_with fail
    go_quiet (fail)
    go_wp2
    go_ret
    exact ⟨by rw [HV.out]; rfl, below_drewN HBX.out _⟩
  | false =>
    cases k5 : ((k1 : Int) == 5) with
    | true =>
      cases p1 with
      | true =>
        have HV := Lib.hid (show res = q by rw [← HRes.out, if_pos (by simp at k5; omega)]; rfl)
        clear HRes
        go_enter Tryd.func24, Tryd.ntmps24
        go_wp2_with fail
        go_quiet (fail)
        go_wp2_with fail
        refine (HP.out _).mono ?_
        rintro e w4 ⟨rfl, hb4⟩
        go_wp2
        go_ret
        exact ⟨by rw [HV.out]; rfl, (below_drewN HBX.out _).trans (hb4.mono (below_drewN HBX.out _).size)⟩
      | false =>
        have HV := Lib.hid (show res = false by rw [← HRes.out, if_pos (by simp at k5; omega)]; rfl)
        clear HRes
        go_enter Tryd.func24, Tryd.ntmps24
        go_wp2_with fail
        go_quiet (fail)
        go_wp2
        go_ret
        exact ⟨by rw [HV.out]; rfl, below_drewN HBX.out _⟩
    | false =>
      cases k6 : ((k2 : Int) == 6) with
      | true =>
        cases ho : decide (f1 % 2 = 1) with
        | true =>
          have HV := Lib.hid (show res = true by rw [← HRes.out, if_neg (by simp at k5; omega), show (k2 == 6) = true from by simp at k6 ⊢; omega, ho]; rfl)
          have ho2 : (f1 % 2 == 1) = true := by simpa using ho
          clear HRes ho
          go_enter Tryd.func24, Tryd.ntmps24
          go_wp2_with fail
          go_quiet (fail)
          go_wp2
          go_ret
          exact ⟨by rw [HV.out]; rfl, below_drewN HBX.out _⟩
        | false =>
          have HV := Lib.hid (show res = false by rw [← HRes.out, if_neg (by simp at k5; omega), show (k2 == 6) = true from by simp at k6 ⊢; omega, ho]; rfl)
          have ho2 : (f1 % 2 == 1) = false := by simpa using ho
          clear HRes ho
          go_enter Tryd.func24, Tryd.ntmps24
          go_wp2_with fail
          go_quiet (fail)
          go_wp2
          go_ret
          exact ⟨by rw [HV.out]; rfl, below_drewN HBX.out _⟩
      | false =>
        have HV := Lib.hid (show res = false by rw [← HRes.out, if_neg (by simp at k5; omega), show (k2 == 6) = false from by simp at k6 ⊢; omega]; rfl)
        clear HRes
        go_enter Tryd.func24, Tryd.ntmps24
        go_wp2_with fail
        go_quiet (fail)
        go_wp2
        go_ret
        exact ⟨by rw [HV.out]; rfl, below_drewN HBX.out _⟩

set_option maxHeartbeats 1000000 in
set_option maxRecDepth 100000 in
theorem wide_any (a1 z1 c1 k1 f1 : Int) (p1 : Bool) (a2 z2 c2 f2 : Int) (k2 : Nat) (p2 : Bool) (n : Int) (w : World) (h2 : k2 ≤ 13) :
    Calls Tryd.prog 25 #[.agg #[.int .i64 a1, .int .i64 z1, .int .i64 c1, .int .i64 k1, .int .i64 f1, .bool p1], .agg #[.int .i64 a2, .int .i64 z2, .int .i64 c2, .int .i64 k2, .int .i64 f2, .bool p2], .int .i64 n] w fun e w' =>
      e = .returned (.int .i64 (if alone k2 = true then 0 else if c2 = 65039 ∧ pictT c1 = true then 2 else n)) ∧ Below w.heap.size w w' := by
  have HP := Lib.hid (fun W => gPict_any c1 W)
  obtain ⟨res, hres⟩ : ∃ res : Int, (if alone k2 = true then 0 else if c2 = 65039 ∧ pictT c1 = true then 2 else n) = res := ⟨_, rfl⟩
  rw [hres]
  have HRes := Lib.hid hres
  have hbit := bits_alone h2
  generalize alone k2 = r at *
  clear hres
  generalize pictT c1 = q at *
  have hbx : Below w.heap.size w ((w.alloc (.cells #[.int .i64 a1, .int .i64 z1, .int .i64 c1, .int .i64 k1, .int .i64 f1, .bool p1] 47)).alloc (.cells #[.int .i64 a2, .int .i64 z2, .int .i64 c2, .int .i64 k2, .int .i64 f2, .bool p2] 47)) := ((Below.refl _ _).alloc (Nat.le_refl _) _).alloc (by simp) _
  have HBX := Lib.hid hbx
  clear hbx
  cases r with
  | true =>
    have HV := Lib.hid (show res = 0 by rw [← HRes.out, if_pos rfl])
    clear HRes
    go_enter Tryd.func25, Tryd.ntmps25
    go_wp2
    go_ret
    exact ⟨by rw [HV.out]; rfl, HBX.out⟩
  | false =>
    cases hc : (c2 == 65039) with
    | true =>
      cases q with
      | true =>
        have HV := Lib.hid (show res = 2 by rw [← HRes.out, if_neg (by decide), if_pos ⟨by simpa using hc, rfl⟩])
        clear HRes
        go_enter Tryd.func25, Tryd.ntmps25
        go_wp2_with fail
        refine (HP.out _).mono ?_
        rintro e w4 ⟨rfl, hb4⟩
        go_wp2
        go_ret
        exact ⟨by rw [HV.out]; rfl, HBX.out.trans (hb4.mono HBX.out.size)⟩
      | false =>
        have HV := Lib.hid (show res = n by rw [← HRes.out, if_neg (by decide), if_neg (by rintro ⟨_, h⟩; cases h)])
        clear HRes
        go_enter Tryd.func25, Tryd.ntmps25
        go_wp2_with fail
        refine (HP.out _).mono ?_
        rintro e w4 ⟨rfl, hb4⟩
        go_wp2
        go_ret
        exact ⟨by rw [HV.out]; rfl, HBX.out.trans (hb4.mono HBX.out.size)⟩
    | false =>
      have HV := Lib.hid (show res = n by rw [← HRes.out, if_neg (by decide), if_neg (by rintro ⟨h, _⟩; rw [h] at hc; cases hc)])
      clear HRes
      go_enter Tryd.func25, Tryd.ntmps25
      go_wp2
      go_ret
      exact ⟨by rw [HV.out]; rfl, HBX.out⟩
end Go.Proofs.YtpfihikldeagnaaDoor.Ku
