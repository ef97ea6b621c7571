/-
  Proved here: what parquetrylaw15.turned returns: a new row with L and R exchanged. It leaves what was in memory.
-/
import Derived.Test.YtkhhfodbldemeaaDoorNeRef
set_option linter.unusedVariables false
namespace Go.Proofs.YtkhhfodbldemeaaDoor.Ne
open Go Go.RowKit Go.Lib Go.Proofs.YtkhhfodbldemeaaDoor.Cl

set_option maxHeartbeats 2000000 in
set_option maxRecDepth 100000 in
theorem turned_any (A0 : Option Addr) (zs : List Int) (n cp : Nat) (w : World) (hA : IntsAt w A0 zs) (hl : zs.length = n) (hs : n ≤ 1099511627776) :
    Calls Tryd.prog 17 #[.slice A0 n cp] w fun e w' => ∃ A c, e = .returned (.slice A n c) ∧ w'.ownsRow w.heap.size 3 1 (.slice A n c) n (icl (zs.map turnN)) ∧ Below w.heap.size w w' := by
  have HA := Lib.hid hA
  have HL0 := Lib.hid hl
  have HL := Lib.hid (show (zs.map turnN).length = n from by rw [List.length_map, hl])
  clear hA hl
  go_enter Tryd.func17, Tryd.ntmps17
  go_wp2_with fail
  go_loopw [3, 4] (fun s3 s4 wx => ∃ k : Nat, k ≤ n ∧ s4 = .int .i64 k ∧ wx.ownsRow w.heap.size 3 1 s3 k (icl ((zs.map turnN).take k)) ∧ Below w.heap.size w wx) (fun _ s4 _ => n - (RowKit.intOf s4).toNat)
  case atStart => exact ⟨0, Nat.zero_le _, rfl, World.ownsRow_nil _ _ _ _, Below.refl _ _⟩
  case round =>
    obtain ⟨k, hk, rfl, hown, hb⟩ := hrel
    have HO := Lib.hid hown
    have HB := Lib.hid hb
    clear hown
    by_cases hlt : k < n
    · have hkz : k < zs.length := by rw [HL0.out]; exact hlt
      obtain ⟨g, off, rfl, hc⟩ := (HA.out.below hb).at_ hkz
      have HAT := Lib.hid (show (zs.map turnN).take (k + 1) = (zs.map turnN).take k ++ [turnN zs[k]] from by
        rw [List.take_succ_eq_append_getElem (by rw [List.length_map]; exact hkz)]
        simp)
      generalize zs[k] = z at *
      have hsz := HB.out.size
      have hk0 : (0 : Int) ≤ (k : Int) := by omega
      have hk1 : (k : Int) < (n : Int) := by omega
      clear hkz hb
      by_cases h0 : z = 0
      · subst h0
        go_wp2_with (at_builtin; refine wpList_add rfl _ _ rfl w.heap.size _ k ((zs.map turnN).take k) rfl (ownsRow_below HO.out (below_made _ _)) (some ⟨wr.heap.size, 0, none⟩) 1 1 [(1 : Int)] rfl (made_ints [(1 : Int)] _ _ _ rfl) rfl (by omega) (by simp; omega) ?_)
        intro v' w2 hown2 hb2
        have hb3 := (HB.out.trans ((below_made wr (.cells #[.int .i64 1] 3)).mono hsz)).trans hb2
        have HO2 := Lib.hid (show w2.ownsRow w.heap.size 3 1 v' (k + 1) (icl ((zs.map turnN).take (k + 1))) from by rw [HAT.out]; exact hown2)
        have HB2 := Lib.hid hb3
        clear hown2 hb2 hb3
        go_wp2_with fail
        go_roundw
        case rel => exact ⟨k + 1, by omega, by go_num, HO2.out, HB2.out⟩
        case measure => simp [RowKit.intOf]; omega
      · have b0 : (z == 0) = false := beq_eq_false_iff_ne.2 h0
        by_cases h1 : z = 1
        · subst h1
          clear h0
          go_wp2_with (at_builtin; refine wpList_add rfl _ _ rfl w.heap.size _ k ((zs.map turnN).take k) rfl (ownsRow_below HO.out (below_made _ _)) (some ⟨wr.heap.size, 0, none⟩) 1 1 [(0 : Int)] rfl (made_ints [(0 : Int)] _ _ _ rfl) rfl (by omega) (by simp; omega) ?_)
          intro v' w2 hown2 hb2
          have hb3 := (HB.out.trans ((below_made wr (.cells #[.int .i64 0] 3)).mono hsz)).trans hb2
          have HO2 := Lib.hid (show w2.ownsRow w.heap.size 3 1 v' (k + 1) (icl ((zs.map turnN).take (k + 1))) from by rw [HAT.out]; exact hown2)
          have HB2 := Lib.hid hb3
          clear hown2 hb2 hb3
          go_wp2_with fail
          go_roundw
          case rel => exact ⟨k + 1, by omega, by go_num, HO2.out, HB2.out⟩
          case measure => simp [RowKit.intOf]; omega
        · have b1 : (z == 1) = false := beq_eq_false_iff_ne.2 h1
          have ht : turnN z = z := by unfold turnN; rw [if_neg (by omega)]
          rw [ht] at HAT
          clear h0 h1 ht
          go_wp2_with (at_builtin; refine wpList_add rfl _ _ rfl w.heap.size _ k ((zs.map turnN).take k) rfl (ownsRow_below HO.out (below_made _ _)) (some ⟨wr.heap.size, 0, none⟩) 1 1 [(z : Int)] rfl (made_ints [(z : Int)] _ _ _ rfl) rfl (by omega) (by simp; omega) ?_)
          intro v' w2 hown2 hb2
          have hb3 := (HB.out.trans ((below_made wr (.cells #[.int .i64 z] 3)).mono hsz)).trans hb2
          have HO2 := Lib.hid (show w2.ownsRow w.heap.size 3 1 v' (k + 1) (icl ((zs.map turnN).take (k + 1))) from by rw [HAT.out]; exact hown2)
          have HB2 := Lib.hid hb3
          clear hown2 hb2 hb3
          go_wp2_with fail
          go_roundw
          case rel => exact ⟨k + 1, by omega, by go_num, HO2.out, HB2.out⟩
          case measure => simp [RowKit.intOf]; omega
    · obtain rfl : k = n := by omega
      rw [List.take_of_length_le (by rw [HL.out]; exact Nat.le_refl _)] at HO
      obtain ⟨A, c, rfl, -⟩ := intsAt_icl HO.out HL.out
      clear hb
      go_wp2_with fail
      go_ret
      exact ⟨A, c, rfl, HO.out, HB.out⟩
end Go.Proofs.YtkhhfodbldemeaaDoor.Ne
