/-
 Proved here: what parquetryref15's Levels returns: the plain ones, for a level from 0 on. It leaves what was in memory.
-/
import Derived.Test.YtfclpecbnailgaaGreatR14
set_option linter.unusedVariables false
namespace Go.Proofs.YtfclpecbnailgaaGreat.Ne
open Go Go.RowKit Go.Lib Go.Proofs.YtfclpecbnailgaaGreat.Cl
set_option maxHeartbeats 4000000 in
set_option maxRecDepth 100000 in
theorem rlevels_any (A0 : Option Addr) (T : List Int) (n cp : Nat) (l : Int) (w : World) (hA : IntsAt w A0 T) (hl : T.length = n) (hn : n ≤ 1099511627776) (hl0 : 0 ≤ l) (hl1 : l ≤ 2147483647) :
  Calls Tryz.prog 36 #[.slice A0 n cp, .int .i64 l] w fun e w' => ∃ A c, e = .returned (.slice A n c) ∧ w'.ownsRow w.heap.size 3 1 (.slice A n c) n (icl (T.map (levN l))) ∧ Below w.heap.size w w' := by
 have HA := Lib.hid hA
 have HL0 := Lib.hid hl
 have HL := Lib.hid (show (T.map (levN l)).length = n from by rw [List.length_map, hl])
 obtain ⟨r, hr⟩ : ∃ r, l.tmod 2 = r := ⟨_, rfl⟩
 have hre : l % 2 = r := by rw [← hr]; exact (Int.tmod_eq_emod_of_nonneg hl0).symm
 have HR := Lib.hid hre
 have hr01 : r = 0 ∨ r = 1 := by omega
 clear hA hl
 go_enter Tryz.func36, Tryz.ntmps36
 go_wp2_with fail
 go_loopw [5, 6] (fun s5 s6 wx => ∃ k : Nat, k ≤ n ∧ s6 = .int .i64 k ∧ wx.ownsRow w.heap.size 3 1 s5 k (icl ((T.map (levN l)).take k)) ∧ Below w.heap.size w wx) (fun _ s6 _ => n - (RowKit.intOf s6).toNat)
 case atStart => exact ⟨0, Nat.zero_le _, rfl, World.ownsRow_nil _ _ _ _, Below.refl _ _⟩
 case round =>
  obtain ⟨k, hk, rfl, hown, hb⟩ := hrel
  have HO := Lib.hid hown
  have HB := Lib.hid hb
  clear hown
  by_cases hlt : k < n
  ·have hkz : k < T.length := by rw [HL0.out]; exact hlt
   obtain ⟨g, off, rfl, hc⟩ := (HA.out.below hb).at_ hkz
   have HAT := Lib.hid (lev_snoc (l := l) hkz)
   generalize T[k] = z at *
   have hsz := HB.out.size
   have hk0 : (0 : Int) ≤ (k : Int) := by omega
   have hk1 : (k : Int) < (n : Int) := by omega
   clear hkz hb
   by_cases h0 : z = 0
   ·subst h0
    rcases hr01 with rfl | rfl
    ·have m0 : (l.tmod 2 == 0) = true := by rw [hr]; rfl
     have m1 : (l.tmod 2 == 1) = false := by rw [hr]; rfl
     have e1 : IntKind.i64.wrap (l - l.tmod 2) = l := by rw [hr]; exact (IntWalk.i64_in _ (by omega)).trans (by omega)
     have hv : levN l 0 = l := by have h := HR.out; show l + l % 2 = _; omega
     rw [hv] at HAT
     clear hv
     go_wp2_with (at_builtin; refine wpList_add rfl _ _ rfl w.heap.size _ k ((T.map (levN l)).take k) rfl (ownsRow_below HO.out (below_made _ _)) (some ⟨wr.heap.size, 0, none⟩) 1 1 [(l : Int)] rfl (made_ints [(l : Int)] _ _ _ rfl) rfl (by omega) (by simp; omega) ?_)
     intro v' w2 hown2 hb2
     have hb3 := (HB.out.trans ((below_made wr (.cells #[.int .i64 (l)] 3)).mono hsz)).trans hb2
     have HO2 := Lib.hid (show w2.ownsRow w.heap.size 3 1 v' (k + 1) (icl ((T.map (levN l)).take (k + 1))) from by rw [HAT.out]; exact hown2)
     have HB2 := Lib.hid hb3
     clear hown2 hb2 hb3
     go_wp2_with fail
     go_roundw
     case rel => exact ⟨k + 1, by omega, by go_num, HO2.out, HB2.out⟩
     case measure => simp [RowKit.intOf]; omega
    ·have m0 : (l.tmod 2 == 0) = false := by rw [hr]; rfl
     have m1 : (l.tmod 2 == 1) = true := by rw [hr]; rfl
     have e1 : IntKind.i64.wrap (l - l.tmod 2) = l - 1 := by rw [hr]; exact (IntWalk.i64_in _ (by omega)).trans (by omega)
     have hv : levN l 0 = l + 1 := by have h := HR.out; show l + l % 2 = _; omega
     rw [hv] at HAT
     clear hv
     go_wp2_with (at_builtin; refine wpList_add rfl _ _ rfl w.heap.size _ k ((T.map (levN l)).take k) rfl (ownsRow_below HO.out (below_made _ _)) (some ⟨wr.heap.size, 0, none⟩) 1 1 [(l + 1 : Int)] rfl (made_ints [(l + 1 : Int)] _ _ _ rfl) rfl (by omega) (by simp; omega) ?_)
     intro v' w2 hown2 hb2
     have hb3 := (HB.out.trans ((below_made wr (.cells #[.int .i64 (l + 1)] 3)).mono hsz)).trans hb2
     have HO2 := Lib.hid (show w2.ownsRow w.heap.size 3 1 v' (k + 1) (icl ((T.map (levN l)).take (k + 1))) from by rw [HAT.out]; exact hown2)
     have HB2 := Lib.hid hb3
     clear hown2 hb2 hb3
     go_wp2_with fail
     go_roundw
     case rel => exact ⟨k + 1, by omega, by go_num, HO2.out, HB2.out⟩
     case measure => simp [RowKit.intOf]; omega
   have b0 : (z == 0) = false := beq_eq_false_iff_ne.2 h0
   by_cases h1 : z = 1
   ·subst h1
    rcases hr01 with rfl | rfl
    ·have m0 : (l.tmod 2 == 0) = true := by rw [hr]; rfl
     have m1 : (l.tmod 2 == 1) = false := by rw [hr]; rfl
     have e1 : IntKind.i64.wrap (l - l.tmod 2) = l := by rw [hr]; exact (IntWalk.i64_in _ (by omega)).trans (by omega)
     have hv : levN l 1 = l + 1 := by have h := HR.out; show l + (1 - l % 2) = _; omega
     rw [hv] at HAT
     clear hv
     go_wp2_with (at_builtin; refine wpList_add rfl _ _ rfl w.heap.size _ k ((T.map (levN l)).take k) rfl (ownsRow_below HO.out (below_made _ _)) (some ⟨wr.heap.size, 0, none⟩) 1 1 [(l + 1 : Int)] rfl (made_ints [(l + 1 : Int)] _ _ _ rfl) rfl (by omega) (by simp; omega) ?_)
     intro v' w2 hown2 hb2
     have hb3 := (HB.out.trans ((below_made wr (.cells #[.int .i64 (l + 1)] 3)).mono hsz)).trans hb2
     have HO2 := Lib.hid (show w2.ownsRow w.heap.size 3 1 v' (k + 1) (icl ((T.map (levN l)).take (k + 1))) from by rw [HAT.out]; exact hown2)
     have HB2 := Lib.hid hb3
     clear hown2 hb2 hb3
     go_wp2_with fail
     go_roundw
     case rel => exact ⟨k + 1, by omega, by go_num, HO2.out, HB2.out⟩
     case measure => simp [RowKit.intOf]; omega
    ·have m0 : (l.tmod 2 == 0) = false := by rw [hr]; rfl
     have m1 : (l.tmod 2 == 1) = true := by rw [hr]; rfl
     have e1 : IntKind.i64.wrap (l - l.tmod 2) = l - 1 := by rw [hr]; exact (IntWalk.i64_in _ (by omega)).trans (by omega)
     have hv : levN l 1 = l := by have h := HR.out; show l + (1 - l % 2) = _; omega
     rw [hv] at HAT
     clear hv
     go_wp2_with (at_builtin; refine wpList_add rfl _ _ rfl w.heap.size _ k ((T.map (levN l)).take k) rfl (ownsRow_below HO.out (below_made _ _)) (some ⟨wr.heap.size, 0, none⟩) 1 1 [(l : Int)] rfl (made_ints [(l : Int)] _ _ _ rfl) rfl (by omega) (by simp; omega) ?_)
     intro v' w2 hown2 hb2
     have hb3 := (HB.out.trans ((below_made wr (.cells #[.int .i64 (l)] 3)).mono hsz)).trans hb2
     have HO2 := Lib.hid (show w2.ownsRow w.heap.size 3 1 v' (k + 1) (icl ((T.map (levN l)).take (k + 1))) from by rw [HAT.out]; exact hown2)
     have HB2 := Lib.hid hb3
     clear hown2 hb2 hb3
     go_wp2_with fail
     go_roundw
     case rel => exact ⟨k + 1, by omega, by go_num, HO2.out, HB2.out⟩
     case measure => simp [RowKit.intOf]; omega
   have b1 : (z == 1) = false := beq_eq_false_iff_ne.2 h1
   by_cases h3 : z = 3
   ·subst h3
    rcases hr01 with rfl | rfl
    ·have m0 : (l.tmod 2 == 0) = true := by rw [hr]; rfl
     have m1 : (l.tmod 2 == 1) = false := by rw [hr]; rfl
     have e1 : IntKind.i64.wrap (l - l.tmod 2) = l := by rw [hr]; exact (IntWalk.i64_in _ (by omega)).trans (by omega)
     have hv : levN l 3 = l + 2 := by have h := HR.out; show l + (2 - l % 2) = _; omega
     rw [hv] at HAT
     clear hv
     go_wp2_with (at_builtin; refine wpList_add rfl _ _ rfl w.heap.size _ k ((T.map (levN l)).take k) rfl (ownsRow_below HO.out (below_made _ _)) (some ⟨wr.heap.size, 0, none⟩) 1 1 [(l + 2 : Int)] rfl (made_ints [(l + 2 : Int)] _ _ _ rfl) rfl (by omega) (by simp; omega) ?_)
     intro v' w2 hown2 hb2
     have hb3 := (HB.out.trans ((below_made wr (.cells #[.int .i64 (l + 2)] 3)).mono hsz)).trans hb2
     have HO2 := Lib.hid (show w2.ownsRow w.heap.size 3 1 v' (k + 1) (icl ((T.map (levN l)).take (k + 1))) from by rw [HAT.out]; exact hown2)
     have HB2 := Lib.hid hb3
     clear hown2 hb2 hb3
     go_wp2_with fail
     go_roundw
     case rel => exact ⟨k + 1, by omega, by go_num, HO2.out, HB2.out⟩
     case measure => simp [RowKit.intOf]; omega
    ·have m0 : (l.tmod 2 == 0) = false := by rw [hr]; rfl
     have m1 : (l.tmod 2 == 1) = true := by rw [hr]; rfl
     have e1 : IntKind.i64.wrap (l - l.tmod 2) = l - 1 := by rw [hr]; exact (IntWalk.i64_in _ (by omega)).trans (by omega)
     have hv : levN l 3 = l - 1 + 2 := by have h := HR.out; show l + (2 - l % 2) = _; omega
     rw [hv] at HAT
     clear hv
     go_wp2_with (at_builtin; refine wpList_add rfl _ _ rfl w.heap.size _ k ((T.map (levN l)).take k) rfl (ownsRow_below HO.out (below_made _ _)) (some ⟨wr.heap.size, 0, none⟩) 1 1 [(l - 1 + 2 : Int)] rfl (made_ints [(l - 1 + 2 : Int)] _ _ _ rfl) rfl (by omega) (by simp; omega) ?_)
     intro v' w2 hown2 hb2
     have hb3 := (HB.out.trans ((below_made wr (.cells #[.int .i64 (l - 1 + 2)] 3)).mono hsz)).trans hb2
     have HO2 := Lib.hid (show w2.ownsRow w.heap.size 3 1 v' (k + 1) (icl ((T.map (levN l)).take (k + 1))) from by rw [HAT.out]; exact hown2)
     have HB2 := Lib.hid hb3
     clear hown2 hb2 hb3
     go_wp2_with fail
     go_roundw
     case rel => exact ⟨k + 1, by omega, by go_num, HO2.out, HB2.out⟩
     case measure => simp [RowKit.intOf]; omega
   have b3 : (z == 3) = false := beq_eq_false_iff_ne.2 h3
   by_cases h6 : z = 6
   ·subst h6
    rcases hr01 with rfl | rfl
    ·have m0 : (l.tmod 2 == 0) = true := by rw [hr]; rfl
     have m1 : (l.tmod 2 == 1) = false := by rw [hr]; rfl
     have e1 : IntKind.i64.wrap (l - l.tmod 2) = l := by rw [hr]; exact (IntWalk.i64_in _ (by omega)).trans (by omega)
     have hv : levN l 6 = l + 2 := by have h := HR.out; show l + (2 - l % 2) = _; omega
     rw [hv] at HAT
     clear hv
     go_wp2_with (at_builtin; refine wpList_add rfl _ _ rfl w.heap.size _ k ((T.map (levN l)).take k) rfl (ownsRow_below HO.out (below_made _ _)) (some ⟨wr.heap.size, 0, none⟩) 1 1 [(l + 2 : Int)] rfl (made_ints [(l + 2 : Int)] _ _ _ rfl) rfl (by omega) (by simp; omega) ?_)
     intro v' w2 hown2 hb2
     have hb3 := (HB.out.trans ((below_made wr (.cells #[.int .i64 (l + 2)] 3)).mono hsz)).trans hb2
     have HO2 := Lib.hid (show w2.ownsRow w.heap.size 3 1 v' (k + 1) (icl ((T.map (levN l)).take (k + 1))) from by rw [HAT.out]; exact hown2)
     have HB2 := Lib.hid hb3
     clear hown2 hb2 hb3
     go_wp2_with fail
     go_roundw
     case rel => exact ⟨k + 1, by omega, by go_num, HO2.out, HB2.out⟩
     case measure => simp [RowKit.intOf]; omega
    ·have m0 : (l.tmod 2 == 0) = false := by rw [hr]; rfl
     have m1 : (l.tmod 2 == 1) = true := by rw [hr]; rfl
     have e1 : IntKind.i64.wrap (l - l.tmod 2) = l - 1 := by rw [hr]; exact (IntWalk.i64_in _ (by omega)).trans (by omega)
     have hv : levN l 6 = l - 1 + 2 := by have h := HR.out; show l + (2 - l % 2) = _; omega
     rw [hv] at HAT
     clear hv
     go_wp2_with (at_builtin; refine wpList_add rfl _ _ rfl w.heap.size _ k ((T.map (levN l)).take k) rfl (ownsRow_below HO.out (below_made _ _)) (some ⟨wr.heap.size, 0, none⟩) 1 1 [(l - 1 + 2 : Int)] rfl (made_ints [(l - 1 + 2 : Int)] _ _ _ rfl) rfl (by omega) (by simp; omega) ?_)
     intro v' w2 hown2 hb2
     have hb3 := (HB.out.trans ((below_made wr (.cells #[.int .i64 (l - 1 + 2)] 3)).mono hsz)).trans hb2
     have HO2 := Lib.hid (show w2.ownsRow w.heap.size 3 1 v' (k + 1) (icl ((T.map (levN l)).take (k + 1))) from by rw [HAT.out]; exact hown2)
     have HB2 := Lib.hid hb3
     clear hown2 hb2 hb3
     go_wp2_with fail
     go_roundw
     case rel => exact ⟨k + 1, by omega, by go_num, HO2.out, HB2.out⟩
     case measure => simp [RowKit.intOf]; omega
   have b6 : (z == 6) = false := beq_eq_false_iff_ne.2 h6
   rw [lev_else h0 h1 h3 h6] at HAT
   clear h0 h1 h3 h6
   go_wp2_with (at_builtin; refine wpList_add rfl _ _ rfl w.heap.size _ k ((T.map (levN l)).take k) rfl (ownsRow_below HO.out (below_made _ _)) (some ⟨wr.heap.size, 0, none⟩) 1 1 [(l : Int)] rfl (made_ints [(l : Int)] _ _ _ rfl) rfl (by omega) (by simp; omega) ?_)
   intro v' w2 hown2 hb2
   have hb3 := (HB.out.trans ((below_made wr (.cells #[.int .i64 (l)] 3)).mono hsz)).trans hb2
   have HO2 := Lib.hid (show w2.ownsRow w.heap.size 3 1 v' (k + 1) (icl ((T.map (levN l)).take (k + 1))) from by rw [HAT.out]; exact hown2)
   have HB2 := Lib.hid hb3
   clear hown2 hb2 hb3
   go_wp2_with fail
   go_roundw
   case rel => exact ⟨k + 1, by omega, by go_num, HO2.out, HB2.out⟩
   case measure => simp [RowKit.intOf]; omega
  ·obtain rfl : k = n := by omega
   rw [List.take_of_length_le (by rw [HL.out]; exact Nat.le_refl _)] at HO
   obtain ⟨A, c, rfl, -⟩ := intsAt_icl HO.out HL.out
   clear hb
   go_wp2_with fail
   go_ret
   exact ⟨A, c, rfl, HO.out, HB.out⟩
end Go.Proofs.YtfclpecbnailgaaGreat.Ne
