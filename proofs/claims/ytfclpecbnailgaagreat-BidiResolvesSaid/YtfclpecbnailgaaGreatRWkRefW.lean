/-
 Proved here: what the document's Weak returns, for every row of numbers of at most 2^30 and every direction ahead: a new row, by the plain weak. It leaves what was in memory.
-/
import Derived.Test.YtfclpecbnailgaaGreatR2
import Derived.Test.YtfclpecbnailgaaGreatRWkOneA
import Derived.Test.YtfclpecbnailgaaGreatRWkOneB
import Derived.Test.YtfclpecbnailgaaGreatRWkOneC
set_option linter.unusedVariables false
namespace Go.Proofs.YtfclpecbnailgaaGreat.Wk
open Go Go.RowKit Go.Lib Go.Proofs.YtfclpecbnailgaaGreat.Cl
theorem one_any (k : Nat) (h1 : 1 ≤ k) (h7 : k ≤ 7) (A : Option Addr) (L pre post : List Int) (x : Int) (n c a : Nat) (s : Int) (w : World) (hR : IntsAt w A L) (hl : L.length = n) (hn : n ≤ 1099511627776) (hL : L = pre ++ x :: post) (ha : pre.length = a) :
  Calls Tryz.prog 71 #[.int .i64 k, .slice A n c, .int .i64 a, .int .i64 s] w fun e w' => e = .returned (.int .i64 (oneP k s pre x post)) ∧ w' = w := by
 match k, h1, h7 with
 | 1, _, _ => exact one1_any A L pre post x n c a s w hR hl hn hL ha
 | 2, _, _ => exact one2_any A L pre post x n c a s w hR hl hn hL ha
 | 3, _, _ => exact one3_any A L pre post x n c a s w hR hl hn hL ha
 | 4, _, _ => exact one4_any A L pre post x n c a s w hR hl hn hL ha
 | 5, _, _ => exact one5_any A L pre post x n c a s w hR hl hn hL ha
 | 6, _, _ => exact one6_any A L pre post x n c a s w hR hl hn hL ha
 | 7, _, _ => exact one7_any A L pre post x n c a s w hR hl hn hL ha
set_option maxHeartbeats 2000000 in
set_option maxRecDepth 100000 in
theorem refweak_any (A : Option Addr) (zs : List Int) (n c : Nat) (s : Int) (w : World) (hR : IntsAt w A zs) (hl : zs.length = n) (hn : n ≤ 1000000) :
  Calls Tryz.prog 32 #[.slice A n c, .int .i64 s] w fun e w' => ∃ A' c', e = .returned (.slice A' n c') ∧ w'.ownsRow w.heap.size 3 1 (.slice A' n c') n (icl (weak s zs)) ∧ Below w.heap.size w w' := by
 have HM := Lib.hid (show (w.alloc (.cells #[] 3)).ownsRow w.heap.size 3 1 (.slice (some ⟨w.heap.size, 0, none⟩) 0 0) 0 (icl []) from World.ownsRow_made w #[] 0 (Nat.le_refl _) (Nat.zero_le _) rfl)
 have HB := Lib.hid (below_made w (.cells #[] 3))
 have HR1 := Lib.hid (hR.below HB.out)
 have HL := Lib.hid hl
 clear hR hl
 go_enter Tryz.func32, Tryz.ntmps32
 go_wp2_with (at_builtin; refine wpList_add rfl _ _ rfl w.heap.size _ 0 [] rfl HM.out A n c zs rfl HR1.out HL.out (by omega) (by simp) ?_)
 intro v1 w1 hown hb
 try simp only [List.nil_append, Nat.zero_add] at hown
 obtain ⟨A', c', rfl, -⟩ := intsAt_icl hown HL.out
 have HB1 := Lib.hid (HB.out.trans hb)
 have HROW := Lib.hid (show Row w.heap.size A' n c' w1 (refUp s zs 0) w1 from Row.start hown)
 clear hown hb HM HR1
 go_wp2_with fail
 go_loopw [6] (fun s6 wx => ∃ k : Nat, k ≤ 7 ∧ s6 = .int .i64 (k + 1) ∧ Row w.heap.size A' n c' w1 (refUp s zs k) wx) (fun s6 _ => 9 - (RowKit.intOf s6).toNat)
 case atStart => exact ⟨0, by omega, rfl, HROW.out⟩
 case round =>
  obtain ⟨k, hk, rfl, hrow⟩ := hrel
  have HK := Lib.hid hrow
  clear hrow
  by_cases hlt : k < 7
  ·have hd : decide ((k : Int) + 1 ≤ 7) = true := decide_eq_true (by omega)
   go_wp2_with fail
   go_loopw [7] (fun s7 wx => ∃ (d r : List Int) (i : Nat), d.length = i ∧ (d ++ r).length = n ∧ s7 = .int .i64 i ∧ Row w.heap.size A' n c' w1 (d ++ r) wx ∧ scanP (oneP (k + 1) s) d r = refUp s zs (k + 1)) (fun s7 _ => n - (RowKit.intOf s7).toNat)
   case atStart => exact ⟨[], refUp s zs k, 0, rfl, HK.out.len, rfl, HK.out, rfl⟩
   case round =>
    obtain ⟨d, r, i, hi, hlen, rfl, hrow, hsc⟩ := hrel
    have HRW := Lib.hid hrow
    have HSC := Lib.hid hsc
    have HI := Lib.hid hi
    have HLEN := Lib.hid hlen
    clear hsc
    cases r with
    | nil =>
     rw [List.append_nil] at hlen
     obtain rfl : i = n := by omega
     have HRW2 := Lib.hid (show Row w.heap.size A' i c' w1 (refUp s zs (k + 1)) wr from by
      have h1 := HRW.out
      rw [List.append_nil] at h1
      rw [← HSC.out]
      exact h1)
     clear hrow hi hlen
     go_wp2
     go_roundw
     case rel => exact ⟨k + 1, by omega, by go_num, HRW2.out⟩
     case measure => (simp [RowKit.intOf]; try omega)
    | cons x r =>
     obtain ⟨g, hA, hcx, hfx, hin, hnc, hput⟩ := hrow.at_ rfl hi
     subst hA
     have hat : IntsAt wr (some ⟨g, 0, none⟩) (d ++ x :: r) := by
      obtain ⟨A2, c2, e2, hat⟩ := intsAt_icl hrow.own hlen
      injection e2 with e3 e4 e5
      subst e3
      exact hat
     have HONE := Lib.hid (one_any (k + 1) (by omega) (by omega) (some ⟨g, 0, none⟩) (d ++ x :: r) d r x n c' i s wr hat hlen (by omega) rfl hi)
     have HPUT := Lib.hid hput
     have HSC2 := Lib.hid (show scanP (oneP (k + 1) s) (d ++ [oneP (k + 1) s d x r]) r = refUp s zs (k + 1) from HSC.out)
     obtain ⟨y, hy⟩ : ∃ y, oneP (k + 1) s d x r = y := ⟨_, rfl⟩
     rw [hy] at HONE HSC2
     clear hy hput hat hrow hi hlen
     go_wp2_with fail
     refine HONE.out.mono ?_
     rintro e w2 ⟨rfl, rfl⟩
     have hp := HPUT.out y
     have HP := Lib.hid (show Row w.heap.size (some ⟨g, 0, none⟩) n c' w1 ((d ++ [y]) ++ r) (w2.setCell ⟨g, i, none⟩ (.int .i64 y)) from by simpa using hp)
     clear hp
     go_wp2
     go_roundw
     case rel => exact ⟨d ++ [y], r, i + 1, by simp [HI.out], by simpa using HLEN.out, by go_num, HP.out, HSC2.out⟩
     case measure => (simp [RowKit.intOf]; try omega)
  ·obtain rfl : k = 7 := by omega
   have h1 := HK.out
   rw [refUp_weak] at h1
   have H1 := Lib.hid h1
   clear h1 hlt
   go_wp2
   go_ret
   exact ⟨_, _, rfl, H1.out.own, HB1.out.grown H1.out.gr HB1.out.size (fun q hq => (H1.out.base q hq).1)⟩
end Go.Proofs.YtfclpecbnailgaaGreat.Wk
