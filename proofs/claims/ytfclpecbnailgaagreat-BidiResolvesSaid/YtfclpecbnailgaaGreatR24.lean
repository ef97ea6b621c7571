/-
  Several texts in one, each with its own remark: MiGlyph, BcShown, RcSame, BiAwake, LawKit, BiLaw, LvRef, LvRefW.
-/
import Derived.Lib.Hide
import Derived.LoopTactic
import Derived.Deep.QuietTactic
import Derived.BigQuiet
import Derived.Carry
import Derived.ProofKit
import Derived.OpenShut
import Derived.Below
import Derived.Test.YtfclpecbnailgaaGreatR10
import Derived.Test.YtfclpecbnailgaaGreatR23
import Derived.Test.YtfclpecbnailgaaGreatR2
import Derived.Test.YtfclpecbnailgaaGreatRBcRes
import Derived.Test.YtfclpecbnailgaaGreatRSqCheck
import Derived.Test.YtfclpecbnailgaaGreatRows
import Derived.Test.YtfclpecbnailgaaGreatR3

/-
 Proved here: what mirror.Glyph returns, for every number; it leaves what was in memory. No condition.
-/
set_option linter.unusedVariables false
namespace Go.Proofs.YtfclpecbnailgaaGreat.Mi
open Go.RowKit Go.Lib
theorem infoSg : (Tryz.prog.info? 105).map (fun i => (i.zero, i.size)) = some (some (.agg (List.replicate 48 (.int .i64 0)).toArray), 48) := by kernel_rfl
def sgFrame (g : Nat) : Act := ⟨((Value.pointer (some ⟨g, 0, none⟩) :: (sgL.flatMap fun r => [Value.agg #[.int .i64 r.1, .int .i64 r.2.1], rowV r])) ++ [Value.agg (rowCells sgL).toArray]).toArray, []⟩
theorem sg_size : (rowCells sgL).toArray.size = 48 := by kernel_rfl
theorem sg_one : (rowCells sgL).toArray.all (·.oneCell') = true := by kernel_rfl
set_option maxHeartbeats 4000000 in
set_option maxRecDepth 1000000 in
theorem sg_any (w : World) :
  Calls Tryz.prog 81 #[] w fun e w' => e = .returned (.agg (rowCells sgL).toArray) ∧ Below w.heap.size w w' := by
 obtain ⟨hz, hi⟩ := zero_of_info infoSg
 rw [← sg_size] at hi
 go_enter Tryz.func81, Tryz.ntmps81
 refine wp_seq (wp_region_lit (l := [_]) (wpList_allocVar rfl _ rfl (some 0) rfl _ hz ?_))
 show Exit.then _ _ _ _ _
 refine wp_seq ?_
 refine wp_stored 33 (sgFrame w.heap.size) (by kernel_rfl) (.tmp 0) (.tmp 33) 105 (by kernel_rfl) _ (rowCells sgL).toArray (by kernel_rfl) (by kernel_rfl) hi (by kernel_rfl) sg_one ?_
 refine wp_ret ?_
 exact bodyPost_ret (results_cell_row Tryz.results81 _ _ w.heap.size 105 _ (0, 0) _ (by kernel_rfl) (heap_alloc_last w _) Tryz.underlying105 rfl hi) (by kernel_rfl) ⟨rfl, (Below.refl _ _).alloc (Nat.le_refl _) _⟩
theorem sgL_len : sgL.length = 16 := by kernel_rfl
set_option maxHeartbeats 1000000 in
set_option maxRecDepth 100000 in
theorem mGlyph_any (c : Int) (w : World) :
  Calls Tryz.prog 43 #[.int .i64 c] w fun e w' => e = .returned (.int .i64 (glyphT c)) ∧ Below w.heap.size w w' := by
 have CA := Lib.hid (fun W => mPair_any c W)
 have HC := Lib.hid (fun W => sg_any W)
 have HP := fun (b : Nat) (W : World) (h : RowsAt W b sgL) => pairIn_any b sgL c W h (by rw [sgL_len]; decide) sgL_ok
 rw [sgL_len] at HP
 have HP' := Lib.hid HP
 clear HP
 have hm := fun W : World => rowsAt_made sgL 105 W
 have HM := Lib.hid hm
 clear hm
 obtain ⟨hz, hi⟩ := zero_of_info infoSg
 have HZ := Lib.hid hz
 rw [← sg_size] at hi
 have HI := Lib.hid hi
 have HS := Lib.hid sg_size
 have HO := Lib.hid sg_one
 clear hz hi
 unfold glyphT
 generalize (rowCells sgL).toArray = cs at *
 generalize inR sgL c = res at *
 generalize pairT c = p at *
 obtain ⟨k, o⟩ := p
 obtain ⟨m, x⟩ := res
 simp only at CA HP' ⊢
 by_cases h1 : k = 0
 ·subst h1
  rw [if_pos rfl]
  have main : ∀ v : Int, (if m = 0 then c else x) = v → Calls Tryz.prog 43 #[.int .i64 c] w fun e w' => e = .returned (.int .i64 v) ∧ Below w.heap.size w w' := by
   intro v hv
   have HV := Lib.hid hv
   clear hv
   go_enter Tryz.func43, Tryz.ntmps43
   go_wp2_with fail
   refine (CA.out _).mono ?_
   rintro e w0 ⟨rfl, hb0⟩
   go_wp2_with fail
   rename_i Q0 K1 hK1 K2 hK2 K3 hK3
   refine (HC.out _).mono ?_
   rintro e w1 ⟨rfl, hb1⟩
   refine hK3 _ _ ?_
   refine wpList_allocVar rfl _ rfl (some 5) rfl _ HZ.out ?_
   refine wpList_store_rowTo rfl _ _ _ rfl rfl w1.heap.size cs rfl rfl 105 _ (heap_alloc_last w1 _) HI.out (by rw [HS.out]; rfl) HO.out ?_
   rw [World.setRow_alloc_new]
   refine wpList_nil (hK2 _ _ ?_)
   have hb1' := hb0.trans (hb1.mono hb0.size)
   have hb2 : Below w.heap.size w (w1.alloc (.cells cs 105)) := hb1'.alloc hb1'.size _
   have HB2 := Lib.hid hb2
   have hR := HM.out w1
   have HR := Lib.hid hR
   clear hb0 hb1 hb1' hb2 hR HI HO HS HZ HM HC
   generalize w1.alloc (.cells cs 105) = w2 at *
   generalize w1.heap.size = b at *
   by_cases h2 : m = 0
   ·obtain rfl : c = v := by have := HV.out; rwa [if_pos h2] at this
    subst h2
    go_wp2_with fail
    refine (HP'.out b _ HR.out).mono ?_
    rintro e w3 ⟨rfl, hb3⟩
    go_wp2
    go_ret
    exact ⟨rfl, HB2.out.trans (hb3.mono HB2.out.size)⟩
   ·obtain rfl : x = v := by have := HV.out; rwa [if_neg h2] at this
    have d2 : (m == 0) = false := by simpa using h2
    clear h2
    go_wp2_with fail
    refine (HP'.out b _ HR.out).mono ?_
    rintro e w3 ⟨rfl, hb3⟩
    go_wp2
    go_ret
    exact ⟨rfl, HB2.out.trans (hb3.mono HB2.out.size)⟩
  exact main _ rfl
 ·rw [if_neg h1]
  have d1 : (k == 0) = false := by simpa using h1
  clear h1
  go_enter Tryz.func43, Tryz.ntmps43
  go_wp2_with fail
  refine (CA.out _).mono ?_
  rintro e w0 ⟨rfl, hb0⟩
  go_wp2
  go_ret
  exact ⟨rfl, hb0⟩
end Go.Proofs.YtfclpecbnailgaaGreat.Mi

/-
 Proved here: what bidi.Shown returns, for every two numbers: the sign by which a code point is shown. It leaves what was in memory.
-/
set_option linter.unusedVariables false
namespace Go.Proofs.YtfclpecbnailgaaGreat.Bi
open Go Go.RowKit Go.Lib
set_option maxHeartbeats 1000000 in
set_option maxRecDepth 100000 in
theorem shown_any (c l : Int) (w : World) : Calls Tryz.prog 19 #[.int .i64 c, .int .i64 l] w fun e w' => e = .returned (.int .i64 (shownP c l)) ∧ Below w.heap.size w w' := by
 have HG := Lib.hid (fun W => Mi.mGlyph_any c W)
 by_cases hm : l.tmod 2 = 0
 ·have m1 : (l.tmod 2 == 0) = true := by simpa using hm
  rw [show shownP c l = c from if_pos hm]
  clear hm
  go_enter Tryz.func19, Tryz.ntmps19
  go_wp2
  go_ret
  exact ⟨rfl, Below.refl _ _⟩
 ·have m1 : (l.tmod 2 == 0) = false := by simpa using hm
  rw [show shownP c l = Mi.glyphT c from if_neg hm]
  clear hm
  generalize Mi.glyphT c = v at *
  go_enter Tryz.func19, Tryz.ntmps19
  go_wp2_with fail
  refine (HG.out _).mono ?_
  rintro e w1 ⟨rfl, hb⟩
  go_wp2_with fail
  go_ret
  exact ⟨rfl, hb⟩
end Go.Proofs.YtfclpecbnailgaaGreat.Bi

/-
 Proved here: parquetryref02.Same of two rows that hold the same numbers is true; it leaves what was in memory.
-/
set_option linter.unusedVariables false
namespace Go.Proofs.YtfclpecbnailgaaGreat.Rc
open Go.RowKit Go.Lib Go.Proofs.YtfclpecbnailgaaGreat.Cl
theorem same_ints_drewN (w : World) : ∀ n, Below w.heap.size w (w.drewN n)
 | 0 => Below.refl _ _
 | n + 1 => (same_ints_drewN w n).drew
set_option maxHeartbeats 1000000 in
set_option maxRecDepth 1000000 in
theorem same_ints (A B : Option Addr) (zs : List Int) (c d : Nat) (w : World) (ha : IntsAt w A zs) (hb : IntsAt w B zs) (hn : zs.length ≤ 1099511627776) :
  Calls Tryz.prog 11 #[.slice A zs.length c, .slice B zs.length d] w fun e w' => e = .returned (.bool true) ∧ Below w.heap.size w w' := by
 have HA := Lib.hid ha
 have HB := Lib.hid hb
 clear ha hb
 go_enter Tryz.func11, Tryz.ntmps11
 go_wp2_with fail
 go_loopw [5] (fun s5 wx => ∃ k : Nat, k ≤ zs.length ∧ s5 = .int .i64 k ∧ Below w.heap.size w wx) (fun s5 _ => zs.length - (RowKit.intOf s5).toNat)
 case atStart => exact ⟨0, Nat.zero_le _, rfl, Below.refl _ _⟩
 case round =>
  obtain ⟨k, hk, rfl, hbw⟩ := hrel
  by_cases hlt : k < zs.length
  ·obtain ⟨g, o, rfl, c0⟩ := (HA.out.below hbw).at_ hlt
   obtain ⟨g', o', rfl, d0⟩ := (HB.out.below hbw).at_ hlt
   clear HA HB
   generalize zs[k] = z at *
   go_wp2_with fail
   go_quiet (fail)
   go_wp2_with fail
   go_roundw
   case rel => exact ⟨k + 1, by omega, by go_num, hbw.trans ((same_ints_drewN _ _).mono hbw.size)⟩
   case measure => simp [RowKit.intOf]; omega
  ·go_wp2
   go_ret
   exact ⟨rfl, hbw⟩
end Go.Proofs.YtfclpecbnailgaaGreat.Rc

/-
 Proved here: what of of the statements of layer 16 returns, and that parquetrylaw16.awake (the chapter's examples) returns true; they leave what was in memory. No condition.
-/
set_option linter.unusedVariables false
namespace Go.Proofs.YtfclpecbnailgaaGreat.Bi
open Go Go.RowKit Go.Lib Go.Proofs.YtfclpecbnailgaaGreat.Cl Go.Proofs.YtfclpecbnailgaaGreat.Rc Go.Proofs.YtfclpecbnailgaaGreat.Sq
open Go.Proofs.YtfclpecbnailgaaGreat.Ku (R3 RuAt cellsR)
/-- The runes that 'of' makes of numbers. -/
def ofR (zs : List Int) (k : Nat) : List R3 := (List.range k).map fun (i : Nat) => ((i : Int), (1 : Int), zs.getD i 0)
theorem ofR_len (zs : List Int) (k : Nat) : (ofR zs k).length = k := by simp [ofR]
theorem ofR_next (zs : List Int) (k : Nat) (hk : k < zs.length) : cellsR (ofR zs (k + 1)) = cellsR (ofR zs k) ++ [.int .i64 (k : Int), .int .i64 1, .int .i64 zs[k]] := by
 unfold ofR
 rw [List.range_succ, List.map_append]
 simp [cellsR, hk]
set_option maxHeartbeats 1000000 in
set_option maxRecDepth 100000 in
theorem of_reads (A : Option Addr) (zs : List Int) (n c : Nat) (w : World) (hl : zs.length = n) (hR : IntsAt w A zs) (hn : n ≤ 100000) :
  Calls Tryz.prog 25 #[.slice A n c] w fun e w' => ∃ B d, e = .returned (.slice B n d) ∧ RuAt w' B (ofR zs n) ∧ Below w.heap.size w w' := by
 obtain ⟨i0, hi, hz0, hz1, hz2⟩ := info_parts Ku.infoR
 have HR := Lib.hid hR
 have HL := Lib.hid hl
 clear hR hl
 go_enter Tryz.func25, Tryz.ntmps25
 go_wp2_with fail
 go_loopw [3, 4] (fun s3 s4 wx => ∃ k : Nat, k ≤ n ∧ s4 = .int .i64 k ∧ Below w.heap.size w wx ∧ wx.ownsRow w.heap.size 38 3 s3 k (cellsR (ofR zs k))) (fun _ s4 _ => n - (RowKit.intOf s4).toNat)
 case atStart => exact ⟨0, Nat.zero_le _, rfl, Below.refl _ _, World.ownsRow_nil _ _ _ _⟩
 case round =>
  obtain ⟨k, hk, rfl, hb, hown⟩ := hrel
  by_cases hlt : k < n
  ·have hkl : k < zs.length := by rw [HL.out]; exact hlt
   obtain ⟨b, off, rfl, c0⟩ := (HR.out.below hb).at_ hkl
   have HT := Lib.hid (ofR_next zs k hkl)
   have HOWN := Lib.hid hown
   have hbs := hb.size
   have HLT := Lib.hid hown.lt
   have HB := Lib.hid hb
   clear hown hb
   generalize zs[k] = z at *
   go_wp2_with (at_builtin; refine wpList_append_own _ rfl _ _ 22 rfl w.heap.size 38 i0 (.agg #[.int .i64 0, .int .i64 0, .int .i64 0]) 3 24 Tryz.underlying22 hi hz0 hz1 hz2 rfl (by decide) _ _ _ rfl (HOWN.out.alloc _) ⟨wr.heap.size, 0, none⟩ 1 1 [.int .i64 k, .int .i64 1, .int .i64 z] rfl rfl ?c1 ?c2 ?c3 ?c4 ?c5 ?_)
   case c1 => intro j u hu; rcases j with _ | _ | _ | j <;> simp at hu <;> subst hu <;> simp [Addr.add]
   case c2 => intro u hu; simp at hu; rcases hu with rfl | rfl | rfl <;> rfl
   case c3 => unfold maxLen; omega
   case c4 => omega
   case c5 => simp; omega
   intro v' w4 hown' hgrow _
   have HG := Lib.hid hgrow
   have HO := Lib.hid hown'
   clear hgrow hown'
   go_wp2
   go_roundw
   case measure => simp [RowKit.intOf]; omega
   case rel =>
    refine ⟨k + 1, by omega, by go_num, ?_, ?_⟩
    ·exact (HB.out.alloc hbs _).grown HG.out (by simp; omega) (fun g hg => (HLT.out g hg).1)
    ·rw [HT.out]; exact HO.out
  ·obtain rfl : k = n := by omega
   have HO := Lib.hid hown
   go_wp2
   go_ret
   have h0 := HO.out
   have h1 : wr.ownsRow w.heap.size 38 3 u3 (ofR zs k).length (cellsR (ofR zs k)) := by rw [ofR_len]; exact h0
   obtain ⟨B, d, e1, hi⟩ := Ku.ruAt_own h1
   rw [ofR_len] at e1
   exact ⟨B, d, by rw [e1]; rfl, hi, hb⟩
theorem ex1 : resZ (clsR (ofR [97, 1488, 1489, 49] 4)) (codR (ofR [97, 1488, 1489, 49] 4)) 0 = [0, 1, 1, 2] := by
 have hc : clsR (ofR [97, 1488, 1489, 49] 4) = [0, 1, 1, 3] := by decide +kernel
 have hk : codR (ofR [97, 1488, 1489, 49] 4) = [97, 1488, 1489, 49] := by decide +kernel
 have hT : SeqsOk [0, 1, 1, 3] (zB [0, 1, 1, 3] 0) ((0 : Nat) : Int) [⟨0, 0, 0, [0, 1, 2, 3]⟩] := seqsC_ok (by decide +kernel)
 have h := resZ_some [0, 1, 1, 3] [97, 1488, 1489, 49] (b := 0) (by omega)
 rw [← seqsB_eq hT] at h
 rw [hc, hk]
 exact h.trans (by decide +kernel)
theorem ex2 : resZ (clsR (ofR [1488, 40, 97, 41] 4)) (codR (ofR [1488, 40, 97, 41] 4)) 1 = [1, 1, 2, 1] := by
 have hc : clsR (ofR [1488, 40, 97, 41] 4) = [1, 13, 0, 13] := by decide +kernel
 have hk : codR (ofR [1488, 40, 97, 41] 4) = [1488, 40, 97, 41] := by decide +kernel
 have hT : SeqsOk [1, 13, 0, 13] (zB [1, 13, 0, 13] 1) ((1 : Nat) : Int) [⟨1, 1, 1, [0, 1, 2, 3]⟩] := seqsC_ok (by decide +kernel)
 have h := resZ_some [1, 13, 0, 13] [1488, 40, 97, 41] (b := 1) (by omega)
 rw [← seqsB_eq hT] at h
 rw [hc, hk]
 exact h.trans (by decide +kernel)
theorem ex3 : lineZ (clsR (ofR [97, 32, 9, 1488, 32] 5)) [0, 0, 0, 1, 1] 0 = [0, 0, 0, 1, 0] := by decide +kernel
theorem ex4 : ns (Bo.orderP [0, 1, 1, 2, 0]) = [0, 3, 2, 1, 4] := by decide +kernel
theorem ex5 : ns (Bo.orderP [1, 2, 2, 1]) = [3, 1, 2, 0] := by decide +kernel
theorem ex6 : ns (Bo.orderP [2, 2]) = [0, 1] := by decide +kernel
theorem ex7 : shownP 40 1 = 41 := by decide +kernel
theorem ex8 : shownP 40 2 = 40 := by decide +kernel
theorem own_reads {w : World} {B n c : Nat} {A : Option Addr} {zs : List Int} (h : w.ownsRow B 3 1 (.slice A n c) n (icl zs)) (hl : zs.length = n) : IntsAt w A zs := by
 obtain ⟨A', c', e, hi⟩ := intsAt_icl h hl
 injection e with e _ _
 subst e
 exact hi
theorem do1 (A : Option Addr) (d : Nat) (w : World) (h : RuAt w A (ofR [97, 1488, 1489, 49] 4)) : Calls Tryz.prog 12 #[.slice A 4 d, .int .i64 0] w fun e w' => ∃ B c, e = .returned (.slice B 4 c) ∧ IntsAt w' B [0, 1, 1, 2] ∧ Below w.heap.size w w' := by
 refine (resolve_any A (ofR [97, 1488, 1489, 49] 4) 0 4 d w rfl h (by omega)).mono ?_
 rintro e w' ⟨B, c, rfl, ho, hb⟩
 rw [ex1] at ho ⊢
 exact ⟨B, c, rfl, own_reads ho rfl, hb⟩
theorem do2 (A : Option Addr) (d : Nat) (w : World) (h : RuAt w A (ofR [1488, 40, 97, 41] 4)) : Calls Tryz.prog 12 #[.slice A 4 d, .int .i64 1] w fun e w' => ∃ B c, e = .returned (.slice B 4 c) ∧ IntsAt w' B [1, 1, 2, 1] ∧ Below w.heap.size w w' := by
 refine (resolve_any A (ofR [1488, 40, 97, 41] 4) 1 4 d w rfl h (by omega)).mono ?_
 rintro e w' ⟨B, c, rfl, ho, hb⟩
 rw [ex2] at ho ⊢
 exact ⟨B, c, rfl, own_reads ho rfl, hb⟩
theorem do3 (A A2 : Option Addr) (d d2 : Nat) (w : World) (h : RuAt w A (ofR [97, 32, 9, 1488, 32] 5)) (h2 : IntsAt w A2 [0, 0, 0, 1, 1]) : Calls Tryz.prog 15 #[.slice A 5 d, .slice A2 5 d2, .int .i64 0] w fun e w' => ∃ B c, e = .returned (.slice B 5 c) ∧ IntsAt w' B [0, 0, 0, 1, 0] ∧ Below w.heap.size w w' := by
 refine (line_any A A2 (ofR [97, 32, 9, 1488, 32] 5) [0, 0, 0, 1, 1] 5 5 d d2 0 w h h2 rfl rfl (by omega)).mono ?_
 rintro e w' ⟨B, c, rfl, ho, hb⟩
 rw [ex3] at ho ⊢
 exact ⟨B, c, rfl, own_reads ho rfl, hb⟩
theorem do4 (A : Option Addr) (d : Nat) (w : World) (h : IntsAt w A [0, 1, 1, 2, 0]) : Calls Tryz.prog 17 #[.slice A 5 d] w fun e w' => ∃ B c, e = .returned (.slice B 5 c) ∧ IntsAt w' B [0, 3, 2, 1, 4] ∧ Below w.heap.size w w' := by
 refine (order_any A [0, 1, 1, 2, 0] 5 d w h rfl (by omega)).mono ?_
 rintro e w' ⟨B, c, rfl, ho, hb⟩
 rw [ex4] at ho
 exact ⟨B, c, rfl, own_reads ho rfl, hb⟩
theorem do5 (A : Option Addr) (d : Nat) (w : World) (h : IntsAt w A [1, 2, 2, 1]) : Calls Tryz.prog 17 #[.slice A 4 d] w fun e w' => ∃ B c, e = .returned (.slice B 4 c) ∧ IntsAt w' B [3, 1, 2, 0] ∧ Below w.heap.size w w' := by
 refine (order_any A [1, 2, 2, 1] 4 d w h rfl (by omega)).mono ?_
 rintro e w' ⟨B, c, rfl, ho, hb⟩
 rw [ex5] at ho
 exact ⟨B, c, rfl, own_reads ho rfl, hb⟩
theorem do6 (A : Option Addr) (d : Nat) (w : World) (h : IntsAt w A [2, 2]) : Calls Tryz.prog 17 #[.slice A 2 d] w fun e w' => ∃ B c, e = .returned (.slice B 2 c) ∧ IntsAt w' B [0, 1] ∧ Below w.heap.size w w' := by
 refine (order_any A [2, 2] 2 d w h rfl (by omega)).mono ?_
 rintro e w' ⟨B, c, rfl, ho, hb⟩
 rw [ex6] at ho
 exact ⟨B, c, rfl, own_reads ho rfl, hb⟩
set_option maxHeartbeats 4000000 in
set_option maxRecDepth 100000 in
theorem awake_any (w : World) : Calls Tryz.prog 10 #[] w fun e w' => e = .returned (.bool true) ∧ Below w.heap.size w w' := by
 have HOF := Lib.hid (fun A zs n c V hl hR hn => of_reads A zs n c V hl hR hn)
 have HSM := Lib.hid (fun A B zs c d V ha hb hn => same_ints A B zs c d V ha hb hn)
 have e7 := ex7
 have e8 := ex8
 have HS1 := Lib.hid (fun V => show Calls Tryz.prog 19 #[.int .i64 40, .int .i64 1] V fun e w' => e = .returned (.int .i64 41) ∧ Below V.heap.size V w' from by have h := shown_any 40 1 V; rw [e7] at h; exact h)
 have HS2 := Lib.hid (fun V => show Calls Tryz.prog 19 #[.int .i64 40, .int .i64 2] V fun e w' => e = .returned (.int .i64 40) ∧ Below V.heap.size V w' from by have h := shown_any 40 2 V; rw [e8] at h; exact h)
 clear e7 e8
 go_enter Tryz.func10, Tryz.ntmps10
 have HB0 := Lib.hid (Below.refl w.heap.size w)
 have hmw1 := below_made w (.cells #[.int .i64 97, .int .i64 1488, .int .i64 1489, .int .i64 49] 3)
 have HMw1 := Lib.hid (HB0.out.trans (hmw1.mono HB0.out.size))
 clear hmw1
 go_wp2_with fail
 refine (HOF.out _ [97, 1488, 1489, 49] 4 _ _ rfl (made_ints [97, 1488, 1489, 49] _ _ w rfl) (by omega)).mono ?_
 rintro e w1 ⟨Aw1, dw1, rfl, hrw1, hbw1⟩
 have HRw1 := Lib.hid hrw1
 have HBw1 := Lib.hid (HMw1.out.trans (hbw1.mono HMw1.out.size))
 clear hrw1 hbw1 HMw1 HB0
 go_wp2_with fail
 refine (do1 _ _ _ HRw1.out).mono ?_
 rintro e w2 ⟨Aw2, dw2, rfl, hiw2, hbw2⟩
 have HIw2 := Lib.hid hiw2
 have HBw2 := Lib.hid (HBw1.out.trans (hbw2.mono HBw1.out.size))
 clear hiw2 hbw2 HBw1
 have hmw3 := below_made w2 (.cells #[.int .i64 0, .int .i64 1, .int .i64 1, .int .i64 2] 3)
 have HMw3 := Lib.hid (HBw2.out.trans (hmw3.mono HBw2.out.size))
 have HJw3 := Lib.hid (HIw2.out.below hmw3)
 clear hmw3 HBw2 HIw2
 go_wp2_with fail
 refine (HSM.out _ _ [0, 1, 1, 2] _ _ _ HJw3.out (made_ints [0, 1, 1, 2] _ _ w2 rfl) (by decide)).mono ?_
 rintro e w3 ⟨rfl, hbw3⟩
 have HBw3 := Lib.hid (HMw3.out.trans (hbw3.mono HMw3.out.size))
 clear hbw3 HMw3 HJw3
 have hmw4 := below_made w3 (.cells #[.int .i64 1488, .int .i64 40, .int .i64 97, .int .i64 41] 3)
 have HMw4 := Lib.hid (HBw3.out.trans (hmw4.mono HBw3.out.size))
 clear hmw4
 go_wp2_with fail
 refine (HOF.out _ [1488, 40, 97, 41] 4 _ _ rfl (made_ints [1488, 40, 97, 41] _ _ w3 rfl) (by omega)).mono ?_
 rintro e w4 ⟨Aw4, dw4, rfl, hrw4, hbw4⟩
 have HRw4 := Lib.hid hrw4
 have HBw4 := Lib.hid (HMw4.out.trans (hbw4.mono HMw4.out.size))
 clear hrw4 hbw4 HMw4 HBw3
 go_wp2_with fail
 refine (do2 _ _ _ HRw4.out).mono ?_
 rintro e w5 ⟨Aw5, dw5, rfl, hiw5, hbw5⟩
 have HIw5 := Lib.hid hiw5
 have HBw5 := Lib.hid (HBw4.out.trans (hbw5.mono HBw4.out.size))
 clear hiw5 hbw5 HBw4
 have hmw6 := below_made w5 (.cells #[.int .i64 1, .int .i64 1, .int .i64 2, .int .i64 1] 3)
 have HMw6 := Lib.hid (HBw5.out.trans (hmw6.mono HBw5.out.size))
 have HJw6 := Lib.hid (HIw5.out.below hmw6)
 clear hmw6 HBw5 HIw5
 go_wp2_with fail
 refine (HSM.out _ _ [1, 1, 2, 1] _ _ _ HJw6.out (made_ints [1, 1, 2, 1] _ _ w5 rfl) (by decide)).mono ?_
 rintro e w6 ⟨rfl, hbw6⟩
 have HBw6 := Lib.hid (HMw6.out.trans (hbw6.mono HMw6.out.size))
 clear hbw6 HMw6 HJw6
 have hmw7 := below_made w6 (.cells #[.int .i64 97, .int .i64 32, .int .i64 9, .int .i64 1488, .int .i64 32] 3)
 have HMw7 := Lib.hid (HBw6.out.trans (hmw7.mono HBw6.out.size))
 clear hmw7
 go_wp2_with fail
 refine (HOF.out _ [97, 32, 9, 1488, 32] 5 _ _ rfl (made_ints [97, 32, 9, 1488, 32] _ _ w6 rfl) (by omega)).mono ?_
 rintro e w7 ⟨Aw7, dw7, rfl, hrw7, hbw7⟩
 have HRw7 := Lib.hid hrw7
 have HBw7 := Lib.hid (HMw7.out.trans (hbw7.mono HMw7.out.size))
 clear hrw7 hbw7 HMw7 HBw6
 have hmw8 := below_made w7 (.cells #[.int .i64 0, .int .i64 0, .int .i64 0, .int .i64 1, .int .i64 1] 3)
 have HBw8 := Lib.hid (HBw7.out.trans (hmw8.mono HBw7.out.size))
 have HRw8 := Lib.hid (HRw7.out.below hmw8)
 clear hmw8 HBw7 HRw7
 go_wp2_with fail
 refine (do3 _ _ _ _ _ HRw8.out (made_ints [0, 0, 0, 1, 1] _ _ w7 rfl)).mono ?_
 rintro e w9 ⟨Aw9, dw9, rfl, hiw9, hbw9⟩
 have HIw9 := Lib.hid hiw9
 have HBw9 := Lib.hid (HBw8.out.trans (hbw9.mono HBw8.out.size))
 clear hiw9 hbw9 HBw8
 have hmw10 := below_made w9 (.cells #[.int .i64 0, .int .i64 0, .int .i64 0, .int .i64 1, .int .i64 0] 3)
 have HMw10 := Lib.hid (HBw9.out.trans (hmw10.mono HBw9.out.size))
 have HJw10 := Lib.hid (HIw9.out.below hmw10)
 clear hmw10 HBw9 HIw9
 go_wp2_with fail
 refine (HSM.out _ _ [0, 0, 0, 1, 0] _ _ _ HJw10.out (made_ints [0, 0, 0, 1, 0] _ _ w9 rfl) (by decide)).mono ?_
 rintro e w10 ⟨rfl, hbw10⟩
 have HBw10 := Lib.hid (HMw10.out.trans (hbw10.mono HMw10.out.size))
 clear hbw10 HMw10 HJw10
 have hmw11 := below_made w10 (.cells #[.int .i64 0, .int .i64 1, .int .i64 1, .int .i64 2, .int .i64 0] 3)
 have HBw11 := Lib.hid (HBw10.out.trans (hmw11.mono HBw10.out.size))
 clear hmw11 HBw10
 go_wp2_with fail
 refine (do4 _ _ _ (made_ints [0, 1, 1, 2, 0] _ _ w10 rfl)).mono ?_
 rintro e w12 ⟨Aw12, dw12, rfl, hiw12, hbw12⟩
 have HIw12 := Lib.hid hiw12
 have HBw12 := Lib.hid (HBw11.out.trans (hbw12.mono HBw11.out.size))
 clear hiw12 hbw12 HBw11
 have hmw13 := below_made w12 (.cells #[.int .i64 0, .int .i64 3, .int .i64 2, .int .i64 1, .int .i64 4] 3)
 have HMw13 := Lib.hid (HBw12.out.trans (hmw13.mono HBw12.out.size))
 have HJw13 := Lib.hid (HIw12.out.below hmw13)
 clear hmw13 HBw12 HIw12
 go_wp2_with fail
 refine (HSM.out _ _ [0, 3, 2, 1, 4] _ _ _ HJw13.out (made_ints [0, 3, 2, 1, 4] _ _ w12 rfl) (by decide)).mono ?_
 rintro e w13 ⟨rfl, hbw13⟩
 have HBw13 := Lib.hid (HMw13.out.trans (hbw13.mono HMw13.out.size))
 clear hbw13 HMw13 HJw13
 have hmw14 := below_made w13 (.cells #[.int .i64 1, .int .i64 2, .int .i64 2, .int .i64 1] 3)
 have HBw14 := Lib.hid (HBw13.out.trans (hmw14.mono HBw13.out.size))
 clear hmw14 HBw13
 go_wp2_with fail
 refine (do5 _ _ _ (made_ints [1, 2, 2, 1] _ _ w13 rfl)).mono ?_
 rintro e w15 ⟨Aw15, dw15, rfl, hiw15, hbw15⟩
 have HIw15 := Lib.hid hiw15
 have HBw15 := Lib.hid (HBw14.out.trans (hbw15.mono HBw14.out.size))
 clear hiw15 hbw15 HBw14
 have hmw16 := below_made w15 (.cells #[.int .i64 3, .int .i64 1, .int .i64 2, .int .i64 0] 3)
 have HMw16 := Lib.hid (HBw15.out.trans (hmw16.mono HBw15.out.size))
 have HJw16 := Lib.hid (HIw15.out.below hmw16)
 clear hmw16 HBw15 HIw15
 go_wp2_with fail
 refine (HSM.out _ _ [3, 1, 2, 0] _ _ _ HJw16.out (made_ints [3, 1, 2, 0] _ _ w15 rfl) (by decide)).mono ?_
 rintro e w16 ⟨rfl, hbw16⟩
 have HBw16 := Lib.hid (HMw16.out.trans (hbw16.mono HMw16.out.size))
 clear hbw16 HMw16 HJw16
 have hmw17 := below_made w16 (.cells #[.int .i64 2, .int .i64 2] 3)
 have HBw17 := Lib.hid (HBw16.out.trans (hmw17.mono HBw16.out.size))
 clear hmw17 HBw16
 go_wp2_with fail
 refine (do6 _ _ _ (made_ints [2, 2] _ _ w16 rfl)).mono ?_
 rintro e w18 ⟨Aw18, dw18, rfl, hiw18, hbw18⟩
 have HIw18 := Lib.hid hiw18
 have HBw18 := Lib.hid (HBw17.out.trans (hbw18.mono HBw17.out.size))
 clear hiw18 hbw18 HBw17
 have hmw19 := below_made w18 (.cells #[.int .i64 0, .int .i64 1] 3)
 have HMw19 := Lib.hid (HBw18.out.trans (hmw19.mono HBw18.out.size))
 have HJw19 := Lib.hid (HIw18.out.below hmw19)
 clear hmw19 HBw18 HIw18
 go_wp2_with fail
 refine (HSM.out _ _ [0, 1] _ _ _ HJw19.out (made_ints [0, 1] _ _ w18 rfl) (by decide)).mono ?_
 rintro e w19 ⟨rfl, hbw19⟩
 have HBw19 := Lib.hid (HMw19.out.trans (hbw19.mono HMw19.out.size))
 clear hbw19 HMw19 HJw19
 go_wp2_with fail
 refine (HS1.out _).mono ?_
 rintro e w20 ⟨rfl, hbw20⟩
 have HBw20 := Lib.hid (HBw19.out.trans (hbw20.mono HBw19.out.size))
 clear hbw20 HBw19
 go_wp2_with fail
 refine (HS2.out _).mono ?_
 rintro e w21 ⟨rfl, hbw21⟩
 have HBw21 := Lib.hid (HBw20.out.trans (hbw21.mono HBw20.out.size))
 clear hbw21 HBw20
 go_wp2_with fail
 go_ret
 exact ⟨rfl, HBw21.out⟩
end Go.Proofs.YtfclpecbnailgaaGreat.Bi

/-
 A lemma for every statement of the form 'the call returns true and each argument reads as before': a call that leaves all old memory as it was meets the statement's conclusion.
-/
namespace Go.Proofs.YtfclpecbnailgaaGreat
open Go.ChangeShapes Go.WideShapes Go.ChangeAt Go.RowKit
theorem law_own : ownKnob Tryz.prog.godebug = none := by kernel_rfl
theorem law_laidOut : laidOutB Tryz.prog = true := by kernel_rfl
def rowed (P : Program) (ts : List TypeId) : Bool := ts.all fun t => P.readableRec t && decide (t < P.types.size)
theorem below_trodAll {H : Type} {enc : TypeId × Value → H} {P : Program} (hl : laidOutB P = true) {W W' : World} (hb : Below W.heap.size W W') :
  ∀ (ts : List TypeId) (vs : List Value) (ds : List (DataW H)) (ps : List MemPlace), rowed P ts = true → DataW.TrodAll enc P W 0 (fun _ => true) true ts vs ds ps → (∀ x ∈ ps, x.block < W.heap.size) →
   DataW.TrodAll enc P W' 0 (fun b => decide (b < W.heap.size)) true ts vs ds ps
 | [], [], [], _, _, h, _ => h
 | [], _ :: _, _, _, _, h, _ => h.elim
 | [], [], _ :: _, _, _, h, _ => h.elim
 | _ :: _, [], _, _, _, h, _ => h.elim
 | _ :: _, _ :: _, [], _, _, h, _ => h.elim
 | t :: ts, v :: vs, d :: ds, ps, hr, h, hlt => by
  obtain ⟨p, q, h1, h2, rfl⟩ := h
  simp only [rowed, List.all_cons, Bool.and_eq_true, decide_eq_true_eq] at hr
  exact ⟨p, q, Below.trod hl hr.1.1 hr.1.2 h1 hb (fun x hx => hlt x (List.mem_append_left _ hx)), below_trodAll hl hb ts vs ds q hr.2 h2 (fun x hx => hlt x (List.mem_append_right _ hx)), rfl⟩
theorem law_post {H : Type} {enc : TypeId × Value → H} {f : Func} {s : ChangeSpec} {W W' : World} {args : Array Value} {ds gs : List (DataW H)} {before : List MemPlace}
  (hW : DataW.Whole enc Tryz.prog f.params.toList s.vars false W args.toList ds gs before) (hv : s.vars = []) (hres : f.resultTypes = #[4]) (hrow : rowed Tryz.prog f.params.toList = true)
  (hfn : s.fn H (ds ++ gs) = { results := [.lit (.bool true)], args := ds }) (hB : Below W.heap.size W W') :
  s.post enc Tryz.prog f false true false false W args (.bool true) W' := by
 have hW' := hW
 obtain ⟨p, q, hA, hV, rfl, _, _⟩ := hW
 rw [hv] at hV
 obtain ⟨rfl, rfl⟩ := trodVars_none hV
 have hlt : ∀ x ∈ p, x.block < W.heap.size := fun x hx => hW'.lt x (List.mem_append_left _ hx)
 refine ⟨ds, [], p ++ [], [], p, [], hW', ?_, ?_, ?_, hB.frame _, fun h => by cases h⟩
 ·rw [hfn, hres]
  exact trodAll_mk1 (shut_bool Tryz.underlying4 true)
 ·rw [hfn]
  exact below_trodAll law_laidOut hB _ _ _ _ hrow hA hlt
 ·rw [hfn, hv]
  rfl
end Go.Proofs.YtfclpecbnailgaaGreat

/-
 Small facts that the statements of layer 16 share.
-/
set_option linter.unusedVariables false
namespace Go.Proofs.YtfclpecbnailgaaGreat.Bi
open Go Go.RowKit Go.Lib Go.Proofs.YtfclpecbnailgaaGreat.Cl Go.Proofs.YtfclpecbnailgaaGreat.Rc
theorem bt {w a b : World} (h : Below w.heap.size w a) (k : Below a.heap.size a b) : Below w.heap.size w b := h.trans (k.mono h.size)
theorem same_n (A B : Option Addr) (zs : List Int) (n c d : Nat) (w : World) (hl : zs.length = n) (ha : IntsAt w A zs) (hb : IntsAt w B zs) (hn : n ≤ 1099511627776) :
  Calls Tryz.prog 11 #[.slice A n c, .slice B n d] w fun e w' => e = .returned (.bool true) ∧ Below w.heap.size w w' := by
 subst hl
 exact same_ints A B zs c d w ha hb hn
theorem resZ_le (c codes : List Int) (x : Int) : (resZ c codes x).length ≤ c.length := by
 unfold resZ
 split
 ·rw [res_len]; exact Nat.le_refl _
 ·split
  ·rw [res_len]; exact Nat.le_refl _
  ·exact Nat.zero_le _
end Go.Proofs.YtfclpecbnailgaaGreat.Bi

/-
 Proved here: what the document's own State.Top, Next, Fits, Without, With return, for what is open in memory; they leave what was in memory. Condition: what is open is as it may be.
-/
set_option linter.unusedVariables false
namespace Go.Proofs.YtfclpecbnailgaaGreat.Lv
open Go Go.RowKit Go.Lib Go.Proofs.YtfclpecbnailgaaGreat.Cl
def inI (e : E) : Int := if e.iso = true then 1 else 0
def nC (e : E) : List Value := [.int .i64 e.lev, .int .i64 e.ov, .int .i64 (inI e)]
/-- The cells of a State's row. -/
def nsC : List E → List Value
 | [] => []
 | e :: r => nsC r ++ nC e
theorem nsC_len : ∀ (es : List E), (nsC es).length = es.length * 3
 | [] => rfl
 | e :: r => by simp [nsC, nC, nsC_len r]; omega
theorem nsC_last (e : E) (r : List E) : (nsC (e :: r))[r.length * 3]? = some (.int .i64 e.lev) ∧ (nsC (e :: r))[r.length * 3 + 1]? = some (.int .i64 e.ov) ∧ (nsC (e :: r))[r.length * 3 + 2]? = some (.int .i64 (inI e)) := by
 have h := nsC_len r
 refine ⟨?_, ?_, ?_⟩
 ·rw [nsC, List.getElem?_append_right (by omega), h, Nat.sub_self]; rfl
 ·rw [nsC, List.getElem?_append_right (by omega), h, Nat.add_sub_cancel_left]; rfl
 ·rw [nsC, List.getElem?_append_right (by omega), h, Nat.add_sub_cancel_left]; rfl
theorem nsC_one : ∀ (es : List E), ∀ u ∈ nsC es, u.oneCell' = true
 | [], u, hu => by cases hu
 | e :: r, u, hu => by
  rcases List.mem_append.1 hu with h | h
  ·exact nsC_one r u h
  ·simp only [nC, List.mem_cons, List.not_mem_nil, or_false] at h
   rcases h with rfl | rfl | rfl <;> rfl
/-- A State's row lies at block g, with room c. -/
def NsAt (w : World) (g c : Nat) (es : List E) : Prop := g < w.heap.size ∧ es.length ≤ c ∧ (∀ j u, (nsC es)[j]? = some u → w.cell? ⟨g, j, none⟩ = some u) ∧ ∃ cs, w.heap[g]? = some (.cells cs 80 (0, 0))
theorem NsAt.below {w w' : World} {g c : Nat} {es : List E} (h : NsAt w g c es) (hb : Below w.heap.size w w') : NsAt w' g c es :=
 ⟨Nat.lt_of_lt_of_le h.1 hb.size, h.2.1, fun j u hu => (hb.cell (p := ⟨g, j, none⟩) h.1).trans (h.2.2.1 j u hu), by obtain ⟨cs, hcs⟩ := h.2.2.2; exact ⟨cs, (hb.block g h.1).trans hcs⟩⟩
theorem NsAt.store {w : World} {g c : Nat} {es : List E} (h : NsAt w g c es) {a : Addr} (ha : g ≠ a.block) (u : Value) : NsAt (w.setCell a u) g c es :=
 ⟨by simpa using h.1, h.2.1, fun j u hu => (World.cell?_of_block (w := w) (a := ⟨g, j, none⟩) (Below.heap_setCell _ _ _ _ ha)).trans (h.2.2.1 j u hu), by obtain ⟨cs, hcs⟩ := h.2.2.2; exact ⟨cs, (Below.heap_setCell _ _ _ _ ha).trans hcs⟩⟩
theorem NsAt.last {w : World} {g c n : Nat} {e : E} {r : List E} (h : NsAt w g c (e :: r)) (hn : r.length = n) : w.cell? ⟨g, n * 3, none⟩ = some (.int .i64 e.lev) ∧ w.cell? ⟨g, n * 3 + 1, none⟩ = some (.int .i64 e.ov) ∧ w.cell? ⟨g, n * 3 + 2, none⟩ = some (.int .i64 (inI e)) := by
 subst hn
 obtain ⟨h0, h1, h2⟩ := nsC_last e r
 exact ⟨h.2.2.1 _ _ h0, h.2.2.1 _ _ h1, h.2.2.1 _ _ h2⟩
theorem NsAt.off {w : World} {g c : Nat} {e : E} {r : List E} (h : NsAt w g c (e :: r)) : NsAt w g c r := by
 refine ⟨h.1, by have := h.2.1; simp at this; omega, fun j u hu => h.2.2.1 j u ?_, h.2.2.2⟩
 obtain ⟨hj, -⟩ := List.getElem?_eq_some_iff.1 hu
 rw [nsC, List.getElem?_append_left hj]
 exact hu
theorem nsAt_own {w : World} {B : Nat} {v : Value} {n : Nat} {es : List E} (h : w.ownsRow B 80 3 v n (nsC es)) (hn : es.length = n) (h0 : 0 < n) : ∃ g c, v = .slice (some ⟨g, 0, none⟩) n c ∧ NsAt w g c es ∧ B ≤ g := by
 subst hn
 obtain ⟨g, c, rfl, hg, hl⟩ := h.form h0
 refine ⟨g, c, rfl, ⟨hl, ?_, fun j u hu => ?_, ?_⟩, hg⟩
 ·rcases h.2 with ⟨h1, _⟩ | ⟨g1, c1, cur, hv, _, _, hle, _⟩
  ·cases h1
  ·cases hv; exact hle
 ·have := h.cells (g := g) rfl j u hu
  have hadd : (⟨g, 0, none⟩ : Addr).add j = ⟨g, 0 + j, none⟩ := by unfold Addr.add; split <;> simp_all
  rw [hadd, Nat.zero_add] at this
  exact this
 ·rcases h.2 with ⟨h1, _⟩ | ⟨g1, c1, cur, hv, _, hh, _⟩
  ·cases h1
  ·cases hv; exact ⟨cur, hh⟩
/-- A row of numbers is none of a State's. -/
theorem NsAt.ints {w : World} {g c base n : Nat} {es : List E} {v : Value} {xs : List Value} (h : NsAt w g c es) (ho : w.ownsRow base 3 1 v n xs) : v.ownBlock ≠ some g := by
 intro he
 obtain ⟨cs, hcs⟩ := h.2.2.2
 rcases ho.2 with ⟨rfl, _⟩ | ⟨g1, c1, cur, rfl, _, hh, _⟩
 ·cases he
 ·have he2 : some g1 = some g := he
  injection he2 with he2
  subst he2
  rw [hcs] at hh
  injection hh with hh
  injection hh with _ hh _
  exact absurd hh (by decide)
theorem infoN : (Tryz.prog.info? 80).map (·.size) = some 3 := by kernel_rfl
theorem infoN3 : (Tryz.prog.info? 80).map (fun i => (i.zero, i.size, i.bytes)) = some (some (.agg #[.int .i64 0, .int .i64 0, .int .i64 0]), 3, 24) := by kernel_rfl
theorem infoS : (Tryz.prog.info? 83).map (·.size) = some 4 := by kernel_rfl
theorem cell_at (w : World) (o : Obj) {k : Nat} (j : Nat) (h : k < w.heap.size) : (w.alloc o).cell? ⟨k, j, none⟩ = w.cell? ⟨k, j, none⟩ := World.cell?_of_block (w := w) (Below.heap_alloc w o k h)
/-- Two new variables. -/
theorem two_new (w : World) (o1 o2 : Obj) : ((w.alloc o1).alloc o2).heap[w.heap.size]? = some o1 ∧ ((w.alloc o1).alloc o2).heap[w.heap.size + 1]? = some o2 ∧ Below w.heap.size w ((w.alloc o1).alloc o2) ∧ ((w.alloc o1).alloc o2).heap.size = w.heap.size + 2 := by
 have s1 : (w.alloc o1).heap.size = w.heap.size + 1 := by simp
 refine ⟨(Below.heap_alloc _ _ _ (by simp)).trans (heap_alloc_last _ _), ?_, ((Below.refl _ _).alloc (Nat.le_refl _) _).alloc (by simp) _, by simp⟩
 have := heap_alloc_last (w.alloc o1) o2
 rw [s1] at this
 exact this
set_option maxHeartbeats 1000000 in
set_option maxRecDepth 100000 in
theorem nTop_any (g c n : Nat) (e : E) (r : List E) (x1 x2 x3 : Int) (w : World) (hO : NsAt w g c (e :: r)) (hn : r.length = n) (hr : n ≤ 1000) :
  Calls Tryz.prog 62 #[.agg #[.slice (some ⟨g, 0, none⟩) (n + 1) c, .int .i64 x1, .int .i64 x2, .int .i64 x3]] w fun x w' => x = .returned (.agg #[.int .i64 e.lev, .int .i64 e.ov, .int .i64 (inI e)]) ∧ Below w.heap.size w w' := by
 obtain ⟨k0, k1, k2⟩ := hO.last hn
 have hg := hO.1
 have HI := Lib.hid infoN
 obtain ⟨o1, ho1⟩ : ∃ o, (Obj.cells #[.slice (some ⟨g, 0, none⟩) (n + 1) c, .int .i64 x1, .int .i64 x2, .int .i64 x3] 83 (0, 0)) = o := ⟨_, rfl⟩
 obtain ⟨o2, ho2⟩ : ∃ o, (Obj.cells #[.int .i64 0, .int .i64 0, .int .i64 0] 80 (0, 0)) = o := ⟨_, rfl⟩
 have hg1 : g < (w.alloc o1).heap.size := by simp; omega
 have q0 := (cell_at _ o2 (n * 3) hg1).trans ((cell_at w o1 (n * 3) hg).trans k0)
 have q1 := (cell_at _ o2 (n * 3 + 1) hg1).trans ((cell_at w o1 (n * 3 + 1) hg).trans k1)
 have q2 := (cell_at _ o2 (n * 3 + 2) hg1).trans ((cell_at w o1 (n * 3 + 2) hg).trans k2)
 subst ho1 ho2
 clear hO k0 k1 k2 hg1 hg hn
 generalize inI e = ii at *
 obtain ⟨lev, ov, iso⟩ := e
 simp only at *
 go_enter Tryz.func62, Tryz.ntmps62
 go_wp2_with fail
 refine bodyPost_ret (results_cell_row Tryz.results62 _ _ (w.heap.size + 1) 80 _ (0, 0) _ rfl (two_new w _ _).2.1 Tryz.underlying80 rfl HI.out) rfl ?_
 exact ⟨rfl, (two_new w _ _).2.2.1⟩
theorem fits_cons (o : Nat) (e : E) (r : List E) (li ld op : Nat) : fits o ⟨e :: r, li, ld, op⟩ = (decide (nxt o e.lev ≤ 125) && (decide (li = 0) && decide (ld = 0))) := rfl
theorem field_lev (x0 x1 x2 : Int) (w : World) : (Instr.field 80 (.agg #[.int .i64 x0, .int .i64 x1, .int .i64 x2]) 0).run Tryz.prog w = .ok (.int .i64 x0) w := by kernel_rfl
theorem field_in (x0 x1 x2 : Int) (w : World) : (Instr.field 80 (.agg #[.int .i64 x0, .int .i64 x1, .int .i64 x2]) 2).run Tryz.prog w = .ok (.int .i64 x2) w := by kernel_rfl
theorem nat_tmod2 (k : Nat) : Int.tmod (k : Int) 2 = ((k % 2 : Nat) : Int) := by
 rw [Int.tmod_eq_emod_of_nonneg (by omega)]
 omega
set_option maxHeartbeats 1000000 in
set_option maxRecDepth 100000 in
theorem nNext_any (o g c n : Nat) (e : E) (r : List E) (x1 x2 x3 : Int) (w : World) (ho : o ≤ 1) (hO : NsAt w g c (e :: r)) (hn : r.length = n) (hr : n ≤ 1000) (hl : e.lev ≤ 125) :
  Calls Tryz.prog 150 #[.agg #[.slice (some ⟨g, 0, none⟩) (n + 1) c, .int .i64 x1, .int .i64 x2, .int .i64 x3], .int .i64 o] w fun x w' => x = .returned (.int .i64 (nxt o e.lev)) ∧ Below w.heap.size w w' := by
 have HT := Lib.hid (fun W (h : Below w.heap.size w W) => nTop_any g c n e r x1 x2 x3 W (hO.below h) hn hr)
 have hf := fun W => field_lev e.lev e.ov (inI e) W
 clear hO hn
 generalize inI e = ii at *
 obtain ⟨lev, ov, iso⟩ := e
 simp only at *
 obtain ⟨x, hx⟩ : ∃ x, nxt o lev = x := ⟨_, rfl⟩
 rw [hx]
 have HX := Lib.hid hx
 clear hx
 go_enter Tryz.func150, Tryz.ntmps150
 go_wp2_with fail
 refine (HT.out _ ((Below.refl _ _).alloc (Nat.le_refl _) _)).mono ?_
 rintro y w1 ⟨rfl, hb1⟩
 have HB := Lib.hid (((Below.refl w.heap.size w).alloc (Nat.le_refl _) _).trans (hb1.mono (by simp)))
 clear HT hb1
 go_wp2_with fail
 go_loop [5] (fun s5 => ∃ k : Nat, s5 = .int .i64 k ∧ (k = lev + 1 ∨ (k = lev + 2 ∧ (lev + 1) % 2 ≠ o))) (fun s5 => lev + 3 - (RowKit.intOf s5).toNat)
 case atStart => exact ⟨lev + 1, by go_num, .inl rfl⟩
 case round =>
  obtain ⟨k, rfl, hk⟩ := hrel
  have hm := nat_tmod2 k
  by_cases hko : k % 2 = o
  ·have kt : (((k % 2 : Nat) : Int) != (o : Int)) = false := by rw [hko]; simp
   have hxk : x = k := by
    have hx := HX.out
    unfold nxt at hx
    rcases hk with h | ⟨h, h2⟩
    ·rw [if_pos (by rw [← h]; exact hko)] at hx
     omega
    ·rw [if_neg h2] at hx
     omega
   subst hxk
   clear hk hko HX
   go_wp2
   go_ret
   exact ⟨rfl, HB.out⟩
  ·have kt : (((k % 2 : Nat) : Int) != (o : Int)) = true := by simp; omega
   have hk2 : k = lev + 1 ∧ (lev + 1) % 2 ≠ o := by
    rcases hk with h | ⟨h, h2⟩
    ·exact ⟨h, by rw [← h]; exact hko⟩
    ·omega
   have HK := Lib.hid hk2
   clear hk hko
   have hk63 : k ≤ 126 := by omega
   clear hk2
   go_wp2
   go_round
   case measure => have := HK.out.1; simp [RowKit.intOf]; omega
   case rel => exact ⟨k + 1, by go_num, .inr ⟨by have := HK.out.1; omega, HK.out.2⟩⟩
set_option maxHeartbeats 1000000 in
set_option maxRecDepth 100000 in
theorem nFits_any (o g c n : Nat) (e : E) (r : List E) (li ld op : Nat) (w : World) (ho : o ≤ 1) (hO : NsAt w g c (e :: r)) (hn : r.length = n) (hr : n ≤ 1000) (hl : e.lev ≤ 125) (h1 : li ≤ 1099511627776) (h2 : ld ≤ 1099511627776) :
  Calls Tryz.prog 148 #[.agg #[.slice (some ⟨g, 0, none⟩) (n + 1) c, .int .i64 li, .int .i64 ld, .int .i64 op], .int .i64 o] w fun x w' => x = .returned (.bool (fits o ⟨e :: r, li, ld, op⟩)) ∧ Below w.heap.size w w' := by
 have HN := Lib.hid (fun W (h : Below w.heap.size w W) => nNext_any o g c n e r li ld op W ho (hO.below h) hn hr hl)
 have hnl : nxt o e.lev ≤ 127 := by unfold nxt; split <;> omega
 rw [fits_cons]
 obtain ⟨q, hqq⟩ : ∃ q, nxt o e.lev = q := ⟨_, rfl⟩
 rw [hqq] at HN hnl ⊢
 clear hO hn hqq
 by_cases hq : q ≤ 125
 ·have kq : decide ((q : Int) ≤ 125) = true := by simp; omega
  rw [show decide (q ≤ 125) = true from by simpa using hq]
  by_cases hz : li + ld = 0
  ·obtain ⟨rfl, rfl⟩ : li = 0 ∧ ld = 0 := by omega
   go_enter Tryz.func148, Tryz.ntmps148
   go_wp2_with fail
   refine (HN.out _ ((Below.refl _ _).alloc (Nat.le_refl _) _)).mono ?_
   rintro y w1 ⟨rfl, hb1⟩
   have hB1 := hb1.mono (B' := w.heap.size) (by simp)
   have e1 := (hb1.block w.heap.size (by simp)).trans (heap_alloc_last w _)
   obtain ⟨⟨-, c1, c2, -⟩, -⟩ := four e1
   have HB := Lib.hid (((Below.refl w.heap.size w).alloc (Nat.le_refl _) _).trans hB1)
   clear hb1 hB1 e1
   go_wp2
   go_ret
   exact ⟨rfl, HB.out⟩
  ·have kz : (((li : Int) + (ld : Int)) == 0) = false := by simp; omega
   rw [show (decide (li = 0) && decide (ld = 0)) = false from by simp; omega]
   have h12 : li + ld ≤ 2199023255552 := by omega
   go_enter Tryz.func148, Tryz.ntmps148
   go_wp2_with fail
   refine (HN.out _ ((Below.refl _ _).alloc (Nat.le_refl _) _)).mono ?_
   rintro y w1 ⟨rfl, hb1⟩
   have hB1 := hb1.mono (B' := w.heap.size) (by simp)
   have e1 := (hb1.block w.heap.size (by simp)).trans (heap_alloc_last w _)
   obtain ⟨⟨-, c1, c2, -⟩, -⟩ := four e1
   have HB := Lib.hid (((Below.refl w.heap.size w).alloc (Nat.le_refl _) _).trans hB1)
   clear hb1 hB1 e1
   go_wp2
   go_ret
   exact ⟨rfl, HB.out⟩
 ·have kq : decide ((q : Int) ≤ 125) = false := by simp; omega
  rw [show decide (q ≤ 125) = false from by simpa using hq]
  go_enter Tryz.func148, Tryz.ntmps148
  go_wp2_with fail
  refine (HN.out _ ((Below.refl _ _).alloc (Nat.le_refl _) _)).mono ?_
  rintro y w1 ⟨rfl, hb1⟩
  have HB := Lib.hid (((Below.refl w.heap.size w).alloc (Nat.le_refl _) _).trans (hb1.mono (by simp)))
  clear hb1
  go_wp2
  go_ret
  exact ⟨rfl, HB.out⟩
end Go.Proofs.YtfclpecbnailgaaGreat.Lv

/-
  Proved here: what the document's own State.With, Without return, for what is open in memory; they leave what was in memory. Condition: what is open is as it may be.
-/
set_option linter.unusedVariables false
namespace Go.Proofs.YtfclpecbnailgaaGreat.Lv
open Go Go.RowKit Go.Lib Go.Proofs.YtfclpecbnailgaaGreat.Cl
/-- Three new variables. -/
theorem three_vars (w : World) (o1 o2 o3 : Obj) : (((w.alloc o1).alloc o2).alloc o3).heap[w.heap.size]? = some o1 ∧ (((w.alloc o1).alloc o2).alloc o3).heap[w.heap.size + 1]? = some o2 ∧ (((w.alloc o1).alloc o2).alloc o3).heap[w.heap.size + 1 + 1]? = some o3 ∧ Below w.heap.size w (((w.alloc o1).alloc o2).alloc o3) ∧ (((w.alloc o1).alloc o2).alloc o3).heap.size = w.heap.size + 1 + 1 + 1 := by
  have s1 : (w.alloc o1).heap.size = w.heap.size + 1 := by simp
  have s2 : ((w.alloc o1).alloc o2).heap.size = w.heap.size + 1 + 1 := by simp
  have b1 : Below (w.alloc o1).heap.size (w.alloc o1) (((w.alloc o1).alloc o2).alloc o3) := ((Below.refl _ _).alloc (Nat.le_refl _) _).alloc (by simp) _
  have b2 : Below ((w.alloc o1).alloc o2).heap.size ((w.alloc o1).alloc o2) (((w.alloc o1).alloc o2).alloc o3) := (Below.refl _ _).alloc (Nat.le_refl _) _
  refine ⟨(b1.block _ (by simp)).trans (heap_alloc_last _ _), ?_, ?_, (((Below.refl _ _).alloc (Nat.le_refl _) _).alloc (by simp) _).alloc (by simp; omega) _, by simp⟩
  · have := heap_alloc_last (w.alloc o1) o2
    rw [s1] at this
    exact (b2.block _ (by rw [s2]; omega)).trans this
  · have := heap_alloc_last ((w.alloc o1).alloc o2) o3
    rw [s2] at this
    exact this
theorem news_kept {W w3 : World} {row : Option Nat} (hg : W.grownBy w3 row) {ad : Addr} {news : List Value} (hc : ∀ j u, news[j]? = some u → W.cell? (ad.add j) = some u) (hlt : ad.block < W.heap.size) (hne : some ad.block ≠ row) : ∀ j u, news[j]? = some u → w3.cell? (ad.add j) = some u := by
  intro j u hu
  rw [← hc j u hu]
  have : (ad.add j).block = ad.block := by unfold Addr.add; split <;> rfl
  exact World.cell?_of_block (w := W) (by rw [this]; exact hg.block _ hlt hne)
theorem then_to {K K1 : Act → World → Prop} {Q : Exit → Act → World → Prop} (h : ∀ a w, K1 a w → K a w) : ∀ e a w, Exit.then K1 Q e a w → Exit.then K Q e a w := by
  intro e a w
  cases e <;> first | exact h a w | exact id
theorem row_other {w : World} {B g c : Nat} {t : TypeId} {sz n : Nat} {xs : List Value} (h : w.ownsRow B t sz (.slice (some ⟨g, 0, none⟩) n c) n xs) {a : Addr} (ha : g ≠ a.block) (u : Value) : (w.setCell a u).ownsRow B t sz (.slice (some ⟨g, 0, none⟩) n c) n xs :=
  ownsRow_setCell_other h (fun e => ha (by have e2 : some g = some a.block := e; injection e2)) u
theorem made_own (U : World) (T : TypeId) (base : Nat) (hb : base ≤ U.heap.size) : (U.alloc (.cells #[] T)).ownsRow base T 3 (.slice (some ⟨U.heap.size, 0, none⟩) 0 0) 0 [] := World.ownsRow_made U #[] 0 hb (Nat.zero_le _) rfl
theorem made_at (U : World) (T : TypeId) (base k : Nat) (hk : U.heap.size = k) (hb : base ≤ k := by omega) : (U.alloc (.cells #[] T)).ownsRow base T 3 (.slice (some ⟨k, 0, none⟩) 0 0) 0 [] := by
  subst hk
  exact made_own U T base hb
theorem ns_news {w : World} {g c : Nat} {es : List E} {ad : Addr} (had : some ⟨g, 0, none⟩ = some ad) (h : NsAt w g c es) : ∀ j u, (nsC es)[j]? = some u → w.cell? (ad.add j) = some u := by
  injection had with had
  subst had
  intro j u hu
  rw [show (⟨g, 0, none⟩ : Addr).add j = ⟨g, j, none⟩ from by unfold Addr.add; split <;> simp_all]
  exact h.2.2.1 j u hu
theorem new_cells (U : World) (T : TypeId) (u0 u1 u2 : Value) : ∀ j u, [u0, u1, u2][j]? = some u → (U.alloc (.cells #[u0, u1, u2] T)).cell? ((⟨U.heap.size, 0, none⟩ : Addr).add j) = some u := cells_made U #[u0, u1, u2] T [u0, u1, u2] rfl _ rfl
theorem cells_past {U : World} {ad : Addr} {news : List Value} (o : Obj) (hc : ∀ j u, news[j]? = some u → U.cell? (ad.add j) = some u) (hlt : ad.block < U.heap.size) : ∀ j u, news[j]? = some u → (U.alloc o).cell? (ad.add j) = some u := by
  intro j u hu
  rw [← hc j u hu]
  have : (ad.add j).block = ad.block := by unfold Addr.add; split <;> rfl
  exact World.cell?_of_block (w := U) (Below.heap_alloc _ _ _ (by rw [this]; exact hlt))
set_option maxHeartbeats 4000000 in
set_option maxRecDepth 100000 in
theorem nWith_any (g c n : Nat) (es : List E) (x0 x1 x2 li ld op : Int) (w : World) (hO : NsAt w g c es) (hn : es.length = n) (h0 : 0 < n) (hr : n ≤ 1000) :
    Calls Tryz.prog 149 #[.agg #[.slice (some ⟨g, 0, none⟩) n c, .int .i64 li, .int .i64 ld, .int .i64 op], .agg #[.int .i64 x0, .int .i64 x1, .int .i64 x2]] w fun x w' =>
      ∃ g' c', x = .returned (.agg #[.slice (some ⟨g', 0, none⟩) (n + 1) c', .int .i64 li, .int .i64 ld, .int .i64 op]) ∧ w'.ownsRow w.heap.size 80 3 (.slice (some ⟨g', 0, none⟩) (n + 1) c') (n + 1) (nsC es ++ [.int .i64 x0, .int .i64 x1, .int .i64 x2]) ∧ Below w.heap.size w w' := by
  obtain ⟨i0, hi, hz0, hz1, hz2⟩ := Cl.info_parts infoN3
  have hg := hO.1
  have HI := Lib.hid infoS
  go_enter Tryz.func149, Tryz.ntmps149
  go_wp2_with fail
  obtain ⟨e0, e1, e2, hbV, hsV⟩ := three_vars w (.cells #[.slice (some ⟨g, 0, none⟩) n c, .int .i64 li, .int .i64 ld, .int .i64 op] 83) (.cells #[.int .i64 x0, .int .i64 x1, .int .i64 x2] 80) (.cells #[.slice none 0 0, .int .i64 0, .int .i64 0, .int .i64 0] 83)
  generalize (((w.alloc (.cells #[.slice (some ⟨g, 0, none⟩) n c, .int .i64 li, .int .i64 ld, .int .i64 op] 83)).alloc (.cells #[.int .i64 x0, .int .i64 x1, .int .i64 x2] 80)).alloc (.cells #[.slice none 0 0, .int .i64 0, .int .i64 0, .int .i64 0] 83)) = V at *
  generalize hH : w.heap.size = h at *
  have hltg : g < V.heap.size := by omega
  have lt0 : h < V.heap.size := by omega
  have lt1 : h + 1 < V.heap.size := by omega
  obtain ⟨⟨s0, -, -, -⟩, -⟩ := four e0
  obtain ⟨⟨t0, t1, t2⟩, -⟩ := three e1
  have s0' : ∀ o, (V.alloc o).cell? ⟨h, 0, none⟩ = _ := fun o => (cell_at V o 0 lt0).trans s0
  have s0'' : ∀ o o', ((V.alloc o).alloc o').cell? ⟨h, 0, none⟩ = _ := fun o o' => (cell_at (V.alloc o) o' 0 (by simp; omega)).trans (s0' o)
  have t0' : ∀ o, (V.alloc o).cell? ⟨h + 1, 0, none⟩ = _ := fun o => (cell_at V o 0 lt1).trans t0
  have t1' : ∀ o, (V.alloc o).cell? ⟨h + 1, 1, none⟩ = _ := fun o => (cell_at V o 1 lt1).trans t1
  have t2' : ∀ o, (V.alloc o).cell? ⟨h + 1, 2, none⟩ = _ := fun o => (cell_at V o 2 lt1).trans t2
  have HNV := Lib.hid (show ∀ j u, (nsC es)[j]? = some u → V.cell? ((⟨g, 0, none⟩ : Addr).add j) = some u from fun j u hu => by
    rw [show (⟨g, 0, none⟩ : Addr).add j = ⟨g, j, none⟩ from by unfold Addr.add; split <;> simp_all]
    exact (hbV.cell (p := ⟨g, j, none⟩) hg).trans (hO.2.2.1 j u hu))
  have HLEN := Lib.hid (show (nsC es).length = n * 3 by rw [nsC_len, hn])
  have H0 := Lib.hid e0
  have H1 := Lib.hid e1
  have H2 := Lib.hid e2
  have HB := Lib.hid hbV
  obtain ⟨E0, hE0⟩ : ∃ o, (Obj.cells #[] 80 (0, 0)) = o := ⟨_, rfl⟩
  obtain ⟨E1, hE1⟩ : ∃ o, (Obj.cells #[.int .i64 x0, .int .i64 x1, .int .i64 x2] 80 (0, 0)) = o := ⟨_, rfl⟩
  have sA : (V.alloc E0).heap.size = h + 1 + 1 + 1 + 1 := by simp [hsV]
  have sC : (V.alloc E1).heap.size = h + 1 + 1 + 1 + 1 := by simp [hsV]
  have mA : (V.alloc E0).ownsRow (h + 1 + 1 + 1) 80 3 (.slice (some ⟨h + 1 + 1 + 1, 0, none⟩) 0 0) 0 [] := by
    have := made_own V 80 (h + 1 + 1 + 1) (by omega)
    rw [hsV, hE0] at this
    exact this
  have mC : ((V.alloc E1).alloc E0).ownsRow (h + 1 + 1 + 1) 80 3 (.slice (some ⟨h + 1 + 1 + 1 + 1, 0, none⟩) 0 0) 0 [] := by
    have := made_own (V.alloc E1) 80 (h + 1 + 1 + 1) (by omega)
    rw [sC, hE0] at this
    exact this
  have nC1 : ∀ o, ∀ j u, (nsC es)[j]? = some u → (V.alloc o).cell? ((⟨g, 0, none⟩ : Addr).add j) = some u := fun o => cells_past o HNV.out hltg
  have nC2 : ∀ o o', ∀ j u, (nsC es)[j]? = some u → ((V.alloc o).alloc o').cell? ((⟨g, 0, none⟩ : Addr).add j) = some u := fun o o' => cells_past o' (nC1 o) (by simp; omega)
  have bA : ∀ o, Below V.heap.size V (V.alloc o).drew := fun o => ((Below.refl _ _).alloc (Nat.le_refl _) _).drew
  have bB : ∀ o o', Below V.heap.size V ((V.alloc o).alloc o').drew := fun o o' => (((Below.refl _ _).alloc (Nat.le_refl _) _).alloc (by simp) _).drew
  have eC : ∀ j u, [Value.int .i64 x0, .int .i64 x1, .int .i64 x2][j]? = some u → (V.alloc E1).cell? ((⟨h + 1 + 1 + 1, 0, none⟩ : Addr).add j) = some u := by
    have := new_cells V 80 (.int .i64 x0) (.int .i64 x1) (.int .i64 x2)
    rw [hsV, hE1] at this
    exact this
  have eC2 := cells_past E0 eC (by show h + 1 + 1 + 1 < (V.alloc E1).heap.size; omega)
  have eB : ∀ j u, [Value.int .i64 x0, .int .i64 x1, .int .i64 x2][j]? = some u → ((V.alloc E0).alloc E1).cell? ((⟨h + 1 + 1 + 1 + 1, 0, none⟩ : Addr).add j) = some u := by
    have := new_cells (V.alloc E0) 80 (.int .i64 x0) (.int .i64 x1) (.int .i64 x2)
    rw [sA, hE1] at this
    exact this
  subst hE0 hE1
  have MA := Lib.hid mA
  have MB := Lib.hid (mA.alloc (.cells #[.int .i64 x0, .int .i64 x1, .int .i64 x2] 80))
  have MC := Lib.hid mC
  have N1 := Lib.hid nC1
  have N2 := Lib.hid nC2
  have BA := Lib.hid bA
  have BB := Lib.hid bB
  have EB := Lib.hid eB
  have EC := Lib.hid eC2
  have HLE := Lib.hid (Nat.le_refl V.heap.size)
  clear e0 e1 e2 hbV hO hn mA mC nC1 nC2 bA bB eC eC2 eB sA sC
  rename_i Q0 K0 hK0
  obtain ⟨K1, hQ1⟩ : ∃ K1 : Act → World → Prop, ∀ y Z, K1 y Z ↔ (∃ g4 c4 : Nat, (h + 1 + 1 + 1 ≤ g4 ∧ Z.ownsRow h 80 3 (.slice (some ⟨g4, 0, none⟩) (n + 1) c4) (n + 1) (nsC es ++ [.int .i64 x0, .int .i64 x1, .int .i64 x2]) ∧ Z.heap[h]? = some (.cells #[.slice (some ⟨g4, 0, none⟩) (n + 1) c4, .int .i64 li, .int .i64 ld, .int .i64 op] 83 (0, 0)) ∧ Z.heap[h + 1 + 1]? = some (.cells #[.slice none 0 0, .int .i64 0, .int .i64 0, .int .i64 0] 83 (0, 0)) ∧ Below h w Z) ∧
    ∃ a5 a6 a7 a8 a9 a10 a11 a12, y = ⟨#[.agg #[.slice (some ⟨g, 0, none⟩) n c, .int .i64 li, .int .i64 ld, .int .i64 op], .agg #[.int .i64 x0, .int .i64 x1, .int .i64 x2], .pointer (some ⟨h, 0, none⟩), .pointer (some ⟨h + 1, 0, none⟩), .pointer (some ⟨h + 1 + 1, 0, none⟩), a5, a6, a7, a8, a9, a10, a11, a12, undef], []⟩) := ⟨_, fun _ _ => Iff.rfl⟩
  have HQ := Lib.hid hQ1
  clear hQ1
  refine wp_mono (Q := Exit.then K1 Q0) ?_ (then_to ?_)
  rotate_left
  · rintro y Z hh
    obtain ⟨g4, c4, ⟨hge4, ho4, q0, q2, hbk⟩, a5, a6, a7, a8, a9, a10, a11, a12, rfl⟩ := (HQ.out _ _).1 hh
    clear hh HQ MA MB MC N1 N2 BA BB EB EC HLE H0 H1 H2 HB HNV HLEN t0 t1 t2 t0' t1' t2' s0 s0' s0'' hi hz0 hz1 hz2 i0
    refine hK0 _ _ ?_
    obtain ⟨⟨z0, z1, z2, z3⟩, -⟩ := four q0
    obtain ⟨⟨p0, p1, p2, p3⟩, d0, d1, d2, d3⟩ := four q2
    have HQ2 := Lib.hid q2
    have HBK := Lib.hid hbk
    have HO4 := Lib.hid ho4
    clear hbk ho4 q2 q0
    go_wp2_with fail
    refine bodyPost_ret (results_cell_row Tryz.results149 _ _ (h + 1 + 1) 83 _ (0, 0) _ rfl (heap_setCell_same _ _ 3 _ _ _ (heap_setCell_same _ _ 2 _ _ _ (heap_setCell_same _ _ 1 _ _ _ (heap_setCell_same _ _ 0 _ _ _ HQ2.out)))) Tryz.underlying83 rfl HI.out) rfl ?_
    refine ⟨g4, c4, rfl, ?_, ?_⟩
    · rw [hH]
      exact row_other (row_other (row_other (row_other HO4.out (by show g4 ≠ h + 1 + 1; omega) _) (by show g4 ≠ h + 1 + 1; omega) _) (by show g4 ≠ h + 1 + 1; omega) _) (by show g4 ≠ h + 1 + 1; omega) _
    · rw [hH]
      exact (((HBK.out.setCell (by show h ≤ h + 1 + 1; omega) _).setCell (by show h ≤ h + 1 + 1; omega) _).setCell (by show h ≤ h + 1 + 1; omega) _).setCell (by show h ≤ h + 1 + 1; omega) _
  go_region_law
    (first
      | (refine step_append_own rfl (.tmp 5) (.tmp 7) 81 rfl (h + 1 + 1 + 1) 80 i0 (.agg #[.int .i64 0, .int .i64 0, .int .i64 0]) 3 24 Tryz.underlying81 hi hz0 hz1 hz2 rfl (by decide) _ 0 [] (by rfl) ?c0 ⟨g, 0, none⟩ n c (nsC es) (by rfl) HLEN.out ?c1 (nsC_one es) ?c3 ?c4 ?c5 ?_
         case c0 => first | exact MA.out | exact MB.out | exact MC.out
         case c1 => first | exact N1.out _ | exact N2.out _ _
         case c3 => unfold maxLen; omega
         case c4 => omega
         case c5 => show _ ≤ (_ : World).heap.size; simp; omega
         intro v3 w3 ho3 hg3
         rw [Nat.zero_add, List.nil_append] at ho3
         obtain ⟨g3, c3, rfl, hge3, hgl3⟩ := ho3.form h0
         have hV3 : Below V.heap.size V w3 := by
           first
           | exact (BA.out _).grown hg3 (BA.out _).size (fun k hk => by have := (MA.out.lt k hk).1; omega)
           | exact (BB.out _ _).grown hg3 (BB.out _ _).size (fun k hk => by have := (MA.out.lt k hk).1; omega)
           | exact (BB.out _ _).grown hg3 (BB.out _ _).size (fun k hk => by have := (MC.out.lt k hk).1; omega)
         obtain ⟨⟨y0, y1, y2⟩, -⟩ := three ((hV3.block (h + 1) lt1).trans H1.out))
      | (refine step_append_own rfl (.tmp 8) (.tmp 10) 81 rfl (h + 1 + 1 + 1) 80 i0 (.agg #[.int .i64 0, .int .i64 0, .int .i64 0]) 3 24 Tryz.underlying81 hi hz0 hz1 hz2 rfl (by decide) _ n (nsC es) (by rfl) ?d0 _ 1 1 [.int .i64 x0, .int .i64 x1, .int .i64 x2] (by rfl) rfl ?d1 ?d2 ?d3 ?d4 ?d5 ?_
         case d0 => first | exact ho3 | exact ho3.alloc _
         case d1 => first | exact new_cells w3 _ _ _ _ | exact news_kept hg3 EB.out (by show _ < (_ : World).heap.size; simp; omega) (fun e => by have e : some (h + 1 + 1 + 1 + 1) = some (h + 1 + 1 + 1) := e; simp at e) | exact news_kept hg3 EC.out (by show _ < (_ : World).heap.size; simp; omega) (fun e => by have e : some (h + 1 + 1 + 1) = some (h + 1 + 1 + 1 + 1) := e; simp at e)
         case d2 => intro u hu; simp only [List.mem_cons, List.not_mem_nil, or_false] at hu; rcases hu with rfl | rfl | rfl <;> rfl
         case d3 => unfold maxLen; omega
         case d4 => omega
         case d5 => have := hV3.size; first | omega | (simp; omega)
         intro v4 w4 ho4 hg4
         obtain ⟨g4, c4, rfl, hge4, hgl4⟩ := ho4.form (by omega)
         have hV4 : Below V.heap.size V w4 := by
           first
           | exact hV3.grown hg4 hV3.size (fun k hk => by have := (ho3.lt k hk).1; omega)
           | exact (hV3.alloc hV3.size _).grown hg4 (hV3.alloc hV3.size _).size (fun k hk => by have := (ho3.lt k hk).1; omega)
         obtain ⟨⟨z0, z1, z2, z3⟩, zf, -⟩ := four ((hV4.block h lt0).trans H0.out)))
  all_goals show K1 _ _
  all_goals refine (HQ.out _ _).2 ?_
  all_goals
    have hbk := HB.out.trans (hV4.mono (by omega))
    have q2 := (hV4.block (h + 1 + 1) (by omega)).trans H2.out
    have q0 := (hV4.block h lt0).trans H0.out
    exact ⟨g4, c4, ⟨hge4, row_other (ho4.mono (base' := h) (by omega)) (a := ⟨h, 0, none⟩) (by show g4 ≠ h; omega) _, heap_setCell_same _ _ 0 _ _ _ q0, (heap_setCell_other _ _ _ _ (by show h + 1 + 1 ≠ h; omega)).trans q2, hbk.setCell (p := ⟨h, 0, none⟩) (Nat.le_refl _) _⟩, _, _, _, _, _, _, _, _, rfl⟩
end Go.Proofs.YtfclpecbnailgaaGreat.Lv
