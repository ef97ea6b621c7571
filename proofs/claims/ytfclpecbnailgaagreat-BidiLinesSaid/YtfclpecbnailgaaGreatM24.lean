/-
  Several texts in one, each with its own remark: BcOrder, MiGlyph, BcShown, RcSame, BiAwake, LawKit, BiLaw, LvRef, LvRefW, LvRefS, MrTab, MrFind.
-/
import Derived.Lib.Hide
import Derived.LoopTactic
import Derived.Deep.QuietTactic
import Derived.BigQuiet
import Derived.Carry
import Derived.ProofKit
import Derived.OpenShut
import Derived.Below
import Derived.Deep.RegionWith
import Derived.IntWalk
import Derived.Test.YtfclpecbnailgaaGreatM23
import Derived.Test.YtfclpecbnailgaaGreatM11
import Derived.Test.YtfclpecbnailgaaGreatM4
import Derived.Test.YtfclpecbnailgaaGreatMBcRes
import Derived.Test.YtfclpecbnailgaaGreatMSqCheck
import Derived.Test.YtfclpecbnailgaaGreatRows
import Derived.Test.YtfclpecbnailgaaGreatM5
import Derived.Test.YtfclpecbnailgaaGreatM6
import Derived.Test.YtfclpecbnailgaaGreatM0
import Derived.Test.YtfclpecbnailgaaGreatM3

/-
  Proved here: what bidi.Order returns, for every row of numbers of at most 2^40: the plain order of levels. It leaves what was in memory.
-/
set_option linter.unusedVariables false
namespace Go.Proofs.YtfclpecbnailgaaGreat.Bi
open Go Go.RowKit Go.Lib Go.Proofs.YtfclpecbnailgaaGreat.Cl Go.Proofs.YtfclpecbnailgaaGreat.Bo
theorem set_range (Z : List Int) (k : Nat) (h : k < Z.length) (hz : Z.take k = Sq.ns (List.range k)) : (Z.set k (k : Int)).take (k + 1) = Sq.ns (List.range (k + 1)) := by
  have hl : (Z.take k).length = k := by simp; omega
  rw [List.take_set, List.take_succ_eq_append_getElem h, List.set_append_right _ _ (by omega), hl, Nat.sub_self, hz, range_snoc]
  rfl
theorem lvAt_get {T : List Int} {k : Nat} (h : k < T.length) : lvAt T k = cutL T[k] := by
  unfold lvAt
  simp [List.getD, List.getElem?_eq_getElem h]
set_option maxHeartbeats 4000000 in
set_option maxRecDepth 100000 in
theorem order_any (A0 : Option Addr) (T : List Int) (n cp : Nat) (w : World) (hA : IntsAt w A0 T) (hl : T.length = n) (hn : n ≤ 1099511627776) :
    Calls Tryz.prog 17 #[.slice A0 n cp] w fun e w' => ∃ A c, e = .returned (.slice A n c) ∧ w'.ownsRow w.heap.size 3 1 (.slice A n c) n (icl (Sq.ns (orderP T))) ∧ Below w.heap.size w w' := by
  obtain ⟨i0, hi0, hq0, hq1, hq2⟩ := info_parts infoInt
  have HI := Lib.hid hi0
  have HQ0 := Lib.hid hq0
  have HQ1 := Lib.hid hq1
  have HQ2 := Lib.hid hq2
  have HA := Lib.hid hA
  have HL := Lib.hid hl
  clear hi0 hq0 hq1 hq2 hA hl
  go_enter Tryz.func17, Tryz.ntmps17
  go_wp2_with (refine wpList_make_full _ rfl _ _ 25 rfl w.heap.size 3 i0 (.int .i64 0) 1 Tryz.underlying25 HI.out HQ0.out HQ1.out .i64 .i64 _ _ n rfl rfl rfl rfl ?c1 ?c2 ?c3 ?_)
  case c1 => rw [HQ2.out]; omega
  case c2 => unfold maxLen; omega
  case c3 => exact Nat.le_refl _
  intro w1 hown hgr
  have hown1 : w1.ownsRow w.heap.size 3 1 (.slice (some ⟨w.heap.size, 0, none⟩) n n) n (icl (List.replicate n 0)) := by
    have h := hown
    rw [toList_madeCells_one] at h
    rw [show icl (List.replicate n 0) = List.replicate n (.int .i64 0) from by simp [icl]]
    exact h
  have hb1 : Below w.heap.size w w1 := (Below.refl _ _).grown hgr (Nat.le_refl _) (fun k h => by cases h)
  have HO := Lib.hid hown1
  have HB1 := Lib.hid hb1
  clear hown hgr hown1 hb1 HI HQ0 HQ1 HQ2
  go_wp2_with fail
  go_loopw [4, 13] (fun s4 s13 wx => ∃ (k t : Nat) (Z : List Int), k ≤ n ∧ s13 = .int .i64 k ∧ s4 = .int .i64 t ∧ t ≤ 126 ∧ (∀ j, j < k → lvAt T j ≤ t) ∧ Z.take k = Sq.ns (List.range k) ∧ Z.length = n ∧ wx.ownsRow w.heap.size 3 1 (.slice (some ⟨w.heap.size, 0, none⟩) n n) n (icl Z) ∧ Below w.heap.size w wx) (fun _ s13 _ => n - (RowKit.intOf s13).toNat)
  case atStart => exact ⟨0, 0, List.replicate n 0, Nat.zero_le _, rfl, rfl, by omega, fun j h => by omega, rfl, by simp, HO.out, HB1.out⟩
  case round =>
    obtain ⟨k, t, Z, hk, rfl, rfl, ht, htop, hz, hzl, hown, hb⟩ := hrel
    have HZ := Lib.hid hz
    have HZL := Lib.hid hzl
    have HW := Lib.hid hown
    have HB := Lib.hid hb
    have HTOP := Lib.hid htop
    clear hz hown HO HB1 htop
    by_cases hlt : k < n
    · have hkz : k < T.length := by rw [HL.out]; exact hlt
      have hkl : k < Z.length := by rw [HZL.out]; exact hlt
      obtain ⟨g, off, rfl, hc⟩ := (HA.out.below hb).at_ hkz
      have hcr : wr.cell? ⟨w.heap.size, k, none⟩ = some (.int .i64 Z[k]) := by
        rw [HW.out.cellAt _ (by omega)]
        simp [icl, hkl]
      have hfr := HW.out.frozenAt k
      obtain ⟨h1, h2⟩ := HW.out.stored k (.int .i64 (k : Int))
      rw [show (icl Z).set k (.int .i64 (k : Int)) = icl (Z.set k (k : Int)) from by simp [icl]] at h1
      have HST := Lib.hid (set_range Z k hkl HZ.out)
      have HLV := Lib.hid (lvAt_get hkz)
      generalize T[k] = z at *
      generalize Z[k] = y at *
      have HOW := Lib.hid h1
      have hk0 : (0 : Int) ≤ (k : Int) := by omega
      have hk1 : (k : Int) < (n : Int) := by omega
      obtain ⟨m, hm⟩ : ∃ m : Int, min z 126 = m := ⟨_, rfl⟩
      obtain ⟨t2, ht2⟩ : ∃ t2 : Nat, max (t : Int) m = (t2 : Int) := ⟨(max (t : Int) m).toNat, by omega⟩
      have HT2 := Lib.hid (show t2 ≤ 126 ∧ ∀ j, j < k + 1 → lvAt T j ≤ t2 from by
        refine ⟨by omega, fun j hj => ?_⟩
        by_cases e : j = k
        · subst e
          rw [HLV.out]
          unfold cutL
          omega
        · have := HTOP.out j (by omega)
          omega)
      have HOB := Lib.hid (HB.out.setCell (p := ⟨w.heap.size, k, none⟩) (Nat.le_refl _) (.int .i64 (k : Int)))
      clear h1 h2 hkz hkl hb hzl
      go_wp2_with fail
      go_roundw
      case rel => exact ⟨k + 1, t2, Z.set k (k : Int), by omega, by go_num, by rw [← ht2, ← hm]; try (congr 1; split <;> split <;> omega), HT2.out.1, HT2.out.2, HST.out, by rw [List.length_set]; exact HZL.out, HOW.out, HOB.out⟩
      case measure => simp [RowKit.intOf]; omega
    · obtain rfl : k = n := by omega
      have HE := Lib.hid (show Z = Sq.ns (List.range k) from by
        have h := HZ.out
        rw [List.take_of_length_le (by rw [hzl]; exact Nat.le_refl _)] at h
        exact h)
      rw [HE.out] at HW
      have HOT := Lib.hid (show ordFrom (lvAt T) t (List.range k) = orderP T from by rw [order_top ht (fun j hj => HTOP.out j (by rw [← HL.out]; exact hj)), HL.out])
      clear hb hzl HTOP HZ HE hlt
      go_wp2_with fail
      go_loopw [7] (fun s7 wx => ∃ (q : Nat) (O : List Nat), q ≤ 126 ∧ s7 = .int .i64 q ∧ O.length = k ∧ Bo.Alike (lvAt T) q O ∧ ordFrom (lvAt T) q O = orderP T ∧ wx.ownsRow w.heap.size 3 1 (.slice (some ⟨w.heap.size, 0, none⟩) k k) k (icl (Sq.ns O)) ∧ Below w.heap.size w wx) (fun s7 _ => (RowKit.intOf s7).toNat)
      case atStart => exact ⟨t, List.range k, ht, rfl, by simp, Bo.Alike.range _ _ _, HOT.out, HW.out, HB.out⟩
      case round =>
        obtain ⟨q, O, hq, rfl, hol, hal, hof, hown, hb⟩ := hrel
        have HW2 := Lib.hid hown
        have HB2 := Lib.hid hb
        have HOL := Lib.hid hol
        have HAL := Lib.hid hal
        have HOF := Lib.hid hof
        clear HW HB HOT hol hal hof hown hb
        cases q with
        | zero =>
          have HE := Lib.hid (show O = orderP T from HOF.out)
          go_wp2_with fail
          go_ret
          exact ⟨_, _, rfl, by rw [← HE.out]; exact HW2.out, HB2.out⟩
        | succ q =>
          have HP := Lib.hid (show ∀ i (h1 : i < T.length) (h2 : i < O.length), decide (T[i] < ((q + 1 : Nat) : Int)) = !((fun j => decide ((q : Int) + 1 ≤ lvAt T j)) O[i]) from fun i h1 h2 => by
            have e1 := HAL.out.at_ (q := q + 1) (by omega) (Nat.le_refl _) h2
            have e2 := cut_ge (x := T[i]) (q := q + 1) (by omega) hq
            rw [← lvAt_get h1] at e2
            show _ = !(decide (((q + 1 : Nat) : Int) ≤ lvAt T O[i]))
            rw [e1, e2]
            by_cases hh : T[i] < ((q + 1 : Nat) : Int)
            · rw [decide_eq_true hh, decide_eq_false (by omega)]; rfl
            · rw [decide_eq_false hh, decide_eq_true (by omega)]; rfl)
          have HT := Lib.hid (turn_any w.heap.size w.heap.size k (q + 1) cp O A0 T w wr (fun j => decide ((q : Int) + 1 ≤ lvAt T j)) HW2.out HOL.out HA.out HL.out hn HB2.out (Nat.le_refl _) HP.out)
          have HAL2 := Lib.hid HAL.out.step
          have HLN := Lib.hid (revGo_len (fun j => decide ((q : Int) + 1 ≤ lvAt T j)) O [])
          have HOF2 := Lib.hid (show ordFrom (lvAt T) q (revGo (fun j => decide ((q : Int) + 1 ≤ lvAt T j)) [] O) = orderP T from HOF.out)
          generalize revGo (fun j => decide ((q : Int) + 1 ≤ lvAt T j)) [] O = O2 at *
          clear HAL HOF HP
          have jq0 : (0 : Int) ≤ (q : Int) := by omega
          go_wp2_with fail
          refine HT.out.mono ?_
          rintro e w3 ⟨rfl, ho3, hb3⟩
          have HO3 := Lib.hid ho3
          have HB3 := Lib.hid hb3
          clear ho3 hb3 HT
          go_wp2_with fail
          go_roundw
          case rel => exact ⟨q, O2, by omega, by go_num, by rw [HLN.out]; simpa using HOL.out, HAL2.out, HOF2.out, HO3.out, HB3.out⟩
          case measure => simp [RowKit.intOf] <;> omega
end Go.Proofs.YtfclpecbnailgaaGreat.Bi

/-
  Proved here: what mirror.Glyph returns, for every number; it leaves what was in memory. No condition.
-/
set_option linter.unusedVariables false
namespace Go.Proofs.YtfclpecbnailgaaGreat.Mi
open Go.RowKit Go.Lib
theorem infoSg : (Tryz.prog.info? 105).map (fun i => (i.zero, i.size)) = some (some (.agg (List.replicate 48 (.int .i64 0)).toArray), 48) := by kernel_rfl
def sgFrame (g : Nat) : Act := ⟨((Value.pointer (some ⟨g, 0, none⟩) :: (sgL.flatMap fun r => [Value.agg #[.int .i64 r.1, .int .i64 r.2.1], rowV r])) ++ [Value.agg (rowCells sgL).toArray]).toArray, []⟩
theorem sg_size : (rowCells sgL).toArray.size = 48 := by kernel_rfl
theorem sg_one : (rowCells sgL).toArray.all (·.oneCell') = true := by kernel_rfl
set_option maxHeartbeats 4000000 in
set_option maxRecDepth 1000000 in
theorem sg_any (w : World) :
    Calls Tryz.prog 81 #[] w fun e w' => e = .returned (.agg (rowCells sgL).toArray) ∧ Below w.heap.size w w' := by
  obtain ⟨hz, hi⟩ := zero_of_info infoSg
  rw [← sg_size] at hi
  go_enter Tryz.func81, Tryz.ntmps81
  refine wp_seq (wp_region_lit (l := [_]) (wpList_allocVar rfl _ rfl (some 0) rfl _ hz ?_))
  show Exit.then _ _ _ _ _
  refine wp_seq ?_
  refine wp_stored 33 (sgFrame w.heap.size) (by kernel_rfl) (.tmp 0) (.tmp 33) 105 (by kernel_rfl) _ (rowCells sgL).toArray (by kernel_rfl) (by kernel_rfl) hi (by kernel_rfl) sg_one ?_
  refine wp_ret ?_
  exact bodyPost_ret (results_cell_row Tryz.results81 _ _ w.heap.size 105 _ (0, 0) _ (by kernel_rfl) (heap_alloc_last w _) Tryz.underlying105 rfl hi) (by kernel_rfl) ⟨rfl, (Below.refl _ _).alloc (Nat.le_refl _) _⟩
theorem sgL_len : sgL.length = 16 := by kernel_rfl
set_option maxHeartbeats 1000000 in
set_option maxRecDepth 100000 in
theorem mGlyph_any (c : Int) (w : World) :
    Calls Tryz.prog 43 #[.int .i64 c] w fun e w' => e = .returned (.int .i64 (glyphT c)) ∧ Below w.heap.size w w' := by
  have CA := Lib.hid (fun W => mPair_any c W)
  have HC := Lib.hid (fun W => sg_any W)
  have HP := fun (b : Nat) (W : World) (h : RowsAt W b sgL) => pairIn_any b sgL c W h (by rw [sgL_len]; decide) sgL_ok
  rw [sgL_len] at HP
  have HP' := Lib.hid HP
  clear HP
  have hm := fun W : World => rowsAt_made sgL 105 W
  have HM := Lib.hid hm
  clear hm
  obtain ⟨hz, hi⟩ := zero_of_info infoSg
  have HZ := Lib.hid hz
  rw [← sg_size] at hi
  have HI := Lib.hid hi
  have HS := Lib.hid sg_size
  have HO := Lib.hid sg_one
  clear hz hi
  unfold glyphT
  generalize (rowCells sgL).toArray = cs at *
  generalize inR sgL c = res at *
  generalize pairT c = p at *
  obtain ⟨k, o⟩ := p
  obtain ⟨m, x⟩ := res
  simp only at CA HP' ⊢
  by_cases h1 : k = 0
  · subst h1
    rw [if_pos rfl]
    have main : ∀ v : Int, (if m = 0 then c else x) = v → Calls Tryz.prog 43 #[.int .i64 c] w fun e w' => e = .returned (.int .i64 v) ∧ Below w.heap.size w w' := by
      intro v hv
      have HV := Lib.hid hv
      clear hv
      go_enter Tryz.func43, Tryz.ntmps43
      go_wp2_with fail
      refine (CA.out _).mono ?_
      rintro e w0 ⟨rfl, hb0⟩
      go_wp2_with fail
      rename_i Q0 K1 hK1 K2 hK2 K3 hK3
      refine (HC.out _).mono ?_
      rintro e w1 ⟨rfl, hb1⟩
      refine hK3 _ _ ?_
      refine wpList_allocVar rfl _ rfl (some 5) rfl _ HZ.out ?_
      refine wpList_store_rowTo rfl _ _ _ rfl rfl w1.heap.size cs rfl rfl 105 _ (heap_alloc_last w1 _) HI.out (by rw [HS.out]; rfl) HO.out ?_
      rw [World.setRow_alloc_new]
      refine wpList_nil (hK2 _ _ ?_)
      have hb1' := hb0.trans (hb1.mono hb0.size)
      have hb2 : Below w.heap.size w (w1.alloc (.cells cs 105)) := hb1'.alloc hb1'.size _
      have HB2 := Lib.hid hb2
      have hR := HM.out w1
      have HR := Lib.hid hR
      clear hb0 hb1 hb1' hb2 hR HI HO HS HZ HM HC
      generalize w1.alloc (.cells cs 105) = w2 at *
      generalize w1.heap.size = b at *
      by_cases h2 : m = 0
      · obtain rfl : c = v := by have := HV.out; rwa [if_pos h2] at this
        subst h2
        go_wp2_with fail
        refine (HP'.out b _ HR.out).mono ?_
        rintro e w3 ⟨rfl, hb3⟩
        go_wp2
        go_ret
        exact ⟨rfl, HB2.out.trans (hb3.mono HB2.out.size)⟩
      · obtain rfl : x = v := by have := HV.out; rwa [if_neg h2] at this
        have d2 : (m == 0) = false := by simpa using h2
        clear h2
        go_wp2_with fail
        refine (HP'.out b _ HR.out).mono ?_
        rintro e w3 ⟨rfl, hb3⟩
        go_wp2
        go_ret
        exact ⟨rfl, HB2.out.trans (hb3.mono HB2.out.size)⟩
    exact main _ rfl
  · rw [if_neg h1]
    have d1 : (k == 0) = false := by simpa using h1
    clear h1
    go_enter Tryz.func43, Tryz.ntmps43
    go_wp2_with fail
    refine (CA.out _).mono ?_
    rintro e w0 ⟨rfl, hb0⟩
    go_wp2
    go_ret
    exact ⟨rfl, hb0⟩
end Go.Proofs.YtfclpecbnailgaaGreat.Mi

/-
  Proved here: what bidi.Shown returns, for every two numbers: the sign by which a code point is shown. It leaves what was in memory.
-/
set_option linter.unusedVariables false
namespace Go.Proofs.YtfclpecbnailgaaGreat.Bi
open Go Go.RowKit Go.Lib
set_option maxHeartbeats 1000000 in
set_option maxRecDepth 100000 in
theorem shown_any (c l : Int) (w : World) : Calls Tryz.prog 19 #[.int .i64 c, .int .i64 l] w fun e w' => e = .returned (.int .i64 (shownP c l)) ∧ Below w.heap.size w w' := by
  have HG := Lib.hid (fun W => Mi.mGlyph_any c W)
  by_cases hm : l.tmod 2 = 0
  · have m1 : (l.tmod 2 == 0) = true := by simpa using hm
    rw [show shownP c l = c from if_pos hm]
    clear hm
    go_enter Tryz.func19, Tryz.ntmps19
    go_wp2
    go_ret
    exact ⟨rfl, Below.refl _ _⟩
  · have m1 : (l.tmod 2 == 0) = false := by simpa using hm
    rw [show shownP c l = Mi.glyphT c from if_neg hm]
    clear hm
    generalize Mi.glyphT c = v at *
    go_enter Tryz.func19, Tryz.ntmps19
    go_wp2_with fail
    refine (HG.out _).mono ?_
    rintro e w1 ⟨rfl, hb⟩
    go_wp2_with fail
    go_ret
    exact ⟨rfl, hb⟩
end Go.Proofs.YtfclpecbnailgaaGreat.Bi

/-
  Proved here: parquetryref02.Same of two rows that hold the same numbers is true; it leaves what was in memory.
-/
set_option linter.unusedVariables false
namespace Go.Proofs.YtfclpecbnailgaaGreat.Rc
open Go.RowKit Go.Lib Go.Proofs.YtfclpecbnailgaaGreat.Cl
theorem same_ints_drewN (w : World) : ∀ n, Below w.heap.size w (w.drewN n)
  | 0 => Below.refl _ _
  | n + 1 => (same_ints_drewN w n).drew
set_option maxHeartbeats 1000000 in
set_option maxRecDepth 1000000 in
theorem same_ints (A B : Option Addr) (zs : List Int) (c d : Nat) (w : World) (ha : IntsAt w A zs) (hb : IntsAt w B zs) (hn : zs.length ≤ 1099511627776) :
    Calls Tryz.prog 11 #[.slice A zs.length c, .slice B zs.length d] w fun e w' => e = .returned (.bool true) ∧ Below w.heap.size w w' := by
  have HA := Lib.hid ha
  have HB := Lib.hid hb
  clear ha hb
  go_enter Tryz.func11, Tryz.ntmps11
  go_wp2_with fail
  go_loopw [5] (fun s5 wx => ∃ k : Nat, k ≤ zs.length ∧ s5 = .int .i64 k ∧ Below w.heap.size w wx) (fun s5 _ => zs.length - (RowKit.intOf s5).toNat)
  case atStart => exact ⟨0, Nat.zero_le _, rfl, Below.refl _ _⟩
  case round =>
    obtain ⟨k, hk, rfl, hbw⟩ := hrel
    by_cases hlt : k < zs.length
    · obtain ⟨g, o, rfl, c0⟩ := (HA.out.below hbw).at_ hlt
      obtain ⟨g', o', rfl, d0⟩ := (HB.out.below hbw).at_ hlt
      clear HA HB
      generalize zs[k] = z at *
      go_wp2_with fail
      go_quiet (fail)
      go_wp2_with fail
      go_roundw
      case rel => exact ⟨k + 1, by omega, by go_num, hbw.trans ((same_ints_drewN _ _).mono hbw.size)⟩
      case measure => simp [RowKit.intOf]; omega
    · go_wp2
      go_ret
      exact ⟨rfl, hbw⟩
end Go.Proofs.YtfclpecbnailgaaGreat.Rc

/-
  Proved here: what of of the statements of layer 16 returns, and that parquetrylaw16.awake (the chapter's examples) returns true; they leave what was in memory. No condition.
-/
set_option linter.unusedVariables false
namespace Go.Proofs.YtfclpecbnailgaaGreat.Bi
open Go Go.RowKit Go.Lib Go.Proofs.YtfclpecbnailgaaGreat.Cl Go.Proofs.YtfclpecbnailgaaGreat.Rc Go.Proofs.YtfclpecbnailgaaGreat.Sq
open Go.Proofs.YtfclpecbnailgaaGreat.Ku (R3 RuAt cellsR)
/-- The runes that 'of' makes of numbers. -/
def ofR (zs : List Int) (k : Nat) : List R3 := (List.range k).map fun (i : Nat) => ((i : Int), (1 : Int), zs.getD i 0)
theorem ofR_len (zs : List Int) (k : Nat) : (ofR zs k).length = k := by simp [ofR]
theorem ofR_next (zs : List Int) (k : Nat) (hk : k < zs.length) : cellsR (ofR zs (k + 1)) = cellsR (ofR zs k) ++ [.int .i64 (k : Int), .int .i64 1, .int .i64 zs[k]] := by
  unfold ofR
  rw [List.range_succ, List.map_append]
  simp [cellsR, hk]
set_option maxHeartbeats 1000000 in
set_option maxRecDepth 100000 in
theorem of_reads (A : Option Addr) (zs : List Int) (n c : Nat) (w : World) (hl : zs.length = n) (hR : IntsAt w A zs) (hn : n ≤ 100000) :
    Calls Tryz.prog 25 #[.slice A n c] w fun e w' => ∃ B d, e = .returned (.slice B n d) ∧ RuAt w' B (ofR zs n) ∧ Below w.heap.size w w' := by
  obtain ⟨i0, hi, hz0, hz1, hz2⟩ := info_parts Ku.infoR
  have HR := Lib.hid hR
  have HL := Lib.hid hl
  clear hR hl
  go_enter Tryz.func25, Tryz.ntmps25
  go_wp2_with fail
  go_loopw [3, 4] (fun s3 s4 wx => ∃ k : Nat, k ≤ n ∧ s4 = .int .i64 k ∧ Below w.heap.size w wx ∧ wx.ownsRow w.heap.size 38 3 s3 k (cellsR (ofR zs k))) (fun _ s4 _ => n - (RowKit.intOf s4).toNat)
  case atStart => exact ⟨0, Nat.zero_le _, rfl, Below.refl _ _, World.ownsRow_nil _ _ _ _⟩
  case round =>
    obtain ⟨k, hk, rfl, hb, hown⟩ := hrel
    by_cases hlt : k < n
    · have hkl : k < zs.length := by rw [HL.out]; exact hlt
      obtain ⟨b, off, rfl, c0⟩ := (HR.out.below hb).at_ hkl
      have HT := Lib.hid (ofR_next zs k hkl)
      have HOWN := Lib.hid hown
      have hbs := hb.size
      have HLT := Lib.hid hown.lt
      have HB := Lib.hid hb
      clear hown hb
      generalize zs[k] = z at *
      go_wp2_with (at_builtin; refine wpList_append_own _ rfl _ _ 22 rfl w.heap.size 38 i0 (.agg #[.int .i64 0, .int .i64 0, .int .i64 0]) 3 24 Tryz.underlying22 hi hz0 hz1 hz2 rfl (by decide) _ _ _ rfl (HOWN.out.alloc _) ⟨wr.heap.size, 0, none⟩ 1 1 [.int .i64 k, .int .i64 1, .int .i64 z] rfl rfl ?c1 ?c2 ?c3 ?c4 ?c5 ?_)
      case c1 => intro j u hu; rcases j with _ | _ | _ | j <;> simp at hu <;> subst hu <;> simp [Addr.add]
      case c2 => intro u hu; simp at hu; rcases hu with rfl | rfl | rfl <;> rfl
      case c3 => unfold maxLen; omega
      case c4 => omega
      case c5 => simp; omega
      intro v' w4 hown' hgrow _
      have HG := Lib.hid hgrow
      have HO := Lib.hid hown'
      clear hgrow hown'
      go_wp2
      go_roundw
      case measure => simp [RowKit.intOf]; omega
      case rel =>
        refine ⟨k + 1, by omega, by go_num, ?_, ?_⟩
        · exact (HB.out.alloc hbs _).grown HG.out (by simp; omega) (fun g hg => (HLT.out g hg).1)
        · rw [HT.out]; exact HO.out
    · obtain rfl : k = n := by omega
      have HO := Lib.hid hown
      go_wp2
      go_ret
      have h0 := HO.out
      have h1 : wr.ownsRow w.heap.size 38 3 u3 (ofR zs k).length (cellsR (ofR zs k)) := by rw [ofR_len]; exact h0
      obtain ⟨B, d, e1, hi⟩ := Ku.ruAt_own h1
      rw [ofR_len] at e1
      exact ⟨B, d, by rw [e1]; rfl, hi, hb⟩
theorem ex1 : resZ (clsR (ofR [97, 1488, 1489, 49] 4)) (codR (ofR [97, 1488, 1489, 49] 4)) 0 = [0, 1, 1, 2] := by
  have hc : clsR (ofR [97, 1488, 1489, 49] 4) = [0, 1, 1, 3] := by decide +kernel
  have hk : codR (ofR [97, 1488, 1489, 49] 4) = [97, 1488, 1489, 49] := by decide +kernel
  have hT : SeqsOk [0, 1, 1, 3] (zB [0, 1, 1, 3] 0) ((0 : Nat) : Int) [⟨0, 0, 0, [0, 1, 2, 3]⟩] := seqsC_ok (by decide +kernel)
  have h := resZ_some [0, 1, 1, 3] [97, 1488, 1489, 49] (b := 0) (by omega)
  rw [← seqsB_eq hT] at h
  rw [hc, hk]
  exact h.trans (by decide +kernel)
theorem ex2 : resZ (clsR (ofR [1488, 40, 97, 41] 4)) (codR (ofR [1488, 40, 97, 41] 4)) 1 = [1, 1, 2, 1] := by
  have hc : clsR (ofR [1488, 40, 97, 41] 4) = [1, 13, 0, 13] := by decide +kernel
  have hk : codR (ofR [1488, 40, 97, 41] 4) = [1488, 40, 97, 41] := by decide +kernel
  have hT : SeqsOk [1, 13, 0, 13] (zB [1, 13, 0, 13] 1) ((1 : Nat) : Int) [⟨1, 1, 1, [0, 1, 2, 3]⟩] := seqsC_ok (by decide +kernel)
  have h := resZ_some [1, 13, 0, 13] [1488, 40, 97, 41] (b := 1) (by omega)
  rw [← seqsB_eq hT] at h
  rw [hc, hk]
  exact h.trans (by decide +kernel)
theorem ex3 : lineZ (clsR (ofR [97, 32, 9, 1488, 32] 5)) [0, 0, 0, 1, 1] 0 = [0, 0, 0, 1, 0] := by decide +kernel
theorem ex4 : ns (Bo.orderP [0, 1, 1, 2, 0]) = [0, 3, 2, 1, 4] := by decide +kernel
theorem ex5 : ns (Bo.orderP [1, 2, 2, 1]) = [3, 1, 2, 0] := by decide +kernel
theorem ex6 : ns (Bo.orderP [2, 2]) = [0, 1] := by decide +kernel
theorem ex7 : shownP 40 1 = 41 := by decide +kernel
theorem ex8 : shownP 40 2 = 40 := by decide +kernel
theorem own_reads {w : World} {B n c : Nat} {A : Option Addr} {zs : List Int} (h : w.ownsRow B 3 1 (.slice A n c) n (icl zs)) (hl : zs.length = n) : IntsAt w A zs := by
  obtain ⟨A', c', e, hi⟩ := intsAt_icl h hl
  injection e with e _ _
  subst e
  exact hi
theorem do1 (A : Option Addr) (d : Nat) (w : World) (h : RuAt w A (ofR [97, 1488, 1489, 49] 4)) : Calls Tryz.prog 12 #[.slice A 4 d, .int .i64 0] w fun e w' => ∃ B c, e = .returned (.slice B 4 c) ∧ IntsAt w' B [0, 1, 1, 2] ∧ Below w.heap.size w w' := by
  refine (resolve_any A (ofR [97, 1488, 1489, 49] 4) 0 4 d w rfl h (by omega)).mono ?_
  rintro e w' ⟨B, c, rfl, ho, hb⟩
  rw [ex1] at ho ⊢
  exact ⟨B, c, rfl, own_reads ho rfl, hb⟩
theorem do2 (A : Option Addr) (d : Nat) (w : World) (h : RuAt w A (ofR [1488, 40, 97, 41] 4)) : Calls Tryz.prog 12 #[.slice A 4 d, .int .i64 1] w fun e w' => ∃ B c, e = .returned (.slice B 4 c) ∧ IntsAt w' B [1, 1, 2, 1] ∧ Below w.heap.size w w' := by
  refine (resolve_any A (ofR [1488, 40, 97, 41] 4) 1 4 d w rfl h (by omega)).mono ?_
  rintro e w' ⟨B, c, rfl, ho, hb⟩
  rw [ex2] at ho ⊢
  exact ⟨B, c, rfl, own_reads ho rfl, hb⟩
theorem do3 (A A2 : Option Addr) (d d2 : Nat) (w : World) (h : RuAt w A (ofR [97, 32, 9, 1488, 32] 5)) (h2 : IntsAt w A2 [0, 0, 0, 1, 1]) : Calls Tryz.prog 15 #[.slice A 5 d, .slice A2 5 d2, .int .i64 0] w fun e w' => ∃ B c, e = .returned (.slice B 5 c) ∧ IntsAt w' B [0, 0, 0, 1, 0] ∧ Below w.heap.size w w' := by
  refine (line_any A A2 (ofR [97, 32, 9, 1488, 32] 5) [0, 0, 0, 1, 1] 5 5 d d2 0 w h h2 rfl rfl (by omega)).mono ?_
  rintro e w' ⟨B, c, rfl, ho, hb⟩
  rw [ex3] at ho ⊢
  exact ⟨B, c, rfl, own_reads ho rfl, hb⟩
theorem do4 (A : Option Addr) (d : Nat) (w : World) (h : IntsAt w A [0, 1, 1, 2, 0]) : Calls Tryz.prog 17 #[.slice A 5 d] w fun e w' => ∃ B c, e = .returned (.slice B 5 c) ∧ IntsAt w' B [0, 3, 2, 1, 4] ∧ Below w.heap.size w w' := by
  refine (order_any A [0, 1, 1, 2, 0] 5 d w h rfl (by omega)).mono ?_
  rintro e w' ⟨B, c, rfl, ho, hb⟩
  rw [ex4] at ho
  exact ⟨B, c, rfl, own_reads ho rfl, hb⟩
theorem do5 (A : Option Addr) (d : Nat) (w : World) (h : IntsAt w A [1, 2, 2, 1]) : Calls Tryz.prog 17 #[.slice A 4 d] w fun e w' => ∃ B c, e = .returned (.slice B 4 c) ∧ IntsAt w' B [3, 1, 2, 0] ∧ Below w.heap.size w w' := by
  refine (order_any A [1, 2, 2, 1] 4 d w h rfl (by omega)).mono ?_
  rintro e w' ⟨B, c, rfl, ho, hb⟩
  rw [ex5] at ho
  exact ⟨B, c, rfl, own_reads ho rfl, hb⟩
theorem do6 (A : Option Addr) (d : Nat) (w : World) (h : IntsAt w A [2, 2]) : Calls Tryz.prog 17 #[.slice A 2 d] w fun e w' => ∃ B c, e = .returned (.slice B 2 c) ∧ IntsAt w' B [0, 1] ∧ Below w.heap.size w w' := by
  refine (order_any A [2, 2] 2 d w h rfl (by omega)).mono ?_
  rintro e w' ⟨B, c, rfl, ho, hb⟩
  rw [ex6] at ho
  exact ⟨B, c, rfl, own_reads ho rfl, hb⟩
set_option maxHeartbeats 4000000 in
set_option maxRecDepth 100000 in
theorem awake_any (w : World) : Calls Tryz.prog 10 #[] w fun e w' => e = .returned (.bool true) ∧ Below w.heap.size w w' := by
  have HOF := Lib.hid (fun A zs n c V hl hR hn => of_reads A zs n c V hl hR hn)
  have HSM := Lib.hid (fun A B zs c d V ha hb hn => same_ints A B zs c d V ha hb hn)
  have e7 := ex7
  have e8 := ex8
  have HS1 := Lib.hid (fun V => show Calls Tryz.prog 19 #[.int .i64 40, .int .i64 1] V fun e w' => e = .returned (.int .i64 41) ∧ Below V.heap.size V w' from by have h := shown_any 40 1 V; rw [e7] at h; exact h)
  have HS2 := Lib.hid (fun V => show Calls Tryz.prog 19 #[.int .i64 40, .int .i64 2] V fun e w' => e = .returned (.int .i64 40) ∧ Below V.heap.size V w' from by have h := shown_any 40 2 V; rw [e8] at h; exact h)
  clear e7 e8
  go_enter Tryz.func10, Tryz.ntmps10
  have HB0 := Lib.hid (Below.refl w.heap.size w)
  have hmw1 := below_made w (.cells #[.int .i64 97, .int .i64 1488, .int .i64 1489, .int .i64 49] 3)
  have HMw1 := Lib.hid (HB0.out.trans (hmw1.mono HB0.out.size))
  clear hmw1
  go_wp2_with fail
  refine (HOF.out _ [97, 1488, 1489, 49] 4 _ _ rfl (made_ints [97, 1488, 1489, 49] _ _ w rfl) (by omega)).mono ?_
  rintro e w1 ⟨Aw1, dw1, rfl, hrw1, hbw1⟩
  have HRw1 := Lib.hid hrw1
  have HBw1 := Lib.hid (HMw1.out.trans (hbw1.mono HMw1.out.size))
  clear hrw1 hbw1 HMw1 HB0
  go_wp2_with fail
  refine (do1 _ _ _ HRw1.out).mono ?_
  rintro e w2 ⟨Aw2, dw2, rfl, hiw2, hbw2⟩
  have HIw2 := Lib.hid hiw2
  have HBw2 := Lib.hid (HBw1.out.trans (hbw2.mono HBw1.out.size))
  clear hiw2 hbw2 HBw1
  have hmw3 := below_made w2 (.cells #[.int .i64 0, .int .i64 1, .int .i64 1, .int .i64 2] 3)
  have HMw3 := Lib.hid (HBw2.out.trans (hmw3.mono HBw2.out.size))
  have HJw3 := Lib.hid (HIw2.out.below hmw3)
  clear hmw3 HBw2 HIw2
  go_wp2_with fail
  refine (HSM.out _ _ [0, 1, 1, 2] _ _ _ HJw3.out (made_ints [0, 1, 1, 2] _ _ w2 rfl) (by decide)).mono ?_
  rintro e w3 ⟨rfl, hbw3⟩
  have HBw3 := Lib.hid (HMw3.out.trans (hbw3.mono HMw3.out.size))
  clear hbw3 HMw3 HJw3
  have hmw4 := below_made w3 (.cells #[.int .i64 1488, .int .i64 40, .int .i64 97, .int .i64 41] 3)
  have HMw4 := Lib.hid (HBw3.out.trans (hmw4.mono HBw3.out.size))
  clear hmw4
  go_wp2_with fail
  refine (HOF.out _ [1488, 40, 97, 41] 4 _ _ rfl (made_ints [1488, 40, 97, 41] _ _ w3 rfl) (by omega)).mono ?_
  rintro e w4 ⟨Aw4, dw4, rfl, hrw4, hbw4⟩
  have HRw4 := Lib.hid hrw4
  have HBw4 := Lib.hid (HMw4.out.trans (hbw4.mono HMw4.out.size))
  clear hrw4 hbw4 HMw4 HBw3
  go_wp2_with fail
  refine (do2 _ _ _ HRw4.out).mono ?_
  rintro e w5 ⟨Aw5, dw5, rfl, hiw5, hbw5⟩
  have HIw5 := Lib.hid hiw5
  have HBw5 := Lib.hid (HBw4.out.trans (hbw5.mono HBw4.out.size))
  clear hiw5 hbw5 HBw4
  have hmw6 := below_made w5 (.cells #[.int .i64 1, .int .i64 1, .int .i64 2, .int .i64 1] 3)
  have HMw6 := Lib.hid (HBw5.out.trans (hmw6.mono HBw5.out.size))
  have HJw6 := Lib.hid (HIw5.out.below hmw6)
  clear hmw6 HBw5 HIw5
  go_wp2_with fail
  refine (HSM.out _ _ [1, 1, 2, 1] _ _ _ HJw6.out (made_ints [1, 1, 2, 1] _ _ w5 rfl) (by decide)).mono ?_
  rintro e w6 ⟨rfl, hbw6⟩
  have HBw6 := Lib.hid (HMw6.out.trans (hbw6.mono HMw6.out.size))
  clear hbw6 HMw6 HJw6
  have hmw7 := below_made w6 (.cells #[.int .i64 97, .int .i64 32, .int .i64 9, .int .i64 1488, .int .i64 32] 3)
  have HMw7 := Lib.hid (HBw6.out.trans (hmw7.mono HBw6.out.size))
  clear hmw7
  go_wp2_with fail
  refine (HOF.out _ [97, 32, 9, 1488, 32] 5 _ _ rfl (made_ints [97, 32, 9, 1488, 32] _ _ w6 rfl) (by omega)).mono ?_
  rintro e w7 ⟨Aw7, dw7, rfl, hrw7, hbw7⟩
  have HRw7 := Lib.hid hrw7
  have HBw7 := Lib.hid (HMw7.out.trans (hbw7.mono HMw7.out.size))
  clear hrw7 hbw7 HMw7 HBw6
  have hmw8 := below_made w7 (.cells #[.int .i64 0, .int .i64 0, .int .i64 0, .int .i64 1, .int .i64 1] 3)
  have HBw8 := Lib.hid (HBw7.out.trans (hmw8.mono HBw7.out.size))
  have HRw8 := Lib.hid (HRw7.out.below hmw8)
  clear hmw8 HBw7 HRw7
  go_wp2_with fail
  refine (do3 _ _ _ _ _ HRw8.out (made_ints [0, 0, 0, 1, 1] _ _ w7 rfl)).mono ?_
  rintro e w9 ⟨Aw9, dw9, rfl, hiw9, hbw9⟩
  have HIw9 := Lib.hid hiw9
  have HBw9 := Lib.hid (HBw8.out.trans (hbw9.mono HBw8.out.size))
  clear hiw9 hbw9 HBw8
  have hmw10 := below_made w9 (.cells #[.int .i64 0, .int .i64 0, .int .i64 0, .int .i64 1, .int .i64 0] 3)
  have HMw10 := Lib.hid (HBw9.out.trans (hmw10.mono HBw9.out.size))
  have HJw10 := Lib.hid (HIw9.out.below hmw10)
  clear hmw10 HBw9 HIw9
  go_wp2_with fail
  refine (HSM.out _ _ [0, 0, 0, 1, 0] _ _ _ HJw10.out (made_ints [0, 0, 0, 1, 0] _ _ w9 rfl) (by decide)).mono ?_
  rintro e w10 ⟨rfl, hbw10⟩
  have HBw10 := Lib.hid (HMw10.out.trans (hbw10.mono HMw10.out.size))
  clear hbw10 HMw10 HJw10
  have hmw11 := below_made w10 (.cells #[.int .i64 0, .int .i64 1, .int .i64 1, .int .i64 2, .int .i64 0] 3)
  have HBw11 := Lib.hid (HBw10.out.trans (hmw11.mono HBw10.out.size))
  clear hmw11 HBw10
  go_wp2_with fail
  refine (do4 _ _ _ (made_ints [0, 1, 1, 2, 0] _ _ w10 rfl)).mono ?_
  rintro e w12 ⟨Aw12, dw12, rfl, hiw12, hbw12⟩
  have HIw12 := Lib.hid hiw12
  have HBw12 := Lib.hid (HBw11.out.trans (hbw12.mono HBw11.out.size))
  clear hiw12 hbw12 HBw11
  have hmw13 := below_made w12 (.cells #[.int .i64 0, .int .i64 3, .int .i64 2, .int .i64 1, .int .i64 4] 3)
  have HMw13 := Lib.hid (HBw12.out.trans (hmw13.mono HBw12.out.size))
  have HJw13 := Lib.hid (HIw12.out.below hmw13)
  clear hmw13 HBw12 HIw12
  go_wp2_with fail
  refine (HSM.out _ _ [0, 3, 2, 1, 4] _ _ _ HJw13.out (made_ints [0, 3, 2, 1, 4] _ _ w12 rfl) (by decide)).mono ?_
  rintro e w13 ⟨rfl, hbw13⟩
  have HBw13 := Lib.hid (HMw13.out.trans (hbw13.mono HMw13.out.size))
  clear hbw13 HMw13 HJw13
  have hmw14 := below_made w13 (.cells #[.int .i64 1, .int .i64 2, .int .i64 2, .int .i64 1] 3)
  have HBw14 := Lib.hid (HBw13.out.trans (hmw14.mono HBw13.out.size))
  clear hmw14 HBw13
  go_wp2_with fail
  refine (do5 _ _ _ (made_ints [1, 2, 2, 1] _ _ w13 rfl)).mono ?_
  rintro e w15 ⟨Aw15, dw15, rfl, hiw15, hbw15⟩
  have HIw15 := Lib.hid hiw15
  have HBw15 := Lib.hid (HBw14.out.trans (hbw15.mono HBw14.out.size))
  clear hiw15 hbw15 HBw14
  have hmw16 := below_made w15 (.cells #[.int .i64 3, .int .i64 1, .int .i64 2, .int .i64 0] 3)
  have HMw16 := Lib.hid (HBw15.out.trans (hmw16.mono HBw15.out.size))
  have HJw16 := Lib.hid (HIw15.out.below hmw16)
  clear hmw16 HBw15 HIw15
  go_wp2_with fail
  refine (HSM.out _ _ [3, 1, 2, 0] _ _ _ HJw16.out (made_ints [3, 1, 2, 0] _ _ w15 rfl) (by decide)).mono ?_
  rintro e w16 ⟨rfl, hbw16⟩
  have HBw16 := Lib.hid (HMw16.out.trans (hbw16.mono HMw16.out.size))
  clear hbw16 HMw16 HJw16
  have hmw17 := below_made w16 (.cells #[.int .i64 2, .int .i64 2] 3)
  have HBw17 := Lib.hid (HBw16.out.trans (hmw17.mono HBw16.out.size))
  clear hmw17 HBw16
  go_wp2_with fail
  refine (do6 _ _ _ (made_ints [2, 2] _ _ w16 rfl)).mono ?_
  rintro e w18 ⟨Aw18, dw18, rfl, hiw18, hbw18⟩
  have HIw18 := Lib.hid hiw18
  have HBw18 := Lib.hid (HBw17.out.trans (hbw18.mono HBw17.out.size))
  clear hiw18 hbw18 HBw17
  have hmw19 := below_made w18 (.cells #[.int .i64 0, .int .i64 1] 3)
  have HMw19 := Lib.hid (HBw18.out.trans (hmw19.mono HBw18.out.size))
  have HJw19 := Lib.hid (HIw18.out.below hmw19)
  clear hmw19 HBw18 HIw18
  go_wp2_with fail
  refine (HSM.out _ _ [0, 1] _ _ _ HJw19.out (made_ints [0, 1] _ _ w18 rfl) (by decide)).mono ?_
  rintro e w19 ⟨rfl, hbw19⟩
  have HBw19 := Lib.hid (HMw19.out.trans (hbw19.mono HMw19.out.size))
  clear hbw19 HMw19 HJw19
  go_wp2_with fail
  refine (HS1.out _).mono ?_
  rintro e w20 ⟨rfl, hbw20⟩
  have HBw20 := Lib.hid (HBw19.out.trans (hbw20.mono HBw19.out.size))
  clear hbw20 HBw19
  go_wp2_with fail
  refine (HS2.out _).mono ?_
  rintro e w21 ⟨rfl, hbw21⟩
  have HBw21 := Lib.hid (HBw20.out.trans (hbw21.mono HBw20.out.size))
  clear hbw21 HBw20
  go_wp2_with fail
  go_ret
  exact ⟨rfl, HBw21.out⟩
end Go.Proofs.YtfclpecbnailgaaGreat.Bi

/-
  A lemma for every statement of the form 'the call returns true and each argument reads as before': a call that leaves all old memory as it was meets the statement's conclusion.
-/
namespace Go.Proofs.YtfclpecbnailgaaGreat
open Go.ChangeShapes Go.WideShapes Go.ChangeAt Go.RowKit
theorem law_own : ownKnob Tryz.prog.godebug = none := by kernel_rfl
theorem law_laidOut : laidOutB Tryz.prog = true := by kernel_rfl
def rowed (P : Program) (ts : List TypeId) : Bool := ts.all fun t => P.readableRec t && decide (t < P.types.size)
theorem below_trodAll {H : Type} {enc : TypeId × Value → H} {P : Program} (hl : laidOutB P = true) {W W' : World} (hb : Below W.heap.size W W') :
    ∀ (ts : List TypeId) (vs : List Value) (ds : List (DataW H)) (ps : List MemPlace), rowed P ts = true → DataW.TrodAll enc P W 0 (fun _ => true) true ts vs ds ps → (∀ x ∈ ps, x.block < W.heap.size) →
      DataW.TrodAll enc P W' 0 (fun b => decide (b < W.heap.size)) true ts vs ds ps
  | [], [], [], _, _, h, _ => h
  | [], _ :: _, _, _, _, h, _ => h.elim
  | [], [], _ :: _, _, _, h, _ => h.elim
  | _ :: _, [], _, _, _, h, _ => h.elim
  | _ :: _, _ :: _, [], _, _, h, _ => h.elim
  | t :: ts, v :: vs, d :: ds, ps, hr, h, hlt => by
    obtain ⟨p, q, h1, h2, rfl⟩ := h
    simp only [rowed, List.all_cons, Bool.and_eq_true, decide_eq_true_eq] at hr
    exact ⟨p, q, Below.trod hl hr.1.1 hr.1.2 h1 hb (fun x hx => hlt x (List.mem_append_left _ hx)), below_trodAll hl hb ts vs ds q hr.2 h2 (fun x hx => hlt x (List.mem_append_right _ hx)), rfl⟩
theorem law_post {H : Type} {enc : TypeId × Value → H} {f : Func} {s : ChangeSpec} {W W' : World} {args : Array Value} {ds gs : List (DataW H)} {before : List MemPlace}
    (hW : DataW.Whole enc Tryz.prog f.params.toList s.vars false W args.toList ds gs before) (hv : s.vars = []) (hres : f.resultTypes = #[4]) (hrow : rowed Tryz.prog f.params.toList = true)
    (hfn : s.fn H (ds ++ gs) = { results := [.lit (.bool true)], args := ds }) (hB : Below W.heap.size W W') :
    s.post enc Tryz.prog f false true false false W args (.bool true) W' := by
  have hW' := hW
  obtain ⟨p, q, hA, hV, rfl, _, _⟩ := hW
  rw [hv] at hV
  obtain ⟨rfl, rfl⟩ := trodVars_none hV
  have hlt : ∀ x ∈ p, x.block < W.heap.size := fun x hx => hW'.lt x (List.mem_append_left _ hx)
  refine ⟨ds, [], p ++ [], [], p, [], hW', ?_, ?_, ?_, hB.frame _, fun h => by cases h⟩
  · rw [hfn, hres]
    exact trodAll_mk1 (shut_bool Tryz.underlying4 true)
  · rw [hfn]
    exact below_trodAll law_laidOut hB _ _ _ _ hrow hA hlt
  · rw [hfn, hv]
    rfl
end Go.Proofs.YtfclpecbnailgaaGreat

/-
  Small facts that the statements of layer 16 share.
-/
set_option linter.unusedVariables false
namespace Go.Proofs.YtfclpecbnailgaaGreat.Bi
open Go Go.RowKit Go.Lib Go.Proofs.YtfclpecbnailgaaGreat.Cl Go.Proofs.YtfclpecbnailgaaGreat.Rc
theorem bt {w a b : World} (h : Below w.heap.size w a) (k : Below a.heap.size a b) : Below w.heap.size w b := h.trans (k.mono h.size)
theorem same_n (A B : Option Addr) (zs : List Int) (n c d : Nat) (w : World) (hl : zs.length = n) (ha : IntsAt w A zs) (hb : IntsAt w B zs) (hn : n ≤ 1099511627776) :
    Calls Tryz.prog 11 #[.slice A n c, .slice B n d] w fun e w' => e = .returned (.bool true) ∧ Below w.heap.size w w' := by
  subst hl
  exact same_ints A B zs c d w ha hb hn
theorem made_nil (w : World) : (w.alloc (.cells #[] 3)).ownsRow w.heap.size 3 1 (.slice (some ⟨w.heap.size, 0, none⟩) 0 0) 0 (icl []) := World.ownsRow_made w #[] 0 (Nat.le_refl _) (Nat.zero_le _) rfl
theorem lineZ_le (c l : List Int) (p : Int) : (lineZ c l p).length ≤ l.length := by
  unfold lineZ
  split
  · rename_i h
    rw [line_len p c l h]
    exact Nat.le_refl _
  · exact Nat.zero_le _
end Go.Proofs.YtfclpecbnailgaaGreat.Bi

/-
  Proved here: what the document's own State.Top, Next, Fits, Without, With return, for what is open in memory; they leave what was in memory. Condition: what is open is as it may be.
-/
set_option linter.unusedVariables false
namespace Go.Proofs.YtfclpecbnailgaaGreat.Lv
open Go Go.RowKit Go.Lib Go.Proofs.YtfclpecbnailgaaGreat.Cl
def inI (e : E) : Int := if e.iso = true then 1 else 0
def nC (e : E) : List Value := [.int .i64 e.lev, .int .i64 e.ov, .int .i64 (inI e)]
/-- The cells of a State's row. -/
def nsC : List E → List Value
  | [] => []
  | e :: r => nsC r ++ nC e
theorem nsC_len : ∀ (es : List E), (nsC es).length = es.length * 3
  | [] => rfl
  | e :: r => by simp [nsC, nC, nsC_len r]; omega
theorem nsC_last (e : E) (r : List E) : (nsC (e :: r))[r.length * 3]? = some (.int .i64 e.lev) ∧ (nsC (e :: r))[r.length * 3 + 1]? = some (.int .i64 e.ov) ∧ (nsC (e :: r))[r.length * 3 + 2]? = some (.int .i64 (inI e)) := by
  have h := nsC_len r
  refine ⟨?_, ?_, ?_⟩
  · rw [nsC, List.getElem?_append_right (by omega), h, Nat.sub_self]; rfl
  · rw [nsC, List.getElem?_append_right (by omega), h, Nat.add_sub_cancel_left]; rfl
  · rw [nsC, List.getElem?_append_right (by omega), h, Nat.add_sub_cancel_left]; rfl
/-- A State's row lies at block g, with room c. -/
def NsAt (w : World) (g c : Nat) (es : List E) : Prop := g < w.heap.size ∧ es.length ≤ c ∧ (∀ j u, (nsC es)[j]? = some u → w.cell? ⟨g, j, none⟩ = some u) ∧ ∃ cs, w.heap[g]? = some (.cells cs 80 (0, 0))
theorem NsAt.below {w w' : World} {g c : Nat} {es : List E} (h : NsAt w g c es) (hb : Below w.heap.size w w') : NsAt w' g c es :=
  ⟨Nat.lt_of_lt_of_le h.1 hb.size, h.2.1, fun j u hu => (hb.cell (p := ⟨g, j, none⟩) h.1).trans (h.2.2.1 j u hu), by obtain ⟨cs, hcs⟩ := h.2.2.2; exact ⟨cs, (hb.block g h.1).trans hcs⟩⟩
theorem NsAt.store {w : World} {g c : Nat} {es : List E} (h : NsAt w g c es) {a : Addr} (ha : g ≠ a.block) (u : Value) : NsAt (w.setCell a u) g c es :=
  ⟨by simpa using h.1, h.2.1, fun j u hu => (World.cell?_of_block (w := w) (a := ⟨g, j, none⟩) (Below.heap_setCell _ _ _ _ ha)).trans (h.2.2.1 j u hu), by obtain ⟨cs, hcs⟩ := h.2.2.2; exact ⟨cs, (Below.heap_setCell _ _ _ _ ha).trans hcs⟩⟩
theorem NsAt.last {w : World} {g c n : Nat} {e : E} {r : List E} (h : NsAt w g c (e :: r)) (hn : r.length = n) : w.cell? ⟨g, n * 3, none⟩ = some (.int .i64 e.lev) ∧ w.cell? ⟨g, n * 3 + 1, none⟩ = some (.int .i64 e.ov) ∧ w.cell? ⟨g, n * 3 + 2, none⟩ = some (.int .i64 (inI e)) := by
  subst hn
  obtain ⟨h0, h1, h2⟩ := nsC_last e r
  exact ⟨h.2.2.1 _ _ h0, h.2.2.1 _ _ h1, h.2.2.1 _ _ h2⟩
theorem NsAt.off {w : World} {g c : Nat} {e : E} {r : List E} (h : NsAt w g c (e :: r)) : NsAt w g c r := by
  refine ⟨h.1, by have := h.2.1; simp at this; omega, fun j u hu => h.2.2.1 j u ?_, h.2.2.2⟩
  obtain ⟨hj, -⟩ := List.getElem?_eq_some_iff.1 hu
  rw [nsC, List.getElem?_append_left hj]
  exact hu
/-- A row of numbers is none of a State's. -/
theorem NsAt.ints {w : World} {g c base n : Nat} {es : List E} {v : Value} {xs : List Value} (h : NsAt w g c es) (ho : w.ownsRow base 3 1 v n xs) : v.ownBlock ≠ some g := by
  intro he
  obtain ⟨cs, hcs⟩ := h.2.2.2
  rcases ho.2 with ⟨rfl, _⟩ | ⟨g1, c1, cur, rfl, _, hh, _⟩
  · cases he
  · have he2 : some g1 = some g := he
    injection he2 with he2
    subst he2
    rw [hcs] at hh
    injection hh with hh
    injection hh with _ hh _
    exact absurd hh (by decide)
end Go.Proofs.YtfclpecbnailgaaGreat.Lv

/-
  Proved here: what the document's own State.With, Without return, for what is open in memory; they leave what was in memory. Condition: what is open is as it may be.
-/
set_option linter.unusedVariables false
namespace Go.Proofs.YtfclpecbnailgaaGreat.Lv
open Go Go.RowKit Go.Lib Go.Proofs.YtfclpecbnailgaaGreat.Cl
theorem row_other {w : World} {B g c : Nat} {t : TypeId} {sz n : Nat} {xs : List Value} (h : w.ownsRow B t sz (.slice (some ⟨g, 0, none⟩) n c) n xs) {a : Addr} (ha : g ≠ a.block) (u : Value) : (w.setCell a u).ownsRow B t sz (.slice (some ⟨g, 0, none⟩) n c) n xs :=
  ownsRow_setCell_other h (fun e => ha (by have e2 : some g = some a.block := e; injection e2)) u
theorem new_cells (U : World) (T : TypeId) (u0 u1 u2 : Value) : ∀ j u, [u0, u1, u2][j]? = some u → (U.alloc (.cells #[u0, u1, u2] T)).cell? ((⟨U.heap.size, 0, none⟩ : Addr).add j) = some u := cells_made U #[u0, u1, u2] T [u0, u1, u2] rfl _ rfl
end Go.Proofs.YtfclpecbnailgaaGreat.Lv

/-
  Proved here: what the document's own Removed, odd, Step return, for every row of numbers of at most 2^40; they leave what was in memory. Condition: what is open is as it may be; counts of at most 2^40.
-/
set_option linter.unusedVariables false
namespace Go.Proofs.YtfclpecbnailgaaGreat.Lv
open Go Go.RowKit Go.Lib Go.Proofs.YtfclpecbnailgaaGreat.Cl Go.Proofs.YtfclpecbnailgaaGreat.Ba
set_option maxHeartbeats 1000000 in
set_option maxRecDepth 100000 in
theorem nRemoved_any (c : Int) (w : World) :
    Calls Tryz.prog 63 #[.int .i64 c] w fun x w' => x = .returned (.bool (remB c)) ∧ w = w' := by
  unfold remB
  cases h1 : (c == 16)
  case' false => cases h2 : (c == 14)
  case' false.false => cases h3 : (c == 17)
  case' false.false.false => cases h4 : (c == 15)
  case' false.false.false.false => cases h5 : (c == 18)
  case' false.false.false.false.false => cases h6 : (c == 9)
  all_goals
    go_enter Tryz.func63, Tryz.ntmps63
    go_wp2
    go_ret
    exact ⟨rfl, rfl⟩
end Go.Proofs.YtfclpecbnailgaaGreat.Lv

/-
  Proved here: what parquetryref03.brackets, lone return: slices of their numbers; they leave what was in memory. No condition.
-/
set_option linter.unusedVariables false
namespace Go.Proofs.YtfclpecbnailgaaGreat.Mr
open Go.RowKit Go.Lib Go.Proofs.YtfclpecbnailgaaGreat.Mi Go.Proofs.YtfclpecbnailgaaGreat.Tab
def flatR (l : List MRow) : List Int := l.flatMap fun r => [r.1, r.2.1]
theorem flatR_len : ∀ (l : List MRow), (flatR l).length = 2 * l.length
  | [] => rfl
  | r :: l => by
    have := flatR_len l
    unfold flatR at this ⊢
    rw [List.flatMap_cons, List.length_append, this]
    simp
    omega
theorem flatR_at : ∀ (l : List MRow) (k : Nat) (hk : k < l.length), (flatR l)[2 * k]? = some l[k].1 ∧ (flatR l)[2 * k + 1]? = some l[k].2.1
  | r :: l, 0, hk => ⟨rfl, rfl⟩
  | r :: l, k + 1, hk => by
    have := flatR_at l k (by simpa using hk)
    rw [show flatR (r :: l) = r.1 :: r.2.1 :: flatR l from rfl, show 2 * (k + 1) = 2 * k + 1 + 1 from by omega]
    simpa using this
set_option maxRecDepth 100000 in
theorem brackets_any (w : World) :
    Calls Tryz.prog 125 #[] w fun e w' => e = .returned (.slice (some ⟨w.heap.size, 0, none⟩) 44 44) ∧ LitAt w' w.heap.size (flatR brRows) ∧ Below w.heap.size w w' := by
  go_enter Tryz.func125, Tryz.ntmps125
  refine wp_seq (wp_region_lit (l := [_]) (wpList_assignTo rfl _ rfl ?_))
  show Exit.then _ _ _ _ _
  refine wp_seq ?_
  refine wp_ints 1 0 25 3 (flatR brRows) 44 Tryz.underlying25 infoI1 infoI2 (by kernel_rfl) (by decide) (by decide) (by kernel_rfl) ?_
  refine wp_ret ?_
  go_ret
  exact ⟨rfl, litAt_made _ _ _, (Below.refl _ _).alloc (Nat.le_refl _) _⟩
set_option maxRecDepth 100000 in
theorem lone_true (w : World) :
    Calls Tryz.prog 87 #[.bool true] w fun e w' => e = .returned (.slice (some ⟨w.heap.size, 0, none⟩) 8 8) ∧ LitAt w' w.heap.size (flatR brPairs) ∧ Below w.heap.size w w' := by
  go_enter Tryz.func87, Tryz.ntmps87
  go_wp2
  go_ret
  exact ⟨rfl, litAt_made (flatR brPairs) _ _, (Below.refl _ _).alloc (Nat.le_refl _) _⟩
set_option maxRecDepth 100000 in
theorem lone_false (w : World) :
    Calls Tryz.prog 87 #[.bool false] w fun e w' => e = .returned (.slice (some ⟨w.heap.size, 0, none⟩) 18 18) ∧ LitAt w' w.heap.size (flatR sgPairs) ∧ Below w.heap.size w w' := by
  go_enter Tryz.func87, Tryz.ntmps87
  go_wp2
  go_ret
  exact ⟨rfl, litAt_made (flatR sgPairs) _ _, (Below.refl _ _).alloc (Nat.le_refl _) _⟩
end Go.Proofs.YtfclpecbnailgaaGreat.Mr

/-
  Proved here: what parquetryref03.inRows, inPairs return at rows as the document has them; they leave what was in memory.
-/
set_option linter.unusedVariables false
namespace Go.Proofs.YtfclpecbnailgaaGreat.Mr
open Go.RowKit Go.Lib Go.Proofs.YtfclpecbnailgaaGreat.Mi Go.Proofs.YtfclpecbnailgaaGreat.Tab
/-- Rows of pairs of neighbours; pairs. -/
def rowB (r : MRow) : Bool := decide (0 ≤ r.1) && (decide (r.1 < r.2.1) && (decide (r.2.1 ≤ 100000) && ((r.2.1 - r.1) % 2 == 1 && r.2.2 == 1)))
def twoB (r : MRow) : Bool := decide (0 ≤ r.1) && (decide (r.1 < r.2.1) && (decide (r.2.1 ≤ 100000) && (r.2.1 - r.1 == r.2.2)))
theorem rowB_is {r : MRow} (h : rowB r = true) : 0 ≤ r.1 ∧ r.1 < r.2.1 ∧ r.2.1 ≤ 100000 ∧ (r.2.1 - r.1) % 2 = 1 ∧ r.2.2 = 1 := by
  simp only [rowB, Bool.and_eq_true, decide_eq_true_eq, beq_iff_eq] at h
  exact ⟨h.1, h.2.1, h.2.2.1, h.2.2.2.1, h.2.2.2.2⟩
theorem twoB_is {r : MRow} (h : twoB r = true) : 0 ≤ r.1 ∧ r.1 < r.2.1 ∧ r.2.1 ≤ 100000 ∧ r.2.1 - r.1 = r.2.2 := by
  simp only [twoB, Bool.and_eq_true, decide_eq_true_eq, beq_iff_eq] at h
  exact ⟨h.1, h.2.1, h.2.2.1, h.2.2.2⟩
theorem row_first {r : MRow} {c : Int} {m : Nat} (h : rowB r = true) (hc : c = r.1 + 2 * m) (hm : r.1 + 2 * m < r.2.1) : hasB r c = true ∧ pairR r c = (1, c + 1) := by
  obtain ⟨h1, h2, h3, h4, h5⟩ := rowB_is h
  obtain ⟨a, b, s⟩ := r
  simp only at *
  subst hc h5
  unfold hasB pairR
  simp only [Bool.and_eq_true, decide_eq_true_eq, beq_iff_eq]
  refine ⟨⟨by omega, by omega, by omega⟩, ?_⟩
  rw [if_pos (by omega)]
theorem row_second {r : MRow} {c : Int} {m : Nat} (h : rowB r = true) (hc : c = r.1 + 2 * m + 1) (hm : r.1 + 2 * m < r.2.1) : hasB r c = true ∧ pairR r c = (2, c - 1) := by
  obtain ⟨h1, h2, h3, h4, h5⟩ := rowB_is h
  obtain ⟨a, b, s⟩ := r
  simp only at *
  subst hc h5
  unfold hasB pairR
  simp only [Bool.and_eq_true, decide_eq_true_eq, beq_iff_eq]
  refine ⟨⟨by omega, by omega, by omega⟩, ?_⟩
  rw [if_neg (by omega)]
theorem row_not {r : MRow} {c : Int} {m : Nat} (h : rowB r = true) (hm : r.2.1 ≤ r.1 + 2 * m) (hc : c < r.1 ∨ r.1 + 2 * m ≤ c) : hasB r c = false := by
  obtain ⟨h1, h2, h3, h4, h5⟩ := rowB_is h
  obtain ⟨a, b, s⟩ := r
  simp only at *
  unfold hasB
  simp only [Bool.and_eq_false_iff, decide_eq_false_iff_not]
  omega
theorem two_first {r : MRow} (h : twoB r = true) : hasB r r.1 = true ∧ pairR r r.1 = (1, r.2.1) := by
  obtain ⟨h1, h2, h3, h4⟩ := twoB_is h
  obtain ⟨a, b, s⟩ := r
  simp only at *
  subst h4
  unfold hasB pairR
  simp only [Bool.and_eq_true, decide_eq_true_eq, beq_iff_eq]
  refine ⟨⟨by omega, by omega, by simp⟩, ?_⟩
  rw [if_pos (by simp)]
  congr 1
  omega
theorem two_second {r : MRow} (h : twoB r = true) : hasB r r.2.1 = true ∧ pairR r r.2.1 = (2, r.1) := by
  obtain ⟨h1, h2, h3, h4⟩ := twoB_is h
  obtain ⟨a, b, s⟩ := r
  simp only at *
  subst h4
  unfold hasB pairR
  simp only [Bool.and_eq_true, decide_eq_true_eq, beq_iff_eq]
  refine ⟨⟨by omega, by omega, by simp⟩, ?_⟩
  rw [Int.ediv_self (by omega), if_neg (by decide)]
  congr 1
  omega
theorem two_not {r : MRow} {c : Int} (h : twoB r = true) (hc1 : c ≠ r.1) (hc2 : c ≠ r.2.1) : hasB r c = false := by
  obtain ⟨h1, h2, h3, h4⟩ := twoB_is h
  obtain ⟨a, b, s⟩ := r
  simp only at *
  subst h4
  unfold hasB
  simp only [Bool.and_eq_false_iff, decide_eq_false_iff_not, beq_eq_false_iff_ne]
  by_cases h5 : a ≤ c
  · by_cases h6 : c ≤ b
    · right; right
      rw [Int.emod_eq_of_lt (by omega) (by omega)]
      omega
    · exact .inr (.inl h6)
  · exact .inl h5
theorem ret2 {a b c d : Int} (h1 : a = c) (h2 : b = d) : Ending.returned (.tuple #[.int .i64 a, .int .i64 b]) = .returned (.tuple #[.int .i64 c, .int .i64 d]) := by rw [h1, h2]
theorem flat_at {w : World} {g : Nat} {rs : List MRow} (h : LitAt w g (flatR rs)) {k : Nat} (hk : k < rs.length) : w.cell? ⟨g, 2 * k, none⟩ = some (.int .i64 rs[k].1) ∧ w.cell? ⟨g, 2 * k + 1, none⟩ = some (.int .i64 rs[k].2.1) := by
  have hl := flatR_len rs
  obtain ⟨h1, h2⟩ := flatR_at rs k hk
  rw [List.getElem?_eq_getElem (by omega), Option.some.injEq] at h1 h2
  have h3 := h.2 (2 * k) (by omega)
  have h4 := h.2 (2 * k + 1) (by omega)
  rw [h1] at h3
  rw [h2] at h4
  exact ⟨h3, h4⟩
set_option maxHeartbeats 1000000 in
set_option maxRecDepth 100000 in
theorem inRows_any (g : Nat) (rs : List MRow) (c : Int) (n : Nat) (w : World) (hn : n = 2 * rs.length) (hR : LitAt w g (flatR rs)) (hl : rs.length ≤ 1000) (hok : ∀ r ∈ rs, rowB r = true) :
    Calls Tryz.prog 84 #[.slice (some ⟨g, 0, none⟩) n n, .int .i64 c] w fun e w' => e = .returned (.tuple #[.int .i64 (inR rs c).1, .int .i64 (inR rs c).2]) ∧ w = w' := by
  have HR := Lib.hid hR
  have HOK := Lib.hid hok
  have HN := Lib.hid hn
  have hn2 : n ≤ 2000 := by omega
  clear hR hok hn
  obtain ⟨res, hres⟩ : ∃ res, inR rs c = res := ⟨_, rfl⟩
  rw [hres]
  have HRes := Lib.hid hres
  clear hres
  go_enter Tryz.func84, Tryz.ntmps84
  go_wp2
  go_loop [6] (fun s6 => ∃ k i : Nat, k = 2 * i ∧ k ≤ n ∧ s6 = .int .i64 k ∧ ∀ j (hj : j < rs.length), j < i → hasB rs[j] c = false) (fun s6 => n - (RowKit.intOf s6).toNat)
  case atStart => exact ⟨0, 0, rfl, Nat.zero_le _, rfl, fun j _ h => by omega⟩
  case round =>
    obtain ⟨k, i, hki, hk, rfl, hlo⟩ := hrel
    have HLO := Lib.hid hlo
    have HKI := Lib.hid hki
    clear hlo hki
    by_cases hltk : k < n
    · have hlt : i < rs.length := by have := HN.out; have := HKI.out; omega
      have hlt1 : k + 1 < n := by have := HN.out; have := HKI.out; omega
      obtain ⟨c0, c1⟩ := flat_at HR.out hlt
      rw [← HKI.out] at c0 c1
      have hr := HOK.out _ (List.getElem_mem hlt)
      obtain ⟨r, hrr⟩ : ∃ r, rs[i] = r := ⟨_, rfl⟩
      rw [hrr] at c0 c1 hr
      have HRR := Lib.hid hrr
      clear hrr
      obtain ⟨b1, b2, b3, b4, b5⟩ := rowB_is hr
      have HB4 := Lib.hid b4
      have HB5 := Lib.hid b5
      have HRB := Lib.hid hr
      clear hr b4 b5
      have HF : ∀ m : Nat, c = r.1 + 2 * m → r.1 + 2 * m < r.2.1 → res = (1, c + 1) := fun m h1 h2 => by
        obtain ⟨h3, h4⟩ := row_first HRB.out h1 h2
        rw [← HRes.out, inR_at rs c i hlt HLO.out (by rw [HRR.out]; exact h3), HRR.out, h4]
      have HS : ∀ m : Nat, c = r.1 + 2 * m + 1 → r.1 + 2 * m < r.2.1 → res = (2, c - 1) := fun m h1 h2 => by
        obtain ⟨h3, h4⟩ := row_second HRB.out h1 h2
        rw [← HRes.out, inR_at rs c i hlt HLO.out (by rw [HRR.out]; exact h3), HRR.out, h4]
      have HX : ∀ m : Nat, r.2.1 ≤ r.1 + 2 * m → (c < r.1 ∨ r.1 + 2 * m ≤ c) → ∀ j (hj : j < rs.length), j < i + 1 → hasB rs[j] c = false := fun m h1 h2 j hj hji => by
        by_cases e : j = i
        · subst e; rw [HRR.out]; exact row_not HRB.out h1 h2
        · exact HLO.out j hj (by omega)
      have HF' := Lib.hid HF
      have HS' := Lib.hid HS
      have HX' := Lib.hid HX
      clear HF HS HX
      generalize r.1 = a0 at *
      generalize r.2.1 = z0 at *
      go_wp2_with fail
      go_loop [7] (fun s7 => ∃ m : Nat, a0 + 2 * m ≤ z0 + 1 ∧ s7 = .int .i64 (a0 + 2 * m) ∧ (c < a0 ∨ a0 + 2 * m ≤ c)) (fun s7 => (z0 + 1 - RowKit.intOf s7).toNat)
      case atStart => exact ⟨0, by omega, by simp, by omega⟩
      case round =>
        obtain ⟨m, hm, rfl, hc⟩ := hrel
        by_cases hm2 : a0 + 2 * m < z0
        · by_cases e1 : c = a0 + 2 * m
          · have hd : (c == a0 + 2 * m) = true := by simpa using e1
            have HD := Lib.hid (HF'.out m e1 hm2)
            have HE := Lib.hid e1
            clear e1
            go_wp2
            go_ret2
            exact ⟨ret2 (by rw [HD.out]) (by rw [HD.out, HE.out]), rfl⟩
          · have hd : (c == a0 + 2 * m) = false := by simpa using e1
            by_cases e2 : c = a0 + 2 * m + 1
            · have hd2 : (c == a0 + 2 * m + 1) = true := by simpa using e2
              have HD := Lib.hid (HS'.out m e2 hm2)
              have HE := Lib.hid e2
              clear e1 e2
              go_wp2
              go_ret2
              exact ⟨ret2 (by rw [HD.out]) (by rw [HD.out, HE.out]; omega), rfl⟩
            · have hd2 : (c == a0 + 2 * m + 1) = false := by simpa using e2
              have hnext : c < a0 ∨ a0 + 2 * ((m + 1 : Nat) : Int) ≤ c := by omega
              have HNE := Lib.hid hnext
              clear hnext e1 e2 hc
              go_wp2
              go_round
              case rel => exact ⟨m + 1, by have := HB4.out; omega, by go_num, HNE.out⟩
              case measure => simp [RowKit.intOf]; omega
        · have HX2 := Lib.hid (HX'.out m (by omega) hc)
          clear hc
          go_wp2
          go_round
          case rel => exact ⟨k + 2, i + 1, by have := HKI.out; omega, by omega, by go_num, HX2.out⟩
          case measure => simp [RowKit.intOf]; omega
    · have HD := Lib.hid (inR_none rs c fun r hr => by
        obtain ⟨j, hj, rfl⟩ := List.mem_iff_getElem.1 hr
        exact HLO.out j hj (by have := HN.out; have := HKI.out; omega))
      go_wp2
      go_ret2
      exact ⟨ret2 (by rw [← HRes.out, HD.out]) (by rw [← HRes.out, HD.out]), rfl⟩
set_option maxHeartbeats 1000000 in
set_option maxRecDepth 100000 in
theorem inPairs_any (g : Nat) (rs : List MRow) (c : Int) (n : Nat) (w : World) (hn : n = 2 * rs.length) (hR : LitAt w g (flatR rs)) (hl : rs.length ≤ 1000) (hok : ∀ r ∈ rs, twoB r = true) :
    Calls Tryz.prog 86 #[.slice (some ⟨g, 0, none⟩) n n, .int .i64 c] w fun e w' => e = .returned (.tuple #[.int .i64 (inR rs c).1, .int .i64 (inR rs c).2]) ∧ Below w.heap.size w w' := by
  have HR := Lib.hid hR
  have HOK := Lib.hid hok
  have HN := Lib.hid hn
  have hn2 : n ≤ 2000 := by omega
  clear hR hok hn
  obtain ⟨res, hres⟩ : ∃ res, inR rs c = res := ⟨_, rfl⟩
  rw [hres]
  have HRes := Lib.hid hres
  clear hres
  go_enter Tryz.func86, Tryz.ntmps86
  go_wp2
  go_loop [6] (fun s6 => ∃ k i : Nat, k = 2 * i ∧ k ≤ n ∧ s6 = .int .i64 k ∧ ∀ j (hj : j < rs.length), j < i → hasB rs[j] c = false) (fun s6 => n - (RowKit.intOf s6).toNat)
  case atStart => exact ⟨0, 0, rfl, Nat.zero_le _, rfl, fun j _ h => by omega⟩
  case round =>
    obtain ⟨k, i, hki, hk, rfl, hlo⟩ := hrel
    have HLO := Lib.hid hlo
    have HKI := Lib.hid hki
    clear hlo hki
    by_cases hltk : k < n
    · have hlt : i < rs.length := by have := HN.out; have := HKI.out; omega
      have hlt1 : k + 1 < n := by have := HN.out; have := HKI.out; omega
      obtain ⟨c0, c1⟩ := flat_at HR.out hlt
      rw [← HKI.out] at c0 c1
      have hr := HOK.out _ (List.getElem_mem hlt)
      obtain ⟨r, hrr⟩ : ∃ r, rs[i] = r := ⟨_, rfl⟩
      rw [hrr] at c0 c1 hr
      have HRR := Lib.hid hrr
      clear hrr
      have HRB := Lib.hid hr
      clear hr
      have HF : c = r.1 → res = (1, r.2.1) := fun h1 => by
        obtain ⟨h3, h4⟩ := two_first HRB.out
        rw [← h1] at h3 h4
        rw [← HRes.out, inR_at rs c i hlt HLO.out (by rw [HRR.out]; exact h3), HRR.out, h4]
      have HS : c = r.2.1 → res = (2, r.1) := fun h1 => by
        obtain ⟨h3, h4⟩ := two_second HRB.out
        rw [← h1] at h3 h4
        rw [← HRes.out, inR_at rs c i hlt HLO.out (by rw [HRR.out]; exact h3), HRR.out, h4]
      have HX : c ≠ r.1 → c ≠ r.2.1 → ∀ j (hj : j < rs.length), j < i + 1 → hasB rs[j] c = false := fun h1 h2 j hj hji => by
        by_cases e : j = i
        · subst e; rw [HRR.out]; exact two_not HRB.out h1 h2
        · exact HLO.out j hj (by omega)
      have HF' := Lib.hid HF
      have HS' := Lib.hid HS
      have HX' := Lib.hid HX
      clear HF HS HX
      generalize r.1 = a0 at *
      generalize r.2.1 = z0 at *
      by_cases e1 : c = a0
      · have hd : (c == a0) = true := by simpa using e1
        have HD := Lib.hid (HF'.out e1)
        clear e1
        go_wp2_with fail
        go_quiet (fail)
        all_goals go_wp2
        all_goals go_ret2
        all_goals exact ⟨ret2 (by rw [HD.out]) (by rw [HD.out]), below_drewN (Below.refl _ _) _⟩
      · have hd : (c == a0) = false := by simpa using e1
        by_cases e2 : c = z0
        · have hd2 : (c == z0) = true := by simpa using e2
          have HD := Lib.hid (HS'.out e2)
          clear e1 e2
          go_wp2_with fail
          go_quiet (fail)
          all_goals go_wp2
          all_goals go_ret2
          all_goals exact ⟨ret2 (by rw [HD.out]) (by rw [HD.out]), below_drewN (Below.refl _ _) _⟩
        · have hd2 : (c == z0) = false := by simpa using e2
          have HX2 := Lib.hid (HX'.out e1 e2)
          clear e1 e2
          go_wp2
          go_round
          case rel => exact ⟨k + 2, i + 1, by have := HKI.out; omega, by omega, by go_num, HX2.out⟩
          case measure => simp [RowKit.intOf]; omega
    · have HD := Lib.hid (inR_none rs c fun r hr => by
        obtain ⟨j, hj, rfl⟩ := List.mem_iff_getElem.1 hr
        exact HLO.out j hj (by have := HN.out; have := HKI.out; omega))
      go_wp2
      go_ret2
      exact ⟨ret2 (by rw [← HRes.out, HD.out]) (by rw [← HRes.out, HD.out]), Below.refl _ _⟩
end Go.Proofs.YtfclpecbnailgaaGreat.Mr
