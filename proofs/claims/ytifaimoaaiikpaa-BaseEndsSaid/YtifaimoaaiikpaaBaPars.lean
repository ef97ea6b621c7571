/-
  Proved here: what base.together and base.Paragraphs return, for every row of runes of whatever numbers, of at most 2^40: a new row of where paragraphs end, by the plain parL. They leave what was in memory.
-/
import Derived.Test.YtifaimoaaiikpaaRuAll
import Derived.Test.YtifaimoaaiikpaaBaRefM
import Derived.Test.YtifaimoaaiikpaaArrKit
import Derived.Deep.RegionHeld3
import Derived.LoopTactic
import Derived.Deep.QuietTactic
import Derived.BigQuiet
set_option linter.unusedVariables false
namespace Go.Proofs.Ytifaimoaaiikpaa.Ba
open Go.RowKit Go.Lib Go.Proofs.Ytifaimoaaiikpaa.Cl Go.Proofs.Ytifaimoaaiikpaa.Arr
open Go.Proofs.Ytifaimoaaiikpaa.Ku (R3 RuAt)

def codeR (l : List R3) (i : Nat) : Int := (l.getD i (0, 0, 0)).2.2
def tog (a b : Int) : Bool := a == 13 && b == 10
/-- Whether a paragraph ends behind the rune at a place. -/
def endB (l : List R3) (i : Nat) : Bool := i + 1 == l.length || (cls (codeR l i) == 10 && !tog (codeR l i) (codeR l (i + 1)))
/-- Where the paragraphs end, as far as k runes tell it. -/
def parL (l : List R3) (k : Nat) : List Int := ((List.range k).filter (endB l)).map fun (i : Nat) => (i : Int) + 1
theorem parL_yes {l : List R3} {k : Nat} (h : endB l k = true) : parL l (k + 1) = parL l k ++ [(k : Int) + 1] := by
  unfold parL
  rw [List.range_succ, List.filter_append]
  simp [h]
theorem parL_no {l : List R3} {k : Nat} (h : endB l k = false) : parL l (k + 1) = parL l k := by
  unfold parL
  rw [List.range_succ, List.filter_append]
  simp [h]
theorem parL_len (l : List R3) (k : Nat) : (parL l k).length ≤ k := by
  unfold parL
  rw [List.length_map]
  have := List.length_filter_le (endB l) (List.range k)
  simpa using this
theorem codeR_at {l : List R3} {k : Nat} (h : k < l.length) : codeR l k = l[k].2.2 := by simp [codeR, h]
theorem endB_last {l : List R3} {k : Nat} (h : k + 1 = l.length) : endB l k = true := by simp [endB, h]
theorem endB_mid {l : List R3} {k : Nat} (h : k + 1 ≠ l.length) : endB l k = (cls (codeR l k) == 10 && !tog (codeR l k) (codeR l (k + 1))) := by
  have : (k + 1 == l.length) = false := by simpa using h
  unfold endB
  rw [this, Bool.false_or]
theorem step_belowB {wr V W : World} (h : Below wr.heap.size wr V) (hb : Below V.heap.size V W) : Below wr.heap.size wr W := h.trans (hb.mono h.size)

set_option maxHeartbeats 1000000 in
theorem tog_any (a b : R3) (w : World) :
    Calls Try.prog 23 #[.agg #[.int .i64 a.1, .int .i64 a.2.1, .int .i64 a.2.2], .agg #[.int .i64 b.1, .int .i64 b.2.1, .int .i64 b.2.2]] w fun e w' => e = .returned (.bool (tog a.2.2 b.2.2)) ∧ Below w.heap.size w w' := by
  obtain ⟨a0, a1, a2⟩ := a
  obtain ⟨b0, b1, b2⟩ := b
  unfold tog
  simp only
  cases h1 : (a2 == 13) <;> cases h2 : (b2 == 10)
  all_goals
    go_enter Try.func23, Try.ntmps23
    go_wp2
    go_ret
    exact ⟨rfl, ((Below.refl _ _).alloc (Nat.le_refl _) _).alloc (by simp) _⟩

set_option maxHeartbeats 2000000 in
set_option maxRecDepth 100000 in
theorem pars_any (A : Option Addr) (l : List R3) (n m : Nat) (w : World) (hl : l.length = n) (hR : RuAt w A l) (hn : n ≤ 1099511627776) :
    Calls Try.prog 11 #[.slice A n m] w fun e w' => ∃ v, e = .returned v ∧ w'.ownsRow w.heap.size 3 1 v (parL l n).length (icl (parL l n)) ∧ Below w.heap.size w w' := by
  obtain ⟨i0, hi0, hz0, hz1, hz2⟩ := info_parts infoInt
  have HL := Lib.hid hl
  have HCL := Lib.hid (fun W h => allR_reads A l n m W hl h hn)
  have HCN := Lib.hid (clsR_len l)
  have HR := Lib.hid hR
  clear hR hl
  go_enter Try.func11, Try.ntmps11
  go_wp2_with fail
  refine (HCL.out _ HR.out).mono ?_
  rintro e w1 ⟨B, d, rfl, hI1, hb1⟩
  have HI1 := Lib.hid hI1
  have HR1 := Lib.hid (HR.out.below hb1)
  have HB1 := Lib.hid hb1
  clear hI1 hb1 HCL HR
  go_wp2_with fail
  go_loopw [4, 10] (fun s4 s10 wx => ∃ k : Nat, k ≤ n ∧ s10 = .int .i64 k ∧ Below w1.heap.size w1 wx ∧ wx.ownsRow w1.heap.size 3 1 s4 (parL l k).length (icl (parL l k))) (fun _ s10 _ => n - (RowKit.intOf s10).toNat)
  case atStart => exact ⟨0, Nat.zero_le _, rfl, Below.refl _ _, World.ownsRow_nil _ _ _ _⟩
  case round =>
    obtain ⟨k, hk, rfl, hb, hown⟩ := hrel
    by_cases hlt : k < n
    · have HB := Lib.hid hb
      have HOWN := Lib.hid (fun (V : World) (h : Below wr.heap.size wr V) => Cl.ownsRow_below hown h)
      have HLT := Lib.hid hown.lt
      have hbs := hb.size
      clear hb hown
      have hkl : k < l.length := by rw [HL.out]; exact hlt
      have hcl : k < (clsR l).length := by rw [HCN.out]; exact hkl
      obtain ⟨b, off, rfl, hblt, q0, q1, q2⟩ := (HR1.out.below HB.out).at_ hkl
      obtain ⟨bc, offc, rfl, qc⟩ := (HI1.out.below HB.out).at_ hcl
      have hqc : (clsR l)[k] = cls l[k].2.2 := by simp [clsR]
      rw [hqc] at qc
      clear hqc hcl
      have hpl := parL_len l k
      have HY := Lib.hid (fun h => parL_yes (l := l) (k := k) h)
      have HN := Lib.hid (fun h => parL_no (l := l) (k := k) h)
      have hw1 : IntKind.i64.wrap ((k : Int) + 1) = (k : Int) + 1 := IntWalk.i64_in _ (by omega)
      have hw2 : IntKind.i64.wrap ((n : Int) - 1) = (n : Int) - 1 := IntWalk.i64_in _ (by omega)
      by_cases hend : k + 1 = n
      · have HY2 := Lib.hid (HY.out (endB_last (by rw [HL.out]; exact hend)))
        have he : ((k : Int) == (n : Int) - 1) = true := by rw [beq_iff_eq]; omega
        clear HY HN
        generalize l[k] = r at *
        generalize cls r.2.2 = z at *
        go_wp2_with fail
        go_quiet (fail)
        have hdr := below_drewN (Below.refl wr.heap.size wr) nq
        go_wp2_with (at_builtin; refine wpList_append_own _ rfl _ _ 25 rfl w1.heap.size 3 i0 (.int .i64 0) 1 8 Try.underlying25 hi0 hz0 hz1 hz2 rfl (by decide) _ _ _ rfl ((HOWN.out (wr.drewN nq) hdr).alloc _) ⟨(wr.drewN nq).heap.size, 0, none⟩ 1 1 [.int .i64 ((k : Int) + 1)] rfl rfl (cell_one_new' (by rfl)) (ints_single _) (by unfold maxLen; omega) (by omega) (by have := hbs; simp at this ⊢; omega) ?_)
        intro v' w9 hown' hgrow _
        have HG := Lib.hid hgrow
        have HO' := Lib.hid hown'
        clear hgrow hown'
        go_wp2
        go_roundw
        case measure => simp [RowKit.intOf]; omega
        case rel =>
          refine ⟨k + 1, by omega, by go_num, ?_, ?_⟩
          · exact (((HB.out.trans (hdr.mono hbs)).alloc (by have := hbs; simp at this ⊢; omega) _).grown HG.out (by have := hbs; simp at this ⊢; omega) (fun x hx => (HLT.out x hx).1))
          · rw [HY2.out, icl_snoc, List.length_append]
            exact HO'.out
      · have hk1 : k + 1 < n := by omega
        have hkl1 : k + 1 < l.length := by rw [HL.out]; exact hk1
        obtain ⟨b', off', hab, hblt', p0, p1, p2⟩ := (HR1.out.below HB.out).at_ hkl1
        injection hab with hab
        injection hab with e1 e2
        subst e1 e2
        have hem := endB_mid (l := l) (k := k) (by rw [HL.out]; exact hend)
        rw [codeR_at hkl, codeR_at hkl1] at hem
        have HEM := Lib.hid hem
        clear hem hblt'
        have he : ((k : Int) == (n : Int) - 1) = false := by rw [beq_eq_false_iff_ne]; omega
        have i1 : (k : Int) + 1 < n := by omega
        have i2 : 0 ≤ (k : Int) + 1 := by omega
        generalize l[k] = r at *
        generalize l[k + 1] = r' at *
        by_cases hz : cls r.2.2 = 10
        · have HTG := Lib.hid (fun W => tog_any r r' W)
          rw [hz] at HEM
          rw [hz] at qc
          have HC := Lib.hid (fun V (h : Below wr.heap.size wr V) => (⟨(h.cell (World.block_lt_of_cell? wr _ qc)).trans qc, (h.cell (World.block_lt_of_cell? wr _ q0)).trans q0, (h.cell (World.block_lt_of_cell? wr _ q1)).trans q1, (h.cell (World.block_lt_of_cell? wr _ q2)).trans q2, (h.cell (World.block_lt_of_cell? wr _ p0)).trans p0, (h.cell (World.block_lt_of_cell? wr _ p1)).trans p1, (h.cell (World.block_lt_of_cell? wr _ p2)).trans p2, h⟩ : V.cell? ⟨bc, offc + k, none⟩ = some (.int .i64 10) ∧ V.cell? ⟨b, off + k * 3, none⟩ = some (.int .i64 r.1) ∧ V.cell? ⟨b, off + k * 3 + 1, none⟩ = some (.int .i64 r.2.1) ∧ V.cell? ⟨b, off + k * 3 + 2, none⟩ = some (.int .i64 r.2.2) ∧ V.cell? ⟨b, off + (k + 1) * 3, none⟩ = some (.int .i64 r'.1) ∧ V.cell? ⟨b, off + (k + 1) * 3 + 1, none⟩ = some (.int .i64 r'.2.1) ∧ V.cell? ⟨b, off + (k + 1) * 3 + 2, none⟩ = some (.int .i64 r'.2.2) ∧ Below wr.heap.size wr V))
          clear hz q0 q1 q2 p0 p1 p2 qc
          cases htg : tog r.2.2 r'.2.2 with
          | true =>
            rw [htg] at HEM HTG
            have HN2 := Lib.hid (HN.out HEM.out)
            clear HY HN HEM htg
            go_wp2_with fail
            go_region_held3 (fun V => V.cell? ⟨bc, offc + k, none⟩ = some (.int .i64 10) ∧ V.cell? ⟨b, off + k * 3, none⟩ = some (.int .i64 r.1) ∧ V.cell? ⟨b, off + k * 3 + 1, none⟩ = some (.int .i64 r.2.1) ∧ V.cell? ⟨b, off + k * 3 + 2, none⟩ = some (.int .i64 r.2.2) ∧ V.cell? ⟨b, off + (k + 1) * 3, none⟩ = some (.int .i64 r'.1) ∧ V.cell? ⟨b, off + (k + 1) * 3 + 1, none⟩ = some (.int .i64 r'.2.1) ∧ V.cell? ⟨b, off + (k + 1) * 3 + 2, none⟩ = some (.int .i64 r'.2.2) ∧ Below wr.heap.size wr V) (first | exact HC.out _ (Below.refl _ _) | exact HC.out _ (below_drew (Below.refl _ _)) | exact HC.out _ (by assumption))
              (first | (go_at_call 23; ((with_reducible refine (HTG.out _).mono ?_); rintro e w7 ⟨rfl, hb7⟩; have hbx := step_belowB (wr := wr) (by first | assumption | exact below_drew (Below.refl _ _)) hb7; clear hb7)))
            all_goals (rename_i w8 hh8; have HB8 := Lib.hid hh8.2.2.2.2.2.2.2; clear hh8)
            all_goals go_wp2
            all_goals go_roundw
            case rel => exact ⟨k + 1, by omega, by go_num, HB.out.trans (HB8.out.mono HB.out.size), by rw [HN2.out]; exact HOWN.out _ HB8.out⟩
            case measure => simp [RowKit.intOf]; omega
          | false =>
            rw [htg] at HEM HTG
            have HY2 := Lib.hid (HY.out HEM.out)
            clear HY HN HEM htg
            go_wp2_with fail
            go_region_held3 (fun V => V.cell? ⟨bc, offc + k, none⟩ = some (.int .i64 10) ∧ V.cell? ⟨b, off + k * 3, none⟩ = some (.int .i64 r.1) ∧ V.cell? ⟨b, off + k * 3 + 1, none⟩ = some (.int .i64 r.2.1) ∧ V.cell? ⟨b, off + k * 3 + 2, none⟩ = some (.int .i64 r.2.2) ∧ V.cell? ⟨b, off + (k + 1) * 3, none⟩ = some (.int .i64 r'.1) ∧ V.cell? ⟨b, off + (k + 1) * 3 + 1, none⟩ = some (.int .i64 r'.2.1) ∧ V.cell? ⟨b, off + (k + 1) * 3 + 2, none⟩ = some (.int .i64 r'.2.2) ∧ Below wr.heap.size wr V) (first | exact HC.out _ (Below.refl _ _) | exact HC.out _ (below_drew (Below.refl _ _)) | exact HC.out _ (by assumption))
              (first | (go_at_call 23; ((with_reducible refine (HTG.out _).mono ?_); rintro e w7 ⟨rfl, hb7⟩; have hbx := step_belowB (wr := wr) (by first | assumption | exact below_drew (Below.refl _ _)) hb7; clear hb7)))
            rename_i hh8
            have HB8 := Lib.hid hh8.2.2.2.2.2.2.2
            have hs8 := HB8.out.size
            clear hh8
            go_wp2_with (at_builtin; refine wpList_append_own _ rfl _ _ 25 rfl w1.heap.size 3 i0 (.int .i64 0) 1 8 Try.underlying25 hi0 hz0 hz1 hz2 rfl (by decide) _ _ _ rfl ((HOWN.out w7 HB8.out).alloc _) ⟨w7.heap.size, 0, none⟩ 1 1 [.int .i64 ((k : Int) + 1)] rfl rfl (cell_one_new' (by rfl)) (ints_single _) (by unfold maxLen; omega) (by omega) (by simp; omega) ?_)
            intro v' w9 hown' hgrow _
            have HG := Lib.hid hgrow
            have HO' := Lib.hid hown'
            clear hgrow hown'
            go_wp2
            go_roundw
            case measure => simp [RowKit.intOf]; omega
            case rel =>
              refine ⟨k + 1, by omega, by go_num, ?_, ?_⟩
              · exact (((HB.out.trans (HB8.out.mono hbs)).alloc (by omega) _).grown HG.out (by simp; omega) (fun x hx => (HLT.out x hx).1))
              · rw [HY2.out, icl_snoc, List.length_append]
                exact HO'.out
        · have hz2 : (cls r.2.2 == 10) = false := by simpa using hz
          rw [hz2, Bool.false_and] at HEM
          have HN2 := Lib.hid (HN.out HEM.out)
          generalize cls r.2.2 = z at *
          clear HY HN HEM hz
          go_wp2_with fail
          go_quiet (fail)
          go_wp2_with fail
          have hdr := below_drewN (Below.refl wr.heap.size wr) nq
          go_roundw
          case measure => simp [RowKit.intOf]; omega
          case rel => exact ⟨k + 1, by omega, by go_num, HB.out.trans (hdr.mono hbs), by rw [HN2.out]; exact HOWN.out _ hdr⟩
    · obtain rfl : k = n := by omega
      have HO := Lib.hid (Cl.ownsRow_mono hown HB1.out.size)
      have HB9 := Lib.hid (HB1.out.trans (hb.mono HB1.out.size))
      go_wp2
      go_ret
      exact ⟨_, rfl, HO.out, HB9.out⟩
end Go.Proofs.Ytifaimoaaiikpaa.Ba
