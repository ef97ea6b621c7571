/-
  Proved here: what the document's own answer parquetryref10.Paragraphs returns, for every row of runes of whatever numbers, of at most 2^40: a new row of where paragraphs end, by the plain parL. It leaves what was in memory.
-/
import Derived.Test.YtifaimoaaiikpaaBaPars
import Derived.Test.YtifaimoaaiikpaaRcOf
set_option linter.unusedVariables false
namespace Go.Proofs.Ytifaimoaaiikpaa.Ba
open Go.RowKit Go.Lib Go.Proofs.Ytifaimoaaiikpaa.Cl Go.Proofs.Ytifaimoaaiikpaa.Rc
open Go.Proofs.Ytifaimoaaiikpaa.Ku (R3 RuAt)

set_option maxHeartbeats 2000000 in
set_option maxRecDepth 100000 in
theorem refpars_any (A : Option Addr) (l : List R3) (n m : Nat) (w : World) (hl : l.length = n) (hR : RuAt w A l) (hn : n ≤ 1099511627776) :
    Calls Try.prog 12 #[.slice A n m] w fun e w' => ∃ v, e = .returned v ∧ w'.ownsRow w.heap.size 3 1 v (parL l n).length (icl (parL l n)) ∧ Below w.heap.size w w' := by
  obtain ⟨i0, hi0, hz0, hz1, hz2⟩ := info_parts infoInt
  have HL := Lib.hid hl
  have HR := Lib.hid hR
  clear hR hl
  go_enter Try.func12, Try.ntmps12
  go_wp2_with fail
  go_loopw [3, 4] (fun s3 s4 wx => ∃ k : Nat, k ≤ n ∧ s4 = .int .i64 k ∧ Below w.heap.size w wx ∧ wx.ownsRow w.heap.size 3 1 s3 (parL l k).length (icl (parL l k))) (fun _ s4 _ => n - (RowKit.intOf s4).toNat)
  case atStart => exact ⟨0, Nat.zero_le _, rfl, Below.refl _ _, World.ownsRow_nil _ _ _ _⟩
  case round =>
    obtain ⟨k, hk, rfl, hb, hown⟩ := hrel
    by_cases hlt : k < n
    · have HB := Lib.hid hb
      have HOWN := Lib.hid (fun (V : World) (h : Below wr.heap.size wr V) => Cl.ownsRow_below hown h)
      have HLT := Lib.hid hown.lt
      have hbs := hb.size
      clear hb hown
      have hkl : k < l.length := by rw [HL.out]; exact hlt
      obtain ⟨b, off, rfl, hblt, q0, q1, q2⟩ := (HR.out.below HB.out).at_ hkl
      have hpl := parL_len l k
      have HY := Lib.hid (fun h => parL_yes (l := l) (k := k) h)
      have HN := Lib.hid (fun h => parL_no (l := l) (k := k) h)
      have hw1 : IntKind.i64.wrap ((k : Int) + 1) = (k : Int) + 1 := IntWalk.i64_in _ (by omega)
      have hw2 : IntKind.i64.wrap ((n : Int) - 1) = (n : Int) - 1 := IntWalk.i64_in _ (by omega)
      by_cases hend : k + 1 = n
      · have HY2 := Lib.hid (HY.out (endB_last (by rw [HL.out]; exact hend)))
        have he : ((k : Int) == (n : Int) - 1) = true := by rw [beq_iff_eq]; omega
        have he2 : decide ((k : Int) + 1 < n) = false := decide_eq_false (by omega)
        clear HY HN
        generalize l[k] = r at *
        go_wp2_with fail
        refine (refOf_any _ _).mono ?_
        rintro e w7 ⟨rfl, hb7⟩
        have HB7 := Lib.hid hb7
        have hs7 := hb7.size
        generalize cls r.2.2 = z at *
        clear hb7
        cases hz : (z == 10) with
        | true =>
          go_wp2_with (at_builtin; refine wpList_append_own _ rfl _ _ 25 rfl w.heap.size 3 i0 (.int .i64 0) 1 8 Try.underlying25 hi0 hz0 hz1 hz2 rfl (by decide) _ _ _ rfl ((HOWN.out w7 HB7.out).alloc _) ⟨w7.heap.size, 0, none⟩ 1 1 [.int .i64 ((k : Int) + 1)] rfl rfl (cell_one_new' (by rfl)) (ints_single _) (by unfold maxLen; omega) (by omega) (by simp; omega) ?_)
          intro v' w9 hown' hgrow _
          have HG := Lib.hid hgrow
          have HO' := Lib.hid hown'
          clear hgrow hown'
          go_wp2
          go_roundw
          case measure => simp [RowKit.intOf]; omega
          case rel =>
            refine ⟨k + 1, by omega, by go_num, ?_, ?_⟩
            · exact (((HB.out.trans (HB7.out.mono hbs)).alloc (by omega) _).grown HG.out (by simp; omega) (fun x hx => (HLT.out x hx).1))
            · rw [HY2.out, icl_snoc, List.length_append]
              exact HO'.out
        | false =>
          go_wp2_with (at_builtin; refine wpList_append_own _ rfl _ _ 25 rfl w.heap.size 3 i0 (.int .i64 0) 1 8 Try.underlying25 hi0 hz0 hz1 hz2 rfl (by decide) _ _ _ rfl ((HOWN.out w7 HB7.out).alloc _) ⟨w7.heap.size, 0, none⟩ 1 1 [.int .i64 ((k : Int) + 1)] rfl rfl (cell_one_new' (by rfl)) (ints_single _) (by unfold maxLen; omega) (by omega) (by simp; omega) ?_)
          intro v' w9 hown' hgrow _
          have HG := Lib.hid hgrow
          have HO' := Lib.hid hown'
          clear hgrow hown'
          go_wp2
          go_roundw
          case measure => simp [RowKit.intOf]; omega
          case rel =>
            refine ⟨k + 1, by omega, by go_num, ?_, ?_⟩
            · exact (((HB.out.trans (HB7.out.mono hbs)).alloc (by omega) _).grown HG.out (by simp; omega) (fun x hx => (HLT.out x hx).1))
            · rw [HY2.out, icl_snoc, List.length_append]
              exact HO'.out
      · have hk1 : k + 1 < n := by omega
        have hkl1 : k + 1 < l.length := by rw [HL.out]; exact hk1
        obtain ⟨b', off', hab, hblt', p0, p1, p2⟩ := (HR.out.below HB.out).at_ hkl1
        injection hab with hab
        injection hab with e1 e2
        subst e1 e2
        have hem := endB_mid (l := l) (k := k) (by rw [HL.out]; exact hend)
        rw [codeR_at hkl, codeR_at hkl1] at hem
        have HEM := Lib.hid hem
        clear hem hblt'
        have he : ((k : Int) == (n : Int) - 1) = false := by rw [beq_eq_false_iff_ne]; omega
        have he2 : decide ((k : Int) + 1 < n) = true := decide_eq_true (by omega)
        have i1 : (k : Int) + 1 < n := by omega
        have i2 : 0 ≤ (k : Int) + 1 := by omega
        generalize l[k] = r at *
        generalize l[k + 1] = r' at *
        go_wp2_with fail
        refine (refOf_any _ _).mono ?_
        rintro e w7 ⟨rfl, hb7⟩
        have HB7 := Lib.hid hb7
        have hs7 := hb7.size
        have q2' := (hb7.cell (World.block_lt_of_cell? wr _ q2)).trans q2
        have p2' := (hb7.cell (World.block_lt_of_cell? wr _ p2)).trans p2
        clear hb7 q0 q1 q2 p0 p1 p2
        generalize cls r.2.2 = z at *
        unfold tog at HEM
        cases h13 : (r.2.2 == 13) with
        | true =>
          cases h10 : (r'.2.2 == 10) with
          | true =>
            rw [h13, h10] at HEM
            have HN2 := Lib.hid (HN.out (by rw [HEM.out]; cases (z == 10) <;> rfl))
            clear HY HN HEM
            go_wp2
            go_roundw
            case measure => simp [RowKit.intOf]; omega
            case rel => exact ⟨k + 1, by omega, by go_num, HB.out.trans (HB7.out.mono hbs), by rw [HN2.out]; exact HOWN.out _ HB7.out⟩
          | false =>
            rw [h13, h10] at HEM
            cases hz : (z == 10) with
            | true =>
              rw [hz] at HEM
              have HY2 := Lib.hid (HY.out HEM.out)
              clear HY HN HEM
              go_wp2_with (at_builtin; refine wpList_append_own _ rfl _ _ 25 rfl w.heap.size 3 i0 (.int .i64 0) 1 8 Try.underlying25 hi0 hz0 hz1 hz2 rfl (by decide) _ _ _ rfl ((HOWN.out w7 HB7.out).alloc _) ⟨w7.heap.size, 0, none⟩ 1 1 [.int .i64 ((k : Int) + 1)] rfl rfl (cell_one_new' (by rfl)) (ints_single _) (by unfold maxLen; omega) (by omega) (by simp; omega) ?_)
              intro v' w9 hown' hgrow _
              have HG := Lib.hid hgrow
              have HO' := Lib.hid hown'
              clear hgrow hown'
              go_wp2
              go_roundw
              case measure => simp [RowKit.intOf]; omega
              case rel =>
                refine ⟨k + 1, by omega, by go_num, ?_, ?_⟩
                · exact (((HB.out.trans (HB7.out.mono hbs)).alloc (by omega) _).grown HG.out (by simp; omega) (fun x hx => (HLT.out x hx).1))
                · rw [HY2.out, icl_snoc, List.length_append]
                  exact HO'.out
            | false =>
              rw [hz] at HEM
              have HN2 := Lib.hid (HN.out HEM.out)
              clear HY HN HEM
              go_wp2
              go_roundw
              case measure => simp [RowKit.intOf]; omega
              case rel => exact ⟨k + 1, by omega, by go_num, HB.out.trans (HB7.out.mono hbs), by rw [HN2.out]; exact HOWN.out _ HB7.out⟩
        | false =>
          rw [h13] at HEM
          cases hz : (z == 10) with
          | true =>
            rw [hz] at HEM
            have HY2 := Lib.hid (HY.out HEM.out)
            clear HY HN HEM
            go_wp2_with (at_builtin; refine wpList_append_own _ rfl _ _ 25 rfl w.heap.size 3 i0 (.int .i64 0) 1 8 Try.underlying25 hi0 hz0 hz1 hz2 rfl (by decide) _ _ _ rfl ((HOWN.out w7 HB7.out).alloc _) ⟨w7.heap.size, 0, none⟩ 1 1 [.int .i64 ((k : Int) + 1)] rfl rfl (cell_one_new' (by rfl)) (ints_single _) (by unfold maxLen; omega) (by omega) (by simp; omega) ?_)
            intro v' w9 hown' hgrow _
            have HG := Lib.hid hgrow
            have HO' := Lib.hid hown'
            clear hgrow hown'
            go_wp2
            go_roundw
            case measure => simp [RowKit.intOf]; omega
            case rel =>
              refine ⟨k + 1, by omega, by go_num, ?_, ?_⟩
              · exact (((HB.out.trans (HB7.out.mono hbs)).alloc (by omega) _).grown HG.out (by simp; omega) (fun x hx => (HLT.out x hx).1))
              · rw [HY2.out, icl_snoc, List.length_append]
                exact HO'.out
          | false =>
            rw [hz] at HEM
            have HN2 := Lib.hid (HN.out HEM.out)
            clear HY HN HEM
            go_wp2
            go_roundw
            case measure => simp [RowKit.intOf]; omega
            case rel => exact ⟨k + 1, by omega, by go_num, HB.out.trans (HB7.out.mono hbs), by rw [HN2.out]; exact HOWN.out _ HB7.out⟩
    · obtain rfl : k = n := by omega
      have HO := Lib.hid hown
      have HB9 := Lib.hid hb
      clear hown hb
      go_wp2
      go_ret
      exact ⟨_, rfl, HO.out, HB9.out⟩
theorem refpars_reads (A : Option Addr) (l : List R3) (n m : Nat) (w : World) (hl : l.length = n) (hR : RuAt w A l) (hn : n ≤ 1099511627776) :
    Calls Try.prog 12 #[.slice A n m] w fun e w' => ∃ B d, e = .returned (.slice B (parL l n).length d) ∧ IntsAt w' B (parL l n) ∧ Below w.heap.size w w' := by
  refine (refpars_any A l n m w hl hR hn).mono ?_
  rintro e w' ⟨v, rfl, hown, hb⟩
  obtain ⟨B, d, rfl, hi⟩ := intsAt_own hown
  exact ⟨B, d, rfl, hi, hb⟩
end Go.Proofs.Ytifaimoaaiikpaa.Ba
