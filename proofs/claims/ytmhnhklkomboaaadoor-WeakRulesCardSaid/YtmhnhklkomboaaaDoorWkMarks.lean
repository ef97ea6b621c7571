/-
  Proved here: weak's marks, called on a sequence: what the row holds then (the plain marks). Nothing else of memory changes.
-/
import Derived.Test.YtmhnhklkomboaaaDoorWkPlain
import Derived.Test.YtmhnhklkomboaaaDoorWkRow
import Derived.Test.YtmhnhklkomboaaaDoorWkIs
set_option linter.unusedVariables false
namespace Go.Proofs.YtmhnhklkomboaaaDoor.Wk
open Go Go.RowKit Go.Lib Go.Proofs.YtmhnhklkomboaaaDoor.Cl

theorem mem_iso (a : Int) : decide (a ∈ [(19 : Int), 20, 21, 22]) = iso a := by
  simp only [List.mem_cons, List.not_mem_nil, or_false, iso, Bool.decide_or, Bool.or_assoc]
theorem nx_yes {a : Int} (h : iso a = true) : nx a = 13 := by unfold nx; rw [if_pos h]
theorem nx_no {a : Int} (h : iso a = false) : nx a = a := by unfold nx; rw [if_neg (by rw [h]; decide)]

set_option maxHeartbeats 2000000 in
set_option maxRecDepth 100000 in
theorem marks_any (base : Nat) (A : Option Addr) (n c : Nat) (s : Int) (l : List Int) (w : World) (hown : w.ownsRow base 3 1 (.slice A n c) n (icl l)) (hn : n ≤ 1099511627776) :
    Calls Tryd.prog 17 #[.agg #[.slice A n c, .int .i64 s]] w fun e W' => e = .returned (.tuple #[]) ∧ Row base A n c w (marks s l) W' := by
  have hrow := (Row.start hown).alloc (.cells #[.slice A n c, .int .i64 s] 32)
  have hlt : ∀ k, (Value.slice A n c).ownBlock = some k → k < w.heap.size := fun k hk => (hown.lt k hk).2
  have hne : some w.heap.size ≠ (Value.slice A n c).ownBlock := fun e => by have := hlt _ e.symm; omega
  have HW := Lib.hid hrow
  have HNE := Lib.hid hne
  have HLT := Lib.hid hlt
  have H0 := Lib.hid (show Row base A n c (w.alloc (.cells #[.slice A n c, .int .i64 s] 32)) l (w.alloc (.cells #[.slice A n c, .int .i64 s] 32)) from Row.start hrow.own)
  have C0 := Lib.hid (show (w.alloc (.cells #[.slice A n c, .int .i64 s] 32)).cell? ⟨w.heap.size, 0, none⟩ = some (.slice A n c) from by simp)
  have hll := Lib.hid hrow.len
  have HG := Lib.hid hrow.gr
  clear hown hrow hne hlt
  go_enter Tryd.func17, Tryd.ntmps17
  go_wp2_with fail
  obtain ⟨b, hb⟩ : ∃ b, w.heap.size = b := ⟨_, rfl⟩
  rw [hb] at C0 HNE HLT ⊢
  generalize hw1 : w.alloc (.cells #[.slice A n c, .int .i64 s] 32) = w1 at *
  go_loopw [2, 10] (fun s2 s10 wx => ∃ (d r : List Int) (a : Int) (k : Nat), d.length = k ∧ (d ++ r).length = n ∧ s2 = .int .i64 a ∧ s10 = .int .i64 k ∧ Row base A n c w1 (d ++ r) wx ∧ d ++ marks a r = marks s l) (fun _ s10 _ => n - (RowKit.intOf s10).toNat)
  case atStart => exact ⟨[], l, s, 0, rfl, hll.out, rfl, rfl, H0.out, rfl⟩
  case round =>
    obtain ⟨d, r, a, k, hk, hlen, rfl, rfl, hrw, heq⟩ := hrel
    have HRW := Lib.hid hrw
    have HEQ := Lib.hid heq
    have HK := Lib.hid hk
    have HLEN := Lib.hid hlen
    have hc0 := hrw.cell C0.out HNE.out
    clear heq
    cases r with
    | nil =>
      rw [List.append_nil] at hlen
      obtain rfl : k = n := by omega
      clear hk hlen hrw
      go_wp2
      go_end0
      refine ⟨rfl, ?_⟩
      have h1 := HRW.out
      rw [show marks s l = d ++ [] from HEQ.out.symm]
      exact ⟨h1.own, grown_trans HG.out h1.gr⟩
    | cons x r =>
      obtain ⟨g, hA, hcx, hfx, hkn, hnc, hput⟩ := hrw.at_ rfl hk
      subst hA
      have HPUT := Lib.hid hput
      clear hput hlen hk
      have HB := Lib.hid (fun (W : World) (B : Nat) (z : Int) (hB : W.heap.size = B) => isOf_any (some ⟨B, 0, none⟩) [19, 20, 21, 22] 4 4 z (W.alloc (.cells #[.int .i64 19, .int .i64 20, .int .i64 21, .int .i64 22] 3)) (made_ints' hB rfl) rfl (by omega))
      by_cases h8 : x = 8
      · subst h8
        have h2 := HPUT.out a
        have hc1 := h2.cell C0.out HNE.out
        obtain ⟨g', hA', hcy, -, -, -, -⟩ := h2.at_ rfl HK.out
        obtain rfl : g = g' := by injection hA' with e; injection e
        have HR2 := Lib.hid h2
        clear h2 hrw hA'
        go_wp2_with fail
        refine (HB.out _ _ a (by simp)).mono ?_
        rintro e w2 ⟨rfl, rfl⟩
        rw [mem_iso]
        have HR3 := Lib.hid (HR2.out.alloc (.cells #[.int .i64 19, .int .i64 20, .int .i64 21, .int .i64 22] 3))
        have HEQ2 := Lib.hid (show (d ++ [a]) ++ marks (nx a) r = marks s l from by
          have := HEQ.out
          rw [marks, if_pos rfl] at this
          simpa using this)
        clear hcy hc1 hcx hfx hc0
        cases hi : iso a with
        | true =>
          rw [nx_yes hi] at HEQ2
          clear hi
          go_wp2
          go_roundw
          case rel => exact ⟨d ++ [a], r, 13, k + 1, by simp [HK.out], by simpa using HLEN.out, rfl, by go_num, by simpa using HR3.out, HEQ2.out⟩
          case measure => simp [RowKit.intOf]; omega
        | false =>
          rw [nx_no hi] at HEQ2
          clear hi
          go_wp2
          go_roundw
          case rel => exact ⟨d ++ [a], r, a, k + 1, by simp [HK.out], by simpa using HLEN.out, rfl, by go_num, by simpa using HR3.out, HEQ2.out⟩
          case measure => simp [RowKit.intOf]; omega
      · have hb8 : (x == 8) = false := by simpa using h8
        have HR2 := Lib.hid hrw
        have HEQ2 := Lib.hid (show (d ++ [x]) ++ marks (nx x) r = marks s l from by
          have := HEQ.out
          rw [marks, if_neg h8] at this
          simpa using this)
        clear hrw h8
        go_wp2_with fail
        refine (HB.out _ _ x (by simp)).mono ?_
        rintro e w2 ⟨rfl, rfl⟩
        rw [mem_iso]
        have HR3 := Lib.hid (HR2.out.alloc (.cells #[.int .i64 19, .int .i64 20, .int .i64 21, .int .i64 22] 3))
        clear hcx hfx hc0
        cases hi : iso x with
        | true =>
          rw [nx_yes hi] at HEQ2
          clear hi
          go_wp2
          go_roundw
          case rel => exact ⟨d ++ [x], r, 13, k + 1, by simp [HK.out], by simpa using HLEN.out, rfl, by go_num, by simpa using HR3.out, HEQ2.out⟩
          case measure => simp [RowKit.intOf]; omega
        | false =>
          rw [nx_no hi] at HEQ2
          clear hi
          go_wp2
          go_roundw
          case rel => exact ⟨d ++ [x], r, x, k + 1, by simp [HK.out], by simpa using HLEN.out, rfl, by go_num, by simpa using HR3.out, HEQ2.out⟩
          case measure => simp [RowKit.intOf]; omega
end Go.Proofs.YtmhnhklkomboaaaDoor.Wk
