/-
  Proved here: weak's closure of numbers, called: what the row holds then (the plain nums). Nothing else of memory changes.
-/
import Derived.Test.YtmhnhklkomboaaaDoorWkPlain
import Derived.Test.YtmhnhklkomboaaaDoorWkRow
import Derived.Test.YtmhnhklkomboaaaDoorWkIs
set_option linter.unusedVariables false
namespace Go.Proofs.YtmhnhklkomboaaaDoor.Wk
open Go Go.RowKit Go.Lib Go.Proofs.YtmhnhklkomboaaaDoor.Cl

theorem mem_let (a : Int) : decide (a ∈ [(0 : Int), 1, 2]) = let3 a := by
  simp only [List.mem_cons, List.not_mem_nil, or_false, let3, Bool.decide_or, Bool.or_assoc]

set_option maxHeartbeats 4000000 in
set_option maxRecDepth 100000 in
theorem nums_run (base : Nat) (A : Option Addr) (n c : Nat) (s lt ot : Int) (b1 b2 b3 : Nat) (l : List Int) (w : World) (hown : w.ownsRow base 3 1 (.slice A n c) n (icl l)) (hn : n ≤ 1099511627776)
    (h10 : w.cell? ⟨b1, 0, none⟩ = some (.slice A n c)) (h11 : w.cell? ⟨b1, 1, none⟩ = some (.int .i64 s)) (h2 : w.cell? ⟨b2, 0, none⟩ = some (.int .i64 lt)) (h3 : w.cell? ⟨b3, 0, none⟩ = some (.int .i64 ot))
    (n1 : some b1 ≠ (Value.slice A n c).ownBlock) (n2 : some b2 ≠ (Value.slice A n c).ownBlock) (n3 : some b3 ≠ (Value.slice A n c).ownBlock) :
    Calls Tryd.prog 29 #[.pointer (some ⟨b1, 0, none⟩), .pointer (some ⟨b2, 0, none⟩), .pointer (some ⟨b3, 0, none⟩)] w fun e W' => e = .returned (.tuple #[]) ∧ Row base A n c w (nums lt ot s l) W' := by
  have hrow := Row.start hown
  have C10 := Lib.hid h10
  have C2 := Lib.hid h2
  have C3 := Lib.hid h3
  have N1 := Lib.hid n1
  have N2 := Lib.hid n2
  have N3 := Lib.hid n3
  have H0 := Lib.hid hrow
  have hll := Lib.hid hrow.len
  have HB := Lib.hid (fun (W : World) (B : Nat) (z : Int) (hB : W.heap.size = B) => isOf_any (some ⟨B, 0, none⟩) [0, 1, 2] 3 3 z (W.alloc (.cells #[.int .i64 0, .int .i64 1, .int .i64 2] 3)) (made_ints' hB rfl) rfl (by omega))
  clear hown hrow h2 h3 n1 n2 n3
  go_enter Tryd.func29, Tryd.ntmps29
  go_wp2_with fail
  clear h10 h11
  go_loopw [3, 11] (fun s3 s11 wx => ∃ (d r : List Int) (a : Int) (k : Nat), d.length = k ∧ (d ++ r).length = n ∧ s3 = .int .i64 a ∧ s11 = .int .i64 k ∧ Row base A n c w (d ++ r) wx ∧ d ++ nums lt ot a r = nums lt ot s l) (fun _ s11 _ => n - (RowKit.intOf s11).toNat)
  case atStart => exact ⟨[], l, s, 0, rfl, hll.out, rfl, rfl, H0.out, rfl⟩
  case round =>
    obtain ⟨d, r, a, k, hk, hlen, rfl, rfl, hrw, heq⟩ := hrel
    have HRW := Lib.hid hrw
    have HEQ := Lib.hid heq
    have HK := Lib.hid hk
    have HLEN := Lib.hid hlen
    clear heq
    cases r with
    | nil =>
      rw [List.append_nil] at hlen
      obtain rfl : k = n := by omega
      clear hk hlen hrw
      go_wp2
      go_end0
      refine ⟨rfl, ?_⟩
      rw [show nums lt ot s l = d ++ [] from HEQ.out.symm]
      exact HRW.out
    | cons y r =>
      obtain ⟨g, hA, hcx, hfx, hkn, hnc, hput⟩ := hrw.at_ rfl hk
      subst hA
      clear hput hlen hk hrw
      go_wp2_with fail
      refine (HB.out _ _ y (by simp)).mono ?_
      rintro e w2 ⟨rfl, rfl⟩
      rw [mem_let]
      have HR3 := HRW.out.alloc (.cells #[.int .i64 0, .int .i64 1, .int .i64 2] 3)
      clear hcx hfx HRW
      generalize wr.alloc (.cells #[.int .i64 0, .int .i64 1, .int .i64 2] 3) = w3 at *
      obtain ⟨g', hA', hcy, hfy, -, -, hput⟩ := HR3.at_ rfl HK.out
      obtain rfl : g = g' := by injection hA' with e; injection e
      have HPUT := Lib.hid hput
      have hc1 := HR3.cell C10.out N1.out
      have hc2 := HR3.cell C2.out N2.out
      have hc3 := HR3.cell C3.out N3.out
      have HR := Lib.hid HR3
      clear hA' hput HR3
      cases hi : let3 y with
      | true =>
        have HEQ2 := Lib.hid (show (d ++ [y]) ++ nums lt ot y r = nums lt ot s l from by
          have := HEQ.out
          rw [nums, if_pos hi] at this
          simpa using this)
        clear hi
        go_wp2
        go_roundw
        case rel => exact ⟨d ++ [y], r, y, k + 1, by simp [HK.out], by simpa using HLEN.out, rfl, by go_num, by simpa using HR.out, HEQ2.out⟩
        case measure => simp [RowKit.intOf]; omega
      | false =>
        by_cases h3 : y = 3
        · subst h3
          by_cases ha : a = lt
          · subst ha
            have HEQ2 := Lib.hid (show (d ++ [ot]) ++ nums a ot a r = nums a ot s l from by
              have := HEQ.out
              rw [nums, if_neg (by rw [hi]; decide), if_pos ⟨rfl, rfl⟩] at this
              simpa using this)
            clear hi
            go_wp2
            go_roundw
            case rel => exact ⟨d ++ [ot], r, a, k + 1, by simp [HK.out], by simpa using HLEN.out, rfl, by go_num, by simpa using HPUT.out ot, HEQ2.out⟩
            case measure => simp [RowKit.intOf]; omega
          · have hab : (a == lt) = false := by simpa using ha
            have HEQ2 := Lib.hid (show (d ++ [3]) ++ nums lt ot a r = nums lt ot s l from by
              have := HEQ.out
              rw [nums, if_neg (by rw [hi]; decide), if_neg (fun h => ha h.2)] at this
              simpa using this)
            clear hi ha
            go_wp2
            go_roundw
            case rel => exact ⟨d ++ [3], r, a, k + 1, by simp [HK.out], by simpa using HLEN.out, rfl, by go_num, by simpa using HR.out, HEQ2.out⟩
            case measure => simp [RowKit.intOf]; omega
        · have hb3 : (y == 3) = false := by simpa using h3
          have HEQ2 := Lib.hid (show (d ++ [y]) ++ nums lt ot a r = nums lt ot s l from by
            have := HEQ.out
            rw [nums, if_neg (by rw [hi]; decide), if_neg (fun h => h3 h.1)] at this
            simpa using this)
          clear hi h3
          go_wp2
          go_roundw
          case rel => exact ⟨d ++ [y], r, a, k + 1, by simp [HK.out], by simpa using HLEN.out, rfl, by go_num, by simpa using HR.out, HEQ2.out⟩
          case measure => simp [RowKit.intOf]; omega
end Go.Proofs.YtmhnhklkomboaaaDoor.Wk
