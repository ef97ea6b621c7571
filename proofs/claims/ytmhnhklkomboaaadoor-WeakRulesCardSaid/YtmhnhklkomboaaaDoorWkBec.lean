/-
  Proved here: weak's closure of become, called: what the row holds then (the plain bec). Nothing else of memory changes.
-/
import Derived.Test.YtmhnhklkomboaaaDoorWkPlain
import Derived.Test.YtmhnhklkomboaaaDoorWkRow
import Derived.Test.YtmhnhklkomboaaaDoorWkIs
set_option linter.unusedVariables false
namespace Go.Proofs.YtmhnhklkomboaaaDoor.Wk
open Go Go.RowKit Go.Lib Go.Proofs.YtmhnhklkomboaaaDoor.Cl

set_option maxHeartbeats 4000000 in
set_option maxRecDepth 100000 in
theorem bec_run (base : Nat) (A : Option Addr) (n c : Nat) (s ot : Int) (b1 b2 b3 p m : Nat) (ps l : List Int) (w : World) (hown : w.ownsRow base 3 1 (.slice A n c) n (icl l)) (hn : n ≤ 1099511627776)
    (h10 : w.cell? ⟨b1, 0, none⟩ = some (.slice A n c)) (h2 : w.cell? ⟨b2, 0, none⟩ = some (.slice (some ⟨p, 0, none⟩) m m)) (h3 : w.cell? ⟨b3, 0, none⟩ = some (.int .i64 ot)) (hp : IntsAt w (some ⟨p, 0, none⟩) ps) (hm : ps.length = m) (hm2 : m ≤ 1000)
    (n1 : some b1 ≠ (Value.slice A n c).ownBlock) (n2 : some b2 ≠ (Value.slice A n c).ownBlock) (n3 : some b3 ≠ (Value.slice A n c).ownBlock) (n4 : some p ≠ (Value.slice A n c).ownBlock) :
    Calls Tryd.prog 30 #[.pointer (some ⟨b1, 0, none⟩), .pointer (some ⟨b2, 0, none⟩), .pointer (some ⟨b3, 0, none⟩)] w fun e W' => e = .returned (.tuple #[]) ∧ Row base A n c w (bec ot ps l) W' := by
  have hrow := Row.start hown
  have C10 := Lib.hid h10
  have C2 := Lib.hid h2
  have C3 := Lib.hid h3
  have N1 := Lib.hid n1
  have N2 := Lib.hid n2
  have N3 := Lib.hid n3
  have H0 := Lib.hid hrow
  have hll := Lib.hid hrow.len
  have HB := Lib.hid (fun (W : World) (L : List Int) (z : Int) (hW : Row base A n c w L W) => isOf_any (some ⟨p, 0, none⟩) ps m m z W (hW.ints hp n4) hm (by omega))
  clear hown hrow h2 h3 n1 n2 n3 hp hm n4
  go_enter Tryd.func30, Tryd.ntmps30
  go_wp2_with fail
  clear h10
  go_loopw [8] (fun s8 wx => ∃ (d r : List Int) (k : Nat), d.length = k ∧ (d ++ r).length = n ∧ s8 = .int .i64 k ∧ Row base A n c w (d ++ r) wx ∧ d ++ bec ot ps r = bec ot ps l) (fun s8 _ => n - (RowKit.intOf s8).toNat)
  case atStart => exact ⟨[], l, 0, rfl, hll.out, rfl, H0.out, rfl⟩
  case round =>
    obtain ⟨d, r, k, hk, hlen, rfl, hrw, heq⟩ := hrel
    have HRW := Lib.hid hrw
    have HEQ := Lib.hid heq
    have HK := Lib.hid hk
    have HLEN := Lib.hid hlen
    clear heq
    cases r with
    | nil =>
      rw [List.append_nil] at hlen
      obtain rfl : k = n := by omega
      clear hk hlen hrw
      go_wp2
      go_end0
      refine ⟨rfl, ?_⟩
      rw [show bec ot ps l = d ++ [] from HEQ.out.symm]
      exact HRW.out
    | cons y r =>
      obtain ⟨g, hA, hcx, hfx, hkn, hnc, hput⟩ := hrw.at_ rfl hk
      subst hA
      have hc1 := hrw.cell C10.out N1.out
      have hc2 := hrw.cell C2.out N2.out
      have hc3 := hrw.cell C3.out N3.out
      have HPUT := Lib.hid hput
      clear hput hlen hk hrw
      go_wp2_with fail
      refine (HB.out _ _ y HRW.out).mono ?_
      rintro e w2 ⟨rfl, rfl⟩
      by_cases hi : y ∈ ps
      · rw [decide_eq_true hi]
        have HEQ2 := Lib.hid (show (d ++ [ot]) ++ bec ot ps r = bec ot ps l from by
          have := HEQ.out
          unfold bec at this ⊢
          rw [List.map_cons, if_pos hi] at this
          simpa using this)
        clear hi
        go_wp2
        go_roundw
        case rel => exact ⟨d ++ [ot], r, k + 1, by simp [HK.out], by simpa using HLEN.out, by go_num, by simpa using HPUT.out ot, HEQ2.out⟩
        case measure => simp [RowKit.intOf]; omega
      · rw [decide_eq_false hi]
        have HEQ2 := Lib.hid (show (d ++ [y]) ++ bec ot ps r = bec ot ps l from by
          have := HEQ.out
          unfold bec at this ⊢
          rw [List.map_cons, if_neg hi] at this
          simpa using this)
        clear hi
        go_wp2
        go_roundw
        case rel => exact ⟨d ++ [y], r, k + 1, by simp [HK.out], by simpa using HLEN.out, by go_num, by simpa using HRW.out, HEQ2.out⟩
        case measure => simp [RowKit.intOf]; omega
end Go.Proofs.YtmhnhklkomboaaaDoor.Wk
