/-
  Proved here: weak's closure of between, called: what the row holds then (the plain btw). Nothing else of memory changes.
-/
import Derived.Test.YtmhnhklkomboaaaDoorWkPlain
import Derived.Test.YtmhnhklkomboaaaDoorWkRow
import Derived.Test.YtmhnhklkomboaaaDoorWkIs
import Derived.Deep.QuietTactic
import Derived.BigQuiet
set_option linter.unusedVariables false
namespace Go.Proofs.YtmhnhklkomboaaaDoor.Wk
open Go Go.RowKit Go.Lib Go.Proofs.YtmhnhklkomboaaaDoor.Cl

theorem below_drewN {B : Nat} {a w : World} (h : Below B a w) (n : Nat) : Below B a (w.drewN n) := ⟨h.os, h.tape, h.output, h.size, h.block⟩
theorem btw_start (nn : Int) (hm : nn ≠ -1) (ps : List Int) (a : Int) (r : List Int) : btw nn ps (-1) (a :: r) = a :: btw nn ps a r := by
  rw [btw, if_neg (fun h => hm h.1.symm)]
theorem btw_last (nn : Int) (ps : List Int) (a x : Int) : btw nn ps a [x] = [x] := by
  rw [btw, if_neg (fun h => by simp at h)]
  rfl

set_option maxHeartbeats 4000000 in
set_option maxRecDepth 100000 in
theorem btw_run (base : Nat) (A : Option Addr) (n c : Nat) (s nn : Int) (hnn : nn ≠ -1) (b1 b2 b3 p m : Nat) (ps l : List Int) (w : World) (hown : w.ownsRow base 3 1 (.slice A n c) n (icl l)) (hn : n ≤ 1099511627776)
    (h10 : w.cell? ⟨b1, 0, none⟩ = some (.slice A n c)) (h2 : w.cell? ⟨b2, 0, none⟩ = some (.int .i64 nn)) (h3 : w.cell? ⟨b3, 0, none⟩ = some (.slice (some ⟨p, 0, none⟩) m m)) (hp : IntsAt w (some ⟨p, 0, none⟩) ps) (hm : ps.length = m) (hm2 : m ≤ 1000)
    (n1 : some b1 ≠ (Value.slice A n c).ownBlock) (n2 : some b2 ≠ (Value.slice A n c).ownBlock) (n3 : some b3 ≠ (Value.slice A n c).ownBlock) (n4 : some p ≠ (Value.slice A n c).ownBlock) :
    Calls Tryd.prog 31 #[.pointer (some ⟨b1, 0, none⟩), .pointer (some ⟨b2, 0, none⟩), .pointer (some ⟨b3, 0, none⟩)] w fun e W' => e = .returned (.tuple #[]) ∧ Row base A n c w (btw nn ps (-1) l) W' := by
  have hrow := Row.start hown
  have hll := hrow.len
  cases l with
  | nil =>
    have H0 := Lib.hid hrow
    simp only [List.length_nil] at hll
    subst hll
    clear hown hrow hp
    go_enter Tryd.func31, Tryd.ntmps31
    go_wp2_with fail
    go_loopw [3] (fun s3 wx => s3 = .int .i64 1 ∧ wx = w) (fun s3 _ => 0)
    case atStart => exact ⟨rfl, rfl⟩
    case round =>
      obtain ⟨rfl, rfl⟩ := hrel
      go_wp2
      go_end0
      exact ⟨rfl, H0.out⟩
  | cons a0 l =>
    have C10 := Lib.hid h10
    have C2 := Lib.hid h2
    have C3 := Lib.hid h3
    have N1 := Lib.hid n1
    have N2 := Lib.hid n2
    have N3 := Lib.hid n3
    have H0 := Lib.hid hrow
    have HLL := Lib.hid hll
    have HS := Lib.hid (btw_start nn hnn ps a0 l)
    have HB := Lib.hid (fun (W : World) (L : List Int) (z : Int) (hW : Row base A n c w L W) => isOf_any (some ⟨p, 0, none⟩) ps m m z W (hW.ints hp n4) hm (by omega))
    clear hown hrow h10 h2 h3 n1 n2 n3 hp hm n4 hll
    go_enter Tryd.func31, Tryd.ntmps31
    go_wp2_with fail
    go_loopw [3] (fun s3 wx => ∃ (d r : List Int) (a : Int) (k : Nat), d.length = k ∧ (d ++ a :: r).length = n ∧ s3 = .int .i64 (k + 1) ∧ Row base A n c w (d ++ a :: r) wx ∧ d ++ a :: btw nn ps a r = btw nn ps (-1) (a0 :: l)) (fun s3 _ => n - (RowKit.intOf s3).toNat)
    case atStart => exact ⟨[], l, a0, 0, rfl, HLL.out, rfl, H0.out, HS.out.symm⟩
    case round =>
      obtain ⟨d, r, a, k, hk, hlen, rfl, hrw, heq⟩ := hrel
      have HRW := Lib.hid hrw
      have HEQ := Lib.hid heq
      have HK := Lib.hid hk
      have HLEN := Lib.hid hlen
      have hc1 := hrw.cell C10.out N1.out
      have hc2 := hrw.cell C2.out N2.out
      have hc3 := hrw.cell C3.out N3.out
      rw [List.length_append, List.length_cons, hk] at hlen
      clear heq
      match r, hlen, hrw, HRW, HEQ, HLEN with
      | [], hlen, hrw, HRW, HEQ, HLEN =>
        obtain rfl : n = k + 1 := by simpa using hlen.symm
        clear hk hlen hrw
        go_wp2
        go_end0
        refine ⟨rfl, ?_⟩
        rw [show btw nn ps (-1) (a0 :: l) = d ++ [a] from HEQ.out.symm]
        exact HRW.out
      | [x], hlen, hrw, HRW, HEQ, HLEN =>
        obtain rfl : n = k + 2 := by simp at hlen; omega
        clear hk hlen hrw
        go_wp2
        go_end0
        refine ⟨rfl, ?_⟩
        rw [btw_last] at HEQ
        rw [show btw nn ps (-1) (a0 :: l) = d ++ [a, x] from HEQ.out.symm]
        exact HRW.out
      | x :: y :: r, hlen, hrw, HRW, HEQ, HLEN =>
        have hkn : k + 2 < n := by simp at hlen; omega
        obtain ⟨g, hA, hca, -, -, hnc, -⟩ := hrw.at_ rfl hk
        subst hA
        obtain ⟨g', hA', hcx, hfx, -, -, hput⟩ := hrw.at_ (d := d ++ [a]) (r := y :: r) (x := x) (k := k + 1) (by simp) (by simp [hk])
        obtain rfl : g = g' := by injection hA' with e; injection e
        obtain ⟨g', hA'', hcy, -, -, -, -⟩ := hrw.at_ (d := d ++ [a, x]) (r := r) (x := y) (k := k + 2) (by simp) (by simp [hk])
        obtain rfl : g = g' := by injection hA'' with e; injection e
        have HPUT := Lib.hid hput
        clear hput hlen hk hrw hA' hA''
        have e1 : IntKind.i64.wrap ((k : Int) + 1 - 1) = (k : Int) := by rw [show (k : Int) + 1 - 1 = (k : Int) from by omega]; exact IntWalk.i64_in _ (by omega)
        have e2 : IntKind.i64.wrap (k : Int) = (k : Int) := IntWalk.i64_in _ (by omega)
        have e3 : IntKind.i64.wrap ((k : Int) + 1 + 1) = (k : Int) + 1 + 1 := IntWalk.i64_in _ (by omega)
        have e4 : IntKind.i64.wrap ((k : Int) + 1) = (k : Int) + 1 := IntWalk.i64_in _ (by omega)
        go_wp2_with fail
        go_quiet (fail)
        have hV := HRW.out.below (below_drewN (Below.refl wr.heap.size wr) nq)
        clear hca hcx hcy hfx hc1 hc2 hc3 HRW HPUT
        generalize wr.drewN nq = V at *
        obtain ⟨g', hA', hcx, hfx, -, -, hput⟩ := hV.at_ (d := d ++ [a]) (r := y :: r) (x := x) (k := k + 1) (by simp) (by simp [HK.out])
        obtain rfl : g = g' := by injection hA' with e; injection e
        have hc1 := hV.cell C10.out N1.out
        have hc2 := hV.cell C2.out N2.out
        have hc3 := hV.cell C3.out N3.out
        have HPUT := Lib.hid hput
        have HV := Lib.hid hV
        clear hV hput hA'
        have HNO := Lib.hid (fun (h : ¬ (a = nn ∧ (y :: r).head? = some nn ∧ x ∈ ps)) => show (d ++ [a]) ++ x :: btw nn ps x (y :: r) = btw nn ps (-1) (a0 :: l) from by
          have := HEQ.out
          rw [btw, if_neg h] at this
          simpa using this)
        by_cases ha : a = nn
        · subst ha
          by_cases hy : y = a
          · subst hy
            go_wp2_with fail
            refine (HB.out _ _ x HV.out).mono ?_
            rintro e w2 ⟨rfl, rfl⟩
            by_cases hi : x ∈ ps
            · rw [decide_eq_true hi]
              have HEQ2 := Lib.hid (show (d ++ [y]) ++ y :: btw y ps y (y :: r) = btw y ps (-1) (a0 :: l) from by
                have := HEQ.out
                rw [btw, if_pos ⟨rfl, rfl, hi⟩] at this
                simpa using this)
              clear hi
              go_wp2
              go_roundw
              case rel => exact ⟨d ++ [y], y :: r, y, k + 1, by simp [HK.out], by simpa using HLEN.out, by go_num, by simpa using HPUT.out y, HEQ2.out⟩
              case measure => simp [RowKit.intOf]; omega
            · rw [decide_eq_false hi]
              have HEQ2 := Lib.hid (HNO.out (fun h => hi h.2.2))
              clear hi
              go_wp2
              go_roundw
              case rel => exact ⟨d ++ [y], y :: r, x, k + 1, by simp [HK.out], by simpa using HLEN.out, by go_num, by simpa using HV.out, HEQ2.out⟩
              case measure => simp [RowKit.intOf]; omega
          · have hyb : (y == a) = false := by simpa using hy
            have HEQ2 := Lib.hid (HNO.out (fun h => hy (by simpa using h.2.1)))
            clear hy
            go_wp2
            go_roundw
            case rel => exact ⟨d ++ [a], y :: r, x, k + 1, by simp [HK.out], by simpa using HLEN.out, by go_num, by simpa using HV.out, HEQ2.out⟩
            case measure => simp [RowKit.intOf]; omega
        · have hab : (a == nn) = false := by simpa using ha
          have HEQ2 := Lib.hid (HNO.out (fun h => ha h.1))
          clear ha
          go_wp2
          go_roundw
          case rel => exact ⟨d ++ [a], y :: r, x, k + 1, by simp [HK.out], by simpa using HLEN.out, by go_num, by simpa using HV.out, HEQ2.out⟩
          case measure => simp [RowKit.intOf]; omega
end Go.Proofs.YtmhnhklkomboaaaDoor.Wk
