/-
  Several texts in one, each with its own remark: WkIs, WkMarks, WkNums, WkBec, WkBtw, WkSigns, WkMake.
-/
import Derived.LoopTactic
import Derived.IntWalk
import Derived.Deep.QuietTactic
import Derived.BigQuiet
import Derived.Test.YtfclpecbnailgaaGreatM4
import Derived.Test.YtfclpecbnailgaaGreatM3

/-
  Proved here: what slices.Index, slices.Contains and weak's isOf return, for a row of ints of at most 2^40: whether the number is in it. They change nothing.
-/
set_option linter.unusedVariables false
namespace Go.Proofs.YtfclpecbnailgaaGreat.Wk
open Go Go.RowKit Go.Lib Go.Proofs.YtfclpecbnailgaaGreat.Cl
set_option maxHeartbeats 1000000 in
set_option maxRecDepth 100000 in
theorem index_any (A : Option Addr) (zs : List Int) (n c : Nat) (z : Int) (w : World) (hR : IntsAt w A zs) (hl : zs.length = n) (hn : n ≤ 1099511627776) :
    Calls Tryz.prog 180 #[.slice A n c, .int .i64 z] w fun e w' => (∃ i : Int, e = .returned (.int .i64 i) ∧ decide (0 ≤ i) = decide (z ∈ zs)) ∧ w' = w := by
  have HR := Lib.hid hR
  have HL := Lib.hid hl
  clear hR hl
  go_enter Tryz.func180, Tryz.ntmps180
  go_wp2_with fail
  go_loopw [8] (fun s8 wx => ∃ k : Nat, k ≤ n ∧ s8 = .int .i64 k ∧ wx = w ∧ z ∉ zs.take k) (fun s8 _ => n - (RowKit.intOf s8).toNat)
  case atStart => exact ⟨0, Nat.zero_le _, rfl, rfl, by simp⟩
  case round =>
    obtain ⟨k, hk, rfl, rfl, hno⟩ := hrel
    have HNO := Lib.hid hno
    clear hno
    by_cases hlt : k < n
    · have hkz : k < zs.length := by rw [HL.out]; exact hlt
      obtain ⟨b, off, rfl, hc⟩ := HR.out.at_ hkz
      obtain ⟨x, hx⟩ : ∃ x, zs[k] = x := ⟨_, rfl⟩
      have HX := Lib.hid hx
      rw [hx] at hc
      clear hx
      by_cases he : z = x
      · have hb : (z == x) = true := by simpa using he
        have HM := Lib.hid (show z ∈ zs from by rw [he, ← HX.out]; exact List.getElem_mem hkz)
        clear HX he hkz
        go_wp2
        go_ret
        exact ⟨⟨(k : Int), rfl, by rw [decide_eq_true HM.out, decide_eq_true (Int.natCast_nonneg k)]⟩, rfl⟩
      · have hb : (z == x) = false := by simpa using he
        have HM := Lib.hid (show z ∉ zs.take (k + 1) from by
          rw [List.take_succ_eq_append_getElem hkz, HX.out]
          simp only [List.mem_append, List.mem_singleton, not_or]
          exact ⟨HNO.out, he⟩)
        clear HX he hkz
        go_wp2
        go_roundw
        case rel => exact ⟨k + 1, by omega, by go_num, by first | rfl | trivial, HM.out⟩
        case measure => simp [RowKit.intOf]; omega
    · obtain rfl : k = n := by omega
      go_wp2
      go_ret
      refine ⟨⟨-1, rfl, ?_⟩, rfl⟩
      have hz : z ∉ zs := by
        have := HNO.out
        rwa [← HL.out, List.take_length] at this
      rw [decide_eq_false hz]
      rfl
set_option maxHeartbeats 1000000 in
set_option maxRecDepth 100000 in
theorem contains_any (A : Option Addr) (zs : List Int) (n c : Nat) (z : Int) (w : World) (hR : IntsAt w A zs) (hl : zs.length = n) (hn : n ≤ 1099511627776) :
    Calls Tryz.prog 168 #[.slice A n c, .int .i64 z] w fun e w' => e = .returned (.bool (decide (z ∈ zs))) ∧ w' = w := by
  have H := Lib.hid (index_any A zs n c z w hR hl hn)
  clear hR hl
  go_enter Tryz.func168, Tryz.ntmps168
  go_wp2_with fail
  refine H.out.mono ?_
  rintro e w' ⟨⟨i, rfl, hi⟩, rfl⟩
  have HI := Lib.hid hi
  clear hi
  go_wp2
  go_ret
  exact ⟨by first | rfl | (rw [HI.out]; rfl), rfl⟩
set_option maxHeartbeats 1000000 in
set_option maxRecDepth 100000 in
theorem isOf_any (A : Option Addr) (zs : List Int) (n c : Nat) (z : Int) (w : World) (hR : IntsAt w A zs) (hl : zs.length = n) (hn : n ≤ 1099511627776) :
    Calls Tryz.prog 157 #[.int .i64 z, .slice A n c] w fun e w' => e = .returned (.bool (decide (z ∈ zs))) ∧ w' = w := by
  have H := Lib.hid (contains_any A zs n c z w hR hl hn)
  clear hR hl
  go_enter Tryz.func157, Tryz.ntmps157
  go_wp2_with fail
  refine H.out.mono ?_
  rintro e w' ⟨rfl, rfl⟩
  go_wp2
  go_ret
  exact ⟨rfl, rfl⟩
end Go.Proofs.YtfclpecbnailgaaGreat.Wk

/-
  Proved here: weak's marks, called on a sequence: what the row holds then (the plain marks). Nothing else of memory changes.
-/
set_option linter.unusedVariables false
namespace Go.Proofs.YtfclpecbnailgaaGreat.Wk
open Go Go.RowKit Go.Lib Go.Proofs.YtfclpecbnailgaaGreat.Cl
theorem mem_iso (a : Int) : decide (a ∈ [(19 : Int), 20, 21, 22]) = iso a := by
  simp only [List.mem_cons, List.not_mem_nil, or_false, iso, Bool.decide_or, Bool.or_assoc]
theorem nx_yes {a : Int} (h : iso a = true) : nx a = 13 := by unfold nx; rw [if_pos h]
theorem nx_no {a : Int} (h : iso a = false) : nx a = a := by unfold nx; rw [if_neg (by rw [h]; decide)]
set_option maxHeartbeats 2000000 in
set_option maxRecDepth 100000 in
theorem marks_any (base : Nat) (A : Option Addr) (n c : Nat) (s : Int) (l : List Int) (w : World) (hown : w.ownsRow base 3 1 (.slice A n c) n (icl l)) (hn : n ≤ 1099511627776) :
    Calls Tryz.prog 134 #[.agg #[.slice A n c, .int .i64 s]] w fun e W' => e = .returned (.tuple #[]) ∧ Row base A n c w (marks s l) W' := by
  have hrow := (Row.start hown).alloc (.cells #[.slice A n c, .int .i64 s] 119)
  have hlt : ∀ k, (Value.slice A n c).ownBlock = some k → k < w.heap.size := fun k hk => (hown.lt k hk).2
  have hne : some w.heap.size ≠ (Value.slice A n c).ownBlock := fun e => by have := hlt _ e.symm; omega
  have HW := Lib.hid hrow
  have HNE := Lib.hid hne
  have HLT := Lib.hid hlt
  have H0 := Lib.hid (show Row base A n c (w.alloc (.cells #[.slice A n c, .int .i64 s] 119)) l (w.alloc (.cells #[.slice A n c, .int .i64 s] 119)) from Row.start hrow.own)
  have C0 := Lib.hid (show (w.alloc (.cells #[.slice A n c, .int .i64 s] 119)).cell? ⟨w.heap.size, 0, none⟩ = some (.slice A n c) from by simp)
  have hll := Lib.hid hrow.len
  have HG := Lib.hid hrow.gr
  clear hown hrow hne hlt
  go_enter Tryz.func134, Tryz.ntmps134
  go_wp2_with fail
  obtain ⟨b, hb⟩ : ∃ b, w.heap.size = b := ⟨_, rfl⟩
  rw [hb] at C0 HNE HLT ⊢
  generalize hw1 : w.alloc (.cells #[.slice A n c, .int .i64 s] 119) = w1 at *
  go_loopw [2, 10] (fun s2 s10 wx => ∃ (d r : List Int) (a : Int) (k : Nat), d.length = k ∧ (d ++ r).length = n ∧ s2 = .int .i64 a ∧ s10 = .int .i64 k ∧ Row base A n c w1 (d ++ r) wx ∧ d ++ marks a r = marks s l) (fun _ s10 _ => n - (RowKit.intOf s10).toNat)
  case atStart => exact ⟨[], l, s, 0, rfl, hll.out, rfl, rfl, H0.out, rfl⟩
  case round =>
    obtain ⟨d, r, a, k, hk, hlen, rfl, rfl, hrw, heq⟩ := hrel
    have HRW := Lib.hid hrw
    have HEQ := Lib.hid heq
    have HK := Lib.hid hk
    have HLEN := Lib.hid hlen
    have hc0 := hrw.cell C0.out HNE.out
    clear heq
    cases r with
    | nil =>
      rw [List.append_nil] at hlen
      obtain rfl : k = n := by omega
      clear hk hlen hrw
      go_wp2
      go_end0
      refine ⟨rfl, ?_⟩
      have h1 := HRW.out
      rw [show marks s l = d ++ [] from HEQ.out.symm]
      exact ⟨h1.own, grown_trans HG.out h1.gr⟩
    | cons x r =>
      obtain ⟨g, hA, hcx, hfx, hkn, hnc, hput⟩ := hrw.at_ rfl hk
      subst hA
      have HPUT := Lib.hid hput
      clear hput hlen hk
      have HB := Lib.hid (fun (W : World) (B : Nat) (z : Int) (hB : W.heap.size = B) => isOf_any (some ⟨B, 0, none⟩) [19, 20, 21, 22] 4 4 z (W.alloc (.cells #[.int .i64 19, .int .i64 20, .int .i64 21, .int .i64 22] 3)) (made_ints' hB rfl) rfl (by omega))
      by_cases h8 : x = 8
      · subst h8
        have h2 := HPUT.out a
        have hc1 := h2.cell C0.out HNE.out
        obtain ⟨g', hA', hcy, -, -, -, -⟩ := h2.at_ rfl HK.out
        obtain rfl : g = g' := by injection hA' with e; injection e
        have HR2 := Lib.hid h2
        clear h2 hrw hA'
        go_wp2_with fail
        refine (HB.out _ _ a (by simp)).mono ?_
        rintro e w2 ⟨rfl, rfl⟩
        rw [mem_iso]
        have HR3 := Lib.hid (HR2.out.alloc (.cells #[.int .i64 19, .int .i64 20, .int .i64 21, .int .i64 22] 3))
        have HEQ2 := Lib.hid (show (d ++ [a]) ++ marks (nx a) r = marks s l from by
          have := HEQ.out
          rw [marks, if_pos rfl] at this
          simpa using this)
        clear hcy hc1 hcx hfx hc0
        cases hi : iso a with
        | true =>
          rw [nx_yes hi] at HEQ2
          clear hi
          go_wp2
          go_roundw
          case rel => exact ⟨d ++ [a], r, 13, k + 1, by simp [HK.out], by simpa using HLEN.out, rfl, by go_num, by simpa using HR3.out, HEQ2.out⟩
          case measure => simp [RowKit.intOf]; omega
        | false =>
          rw [nx_no hi] at HEQ2
          clear hi
          go_wp2
          go_roundw
          case rel => exact ⟨d ++ [a], r, a, k + 1, by simp [HK.out], by simpa using HLEN.out, rfl, by go_num, by simpa using HR3.out, HEQ2.out⟩
          case measure => simp [RowKit.intOf]; omega
      · have hb8 : (x == 8) = false := by simpa using h8
        have HR2 := Lib.hid hrw
        have HEQ2 := Lib.hid (show (d ++ [x]) ++ marks (nx x) r = marks s l from by
          have := HEQ.out
          rw [marks, if_neg h8] at this
          simpa using this)
        clear hrw h8
        go_wp2_with fail
        refine (HB.out _ _ x (by simp)).mono ?_
        rintro e w2 ⟨rfl, rfl⟩
        rw [mem_iso]
        have HR3 := Lib.hid (HR2.out.alloc (.cells #[.int .i64 19, .int .i64 20, .int .i64 21, .int .i64 22] 3))
        clear hcx hfx hc0
        cases hi : iso x with
        | true =>
          rw [nx_yes hi] at HEQ2
          clear hi
          go_wp2
          go_roundw
          case rel => exact ⟨d ++ [x], r, 13, k + 1, by simp [HK.out], by simpa using HLEN.out, rfl, by go_num, by simpa using HR3.out, HEQ2.out⟩
          case measure => simp [RowKit.intOf]; omega
        | false =>
          rw [nx_no hi] at HEQ2
          clear hi
          go_wp2
          go_roundw
          case rel => exact ⟨d ++ [x], r, x, k + 1, by simp [HK.out], by simpa using HLEN.out, rfl, by go_num, by simpa using HR3.out, HEQ2.out⟩
          case measure => simp [RowKit.intOf]; omega
end Go.Proofs.YtfclpecbnailgaaGreat.Wk

/-
  Proved here: weak's closure of numbers, called: what the row holds then (the plain nums). Nothing else of memory changes.
-/
set_option linter.unusedVariables false
namespace Go.Proofs.YtfclpecbnailgaaGreat.Wk
open Go Go.RowKit Go.Lib Go.Proofs.YtfclpecbnailgaaGreat.Cl
theorem mem_let (a : Int) : decide (a ∈ [(0 : Int), 1, 2]) = let3 a := by
  simp only [List.mem_cons, List.not_mem_nil, or_false, let3, Bool.decide_or, Bool.or_assoc]
set_option maxHeartbeats 4000000 in
set_option maxRecDepth 100000 in
theorem nums_run (base : Nat) (A : Option Addr) (n c : Nat) (s lt ot : Int) (b1 b2 b3 : Nat) (l : List Int) (w : World) (hown : w.ownsRow base 3 1 (.slice A n c) n (icl l)) (hn : n ≤ 1099511627776)
    (h10 : w.cell? ⟨b1, 0, none⟩ = some (.slice A n c)) (h11 : w.cell? ⟨b1, 1, none⟩ = some (.int .i64 s)) (h2 : w.cell? ⟨b2, 0, none⟩ = some (.int .i64 lt)) (h3 : w.cell? ⟨b3, 0, none⟩ = some (.int .i64 ot))
    (n1 : some b1 ≠ (Value.slice A n c).ownBlock) (n2 : some b2 ≠ (Value.slice A n c).ownBlock) (n3 : some b3 ≠ (Value.slice A n c).ownBlock) :
    Calls Tryz.prog 158 #[.pointer (some ⟨b1, 0, none⟩), .pointer (some ⟨b2, 0, none⟩), .pointer (some ⟨b3, 0, none⟩)] w fun e W' => e = .returned (.tuple #[]) ∧ Row base A n c w (nums lt ot s l) W' := by
  have hrow := Row.start hown
  have C10 := Lib.hid h10
  have C2 := Lib.hid h2
  have C3 := Lib.hid h3
  have N1 := Lib.hid n1
  have N2 := Lib.hid n2
  have N3 := Lib.hid n3
  have H0 := Lib.hid hrow
  have hll := Lib.hid hrow.len
  have HB := Lib.hid (fun (W : World) (B : Nat) (z : Int) (hB : W.heap.size = B) => isOf_any (some ⟨B, 0, none⟩) [0, 1, 2] 3 3 z (W.alloc (.cells #[.int .i64 0, .int .i64 1, .int .i64 2] 3)) (made_ints' hB rfl) rfl (by omega))
  clear hown hrow h2 h3 n1 n2 n3
  go_enter Tryz.func158, Tryz.ntmps158
  go_wp2_with fail
  clear h10 h11
  go_loopw [3, 11] (fun s3 s11 wx => ∃ (d r : List Int) (a : Int) (k : Nat), d.length = k ∧ (d ++ r).length = n ∧ s3 = .int .i64 a ∧ s11 = .int .i64 k ∧ Row base A n c w (d ++ r) wx ∧ d ++ nums lt ot a r = nums lt ot s l) (fun _ s11 _ => n - (RowKit.intOf s11).toNat)
  case atStart => exact ⟨[], l, s, 0, rfl, hll.out, rfl, rfl, H0.out, rfl⟩
  case round =>
    obtain ⟨d, r, a, k, hk, hlen, rfl, rfl, hrw, heq⟩ := hrel
    have HRW := Lib.hid hrw
    have HEQ := Lib.hid heq
    have HK := Lib.hid hk
    have HLEN := Lib.hid hlen
    clear heq
    cases r with
    | nil =>
      rw [List.append_nil] at hlen
      obtain rfl : k = n := by omega
      clear hk hlen hrw
      go_wp2
      go_end0
      refine ⟨rfl, ?_⟩
      rw [show nums lt ot s l = d ++ [] from HEQ.out.symm]
      exact HRW.out
    | cons y r =>
      obtain ⟨g, hA, hcx, hfx, hkn, hnc, hput⟩ := hrw.at_ rfl hk
      subst hA
      clear hput hlen hk hrw
      go_wp2_with fail
      refine (HB.out _ _ y (by simp)).mono ?_
      rintro e w2 ⟨rfl, rfl⟩
      rw [mem_let]
      have HR3 := HRW.out.alloc (.cells #[.int .i64 0, .int .i64 1, .int .i64 2] 3)
      clear hcx hfx HRW
      generalize wr.alloc (.cells #[.int .i64 0, .int .i64 1, .int .i64 2] 3) = w3 at *
      obtain ⟨g', hA', hcy, hfy, -, -, hput⟩ := HR3.at_ rfl HK.out
      obtain rfl : g = g' := by injection hA' with e; injection e
      have HPUT := Lib.hid hput
      have hc1 := HR3.cell C10.out N1.out
      have hc2 := HR3.cell C2.out N2.out
      have hc3 := HR3.cell C3.out N3.out
      have HR := Lib.hid HR3
      clear hA' hput HR3
      cases hi : let3 y with
      | true =>
        have HEQ2 := Lib.hid (show (d ++ [y]) ++ nums lt ot y r = nums lt ot s l from by
          have := HEQ.out
          rw [nums, if_pos hi] at this
          simpa using this)
        clear hi
        go_wp2
        go_roundw
        case rel => exact ⟨d ++ [y], r, y, k + 1, by simp [HK.out], by simpa using HLEN.out, rfl, by go_num, by simpa using HR.out, HEQ2.out⟩
        case measure => simp [RowKit.intOf]; omega
      | false =>
        by_cases h3 : y = 3
        · subst h3
          by_cases ha : a = lt
          · subst ha
            have HEQ2 := Lib.hid (show (d ++ [ot]) ++ nums a ot a r = nums a ot s l from by
              have := HEQ.out
              rw [nums, if_neg (by rw [hi]; decide), if_pos ⟨rfl, rfl⟩] at this
              simpa using this)
            clear hi
            go_wp2
            go_roundw
            case rel => exact ⟨d ++ [ot], r, a, k + 1, by simp [HK.out], by simpa using HLEN.out, rfl, by go_num, by simpa using HPUT.out ot, HEQ2.out⟩
            case measure => simp [RowKit.intOf]; omega
          · have hab : (a == lt) = false := by simpa using ha
            have HEQ2 := Lib.hid (show (d ++ [3]) ++ nums lt ot a r = nums lt ot s l from by
              have := HEQ.out
              rw [nums, if_neg (by rw [hi]; decide), if_neg (fun h => ha h.2)] at this
              simpa using this)
            clear hi ha
            go_wp2
            go_roundw
            case rel => exact ⟨d ++ [3], r, a, k + 1, by simp [HK.out], by simpa using HLEN.out, rfl, by go_num, by simpa using HR.out, HEQ2.out⟩
            case measure => simp [RowKit.intOf]; omega
        · have hb3 : (y == 3) = false := by simpa using h3
          have HEQ2 := Lib.hid (show (d ++ [y]) ++ nums lt ot a r = nums lt ot s l from by
            have := HEQ.out
            rw [nums, if_neg (by rw [hi]; decide), if_neg (fun h => h3 h.1)] at this
            simpa using this)
          clear hi h3
          go_wp2
          go_roundw
          case rel => exact ⟨d ++ [y], r, a, k + 1, by simp [HK.out], by simpa using HLEN.out, rfl, by go_num, by simpa using HR.out, HEQ2.out⟩
          case measure => simp [RowKit.intOf]; omega
end Go.Proofs.YtfclpecbnailgaaGreat.Wk

/-
  Proved here: weak's closure of become, called: what the row holds then (the plain bec). Nothing else of memory changes.
-/
set_option linter.unusedVariables false
namespace Go.Proofs.YtfclpecbnailgaaGreat.Wk
open Go Go.RowKit Go.Lib Go.Proofs.YtfclpecbnailgaaGreat.Cl
set_option maxHeartbeats 4000000 in
set_option maxRecDepth 100000 in
theorem bec_run (base : Nat) (A : Option Addr) (n c : Nat) (s ot : Int) (b1 b2 b3 p m : Nat) (ps l : List Int) (w : World) (hown : w.ownsRow base 3 1 (.slice A n c) n (icl l)) (hn : n ≤ 1099511627776)
    (h10 : w.cell? ⟨b1, 0, none⟩ = some (.slice A n c)) (h2 : w.cell? ⟨b2, 0, none⟩ = some (.slice (some ⟨p, 0, none⟩) m m)) (h3 : w.cell? ⟨b3, 0, none⟩ = some (.int .i64 ot)) (hp : IntsAt w (some ⟨p, 0, none⟩) ps) (hm : ps.length = m) (hm2 : m ≤ 1000)
    (n1 : some b1 ≠ (Value.slice A n c).ownBlock) (n2 : some b2 ≠ (Value.slice A n c).ownBlock) (n3 : some b3 ≠ (Value.slice A n c).ownBlock) (n4 : some p ≠ (Value.slice A n c).ownBlock) :
    Calls Tryz.prog 159 #[.pointer (some ⟨b1, 0, none⟩), .pointer (some ⟨b2, 0, none⟩), .pointer (some ⟨b3, 0, none⟩)] w fun e W' => e = .returned (.tuple #[]) ∧ Row base A n c w (bec ot ps l) W' := by
  have hrow := Row.start hown
  have C10 := Lib.hid h10
  have C2 := Lib.hid h2
  have C3 := Lib.hid h3
  have N1 := Lib.hid n1
  have N2 := Lib.hid n2
  have N3 := Lib.hid n3
  have H0 := Lib.hid hrow
  have hll := Lib.hid hrow.len
  have HB := Lib.hid (fun (W : World) (L : List Int) (z : Int) (hW : Row base A n c w L W) => isOf_any (some ⟨p, 0, none⟩) ps m m z W (hW.ints hp n4) hm (by omega))
  clear hown hrow h2 h3 n1 n2 n3 hp hm n4
  go_enter Tryz.func159, Tryz.ntmps159
  go_wp2_with fail
  clear h10
  go_loopw [8] (fun s8 wx => ∃ (d r : List Int) (k : Nat), d.length = k ∧ (d ++ r).length = n ∧ s8 = .int .i64 k ∧ Row base A n c w (d ++ r) wx ∧ d ++ bec ot ps r = bec ot ps l) (fun s8 _ => n - (RowKit.intOf s8).toNat)
  case atStart => exact ⟨[], l, 0, rfl, hll.out, rfl, H0.out, rfl⟩
  case round =>
    obtain ⟨d, r, k, hk, hlen, rfl, hrw, heq⟩ := hrel
    have HRW := Lib.hid hrw
    have HEQ := Lib.hid heq
    have HK := Lib.hid hk
    have HLEN := Lib.hid hlen
    clear heq
    cases r with
    | nil =>
      rw [List.append_nil] at hlen
      obtain rfl : k = n := by omega
      clear hk hlen hrw
      go_wp2
      go_end0
      refine ⟨rfl, ?_⟩
      rw [show bec ot ps l = d ++ [] from HEQ.out.symm]
      exact HRW.out
    | cons y r =>
      obtain ⟨g, hA, hcx, hfx, hkn, hnc, hput⟩ := hrw.at_ rfl hk
      subst hA
      have hc1 := hrw.cell C10.out N1.out
      have hc2 := hrw.cell C2.out N2.out
      have hc3 := hrw.cell C3.out N3.out
      have HPUT := Lib.hid hput
      clear hput hlen hk hrw
      go_wp2_with fail
      refine (HB.out _ _ y HRW.out).mono ?_
      rintro e w2 ⟨rfl, rfl⟩
      by_cases hi : y ∈ ps
      · rw [decide_eq_true hi]
        have HEQ2 := Lib.hid (show (d ++ [ot]) ++ bec ot ps r = bec ot ps l from by
          have := HEQ.out
          unfold bec at this ⊢
          rw [List.map_cons, if_pos hi] at this
          simpa using this)
        clear hi
        go_wp2
        go_roundw
        case rel => exact ⟨d ++ [ot], r, k + 1, by simp [HK.out], by simpa using HLEN.out, by go_num, by simpa using HPUT.out ot, HEQ2.out⟩
        case measure => simp [RowKit.intOf]; omega
      · rw [decide_eq_false hi]
        have HEQ2 := Lib.hid (show (d ++ [y]) ++ bec ot ps r = bec ot ps l from by
          have := HEQ.out
          unfold bec at this ⊢
          rw [List.map_cons, if_neg hi] at this
          simpa using this)
        clear hi
        go_wp2
        go_roundw
        case rel => exact ⟨d ++ [y], r, k + 1, by simp [HK.out], by simpa using HLEN.out, by go_num, by simpa using HRW.out, HEQ2.out⟩
        case measure => simp [RowKit.intOf]; omega
end Go.Proofs.YtfclpecbnailgaaGreat.Wk

/-
  Proved here: weak's closure of between, called: what the row holds then (the plain btw). Nothing else of memory changes.
-/
set_option linter.unusedVariables false
namespace Go.Proofs.YtfclpecbnailgaaGreat.Wk
open Go Go.RowKit Go.Lib Go.Proofs.YtfclpecbnailgaaGreat.Cl
theorem below_drewN {B : Nat} {a w : World} (h : Below B a w) (n : Nat) : Below B a (w.drewN n) := ⟨h.os, h.tape, h.output, h.size, h.block⟩
theorem btw_start (nn : Int) (hm : nn ≠ -1) (ps : List Int) (a : Int) (r : List Int) : btw nn ps (-1) (a :: r) = a :: btw nn ps a r := by
  rw [btw, if_neg (fun h => hm h.1.symm)]
theorem btw_last (nn : Int) (ps : List Int) (a x : Int) : btw nn ps a [x] = [x] := by
  rw [btw, if_neg (fun h => by simp at h)]
  rfl
set_option maxHeartbeats 4000000 in
set_option maxRecDepth 100000 in
theorem btw_run (base : Nat) (A : Option Addr) (n c : Nat) (s nn : Int) (hnn : nn ≠ -1) (b1 b2 b3 p m : Nat) (ps l : List Int) (w : World) (hown : w.ownsRow base 3 1 (.slice A n c) n (icl l)) (hn : n ≤ 1099511627776)
    (h10 : w.cell? ⟨b1, 0, none⟩ = some (.slice A n c)) (h2 : w.cell? ⟨b2, 0, none⟩ = some (.int .i64 nn)) (h3 : w.cell? ⟨b3, 0, none⟩ = some (.slice (some ⟨p, 0, none⟩) m m)) (hp : IntsAt w (some ⟨p, 0, none⟩) ps) (hm : ps.length = m) (hm2 : m ≤ 1000)
    (n1 : some b1 ≠ (Value.slice A n c).ownBlock) (n2 : some b2 ≠ (Value.slice A n c).ownBlock) (n3 : some b3 ≠ (Value.slice A n c).ownBlock) (n4 : some p ≠ (Value.slice A n c).ownBlock) :
    Calls Tryz.prog 160 #[.pointer (some ⟨b1, 0, none⟩), .pointer (some ⟨b2, 0, none⟩), .pointer (some ⟨b3, 0, none⟩)] w fun e W' => e = .returned (.tuple #[]) ∧ Row base A n c w (btw nn ps (-1) l) W' := by
  have hrow := Row.start hown
  have hll := hrow.len
  cases l with
  | nil =>
    have H0 := Lib.hid hrow
    simp only [List.length_nil] at hll
    subst hll
    clear hown hrow hp
    go_enter Tryz.func160, Tryz.ntmps160
    go_wp2_with fail
    go_loopw [3] (fun s3 wx => s3 = .int .i64 1 ∧ wx = w) (fun s3 _ => 0)
    case atStart => exact ⟨rfl, rfl⟩
    case round =>
      obtain ⟨rfl, rfl⟩ := hrel
      go_wp2
      go_end0
      exact ⟨rfl, H0.out⟩
  | cons a0 l =>
    have C10 := Lib.hid h10
    have C2 := Lib.hid h2
    have C3 := Lib.hid h3
    have N1 := Lib.hid n1
    have N2 := Lib.hid n2
    have N3 := Lib.hid n3
    have H0 := Lib.hid hrow
    have HLL := Lib.hid hll
    have HS := Lib.hid (btw_start nn hnn ps a0 l)
    have HB := Lib.hid (fun (W : World) (L : List Int) (z : Int) (hW : Row base A n c w L W) => isOf_any (some ⟨p, 0, none⟩) ps m m z W (hW.ints hp n4) hm (by omega))
    clear hown hrow h10 h2 h3 n1 n2 n3 hp hm n4 hll
    go_enter Tryz.func160, Tryz.ntmps160
    go_wp2_with fail
    go_loopw [3] (fun s3 wx => ∃ (d r : List Int) (a : Int) (k : Nat), d.length = k ∧ (d ++ a :: r).length = n ∧ s3 = .int .i64 (k + 1) ∧ Row base A n c w (d ++ a :: r) wx ∧ d ++ a :: btw nn ps a r = btw nn ps (-1) (a0 :: l)) (fun s3 _ => n - (RowKit.intOf s3).toNat)
    case atStart => exact ⟨[], l, a0, 0, rfl, HLL.out, rfl, H0.out, HS.out.symm⟩
    case round =>
      obtain ⟨d, r, a, k, hk, hlen, rfl, hrw, heq⟩ := hrel
      have HRW := Lib.hid hrw
      have HEQ := Lib.hid heq
      have HK := Lib.hid hk
      have HLEN := Lib.hid hlen
      have hc1 := hrw.cell C10.out N1.out
      have hc2 := hrw.cell C2.out N2.out
      have hc3 := hrw.cell C3.out N3.out
      rw [List.length_append, List.length_cons, hk] at hlen
      clear heq
      match r, hlen, hrw, HRW, HEQ, HLEN with
      | [], hlen, hrw, HRW, HEQ, HLEN =>
        obtain rfl : n = k + 1 := by simpa using hlen.symm
        clear hk hlen hrw
        go_wp2
        go_end0
        refine ⟨rfl, ?_⟩
        rw [show btw nn ps (-1) (a0 :: l) = d ++ [a] from HEQ.out.symm]
        exact HRW.out
      | [x], hlen, hrw, HRW, HEQ, HLEN =>
        obtain rfl : n = k + 2 := by simp at hlen; omega
        clear hk hlen hrw
        go_wp2
        go_end0
        refine ⟨rfl, ?_⟩
        rw [btw_last] at HEQ
        rw [show btw nn ps (-1) (a0 :: l) = d ++ [a, x] from HEQ.out.symm]
        exact HRW.out
      | x :: y :: r, hlen, hrw, HRW, HEQ, HLEN =>
        have hkn : k + 2 < n := by simp at hlen; omega
        obtain ⟨g, hA, hca, -, -, hnc, -⟩ := hrw.at_ rfl hk
        subst hA
        obtain ⟨g', hA', hcx, hfx, -, -, hput⟩ := hrw.at_ (d := d ++ [a]) (r := y :: r) (x := x) (k := k + 1) (by simp) (by simp [hk])
        obtain rfl : g = g' := by injection hA' with e; injection e
        obtain ⟨g', hA'', hcy, -, -, -, -⟩ := hrw.at_ (d := d ++ [a, x]) (r := r) (x := y) (k := k + 2) (by simp) (by simp [hk])
        obtain rfl : g = g' := by injection hA'' with e; injection e
        have HPUT := Lib.hid hput
        clear hput hlen hk hrw hA' hA''
        have e1 : IntKind.i64.wrap ((k : Int) + 1 - 1) = (k : Int) := by rw [show (k : Int) + 1 - 1 = (k : Int) from by omega]; exact IntWalk.i64_in _ (by omega)
        have e2 : IntKind.i64.wrap (k : Int) = (k : Int) := IntWalk.i64_in _ (by omega)
        have e3 : IntKind.i64.wrap ((k : Int) + 1 + 1) = (k : Int) + 1 + 1 := IntWalk.i64_in _ (by omega)
        have e4 : IntKind.i64.wrap ((k : Int) + 1) = (k : Int) + 1 := IntWalk.i64_in _ (by omega)
        go_wp2_with fail
        go_quiet (fail)
        have hV := HRW.out.below (below_drewN (Below.refl wr.heap.size wr) nq)
        clear hca hcx hcy hfx hc1 hc2 hc3 HRW HPUT
        generalize wr.drewN nq = V at *
        obtain ⟨g', hA', hcx, hfx, -, -, hput⟩ := hV.at_ (d := d ++ [a]) (r := y :: r) (x := x) (k := k + 1) (by simp) (by simp [HK.out])
        obtain rfl : g = g' := by injection hA' with e; injection e
        have hc1 := hV.cell C10.out N1.out
        have hc2 := hV.cell C2.out N2.out
        have hc3 := hV.cell C3.out N3.out
        have HPUT := Lib.hid hput
        have HV := Lib.hid hV
        clear hV hput hA'
        have HNO := Lib.hid (fun (h : ¬ (a = nn ∧ (y :: r).head? = some nn ∧ x ∈ ps)) => show (d ++ [a]) ++ x :: btw nn ps x (y :: r) = btw nn ps (-1) (a0 :: l) from by
          have := HEQ.out
          rw [btw, if_neg h] at this
          simpa using this)
        by_cases ha : a = nn
        · subst ha
          by_cases hy : y = a
          · subst hy
            go_wp2_with fail
            refine (HB.out _ _ x HV.out).mono ?_
            rintro e w2 ⟨rfl, rfl⟩
            by_cases hi : x ∈ ps
            · rw [decide_eq_true hi]
              have HEQ2 := Lib.hid (show (d ++ [y]) ++ y :: btw y ps y (y :: r) = btw y ps (-1) (a0 :: l) from by
                have := HEQ.out
                rw [btw, if_pos ⟨rfl, rfl, hi⟩] at this
                simpa using this)
              clear hi
              go_wp2
              go_roundw
              case rel => exact ⟨d ++ [y], y :: r, y, k + 1, by simp [HK.out], by simpa using HLEN.out, by go_num, by simpa using HPUT.out y, HEQ2.out⟩
              case measure => simp [RowKit.intOf]; omega
            · rw [decide_eq_false hi]
              have HEQ2 := Lib.hid (HNO.out (fun h => hi h.2.2))
              clear hi
              go_wp2
              go_roundw
              case rel => exact ⟨d ++ [y], y :: r, x, k + 1, by simp [HK.out], by simpa using HLEN.out, by go_num, by simpa using HV.out, HEQ2.out⟩
              case measure => simp [RowKit.intOf]; omega
          · have hyb : (y == a) = false := by simpa using hy
            have HEQ2 := Lib.hid (HNO.out (fun h => hy (by simpa using h.2.1)))
            clear hy
            go_wp2
            go_roundw
            case rel => exact ⟨d ++ [a], y :: r, x, k + 1, by simp [HK.out], by simpa using HLEN.out, by go_num, by simpa using HV.out, HEQ2.out⟩
            case measure => simp [RowKit.intOf]; omega
        · have hab : (a == nn) = false := by simpa using ha
          have HEQ2 := Lib.hid (HNO.out (fun h => ha h.1))
          clear ha
          go_wp2
          go_roundw
          case rel => exact ⟨d ++ [a], y :: r, x, k + 1, by simp [HK.out], by simpa using HLEN.out, by go_num, by simpa using HV.out, HEQ2.out⟩
          case measure => simp [RowKit.intOf]; omega
end Go.Proofs.YtfclpecbnailgaaGreat.Wk

/-
  Proved here: weak's signsBehind and signsAhead, called on a sequence: what the row holds then (the plain sbeh, sah). Nothing else of memory changes.
-/
set_option linter.unusedVariables false
namespace Go.Proofs.YtfclpecbnailgaaGreat.Wk
open Go Go.RowKit Go.Lib Go.Proofs.YtfclpecbnailgaaGreat.Cl
theorem sbeh_start (a : Int) (r : List Int) : sbeh (-1) (a :: r) = a :: sbeh a r := by
  rw [sbeh, if_neg (by omega)]
theorem sah_head {r : List Int} (h : r ≠ []) : ∃ y t, sah r = y :: t := by
  cases h2 : sah r with
  | nil => exact absurd (List.eq_nil_of_length_eq_zero (by rw [← sah_len, h2]; rfl)) h
  | cons y t => exact ⟨y, t, rfl⟩
set_option maxHeartbeats 4000000 in
set_option maxRecDepth 100000 in
theorem sbeh_any (base : Nat) (A : Option Addr) (n c : Nat) (s : Int) (l : List Int) (w : World) (hown : w.ownsRow base 3 1 (.slice A n c) n (icl l)) (hn : n ≤ 1099511627776) :
    Calls Tryz.prog 138 #[.agg #[.slice A n c, .int .i64 s]] w fun e W' => e = .returned (.tuple #[]) ∧ Row base A n c w (sbeh (-1) l) W' := by
  have hrow := (Row.start hown).alloc (.cells #[.slice A n c, .int .i64 s] 119)
  have hne : some w.heap.size ≠ (Value.slice A n c).ownBlock := fun e => by have := hown.lt _ e.symm; omega
  have hll := hrow.len
  cases l with
  | nil =>
    have H0 := Lib.hid hrow
    simp only [List.length_nil] at hll
    subst hll
    clear hown hrow hne
    go_enter Tryz.func138, Tryz.ntmps138
    go_wp2_with fail
    go_loopw [2] (fun s3 wx => s3 = .int .i64 1 ∧ wx = w.alloc (.cells #[.slice A 0 c, .int .i64 s] 119)) (fun s3 _ => 0)
    case atStart => exact ⟨rfl, rfl⟩
    case round =>
      obtain ⟨rfl, rfl⟩ := hrel
      go_wp2
      go_end0
      exact ⟨rfl, H0.out⟩
  | cons a0 l =>
    have HNE := Lib.hid hne
    have H0 := Lib.hid (show Row base A n c (w.alloc (.cells #[.slice A n c, .int .i64 s] 119)) (a0 :: l) (w.alloc (.cells #[.slice A n c, .int .i64 s] 119)) from Row.start hrow.own)
    have C0 := Lib.hid (show (w.alloc (.cells #[.slice A n c, .int .i64 s] 119)).cell? ⟨w.heap.size, 0, none⟩ = some (.slice A n c) from by simp)
    have HLL := Lib.hid hll
    have HG := Lib.hid hrow.gr
    have HS := Lib.hid (sbeh_start a0 l)
    clear hown hrow hne hll
    go_enter Tryz.func138, Tryz.ntmps138
    go_wp2_with fail
    obtain ⟨b, hb⟩ : ∃ b, w.heap.size = b := ⟨_, rfl⟩
    rw [hb] at C0 HNE ⊢
    generalize hw1 : w.alloc (.cells #[.slice A n c, .int .i64 s] 119) = w1 at *
    go_loopw [2] (fun s3 wx => ∃ (d r : List Int) (a : Int) (k : Nat), d.length = k ∧ (d ++ a :: r).length = n ∧ s3 = .int .i64 (k + 1) ∧ Row base A n c w1 (d ++ a :: r) wx ∧ d ++ a :: sbeh a r = sbeh (-1) (a0 :: l)) (fun s3 _ => n - (RowKit.intOf s3).toNat)
    case atStart => exact ⟨[], l, a0, 0, rfl, HLL.out, rfl, H0.out, HS.out.symm⟩
    case round =>
      obtain ⟨d, r, a, k, hk, hlen, rfl, hrw, heq⟩ := hrel
      have HRW := Lib.hid hrw
      have HEQ := Lib.hid heq
      have HK := Lib.hid hk
      have HLEN := Lib.hid hlen
      have hc1 := hrw.cell C0.out HNE.out
      rw [List.length_append, List.length_cons, hk] at hlen
      clear heq
      cases r with
      | nil =>
        obtain rfl : n = k + 1 := by simpa using hlen.symm
        clear hk hlen hrw
        go_wp2
        go_end0
        refine ⟨rfl, ?_⟩
        rw [show sbeh (-1) (a0 :: l) = d ++ [a] from HEQ.out.symm]
        exact ⟨HRW.out.own, grown_trans HG.out HRW.out.gr⟩
      | cons x r =>
        have hkn : k + 1 < n := by simp at hlen; omega
        obtain ⟨g, hA, hca, -, -, hnc, -⟩ := hrw.at_ rfl hk
        subst hA
        obtain ⟨g', hA', hcx, hfx, -, -, hput⟩ := hrw.at_ (d := d ++ [a]) (r := r) (x := x) (k := k + 1) (by simp) (by simp [hk])
        obtain rfl : g = g' := by injection hA' with e; injection e
        have HPUT := Lib.hid hput
        clear hput hlen hk hrw hA'
        have e1 : IntKind.i64.wrap ((k : Int) + 1 - 1) = (k : Int) := by rw [show (k : Int) + 1 - 1 = (k : Int) from by omega]; exact IntWalk.i64_in _ (by omega)
        have HNO := Lib.hid (fun (h : ¬ (x = 5 ∧ a = 3)) => show (d ++ [a]) ++ x :: sbeh x r = sbeh (-1) (a0 :: l) from by
          have := HEQ.out
          rw [sbeh, if_neg h] at this
          simpa using this)
        by_cases hx : x = 5
        · subst hx
          by_cases ha : a = 3
          · subst ha
            have HEQ2 := Lib.hid (show (d ++ [3]) ++ 3 :: sbeh 3 r = sbeh (-1) (a0 :: l) from by
              have := HEQ.out
              rw [sbeh, if_pos ⟨rfl, rfl⟩] at this
              simpa using this)
            go_wp2
            go_roundw
            case rel => exact ⟨d ++ [3], r, 3, k + 1, by simp [HK.out], by simpa using HLEN.out, by go_num, by simpa using HPUT.out 3, HEQ2.out⟩
            case measure => simp [RowKit.intOf]; omega
          · have hab : (a == 3) = false := by simpa using ha
            have HEQ2 := Lib.hid (HNO.out (fun h => ha h.2))
            clear ha
            go_wp2
            go_roundw
            case rel => exact ⟨d ++ [a], r, 5, k + 1, by simp [HK.out], by simpa using HLEN.out, by go_num, by simpa using HRW.out, HEQ2.out⟩
            case measure => simp [RowKit.intOf]; omega
        · have hxb : (x == 5) = false := by simpa using hx
          have HEQ2 := Lib.hid (HNO.out (fun h => hx h.1))
          clear hx
          go_wp2
          go_roundw
          case rel => exact ⟨d ++ [a], r, x, k + 1, by simp [HK.out], by simpa using HLEN.out, by go_num, by simpa using HRW.out, HEQ2.out⟩
          case measure => simp [RowKit.intOf]; omega
set_option maxHeartbeats 4000000 in
set_option maxRecDepth 100000 in
theorem sah_any (base : Nat) (A : Option Addr) (n c : Nat) (s : Int) (l : List Int) (w : World) (hown : w.ownsRow base 3 1 (.slice A n c) n (icl l)) (hn : n ≤ 1099511627776) :
    Calls Tryz.prog 139 #[.agg #[.slice A n c, .int .i64 s]] w fun e W' => e = .returned (.tuple #[]) ∧ Row base A n c w (sah l) W' := by
  have hrow := (Row.start hown).alloc (.cells #[.slice A n c, .int .i64 s] 119)
  have hne : some w.heap.size ≠ (Value.slice A n c).ownBlock := fun e => by have := hown.lt _ e.symm; omega
  have hll := hrow.len
  rcases List.eq_nil_or_concat l with rfl | ⟨l0, z0, rfl⟩
  · have H0 := Lib.hid hrow
    simp only [List.length_nil] at hll
    subst hll
    clear hown hrow hne
    go_enter Tryz.func139, Tryz.ntmps139
    go_wp2_with fail
    go_loopw [2] (fun s3 wx => s3 = .int .i64 (-2) ∧ wx = w.alloc (.cells #[.slice A 0 c, .int .i64 s] 119)) (fun s3 _ => 0)
    case atStart => exact ⟨rfl, rfl⟩
    case round =>
      obtain ⟨rfl, rfl⟩ := hrel
      go_wp2
      go_end0
      exact ⟨rfl, H0.out⟩
  · rw [List.concat_eq_append] at *
    have HNE := Lib.hid hne
    have H0 := Lib.hid (show Row base A n c (w.alloc (.cells #[.slice A n c, .int .i64 s] 119)) (l0 ++ [z0]) (w.alloc (.cells #[.slice A n c, .int .i64 s] 119)) from Row.start hrow.own)
    have C0 := Lib.hid (show (w.alloc (.cells #[.slice A n c, .int .i64 s] 119)).cell? ⟨w.heap.size, 0, none⟩ = some (.slice A n c) from by simp)
    obtain ⟨m, hm⟩ : ∃ m, l0.length = m := ⟨_, rfl⟩
    have HM := Lib.hid hm
    have HG := Lib.hid hrow.gr
    obtain rfl : n = m + 1 := by simp [hm] at hll; omega
    clear hown hrow hne hll hm
    have e0 : IntKind.i64.wrap ((m : Int) + 1 - 2) = (m : Int) - 1 := by rw [show (m : Int) + 1 - 2 = (m : Int) - 1 from by omega]; exact IntWalk.i64_in _ (by omega)
    go_enter Tryz.func139, Tryz.ntmps139
    go_wp2_with fail
    obtain ⟨b, hb⟩ : ∃ b, w.heap.size = b := ⟨_, rfl⟩
    rw [hb] at C0 HNE ⊢
    generalize hw1 : w.alloc (.cells #[.slice A (m + 1) c, .int .i64 s] 119) = w1 at *
    go_loopw [2] (fun s3 wx => ∃ (d r : List Int) (k : Nat), d.length = k ∧ k ≤ m ∧ r ≠ [] ∧ d ++ r = l0 ++ [z0] ∧ s3 = .int .i64 ((k : Int) - 1) ∧ Row base A (m + 1) c w1 (d ++ sah r) wx) (fun s3 _ => (RowKit.intOf s3 + 1).toNat)
    case atStart => exact ⟨l0, [z0], m, HM.out, Nat.le_refl _, by simp, rfl, rfl, by
      rw [show sah [z0] = [z0] from by rw [sah, if_neg (fun h => by simp [sah] at h)]; rfl]
      exact H0.out⟩
    case round =>
      obtain ⟨d, r, k, hk, hkm, hr, hdr, rfl, hrw⟩ := hrel
      obtain ⟨y, t, hy⟩ := sah_head hr
      have HRW := Lib.hid hrw
      have HDR := Lib.hid hdr
      have HR := Lib.hid hr
      have hc1 := hrw.cell C0.out HNE.out
      rcases List.eq_nil_or_concat d with rfl | ⟨d, x, rfl⟩
      · simp only [List.length_nil] at hk
        subst hk
        simp only [List.nil_append] at hdr
        subst hdr
        clear hr hrw hy
        go_wp2
        go_end0
        refine ⟨rfl, ?_⟩
        have h1 := HRW.out
        simp only [List.nil_append] at h1
        exact ⟨h1.own, grown_trans HG.out h1.gr⟩
      · rw [List.concat_eq_append] at *
        obtain ⟨j, hj⟩ : ∃ j, d.length = j := ⟨_, rfl⟩
        have HJ := Lib.hid hj
        obtain rfl : k = j + 1 := by simp [hj] at hk; omega
        obtain ⟨g, hA, hcx, hfx, hjn, hnc, hput⟩ := hrw.at_ (d := d) (r := sah r) (x := x) (k := j) (by simp) hj
        subst hA
        obtain ⟨g', hA', hcy, -, -, -, -⟩ := hrw.at_ (d := d ++ [x]) (r := t) (x := y) (k := j + 1) (by rw [hy]) (by simp [hj])
        obtain rfl : g = g' := by injection hA' with e; injection e
        have HPUT := Lib.hid hput
        have HY := Lib.hid hy
        clear hput hk hrw hA' hy hj hdr hr
        have e1 : ((j + 1 : Nat) : Int) - 1 = (j : Int) := by omega
        rw [e1]
        clear e1
        have e2 : IntKind.i64.wrap ((j : Int) + 1) = (j : Int) + 1 := IntWalk.i64_in _ (by omega)
        have e3 : IntKind.i64.wrap ((j : Int) - 1) = (j : Int) - 1 := IntWalk.i64_in _ (by omega)
        have HNO := Lib.hid (fun (h : ¬ (x = 5 ∧ y = 3)) => show d ++ sah (x :: r) = (d ++ [x]) ++ sah r from by
          rw [sah, if_neg (fun h2 => h ⟨h2.1, by have := h2.2; rw [HY.out] at this; simpa using this⟩)]
          simp)
        by_cases hx : x = 5
        · subst hx
          by_cases ha : y = 3
          · subst ha
            have HEQ2 := Lib.hid (show d ++ sah (5 :: r) = d ++ 3 :: sah r from by
              rw [sah, if_pos ⟨rfl, by rw [HY.out]; rfl⟩])
            go_wp2
            go_roundw
            case rel => exact ⟨d, 5 :: r, j, HJ.out, by omega, by simp, by rw [← HDR.out]; simp, by go_num, by rw [HEQ2.out]; exact HPUT.out 3⟩
            case measure => (simp [RowKit.intOf]; try omega)
          · have hab : (y == 3) = false := by simpa using ha
            have HEQ2 := Lib.hid (HNO.out (fun h => ha h.2))
            clear ha
            go_wp2
            go_roundw
            case rel => exact ⟨d, 5 :: r, j, HJ.out, by omega, by simp, by rw [← HDR.out]; simp, by go_num, by rw [HEQ2.out]; exact HRW.out⟩
            case measure => (simp [RowKit.intOf]; try omega)
        · have hxb : (x == 5) = false := by simpa using hx
          have HEQ2 := Lib.hid (HNO.out (fun h => hx h.1))
          clear hx
          go_wp2
          go_roundw
          case rel => exact ⟨d, x :: r, j, HJ.out, by omega, by simp, by rw [← HDR.out]; simp, by go_num, by rw [HEQ2.out]; exact HRW.out⟩
          case measure => (simp [RowKit.intOf]; try omega)
end Go.Proofs.YtfclpecbnailgaaGreat.Wk

/-
  Proved here: what weak's numbers, become and between return: function values that, called, make of what the row holds what the plain rules say; and that the method values do so.
-/
set_option linter.unusedVariables false
namespace Go.Proofs.YtfclpecbnailgaaGreat.Wk
open Go Go.RowKit Go.Lib Go.Proofs.YtfclpecbnailgaaGreat.Cl
theorem older (w : World) (o : Obj) {p : Addr} {v : Value} (h : w.cell? p = some v) : (w.alloc o).cell? p = some v :=
  ((below_made w o).cell (World.block_lt_of_cell? w _ h)).trans h
theorem newer (w : World) (cs : Array Value) (t : TypeId) (B k : Nat) (v : Value) (hB : w.heap.size = B) (h : cs[k]? = some v) : (w.alloc (.cells cs t)).cell? ⟨B, k, none⟩ = some v := by
  subst hB
  simp [h]
/-- The row's block lies below a number. -/
def Under (A : Option Addr) (n c : Nat) (k : Nat) : Prop := ∀ b, (Value.slice A n c).ownBlock = some b → b < k
theorem Under.ne {A : Option Addr} {n c k b : Nat} (h : Under A n c k) (hb : k ≤ b) : some b ≠ (Value.slice A n c).ownBlock := fun e => by have := h _ e.symm; omega
theorem Under.mono {A : Option Addr} {n c k m : Nat} (h : Under A n c k) (hk : k ≤ m) : Under A n c m := fun b hb => Nat.lt_of_lt_of_le (h b hb) hk
theorem marks_rule (base : Nat) (A : Option Addr) (n c : Nat) (s : Int) (hn : n ≤ 1099511627776) (w : World) :
    RuleOk base A n c (.func (.func 134) #[.agg #[.slice A n c, .int .i64 s]] #[]) (marks s) w :=
  ⟨_, _, _, rfl, fun _ _ => by kernel_rfl, fun W L _ hL => marks_any base A n c s L W hL hn⟩
theorem sbeh_rule (base : Nat) (A : Option Addr) (n c : Nat) (s : Int) (hn : n ≤ 1099511627776) (w : World) :
    RuleOk base A n c (.func (.func 138) #[.agg #[.slice A n c, .int .i64 s]] #[]) (sbeh (-1)) w :=
  ⟨_, _, _, rfl, fun _ _ => by kernel_rfl, fun W L _ hL => sbeh_any base A n c s L W hL hn⟩
theorem sah_rule (base : Nat) (A : Option Addr) (n c : Nat) (s : Int) (hn : n ≤ 1099511627776) (w : World) :
    RuleOk base A n c (.func (.func 139) #[.agg #[.slice A n c, .int .i64 s]] #[]) sah w :=
  ⟨_, _, _, rfl, fun _ _ => by kernel_rfl, fun W L _ hL => sah_any base A n c s L W hL hn⟩
set_option maxHeartbeats 1000000 in
set_option maxRecDepth 100000 in
theorem numbers_any (base : Nat) (A : Option Addr) (n c : Nat) (s x o : Int) (w : World) (hu : Under A n c w.heap.size) (hn : n ≤ 1099511627776) :
    Calls Tryz.prog 135 #[.agg #[.slice A n c, .int .i64 s], .int .i64 x, .int .i64 o] w fun e w' => ∃ fv, e = .returned fv ∧ RuleOk base A n c fv (nums x o s) w' ∧ Below w.heap.size w w' := by
  have HU := Lib.hid hu
  clear hu
  go_enter Tryz.func135, Tryz.ntmps135
  go_wp2
  go_ret
  refine ⟨_, rfl, ⟨_, _, _, rfl, fun _ _ => by kernel_rfl, fun W L hW hL => ?_⟩, ?_⟩
  · simp only [List.append_toArray, List.nil_append]
    refine nums_run base A n c s x o w.heap.size (w.heap.size + 1) (w.heap.size + 2) L W hL hn ?_ ?_ ?_ ?_ (HU.out.ne (by omega)) (HU.out.ne (by omega)) (HU.out.ne (by omega))
    · exact hW.cell (older _ _ (older _ _ (newer w _ _ _ 0 _ rfl rfl))) (HU.out.ne (Nat.le_refl _))
    · exact hW.cell (older _ _ (older _ _ (newer w _ _ _ 1 _ rfl rfl))) (HU.out.ne (Nat.le_refl _))
    · exact hW.cell (older _ _ (newer _ _ _ _ 0 _ (by simp) rfl)) (HU.out.ne (Nat.le_succ _))
    · exact hW.cell (newer _ _ _ _ 0 _ (by simp) rfl) (HU.out.ne (by show w.heap.size ≤ w.heap.size + 2; omega))
  · exact ((below_made w _).alloc (by simp) _).alloc (by simp; omega) _
set_option maxHeartbeats 1000000 in
set_option maxRecDepth 100000 in
theorem become_any (base : Nat) (A : Option Addr) (n c : Nat) (s o : Int) (p m : Nat) (ps : List Int) (w : World) (hu : Under A n c w.heap.size) (hn : n ≤ 1099511627776) (hp : IntsAt w (some ⟨p, 0, none⟩) ps) (hm : ps.length = m) (hm2 : m ≤ 1000) (hnp : some p ≠ (Value.slice A n c).ownBlock) :
    Calls Tryz.prog 136 #[.agg #[.slice A n c, .int .i64 s], .int .i64 o, .slice (some ⟨p, 0, none⟩) m m] w fun e w' => ∃ fv, e = .returned fv ∧ RuleOk base A n c fv (bec o ps) w' ∧ Below w.heap.size w w' := by
  have HU := Lib.hid hu
  have HP := Lib.hid hp
  have HNP := Lib.hid hnp
  clear hu hp hnp
  go_enter Tryz.func136, Tryz.ntmps136
  go_wp2
  go_ret
  have hB : Below w.heap.size w (((w.alloc (.cells #[.slice A n c, .int .i64 s] 119)).alloc (.cells #[.int .i64 o] 3)).alloc (.cells #[.slice (some ⟨p, 0, none⟩) m m] 25)) := ((below_made w _).alloc (by simp) _).alloc (by simp; omega) _
  refine ⟨_, rfl, ⟨_, _, _, rfl, fun _ _ => by kernel_rfl, fun W L hW hL => ?_⟩, hB⟩
  simp only [List.append_toArray, List.nil_append]
  have hpW : IntsAt W (some ⟨p, 0, none⟩) ps := ((show Row base A n c _ L W from ⟨hL, hW⟩).ints (HP.out.below hB) HNP.out)
  refine bec_run base A n c s o w.heap.size (w.heap.size + 2) (w.heap.size + 1) p m ps L W hL hn ?_ ?_ ?_ hpW hm hm2 (HU.out.ne (by omega)) (HU.out.ne (by omega)) (HU.out.ne (by omega)) HNP.out
  · exact hW.cell (older _ _ (older _ _ (newer w _ _ _ 0 _ rfl rfl))) (HU.out.ne (Nat.le_refl _))
  · exact hW.cell (newer _ _ _ _ 0 _ (by simp) rfl) (HU.out.ne (by show w.heap.size ≤ w.heap.size + 2; omega))
  · exact hW.cell (older _ _ (newer _ _ _ _ 0 _ (by simp) rfl)) (HU.out.ne (Nat.le_succ _))
set_option maxHeartbeats 1000000 in
set_option maxRecDepth 100000 in
theorem between_any (base : Nat) (A : Option Addr) (n c : Nat) (s o : Int) (ho : o ≠ -1) (p m : Nat) (ps : List Int) (w : World) (hu : Under A n c w.heap.size) (hn : n ≤ 1099511627776) (hp : IntsAt w (some ⟨p, 0, none⟩) ps) (hm : ps.length = m) (hm2 : m ≤ 1000) (hnp : some p ≠ (Value.slice A n c).ownBlock) :
    Calls Tryz.prog 137 #[.agg #[.slice A n c, .int .i64 s], .int .i64 o, .slice (some ⟨p, 0, none⟩) m m] w fun e w' => ∃ fv, e = .returned fv ∧ RuleOk base A n c fv (btw o ps (-1)) w' ∧ Below w.heap.size w w' := by
  have HU := Lib.hid hu
  have HP := Lib.hid hp
  have HNP := Lib.hid hnp
  have HO := Lib.hid ho
  clear hu hp hnp ho
  go_enter Tryz.func137, Tryz.ntmps137
  go_wp2
  go_ret
  have hB : Below w.heap.size w (((w.alloc (.cells #[.slice A n c, .int .i64 s] 119)).alloc (.cells #[.int .i64 o] 3)).alloc (.cells #[.slice (some ⟨p, 0, none⟩) m m] 25)) := ((below_made w _).alloc (by simp) _).alloc (by simp; omega) _
  refine ⟨_, rfl, ⟨_, _, _, rfl, fun _ _ => by kernel_rfl, fun W L hW hL => ?_⟩, hB⟩
  simp only [List.append_toArray, List.nil_append]
  have hpW : IntsAt W (some ⟨p, 0, none⟩) ps := ((show Row base A n c _ L W from ⟨hL, hW⟩).ints (HP.out.below hB) HNP.out)
  refine btw_run base A n c s o HO.out w.heap.size (w.heap.size + 1) (w.heap.size + 2) p m ps L W hL hn ?_ ?_ ?_ hpW hm hm2 (HU.out.ne (by omega)) (HU.out.ne (by omega)) (HU.out.ne (by omega)) HNP.out
  · exact hW.cell (older _ _ (older _ _ (newer w _ _ _ 0 _ rfl rfl))) (HU.out.ne (Nat.le_refl _))
  · exact hW.cell (older _ _ (newer _ _ _ _ 0 _ (by simp) rfl)) (HU.out.ne (Nat.le_succ _))
  · exact hW.cell (newer _ _ _ _ 0 _ (by simp) rfl) (HU.out.ne (by show w.heap.size ≤ w.heap.size + 2; omega))
end Go.Proofs.YtfclpecbnailgaaGreat.Wk
