/-
  Several texts in one, each with its own remark: KuJoin, CoRows, CoSearch, CoLaid, KuCodes, CoRow.
-/
import Derived.Deep.RegionWith
import Derived.IntWalk
import Derived.OwnWalk
import Derived.Test.YtlocnjenkanmpaaDoorM14
import Derived.Test.YtlocnjenkanmpaaDoorM16
import Derived.Test.YtlocnjenkanmpaaDoorM2
import Derived.Test.YtlocnjenkanmpaaDoorM0
import Derived.Test.YtlocnjenkanmpaaDoorM1
import Derived.Test.YtlocnjenkanmpaaDoorM11

/-
  Proved here: what (cluster.seen).joins and .wide return. They leave what was in memory. Condition (joins): the code's row of numbers holds what the program's text lays.
-/
set_option linter.unusedVariables false
namespace Go.Proofs.YtlocnjenkanmpaaDoor.Ku
open Go.RowKit Go.Lib Go.Proofs.YtlocnjenkanmpaaDoor.Arr Go.Proofs.YtlocnjenkanmpaaDoor.Gc
/-- The code's row, a bit a kind. -/
def behindL : List Int := [304, 4, 0, 0, 304, 304, 304, 16369, 304, 14128, 3376, 2352, 3376, 2352]
/-- The variable holds what the program's text lays. -/
def Held (w : World) : Prop := 0 < w.heap.size ∧ ∀ k (hk : k < behindL.length), w.cell? ⟨0, k, none⟩ = some (.int .u16 behindL[k])
theorem Held.below {w w' : World} (h : Held w) (hb : Below w.heap.size w w') : Held w' :=
  ⟨Nat.lt_of_lt_of_le h.1 hb.size, fun k hk => (hb.cell (p := ⟨0, k, none⟩) h.1).trans (h.2 k hk)⟩
theorem bits_rules0 : ((List.range 14).all fun a => (List.range 14).all fun b => (bits BinOp.and IntKind.u16 (behindL.getD a 0 / 2 ^ b) 1 != 0) == rules a b) = true := by kernel_rfl
theorem bits_rules {a b : Nat} (ha : a < behindL.length) (hb : b ≤ 13) : (bits BinOp.and IntKind.u16 (behindL[a] / 2 ^ b) 1 != 0) = rules a b := by
  have h14 : a < 14 := ha
  have h := List.all_eq_true.1 (List.all_eq_true.1 bits_rules0 a (List.mem_range.2 h14)) b (List.mem_range.2 (by omega))
  rw [beq_iff_eq] at h
  rw [← h]
  simp [List.getD, ha]
theorem bits_alone0 : ((List.range 14).all fun b => (bits BinOp.and IntKind.i64 (14 / 2 ^ b) 1 != 0) == alone b) = true := by kernel_rfl
theorem bits_alone {b : Nat} (hb : b ≤ 13) : (bits BinOp.and IntKind.i64 (14 / 2 ^ b) 1 != 0) = alone b := by
  have h := List.all_eq_true.1 bits_alone0 b (List.mem_range.2 (by omega))
  rwa [beq_iff_eq] at h
set_option maxHeartbeats 1000000 in
set_option maxRecDepth 100000 in
theorem joins_any (a1 z1 c1 f1 : Int) (k1 k2 : Nat) (p1 : Bool) (a2 z2 c2 f2 : Int) (p2 : Bool) (w : World) (hH : Held w) (h1 : k1 ≤ 13) (h2 : k2 ≤ 13) (hf : 0 ≤ f1) :
    Calls Tryd.prog 30 #[.agg #[.int .i64 a1, .int .i64 z1, .int .i64 c1, .int .i64 k1, .int .i64 f1, .bool p1], .agg #[.int .i64 a2, .int .i64 z2, .int .i64 c2, .int .i64 k2, .int .i64 f2, .bool p2]] w fun e w' =>
      e = .returned (.bool (rules k1 k2 || (if k1 = 5 then p1 && pictT c2 else (k2 == 6) && decide (f1 % 2 = 1)))) ∧ Below w.heap.size w w' := by
  have HP := Lib.hid (fun W => gPict_any c2 W)
  obtain ⟨res, hres⟩ : ∃ res : Bool, (rules k1 k2 || (if k1 = 5 then p1 && pictT c2 else (k2 == 6) && decide (f1 % 2 = 1))) = res := ⟨_, rfl⟩
  rw [hres]
  have HRes := Lib.hid hres
  have h1l : k1 < behindL.length := by show k1 < 14; omega
  have hcell := hH.2 k1 h1l
  have hbit := bits_rules h1l h2
  have h0w := hH.1
  generalize behindL[k1] = b at *
  generalize rules k1 k2 = r at *
  clear hres
  generalize pictT c2 = q at *
  have h14 : k1 < 14 := by omega
  have h14i : (k1 : Int) < 14 := by omega
  clear hH h1l
  have hbx : Below w.heap.size w ((w.alloc (.cells #[.int .i64 a1, .int .i64 z1, .int .i64 c1, .int .i64 k1, .int .i64 f1, .bool p1] 63)).alloc (.cells #[.int .i64 a2, .int .i64 z2, .int .i64 c2, .int .i64 k2, .int .i64 f2, .bool p2] 63)) := ((Below.refl _ _).alloc (Nat.le_refl _) _).alloc (by simp) _
  have HBX := Lib.hid hbx
  clear hbx
  cases r with
  | true =>
    have HV := Lib.hid (show res = true by rw [← HRes.out]; rfl)
    clear HRes
    go_enter Tryd.func30, Tryd.ntmps30
    go_wp2_with fail
    go_quiet (fail)
    go_wp2
    go_ret
    exact ⟨by rw [HV.out]; rfl, below_drewN HBX.out _⟩
  | false =>
    cases k5 : ((k1 : Int) == 5) with
    | true =>
      cases p1 with
      | true =>
        have HV := Lib.hid (show res = q by rw [← HRes.out, if_pos (by simp at k5; omega)]; rfl)
        clear HRes
        go_enter Tryd.func30, Tryd.ntmps30
        go_wp2_with fail
        go_quiet (fail)
        go_wp2_with fail
        refine (HP.out _).mono ?_
        rintro e w4 ⟨rfl, hb4⟩
        go_wp2
        go_ret
        exact ⟨by rw [HV.out]; rfl, (below_drewN HBX.out _).trans (hb4.mono (below_drewN HBX.out _).size)⟩
      | false =>
        have HV := Lib.hid (show res = false by rw [← HRes.out, if_pos (by simp at k5; omega)]; rfl)
        clear HRes
        go_enter Tryd.func30, Tryd.ntmps30
        go_wp2_with fail
        go_quiet (fail)
        go_wp2
        go_ret
        exact ⟨by rw [HV.out]; rfl, below_drewN HBX.out _⟩
    | false =>
      cases k6 : ((k2 : Int) == 6) with
      | true =>
        cases ho : decide (f1 % 2 = 1) with
        | true =>
          have HV := Lib.hid (show res = true by rw [← HRes.out, if_neg (by simp at k5; omega), show (k2 == 6) = true from by simp at k6 ⊢; omega, ho]; rfl)
          have ho2 : (f1 % 2 == 1) = true := by simpa using ho
          clear HRes ho
          go_enter Tryd.func30, Tryd.ntmps30
          go_wp2_with fail
          go_quiet (fail)
          go_wp2
          go_ret
          exact ⟨by rw [HV.out]; rfl, below_drewN HBX.out _⟩
        | false =>
          have HV := Lib.hid (show res = false by rw [← HRes.out, if_neg (by simp at k5; omega), show (k2 == 6) = true from by simp at k6 ⊢; omega, ho]; rfl)
          have ho2 : (f1 % 2 == 1) = false := by simpa using ho
          clear HRes ho
          go_enter Tryd.func30, Tryd.ntmps30
          go_wp2_with fail
          go_quiet (fail)
          go_wp2
          go_ret
          exact ⟨by rw [HV.out]; rfl, below_drewN HBX.out _⟩
      | false =>
        have HV := Lib.hid (show res = false by rw [← HRes.out, if_neg (by simp at k5; omega), show (k2 == 6) = false from by simp at k6 ⊢; omega]; rfl)
        clear HRes
        go_enter Tryd.func30, Tryd.ntmps30
        go_wp2_with fail
        go_quiet (fail)
        go_wp2
        go_ret
        exact ⟨by rw [HV.out]; rfl, below_drewN HBX.out _⟩
set_option maxHeartbeats 1000000 in
set_option maxRecDepth 100000 in
theorem wide_any (a1 z1 c1 k1 f1 : Int) (p1 : Bool) (a2 z2 c2 f2 : Int) (k2 : Nat) (p2 : Bool) (n : Int) (w : World) (h2 : k2 ≤ 13) :
    Calls Tryd.prog 31 #[.agg #[.int .i64 a1, .int .i64 z1, .int .i64 c1, .int .i64 k1, .int .i64 f1, .bool p1], .agg #[.int .i64 a2, .int .i64 z2, .int .i64 c2, .int .i64 k2, .int .i64 f2, .bool p2], .int .i64 n] w fun e w' =>
      e = .returned (.int .i64 (if alone k2 = true then 0 else if c2 = 65039 ∧ pictT c1 = true then 2 else n)) ∧ Below w.heap.size w w' := by
  have HP := Lib.hid (fun W => gPict_any c1 W)
  obtain ⟨res, hres⟩ : ∃ res : Int, (if alone k2 = true then 0 else if c2 = 65039 ∧ pictT c1 = true then 2 else n) = res := ⟨_, rfl⟩
  rw [hres]
  have HRes := Lib.hid hres
  have hbit := bits_alone h2
  generalize alone k2 = r at *
  clear hres
  generalize pictT c1 = q at *
  have hbx : Below w.heap.size w ((w.alloc (.cells #[.int .i64 a1, .int .i64 z1, .int .i64 c1, .int .i64 k1, .int .i64 f1, .bool p1] 63)).alloc (.cells #[.int .i64 a2, .int .i64 z2, .int .i64 c2, .int .i64 k2, .int .i64 f2, .bool p2] 63)) := ((Below.refl _ _).alloc (Nat.le_refl _) _).alloc (by simp) _
  have HBX := Lib.hid hbx
  clear hbx
  cases r with
  | true =>
    have HV := Lib.hid (show res = 0 by rw [← HRes.out, if_pos rfl])
    clear HRes
    go_enter Tryd.func31, Tryd.ntmps31
    go_wp2
    go_ret
    exact ⟨by rw [HV.out]; rfl, HBX.out⟩
  | false =>
    cases hc : (c2 == 65039) with
    | true =>
      cases q with
      | true =>
        have HV := Lib.hid (show res = 2 by rw [← HRes.out, if_neg (by decide), if_pos ⟨by simpa using hc, rfl⟩])
        clear HRes
        go_enter Tryd.func31, Tryd.ntmps31
        go_wp2_with fail
        refine (HP.out _).mono ?_
        rintro e w4 ⟨rfl, hb4⟩
        go_wp2
        go_ret
        exact ⟨by rw [HV.out]; rfl, HBX.out.trans (hb4.mono HBX.out.size)⟩
      | false =>
        have HV := Lib.hid (show res = n by rw [← HRes.out, if_neg (by decide), if_neg (by rintro ⟨_, h⟩; cases h)])
        clear HRes
        go_enter Tryd.func31, Tryd.ntmps31
        go_wp2_with fail
        refine (HP.out _).mono ?_
        rintro e w4 ⟨rfl, hb4⟩
        go_wp2
        go_ret
        exact ⟨by rw [HV.out]; rfl, HBX.out.trans (hb4.mono HBX.out.size)⟩
    | false =>
      have HV := Lib.hid (show res = n by rw [← HRes.out, if_neg (by decide), if_neg (by rintro ⟨h, _⟩; rw [h] at hc; cases hc)])
      clear HRes
      go_enter Tryd.func31, Tryd.ntmps31
      go_wp2
      go_ret
      exact ⟨by rw [HV.out]; rfl, HBX.out⟩
end Go.Proofs.YtlocnjenkanmpaaDoor.Ku

/-
  Proved here: what cols.narrowest and cols.widest return: the arrays of their spans' ends; they leave what was in memory. No condition.
-/
set_option linter.unusedVariables false
namespace Go.Proofs.YtlocnjenkanmpaaDoor.Co
open Go.RowKit Go.Lib Go.Proofs.YtlocnjenkanmpaaDoor.Arr
def iC (zs : List Int) : Array Value := (zs.map (Value.int .i64)).toArray
theorem infoN : (Tryd.prog.info? 80).map (fun i => (i.zero, i.size)) = some (some (.agg (List.replicate 90 (.int .i64 0)).toArray), 90) := by kernel_rfl
theorem infoW : (Tryd.prog.info? 82).map (fun i => (i.zero, i.size)) = some (some (.agg (List.replicate 184 (.int .i64 0)).toArray), 184) := by kernel_rfl
theorem iC_one (zs : List Int) : (iC zs).all (·.oneCell') = true := ints_allOne zs
theorem n_size : (iC narrowE).size = 90 := by kernel_rfl
theorem w_size : (iC wideE).size = 184 := by kernel_rfl
set_option maxHeartbeats 4000000 in
set_option maxRecDepth 1000000 in
theorem narrow_any (w : World) :
    Calls Tryd.prog 42 #[] w fun e w' => e = .returned (.agg (iC narrowE)) ∧ Below w.heap.size w w' := by
  obtain ⟨hz, hi⟩ := zero_of_info infoN
  rw [← n_size] at hi
  go_enter Tryd.func42, Tryd.ntmps42
  refine wp_seq (wp_region_lit (l := [_]) (wpList_allocVar rfl _ rfl (some 0) rfl _ hz ?_))
  show Exit.then _ _ _ _ _
  refine wp_seq ?_
  refine wp_stored 1 ⟨#[.pointer (some ⟨w.heap.size, 0, none⟩), .agg (iC narrowE)], []⟩ (by kernel_rfl) (.tmp 0) (.tmp 1) 80 (by kernel_rfl) _ (iC narrowE) (by kernel_rfl) (by kernel_rfl) hi (by kernel_rfl) (iC_one _) ?_
  refine wp_ret ?_
  exact bodyPost_ret (results_cell_row Tryd.results42 _ _ w.heap.size 80 _ (0, 0) _ (by kernel_rfl) (heap_alloc_last w _) Tryd.underlying80 rfl hi) (by kernel_rfl) ⟨rfl, (Below.refl _ _).alloc (Nat.le_refl _) _⟩
set_option maxHeartbeats 4000000 in
set_option maxRecDepth 1000000 in
theorem wide_any (w : World) :
    Calls Tryd.prog 43 #[] w fun e w' => e = .returned (.agg (iC wideE)) ∧ Below w.heap.size w w' := by
  obtain ⟨hz, hi⟩ := zero_of_info infoW
  rw [← w_size] at hi
  go_enter Tryd.func43, Tryd.ntmps43
  refine wp_seq (wp_region_lit (l := [_]) (wpList_allocVar rfl _ rfl (some 0) rfl _ hz ?_))
  show Exit.then _ _ _ _ _
  refine wp_seq ?_
  refine wp_stored 1 ⟨#[.pointer (some ⟨w.heap.size, 0, none⟩), .agg (iC wideE)], []⟩ (by kernel_rfl) (.tmp 0) (.tmp 1) 82 (by kernel_rfl) _ (iC wideE) (by kernel_rfl) (by kernel_rfl) hi (by kernel_rfl) (iC_one _) ?_
  refine wp_ret ?_
  exact bodyPost_ret (results_cell_row Tryd.results43 _ _ w.heap.size 82 _ (0, 0) _ (by kernel_rfl) (heap_alloc_last w _) Tryd.underlying82 rfl hi) (by kernel_rfl) ⟨rfl, (Below.refl _ _).alloc (Nat.le_refl _) _⟩
end Go.Proofs.YtlocnjenkanmpaaDoor.Co

/-
  Proved here: what the closure of cols.within, the search by halves at rows that rise, cols.within and cols.slotsBy return, for every number; they leave what was in memory. Condition: rows that rise, of 1000 numbers at most.
-/
set_option linter.unusedVariables false
namespace Go.Proofs.YtlocnjenkanmpaaDoor.Co
open Go.RowKit Go.Lib Go.Proofs.YtlocnjenkanmpaaDoor.Tab Go.Proofs.YtlocnjenkanmpaaDoor.Arr
/-- What the closure reads: a variable that holds the slice, one that holds the number, the slice's row. -/
def Boxed (w : World) (g1 g2 b : Nat) (E : List Int) (c : Int) : Prop :=
  LitAt w b E ∧ g1 < w.heap.size ∧ g2 < w.heap.size ∧ w.cell? ⟨g1, 0, none⟩ = some (.slice (some ⟨b, 0, none⟩) E.length E.length) ∧ w.cell? ⟨g2, 0, none⟩ = some (.int .i64 c)
theorem Boxed.below {w w' : World} {g1 g2 b : Nat} {E : List Int} {c : Int} (h : Boxed w g1 g2 b E c) (hb : Below w.heap.size w w') : Boxed w' g1 g2 b E c :=
  ⟨h.1.below hb, Nat.lt_of_lt_of_le h.2.1 hb.size, Nat.lt_of_lt_of_le h.2.2.1 hb.size, (hb.cell (p := ⟨g1, 0, none⟩) h.2.1).trans h.2.2.2.1, (hb.cell (p := ⟨g2, 0, none⟩) h.2.2.1).trans h.2.2.2.2⟩
set_option maxHeartbeats 1000000 in
set_option maxRecDepth 100000 in
theorem closure_any (E : List Int) (c : Int) (g1 g2 b k : Nat) (w : World) (hB : Boxed w g1 g2 b E c) (hk : k < E.length) :
    Calls Tryd.prog 86 #[.int .i64 k, .pointer (some ⟨g1, 0, none⟩), .pointer (some ⟨g2, 0, none⟩)] w fun e w' => e = .returned (.bool (decide (c < E[k]))) ∧ Below w.heap.size w w' := by
  obtain ⟨⟨hlt, hE⟩, h1, h2, c1, c2⟩ := hB
  have c0 := hE k hk
  clear hE
  generalize E[k] = y at *
  generalize E.length = n at *
  go_enter Tryd.func86, Tryd.ntmps86
  go_wp2
  go_quiet (fail)
  go_wp2
  go_ret
  exact ⟨rfl, below_drewN (Below.refl _ _) _⟩
set_option maxHeartbeats 1000000 in
set_option maxRecDepth 100000 in
theorem search_any (E : List Int) (c : Int) (g1 g2 b : Nat) (w : World) (hB : Boxed w g1 g2 b E c) (hl : E.length ≤ 1000) (hr : risesI E = true) :
    Calls Tryd.prog 85 #[.int .i64 E.length, .func (.func 86) #[] #[.pointer (some ⟨g1, 0, none⟩), .pointer (some ⟨g2, 0, none⟩)]] w fun e w' => e = .returned (.int .i64 (ahead E c : Nat)) ∧ Below w.heap.size w w' := by
  have HR := Lib.hid hr
  have HX := Lib.hid hB
  clear hr hB
  go_enter Tryd.func85, Tryd.ntmps85
  go_wp2
  go_loopw [5, 6] (fun s5 s6 wx => ∃ i j : Nat, i ≤ j ∧ j ≤ E.length ∧ s5 = .int .i64 i ∧ s6 = .int .i64 j ∧ Below w.heap.size w wx ∧ (∀ k (hk : k < E.length), k < i → E[k] ≤ c) ∧ (∀ k (hk : k < E.length), j ≤ k → c < E[k])) (fun s5 s6 _ => (RowKit.intOf s6).toNat - (RowKit.intOf s5).toNat)
  case atStart => exact ⟨0, E.length, Nat.zero_le _, Nat.le_refl _, rfl, rfl, Below.refl _ _, fun k hk h => by omega, fun k hk h => by omega⟩
  case round =>
    obtain ⟨i, j, hij, hj, rfl, rfl, hb, hlo, hhi⟩ := hrel
    have HLO := Lib.hid hlo
    have HHI := Lib.hid hhi
    have HB := Lib.hid hb
    clear hlo hhi hb
    by_cases hlt : i < j
    · have hh : (i + j) / 2 < E.length := by omega
      have CL := Lib.hid (fun W hW => closure_any E c g1 g2 b ((i + j) / 2) W hW hh)
      by_cases hc : c < E[(i + j) / 2]
      · have hd : decide (c < E[(i + j) / 2]) = true := decide_eq_true hc
        rw [hd] at CL
        have hc' := Lib.hid hc
        clear hc hd
        go_wp2_with fail
        refine (CL.out _ (HX.out.below HB.out)).mono ?_
        rintro e w' ⟨rfl, hb2⟩
        go_wp2
        go_roundw
        case rel =>
          refine ⟨i, (i + j) / 2, by omega, by omega, rfl, by go_num, HB.out.trans (hb2.mono HB.out.size), HLO.out, fun k hk hki => ?_⟩
          have := risesI_le HR.out _ k hh hk hki
          have := hc'.out
          omega
        case measure => simp [RowKit.intOf]; omega
      · have hd : decide (c < E[(i + j) / 2]) = false := decide_eq_false hc
        rw [hd] at CL
        have hc' := Lib.hid hc
        clear hc hd
        go_wp2_with fail
        refine (CL.out _ (HX.out.below HB.out)).mono ?_
        rintro e w' ⟨rfl, hb2⟩
        go_wp2
        go_roundw
        case rel =>
          refine ⟨(i + j) / 2 + 1, j, by omega, hj, by go_num, rfl, HB.out.trans (hb2.mono HB.out.size), fun k hk hki => ?_, HHI.out⟩
          have := risesI_le HR.out k _ hk hh (by omega)
          have := hc'.out
          omega
        case measure => simp [RowKit.intOf]; omega
    · obtain rfl : i = j := by omega
      have HC := Lib.hid (ahead_is E c i hj HLO.out (fun h => HHI.out i h (Nat.le_refl _)))
      go_wp2
      go_ret
      exact ⟨by rw [HC.out]; rfl, HB.out⟩
set_option maxHeartbeats 1000000 in
set_option maxRecDepth 100000 in
theorem within_any (S : List CSpan) (E : List Int) (hE : E = endsL S) (c : Int) (b : Nat) (w : World) (hL : LitAt w b E) (hl : E.length ≤ 1000) (hr : risesI E = true) :
    Calls Tryd.prog 61 #[.slice (some ⟨b, 0, none⟩) E.length E.length, .int .i64 c] w fun e w' => e = .returned (.bool (inS S c)) ∧ Below w.heap.size w w' := by
  have ho : (ahead E c % 2 == 1) = inS S c := by subst hE; exact odd_in S c hr
  have HO := Lib.hid ho
  have SE := Lib.hid (fun g1 g2 W hW => search_any E c g1 g2 b W hW hl hr)
  have hle := ahead_le E c
  have HL := Lib.hid hL
  rw [← HO.out]
  clear ho HO hE hr hL
  generalize ahead E c = a at *
  have HA := Lib.hid (show ((a : Int) % 2 == 1) = (a % 2 == 1) from by rw [Bool.eq_iff_iff]; simp only [beq_iff_eq]; omega)
  go_enter Tryd.func61, Tryd.ntmps61
  go_wp2_with fail
  have hb2 : Below w.heap.size w ((w.alloc (.cells #[.slice (some ⟨b, 0, none⟩) E.length E.length] 23)).alloc (.cells #[.int .i64 c] 3)) := ((Below.refl _ _).alloc (Nat.le_refl _) _).alloc (by simp) _
  have HB2 := Lib.hid hb2
  have HX := Lib.hid (show Boxed ((w.alloc (.cells #[.slice (some ⟨b, 0, none⟩) E.length E.length] 23)).alloc (.cells #[.int .i64 c] 3)) w.heap.size (w.heap.size + 1) b E c from
    ⟨HL.out.below hb2, by simp; omega, by simp, by simp, by simp⟩)
  clear hb2
  refine (SE.out _ _ _ HX.out).mono ?_
  rintro e w3 ⟨rfl, hb3⟩
  go_wp2
  go_ret
  exact ⟨by rw [← HA.out]; rfl, HB2.out.trans (hb3.mono HB2.out.size)⟩
set_option maxHeartbeats 1000000 in
set_option maxRecDepth 100000 in
theorem slotsBy_any (c : Int) (b1 b2 : Nat) (w : World) (h1 : LitAt w b1 narrowE) (h2 : LitAt w b2 wideE) :
    Calls Tryd.prog 44 #[.slice (some ⟨b1, 0, none⟩) 90 90, .slice (some ⟨b2, 0, none⟩) 184 184, .int .i64 c] w fun e w' => e = .returned (.int .i64 (slotsT c)) ∧ Below w.heap.size w w' := by
  have CN := fun W (h : LitAt W b1 narrowE) => within_any narrowS narrowE rfl c b1 W h (by rw [narrowE_len]; decide) narrowE_rises
  have CW := fun W (h : LitAt W b2 wideE) => within_any wideS wideE rfl c b2 W h (by rw [wideE_len]; decide) wideE_rises
  rw [narrowE_len] at CN
  rw [wideE_len] at CW
  have HN := Lib.hid CN
  have HW := Lib.hid CW
  have H1 := Lib.hid h1
  have H2 := Lib.hid h2
  clear CN CW h1 h2
  unfold slotsT
  generalize inS narrowS c = p at *
  generalize inS wideS c = q at *
  cases p
  · cases q
    all_goals
      go_enter Tryd.func44, Tryd.ntmps44
      go_wp2_with fail
      refine (HN.out _ H1.out).mono ?_
      rintro e w1 ⟨rfl, hb1⟩
      go_wp2_with fail
      refine (HW.out _ (H2.out.below hb1)).mono ?_
      rintro e w2 ⟨rfl, hb2⟩
      go_wp2
      go_ret
      exact ⟨rfl, hb1.trans (hb2.mono hb1.size)⟩
  · go_enter Tryd.func44, Tryd.ntmps44
    go_wp2_with fail
    refine (HN.out _ H1.out).mono ?_
    rintro e w1 ⟨rfl, hb1⟩
    go_wp2
    go_ret
    exact ⟨rfl, hb1⟩
end Go.Proofs.YtlocnjenkanmpaaDoor.Co

/-
  Two arrays laid one behind the other, as their readers find them; no program's function here.
-/
set_option linter.unusedVariables false
namespace Go.Proofs.YtlocnjenkanmpaaDoor.Co
open Go.RowKit Go.Lib Go.Proofs.YtlocnjenkanmpaaDoor.Tab Go.Proofs.YtlocnjenkanmpaaDoor.Arr
/-- Two arrays, laid one behind the other, as their readers find them. -/
def Laid2 (w w' : World) (b : Nat) : Prop := LitAt w' b narrowE ∧ LitAt w' (b + 1) wideE ∧ Below w.heap.size w w' ∧ w.heap.size ≤ b
theorem laid2 {w w1 : World} (hb : Below w.heap.size w w1) : Laid2 w ((w1.alloc (.cells (iC narrowE) 80)).alloc (.cells (iC wideE) 82)) w1.heap.size := by
  have h1 : LitAt (w1.alloc (.cells (iC narrowE) 80)) w1.heap.size narrowE := litAt_made narrowE _ w1
  have h2 := litAt_made wideE 82 (w1.alloc (.cells (iC narrowE) 80))
  have hs : (w1.alloc (.cells (iC narrowE) 80)).heap.size = w1.heap.size + 1 := by simp
  rw [hs] at h2
  exact ⟨h1.below ((Below.refl _ _).alloc (Nat.le_refl _) _), h2, (hb.alloc hb.size _).alloc (by have := hb.size; simp; omega) _, hb.size⟩
end Go.Proofs.YtlocnjenkanmpaaDoor.Co

/-
  Proved here: what cluster.codes returns, for every row of runes of at most 2^40: a new row of their numbers; it leaves what was in memory.
-/
set_option linter.unusedVariables false
namespace Go.Proofs.YtlocnjenkanmpaaDoor.Ku
open Go.RowKit Go.Lib
/-- The row that codes fills: the first ones told, the others zero. -/
def fillZ (zs : List Int) (k : Nat) : List Value := (zs.take k).map (Value.int .i64) ++ List.replicate (zs.length - k) (.int .i64 0)
theorem fillZ_next (zs : List Int) (k : Nat) (hk : k < zs.length) : (fillZ zs k).set k (.int .i64 zs[k]) = fillZ zs (k + 1) := by
  unfold fillZ
  have h1 : ((zs.take k).map (Value.int .i64)).length = k := by simp; omega
  rw [List.set_append_right _ _ (by omega), h1, Nat.sub_self, show zs.length - k = (zs.length - (k + 1)) + 1 from by omega, List.replicate_succ, List.set_cons_zero, List.take_succ_eq_append_getElem hk, List.map_append, List.append_assoc]
  rfl
theorem fillZ_at (zs : List Int) (k : Nat) (hk : k < zs.length) : (fillZ zs k)[k]? = some (.int .i64 0) := by
  unfold fillZ
  have h1 : ((zs.take k).map (Value.int .i64)).length = k := by simp; omega
  rw [List.getElem?_append_right (by omega), h1, Nat.sub_self, show zs.length - k = (zs.length - (k + 1)) + 1 from by omega, List.replicate_succ]
  rfl
theorem fillZ_all (zs : List Int) : fillZ zs zs.length = zs.map (Value.int .i64) := by
  unfold fillZ
  rw [List.take_length, Nat.sub_self]
  simp
theorem fillZ_none (zs : List Int) : fillZ zs 0 = List.replicate zs.length (.int .i64 0) := by
  unfold fillZ
  simp
theorem fillZ_step (l : List R3) (k : Nat) (hk : k < l.length) : (fillZ (codes l) k).set k (.int .i64 l[k].2.2) = fillZ (codes l) (k + 1) := by
  have h := fillZ_next (codes l) k (by rw [codes_len]; exact hk)
  rw [← h]
  simp [codes]
set_option maxHeartbeats 1000000 in
set_option maxRecDepth 100000 in
theorem codes_any (A : Option Addr) (l : List R3) (c : Nat) (w : World) (hR : RuAt w A l) (hn : l.length ≤ 1099511627776) :
    Calls Tryd.prog 27 #[.slice A l.length c] w fun e w' => ∃ g, e = .returned (.slice (some ⟨g, 0, none⟩) l.length l.length) ∧ w'.ownsRow w.heap.size 3 1 (.slice (some ⟨g, 0, none⟩) l.length l.length) l.length ((codes l).map (Value.int .i64)) ∧ Below w.heap.size w w' := by
  obtain ⟨i0, hi, hz0, hzs, hzb⟩ := Cl.info_parts Cl.infoInt
  have HR := Lib.hid hR
  have HI := Lib.hid hi
  have HQ0 := Lib.hid hz0
  have HQ1 := Lib.hid hzs
  have HQ2 := Lib.hid hzb
  have HX := Lib.hid (fun k (hk : k < l.length) => fillZ_step l k hk)
  have HAT := Lib.hid (fun k (hk : k < l.length) => fillZ_at (codes l) k (by rw [codes_len]; exact hk))
  have hcl := codes_len l
  have HALL := Lib.hid (show fillZ (codes l) l.length = (codes l).map (Value.int .i64) by rw [← hcl]; exact fillZ_all _)
  have HNONE := Lib.hid (show fillZ (codes l) 0 = List.replicate l.length (.int .i64 0) by rw [← hcl]; exact fillZ_none _)
  clear hR hi hz0 hzs hzb hcl
  go_enter Tryd.func27, Tryd.ntmps27
  go_wp2_with (refine wpList_make_full _ rfl _ _ 23 rfl w.heap.size 3 i0 (.int .i64 0) 1 Tryd.underlying23 HI.out HQ0.out HQ1.out .i64 .i64 _ _ l.length rfl rfl rfl rfl ?c1 ?c2 ?c3 ?_)
  case c1 => rw [HQ2.out]; omega
  case c2 => unfold maxLen; omega
  case c3 => exact Nat.le_refl _
  intro w4 hown hgrow
  have hown1 : w4.ownsRow w.heap.size 3 1 (.slice (some ⟨w.heap.size, 0, none⟩) l.length l.length) l.length (fillZ (codes l) 0) := by
    have h := hown
    rw [toList_madeCells_one] at h
    rw [HNONE.out]
    exact h
  have hb4 : Below w.heap.size w w4 := (Below.refl _ _).grown hgrow (Nat.le_refl _) (fun k h => by cases h)
  have hg4 : w.heap.size < w4.heap.size := (hown1.lt _ rfl).2
  have HO := Lib.hid hown1
  have HB4 := Lib.hid hb4
  clear hown hgrow hown1 hb4 HI HQ0 HQ1 HQ2
  generalize hg : w.heap.size = g at *
  have HG0 := Lib.hid hg
  clear hg
  go_wp2_with fail
  go_loopw [11] (fun s11 wx => ∃ k : Nat, k ≤ l.length ∧ s11 = .int .i64 k ∧ Below g w wx ∧ g < wx.heap.size ∧ wx.ownsRow g 3 1 (.slice (some ⟨g, 0, none⟩) l.length l.length) l.length (fillZ (codes l) k)) (fun s11 _ => l.length - (RowKit.intOf s11).toNat)
  case atStart => exact ⟨0, Nat.zero_le _, rfl, HB4.out, hg4, HO.out⟩
  case round =>
    obtain ⟨k, hk, rfl, hb, hgx, hown⟩ := hrel
    have HB := Lib.hid hb
    have HW := Lib.hid hown
    clear hb hown HO HB4
    by_cases hlt : k < l.length
    · have hb' : Below w.heap.size w wr := by rw [HG0.out]; exact HB.out
      obtain ⟨a, off, rfl, hal, q0, q1, q2⟩ := (HR.out.below hb').at_ hlt
      have hX := HX.out k hlt
      have hat := HAT.out k hlt
      have HX' := Lib.hid hX
      clear hX hb'
      generalize l[k] = r at *
      obtain ⟨ra, rz, rc⟩ := r
      simp only at q0 q1 q2 HX'
      have hcell := (HW.out.cellAt k (by omega)).trans hat
      have hfrz := HW.out.frozenAt k
      clear hat
      go_wp2
      go_roundw
      case rel =>
        refine ⟨k + 1, by omega, by go_num, (HB.out.setCell (by simp) _).alloc (by simp; omega) _, by simp; omega, ?_⟩
        rw [← HX'.out]
        exact (HW.out.stored k _).1.alloc _
      case measure => simp [RowKit.intOf]; omega
    · obtain rfl : k = l.length := by omega
      go_wp2
      go_ret
      have h0 := HW.out
      rw [HALL.out] at h0
      exact ⟨g, rfl, by rw [HG0.out]; exact h0, by rw [HG0.out]; exact HB.out⟩
end Go.Proofs.YtlocnjenkanmpaaDoor.Ku

/-
  Proved here: what cols.All returns, for every row of numbers of at most 2^40: a new row of how many slots each takes. It leaves what was in memory.
-/
set_option linter.unusedVariables false
namespace Go.Proofs.YtlocnjenkanmpaaDoor.Co
open Go.RowKit Go.Lib Go.Proofs.YtlocnjenkanmpaaDoor.Tab Go.Proofs.YtlocnjenkanmpaaDoor.Arr
open Go.Proofs.YtlocnjenkanmpaaDoor.Cl (IntsAt)
/-- The row that All fills: the first ones told, the others zero. -/
def fillC (zs : List Int) (k : Nat) : List Value := ((zs.take k).map slotsT).map (Value.int .i64) ++ List.replicate (zs.length - k) (.int .i64 0)
def slotsC (zs : List Int) : List Value := (zs.map slotsT).map (Value.int .i64)
theorem fillC_next (zs : List Int) (k : Nat) (hk : k < zs.length) : (fillC zs k).set k (.int .i64 (slotsT zs[k])) = fillC zs (k + 1) := by
  unfold fillC
  have h1 : (((zs.take k).map slotsT).map (Value.int .i64)).length = k := by simp; omega
  rw [List.set_append_right _ _ (by omega), h1, Nat.sub_self, show zs.length - k = (zs.length - (k + 1)) + 1 from by omega, List.replicate_succ, List.set_cons_zero, List.take_succ_eq_append_getElem hk, List.map_append, List.map_append, List.append_assoc]
  rfl
theorem fillC_at (zs : List Int) (k : Nat) (hk : k < zs.length) : (fillC zs k)[k]? = some (.int .i64 0) := by
  unfold fillC
  have h1 : (((zs.take k).map slotsT).map (Value.int .i64)).length = k := by simp; omega
  rw [List.getElem?_append_right (by omega), h1, Nat.sub_self, show zs.length - k = (zs.length - (k + 1)) + 1 from by omega, List.replicate_succ]
  rfl
theorem fillC_all (zs : List Int) : fillC zs zs.length = slotsC zs := by
  unfold fillC slotsC
  rw [List.take_length, Nat.sub_self]
  simp
theorem fillC_none (zs : List Int) : fillC zs 0 = List.replicate zs.length (.int .i64 0) := by
  unfold fillC
  simp
set_option maxHeartbeats 1000000 in
set_option maxRecDepth 100000 in
theorem all_any (A : Option Addr) (zs : List Int) (c : Nat) (w : World) (hR : IntsAt w A zs) (hn : zs.length ≤ 1099511627776) :
    Calls Tryd.prog 26 #[.slice A zs.length c] w fun e w' => ∃ g, e = .returned (.slice (some ⟨g, 0, none⟩) zs.length zs.length) ∧ w'.ownsRow w.heap.size 3 1 (.slice (some ⟨g, 0, none⟩) zs.length zs.length) zs.length (slotsC zs) ∧ Below w.heap.size w w' := by
  obtain ⟨i0, hi, hz0, hzs, hzb⟩ := Cl.info_parts Cl.infoInt
  have HC := Lib.hid (fun W => narrow_any W)
  have HD := Lib.hid (fun W => wide_any W)
  have HS := Lib.hid (fun c b1 b2 W (h1 : LitAt W b1 narrowE) (h2 : LitAt W b2 wideE) => slotsBy_any c b1 b2 W h1 h2)
  have HL := Lib.hid (fun w1 (h : Below w.heap.size w w1) => laid2 h)
  obtain ⟨hz1, hi1⟩ := zero_of_info infoN
  obtain ⟨hz2, hi2⟩ := zero_of_info infoW
  have HZ1 := Lib.hid hz1
  have HZ2 := Lib.hid hz2
  rw [← n_size] at hi1
  rw [← w_size] at hi2
  have HI := Lib.hid hi
  have HI1 := Lib.hid hi1
  have HI2 := Lib.hid hi2
  have HN1 := Lib.hid n_size
  have HN2 := Lib.hid w_size
  have HO1 := Lib.hid (iC_one narrowE)
  have HO2 := Lib.hid (iC_one wideE)
  have HR := Lib.hid hR
  have HQ0 := Lib.hid hz0
  have HQ1 := Lib.hid hzs
  have HQ2 := Lib.hid hzb
  clear hz1 hz2 hi1 hi2 hR hi hz0 hzs hzb
  generalize iC narrowE = cs at *
  generalize iC wideE = ds at *
  go_enter Tryd.func26, Tryd.ntmps26
  go_wp2_with fail
  refine (HC.out _).mono ?_
  rintro e w1 ⟨rfl, hb1⟩
  go_wp2_with fail
  rename_i Q0 K1 hK1 K2 hK2
  refine (HD.out _).mono ?_
  rintro e w2 ⟨rfl, hb2⟩
  have hb12 := hb1.trans (hb2.mono hb1.size)
  have HB := Lib.hid (HL.out _ hb12)
  refine hK2 _ _ ?_
  refine wpList_two 80 82 3 4 (.tmp 8) (.tmp 9) cs ds _ _ rfl HZ1.out HZ2.out _ rfl rfl rfl rfl rfl HI1.out HI2.out (by rw [HN1.out]; rfl) (by rw [HN2.out]; rfl) HO1.out HO2.out ?_
  refine wpList_nil (hK1 _ _ ?_)
  clear hb1 hb2 hb12 HI1 HI2 HO1 HO2 HZ1 HZ2 HN1 HN2 HC HD HL
  generalize (w2.alloc (.cells cs 80)).alloc (.cells ds 82) = w3 at *
  generalize w2.heap.size = b at *
  obtain ⟨H1, H2, H3, -⟩ := HB.out
  have HR3 := Lib.hid (HR.out.below H3)
  have G := Lib.hid (fun W (h : Below w3.heap.size w3 W) V (e : V.heap = W.heap) c => HS.out c b (b + 1) V (litAt_heap (H1.below h) e) (litAt_heap (H2.below h) e))
  have G3 := Lib.hid H3
  have hs3 := H3.size
  clear H1 H2 H3 HB HS HR
  go_wp2_with (refine wpList_make_full _ rfl _ _ 23 rfl w3.heap.size 3 i0 (.int .i64 0) 1 Tryd.underlying23 HI.out HQ0.out HQ1.out .i64 .i64 _ _ zs.length rfl rfl rfl rfl ?c1 ?c2 ?c3 ?_)
  case c1 => rw [HQ2.out]; omega
  case c2 => unfold maxLen; omega
  case c3 => exact Nat.le_refl _
  intro w4 hown hgrow
  have hown1 : w4.ownsRow w3.heap.size 3 1 (.slice (some ⟨w3.heap.size, 0, none⟩) zs.length zs.length) zs.length (fillC zs 0) := by
    have h := hown
    rw [toList_madeCells_one] at h
    rw [fillC_none]
    exact h
  have hb4 : Below w3.heap.size w3 w4 := (Below.refl _ _).grown hgrow (Nat.le_refl _) (fun k h => by cases h)
  have hg4 : w3.heap.size < w4.heap.size := (hown1.lt _ rfl).2
  have HO := Lib.hid hown1
  have HB4 := Lib.hid hb4
  clear hown hgrow hown1 hb4 HI HQ0 HQ1 HQ2
  generalize hg : w3.heap.size = g at *
  have HG0 := Lib.hid hg
  clear hg
  go_wp2_with fail
  go_loopw [15] (fun s15 wx => ∃ k : Nat, k ≤ zs.length ∧ s15 = .int .i64 k ∧ Below g w3 wx ∧ g < wx.heap.size ∧ wx.ownsRow g 3 1 (.slice (some ⟨g, 0, none⟩) zs.length zs.length) zs.length (fillC zs k)) (fun s15 _ => zs.length - (RowKit.intOf s15).toNat)
  case atStart => exact ⟨0, Nat.zero_le _, rfl, HB4.out, hg4, HO.out⟩
  case round =>
    obtain ⟨k, hk, rfl, hb, hgx, hown⟩ := hrel
    have HB := Lib.hid hb
    have HW := Lib.hid hown
    clear hb hown HO HB4
    by_cases hlt : k < zs.length
    · have hb' : Below w3.heap.size w3 wr := by rw [HG0.out]; exact HB.out
      obtain ⟨a, off, rfl, hc⟩ := (HR3.out.below hb').at_ hlt
      have HX := Lib.hid (fillC_next zs k hlt)
      have hat := fillC_at zs k hlt
      generalize zs[k] = z at *
      have HG := Lib.hid (fun V e => G.out _ HB.out V e z)
      have HOWN := Lib.hid (fun V V' (e : V.heap = wr.heap) (h : Below V.heap.size V V') =>
        (show V'.ownsRow g 3 1 (.slice (some ⟨g, 0, none⟩) zs.length zs.length) zs.length (fillC zs k) from Cl.ownsRow_below (w := V) (by
            have h0 := HW.out
            unfold World.ownsRow at h0 ⊢
            rw [e]
            exact h0) h))
      have HCELL := Lib.hid (fun V V' (e : V.heap = wr.heap) (h : Below V.heap.size V V') =>
        (show V'.cell? ⟨g, k, none⟩ = some (.int .i64 0) ∧ V'.frozen? ⟨g, k, none⟩ = false from
          have ho := HOWN.out V V' e h
          ⟨(ho.cellAt k (by omega)).trans hat, ho.frozenAt k⟩))
      clear hb' hat
      generalize slotsT z = v at *
      go_wp2_with fail
      go_region_with (go_at_call 44; refine (HG.out _ (by rfl)).mono ?_; rintro e w5 ⟨rfl, hb5⟩; obtain ⟨hcell, hfrz⟩ := HCELL.out _ _ (by rfl) hb5)
      all_goals go_wp2
      all_goals
        go_roundw
        case rel =>
          have hb6 : Below g w3 w5 := (below_heap HB.out (by rfl) (by rfl) (by rfl) (by rfl)).trans (hb5.mono (Nat.le_of_lt hgx))
          have ho := HOWN.out _ _ (by rfl) hb5
          refine ⟨k + 1, by omega, by go_num, hb6.setCell (by simp) _, ?_, ?_⟩
          · have := hb5.size
            simp at this ⊢
            omega
          · rw [← HX.out]
            exact (ho.stored k _).1
        case measure => simp [RowKit.intOf]; omega
    · obtain rfl : k = zs.length := by omega
      have HF := Lib.hid (fillC_all zs)
      go_wp2
      go_ret
      have h0 := HW.out
      rw [HF.out] at h0
      have hsz : w.heap.size ≤ g := by rw [← HG0.out]; exact G3.out.size
      exact ⟨g, rfl, Cl.ownsRow_mono h0 hsz, G3.out.trans (HB.out.mono hsz)⟩
end Go.Proofs.YtlocnjenkanmpaaDoor.Co
