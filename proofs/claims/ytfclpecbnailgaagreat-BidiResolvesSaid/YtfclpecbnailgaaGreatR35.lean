/-
  Several texts in one, each with its own remark: PrRefA, PrRefB, PrRfFrame.
-/
import Derived.Test.YtfclpecbnailgaaGreatR12
import Derived.Test.YtfclpecbnailgaaGreatR9
import Derived.Test.YtfclpecbnailgaaGreatR4

/-
 Proved here: what parquetryref14's Letter, has, Ahead, becomes, marks return: the plain ones. They leave what was in memory.
-/
set_option linter.unusedVariables false
namespace Go.Proofs.YtfclpecbnailgaaGreat.Pb
open Go Go.RowKit Go.Lib Go.Shelf Go.Proofs.YtfclpecbnailgaaGreat.Cl Go.Proofs.YtfclpecbnailgaaGreat.Pr
set_option maxHeartbeats 1000000 in
theorem rletter_any (c : Int) (w : World) : Calls Tryz.prog 154 #[.int .i64 c] w fun e w' => e = .returned (.int .i64 (letZ c)) ∧ w' = w := by
 unfold letZ
 by_cases h0 : c = 0
 ·subst h0
  go_enter Tryz.func154, Tryz.ntmps154
  go_wp2
  go_ret
  exact ⟨rfl, rfl⟩
 ·rw [if_neg h0]
  have d0 : (c == 0) = false := by simpa using h0
  by_cases h1 : c = 1
  ·subst h1
   go_enter Tryz.func154, Tryz.ntmps154
   go_wp2
   go_ret
   exact ⟨rfl, rfl⟩
  ·have d1 : (c == 1) = false := by simpa using h1
   by_cases h3 : c = 3
   ·subst h3
    go_enter Tryz.func154, Tryz.ntmps154
    go_wp2
    go_ret
    exact ⟨rfl, rfl⟩
   ·have d3 : (c == 3) = false := by simpa using h3
    by_cases h6 : c = 6
    ·subst h6
     go_enter Tryz.func154, Tryz.ntmps154
     go_wp2
     go_ret
     exact ⟨rfl, rfl⟩
    ·have d6 : (c == 6) = false := by simpa using h6
     rw [if_neg (by omega)]
     clear h0 h1 h3 h6
     go_enter Tryz.func154, Tryz.ntmps154
     go_wp2
     go_ret
     exact ⟨rfl, rfl⟩
set_option maxHeartbeats 1000000 in
set_option maxRecDepth 100000 in
theorem rhas_any (A : Option Addr) (zs : List Int) (n c : Nat) (x : Int) (w : World) (hA : IntsAt w A zs) (hl : zs.length = n) (hn : n ≤ 1099511627776) :
  Calls Tryz.prog 117 #[.slice A n c, .int .i64 x] w fun e w' => e = .returned (.bool (hasZ zs x)) ∧ w' = w := by
 have HA := Lib.hid hA
 have HL := Lib.hid hl
 obtain ⟨b, hb⟩ : ∃ b, hasZ zs x = b := ⟨_, rfl⟩
 have HB := Lib.hid hb
 rw [hb]
 clear hA hb hl
 go_enter Tryz.func117, Tryz.ntmps117
 go_wp2_with fail
 go_loopw [5] (fun s5 wx => ∃ k : Nat, k ≤ n ∧ s5 = .int .i64 k ∧ hasZ (zs.take k) x = false ∧ wx = w) (fun s5 _ => n - (RowKit.intOf s5).toNat)
 case atStart => exact ⟨0, Nat.zero_le _, rfl, rfl, rfl⟩
 case round =>
  obtain ⟨k, hk, rfl, hno, rfl⟩ := hrel
  have HNO := Lib.hid hno
  clear hno
  by_cases hlt : k < n
  ·have hkz : k < zs.length := by rw [HL.out]; exact hlt
   obtain ⟨g, off, rfl, hc⟩ := HA.out.at_ hkz
   have hs : hasZ (zs.take (k + 1)) x = (hasZ (zs.take k) x || decide (letZ zs[k] = x)) := by rw [List.take_succ_eq_append_getElem hkz, hasZ_snoc]
   have hat := fun h => hasZ_yes (x := x) (List.getElem_mem hkz) h
   obtain ⟨r, hr⟩ : ∃ r, zs[k] = r := ⟨_, rfl⟩
   rw [hr] at hc hs hat
   rw [HNO.out, Bool.false_or] at hs
   have HS := Lib.hid hs
   have HT := Lib.hid hat
   have HLR := Lib.hid (fun (W : World) => rletter_any r W)
   have hk0 : (0 : Int) ≤ (k : Int) := by omega
   have hk1 : (k : Int) < (n : Int) := by omega
   clear hr hs hat hkz
   by_cases hx : letZ r = x
   ·have hb2 : b = true := by rw [← HB.out]; exact HT.out hx
    have hbx : (letZ r == x) = true := by simpa using hx
    subst hb2
    clear hx
    generalize letZ r = y at *
    go_wp2_with fail
    refine (HLR.out _).mono ?_
    rintro e w1 ⟨rfl, rfl⟩
    go_wp2
    go_ret
    exact ⟨rfl, rfl⟩
   ·have hbx : (letZ r == x) = false := by simpa using hx
    rw [decide_eq_false hx] at HS
    clear hx
    generalize letZ r = y at *
    go_wp2_with fail
    refine (HLR.out _).mono ?_
    rintro e w1 ⟨rfl, rfl⟩
    go_wp2
    go_roundw
    case rel => exact ⟨k + 1, by omega, by go_num, HS.out, by first | rfl | trivial⟩
    case measure => simp [RowKit.intOf]; omega
  ·have e : zs.take k = zs := List.take_of_length_le (by rw [HL.out]; omega)
   have hb2 : b = false := by rw [← HB.out, ← e]; exact HNO.out
   have hk1 : (n : Int) ≤ (k : Int) := by omega
   subst hb2
   clear e
   obtain rfl : k = n := by omega
   go_wp2_with fail
   go_ret
   exact ⟨rfl, rfl⟩
set_option maxHeartbeats 1000000 in
set_option maxRecDepth 100000 in
theorem rahead_any (A : Option Addr) (zs : List Int) (n c : Nat) (s : Int) (w : World) (hA : IntsAt w A zs) (hl : zs.length = n) (hn : n ≤ 1099511627776) :
  Calls Tryz.prog 118 #[.slice A n c, .int .i64 s] w fun e w' => e = .returned (.int .i64 (aheadZ zs s)) ∧ w' = w := by
 have HA := Lib.hid hA
 have HL := Lib.hid hl
 obtain ⟨b, hb⟩ : ∃ b, aheadZ zs s = b := ⟨_, rfl⟩
 have HB := Lib.hid hb
 rw [hb]
 clear hA hb hl
 go_enter Tryz.func118, Tryz.ntmps118
 go_wp2_with fail
 go_loopw [5, 6] (fun s5 s6 wx => ∃ k : Nat, k ≤ n ∧ s5 = .int .i64 (aheadZ (zs.take k) s) ∧ s6 = .int .i64 k ∧ wx = w) (fun _ s6 _ => n - (RowKit.intOf s6).toNat)
 case atStart => exact ⟨0, Nat.zero_le _, rfl, rfl, rfl⟩
 case round =>
  obtain ⟨k, hk, rfl, rfl, rfl⟩ := hrel
  by_cases hlt : k < n
  ·have hkz : k < zs.length := by rw [HL.out]; exact hlt
   obtain ⟨g, off, rfl, hc⟩ := HA.out.at_ hkz
   have hs : aheadZ (zs.take (k + 1)) s = if 0 ≤ letZ zs[k] then letZ zs[k] else aheadZ (zs.take k) s := by rw [List.take_succ_eq_append_getElem hkz, aheadZ_snoc]
   obtain ⟨r, hr⟩ : ∃ r, zs[k] = r := ⟨_, rfl⟩
   rw [hr] at hc hs
   have HS := Lib.hid hs
   have HLR := Lib.hid (fun (W : World) => rletter_any r W)
   have hk0 : (0 : Int) ≤ (k : Int) := by omega
   have hk1 : (k : Int) < (n : Int) := by omega
   clear hr hs hkz
   generalize aheadZ (zs.take k) s = o at *
   by_cases hx : 0 ≤ letZ r
   ·rw [if_pos hx] at HS
    have hbx : decide (0 ≤ letZ r) = true := decide_eq_true hx
    generalize letZ r = y at *
    go_wp2_with fail
    refine (HLR.out _).mono ?_
    rintro e w1 ⟨rfl, rfl⟩
    go_wp2_with fail
    refine (HLR.out _).mono ?_
    rintro e w1 ⟨rfl, rfl⟩
    go_wp2
    go_roundw
    case rel => exact ⟨k + 1, by omega, by rw [HS.out], by go_num, by first | rfl | trivial⟩
    case measure => simp [RowKit.intOf]; omega
   ·rw [if_neg hx] at HS
    have hbx : decide (0 ≤ letZ r) = false := decide_eq_false hx
    generalize letZ r = y at *
    go_wp2_with fail
    refine (HLR.out _).mono ?_
    rintro e w1 ⟨rfl, rfl⟩
    go_wp2
    go_roundw
    case rel => exact ⟨k + 1, by omega, by rw [HS.out], by go_num, by first | rfl | trivial⟩
    case measure => simp [RowKit.intOf]; omega
  ·obtain rfl : k = n := by omega
   have e : zs.take k = zs := List.take_of_length_le (by rw [HL.out]; omega)
   have HB2 := Lib.hid (show aheadZ (zs.take k) s = b from by rw [e]; exact HB.out)
   clear e
   go_wp2_with fail
   go_ret
   rw [HB2.out]
   exact ⟨rfl, rfl⟩
set_option maxHeartbeats 1000000 in
set_option maxRecDepth 100000 in
theorem rmarks_any (A : Option Addr) (own : List Int) (n c a t : Nat) (w : World) (hA : IntsAt w A own) (hl : own.length = n) (hn : n ≤ 1099511627776) (ha : a < n) (ht : t < n) :
  Calls Tryz.prog 74 #[.slice A n c, .int .i64 a, .int .i64 t] w fun e w' => e = .returned (.bool (marksZ own a t)) ∧ w' = w := by
 have HA := Lib.hid hA
 have HL := Lib.hid hl
 obtain ⟨b, hb⟩ : ∃ b, marksZ own a t = b := ⟨_, rfl⟩
 have HB := Lib.hid hb
 have e1 : IntKind.i64.wrap ((a : Int) + 1) = (a : Int) + 1 := IntWalk.i64_in _ (by omega)
 rw [hb]
 clear hA hb hl
 go_enter Tryz.func74, Tryz.ntmps74
 go_wp2_with fail
 go_loopw [7] (fun s7 wx => ∃ i : Nat, a < i ∧ (i ≤ t + 1 ∨ i = a + 1) ∧ s7 = .int .i64 i ∧ (∀ j, a < j → j < i → own[j]? = some 8) ∧ wx = w) (fun s7 _ => n + 1 - (RowKit.intOf s7).toNat)
 case atStart => exact ⟨a + 1, by omega, .inr rfl, by go_num, fun j h1 h2 => by omega, rfl⟩
 case round =>
  obtain ⟨i, hai, hit, rfl, hall, rfl⟩ := hrel
  have HALL := Lib.hid hall
  clear hall
  have e2 : IntKind.i64.wrap ((i : Int) + 1) = (i : Int) + 1 := IntWalk.i64_in _ (by omega)
  by_cases hlt : i ≤ t
  ·have hiz : i < own.length := by rw [HL.out]; omega
   obtain ⟨g, off, rfl, hc⟩ := HA.out.at_ hiz
   have HZ := Lib.hid (List.getElem?_eq_getElem hiz)
   generalize own[i] = z at *
   have hk0 : (0 : Int) ≤ (i : Int) := by omega
   have hk1 : (i : Int) < (n : Int) := by omega
   have hd : decide ((i : Int) ≤ (t : Int)) = true := decide_eq_true (by omega)
   have hdi : decide (i ≤ t) = true := decide_eq_true hlt
   clear hiz
   by_cases hz : z = 8
   ·subst hz
    go_wp2
    go_roundw
    case rel => exact ⟨i + 1, by omega, .inl (by omega), by go_num, fun j h1 h2 => by
     by_cases e : j = i
     ·rw [e]; exact HZ.out
     ·exact HALL.out j h1 (by omega), by first | rfl | trivial⟩
    case measure => simp [RowKit.intOf]; omega
   ·have hb8 : (z != 8) = true := bne_iff_ne.2 hz
    have hb2 : b = false := by rw [← HB.out]; exact marksZ_no (by rw [HL.out]; exact ht) hai hlt HZ.out hz
    subst hb2
    clear hz
    go_wp2
    go_ret
    exact ⟨rfl, rfl⟩
  ·have hd : decide ((i : Int) ≤ (t : Int)) = false := decide_eq_false (by omega)
   have hdi : decide (i ≤ t) = false := decide_eq_false hlt
   by_cases hat : a < t
   ·have hb2 : b = true := by rw [← HB.out]; exact (marksZ_iff (by rw [HL.out]; exact ht)).2 ⟨hat, fun j h1 h2 => HALL.out j h1 (by omega)⟩
    have hdt : decide ((a : Int) < (t : Int)) = true := decide_eq_true (by omega)
    have hdn : decide (a < t) = true := decide_eq_true hat
    have hdp : a < t := hat
    subst hb2
    clear hlt hit
    go_wp2
    go_ret
    exact ⟨rfl, rfl⟩
   ·have hb2 : b = false := by rw [← HB.out]; exact marksZ_short (by omega)
    have hdt : decide ((a : Int) < (t : Int)) = false := decide_eq_false (by omega)
    subst hb2
    clear hlt hit
    go_wp2
    go_ret
    exact ⟨rfl, rfl⟩
end Go.Proofs.YtfclpecbnailgaaGreat.Pb

/-
 Proved here: what parquetryref14.becomes returns (the plain becZ). It leaves what was in memory.
-/
set_option linter.unusedVariables false
namespace Go.Proofs.YtfclpecbnailgaaGreat.Pb
open Go Go.RowKit Go.Lib Go.Shelf Go.Proofs.YtfclpecbnailgaaGreat.Cl Go.Proofs.YtfclpecbnailgaaGreat.Pr
theorem ints_take {w : World} {A : Option Addr} {zs : List Int} {g off : Nat} (hA : A = some ⟨g, off, none⟩) (h : IntsAt w A zs) (m : Nat) : IntsAt w (some ⟨g, off, none⟩) (zs.take m) := by
 subst hA
 rcases h with rfl | ⟨b, o, e, hb, hc⟩
 ·exact .inl (by simp)
 ·injection e with e
  injection e with e1 e2 e3
  subst e1 e2
  refine .inr ⟨_, _, rfl, hb, fun j z hz => ?_⟩
  rw [List.getElem?_take] at hz
  split at hz
  ·exact hc j z hz
  ·cases hz
set_option maxHeartbeats 2000000 in
set_option maxRecDepth 100000 in
theorem rbecomes_any (A : Option Addr) (zs : List Int) (n c i j : Nat) (s d : Int) (w : World) (hd : d = 0 ∨ d = 1) (hA : IntsAt w A zs) (hl : zs.length = n) (hn : n ≤ 1099511627776) (hc : n ≤ c) (hij : i < j) (hj : j < n) :
  Calls Tryz.prog 73 #[.slice A n c, .agg #[.int .i64 i, .int .i64 j], .int .i64 d, .int .i64 s] w fun e w' => e = .returned (.int .i64 (becZ zs (i, j) d s)) ∧ Below w.heap.size w w' := by
 obtain ⟨g, off, rfl, -⟩ := hA.at_ (k := 0) (by omega)
 have hcut := ints_cut' rfl hA (i + 1) (j - (i + 1)) (by omega)
 rw [← List.drop_take] at hcut
 have hlen : ((zs.take j).drop (i + 1)).length = j - (i + 1) := by rw [List.length_drop, List.length_take]; omega
 have htk := ints_take rfl hA i
 have hlt : (zs.take i).length = i := by rw [List.length_take]; omega
 have hb1 := below_made w (.cells #[.int .i64 i, .int .i64 j] 95)
 have hx1 := heap_alloc_last w (.cells #[.int .i64 i, .int .i64 j] 95)
 have c0 := cell_of_row _ w.heap.size 0 _ _ _ hx1
 have c1 := cell_of_row _ w.heap.size 1 _ _ _ hx1
 have HZ := Lib.hid (show becZ zs (i, j) d s = if hasZ ((zs.take j).drop (i + 1)) d = true then d else if hasZ ((zs.take j).drop (i + 1)) (1 - d) = true then (if aheadZ (zs.take i) s = 1 - d then 1 - d else d) else -1 from rfl)
 obtain ⟨r, hr⟩ : ∃ r, becZ zs (i, j) d s = r := ⟨_, rfl⟩
 rw [hr] at HZ ⊢
 generalize (zs.take j).drop (i + 1) = ys at *
 generalize zs.take i = ts at *
 have HAS := Lib.hid (fun (x : Int) (k : Nat) => rhas_any (some ⟨g, off + (i + 1), none⟩) ys (j - (i + 1)) k x _ (hcut.below hb1) hlen (by omega))
 have HAH := Lib.hid (fun (k : Nat) => rahead_any (some ⟨g, off, none⟩) ts i k s _ (htk.below hb1) hlt (by omega))
 have HB1 := Lib.hid hb1
 have e1 : IntKind.i64.wrap ((1 : Int) - d) = 1 - d := IntWalk.i64_in _ (by rcases hd with rfl | rfl <;> decide)
 have e2 : IntKind.i64.wrap ((i : Int) + 1) = (i : Int) + 1 := IntWalk.i64_in _ (by omega)
 clear hr hA hcut hlen htk hlt hb1 hx1
 go_enter Tryz.func73, Tryz.ntmps73
 go_wp2_with fail
 refine (HAS.out _ _).mono ?_
 rintro e w2 ⟨rfl, rfl⟩
 cases h1 : hasZ ys d with
 | true =>
  have HR := Lib.hid (show r = d from by rw [HZ.out, if_pos h1])
  clear h1 HZ
  go_wp2_with fail
  go_ret
  rw [HR.out]
  exact ⟨rfl, HB1.out⟩
 | false =>
  rw [if_neg (by rw [h1]; decide)] at HZ
  clear h1
  go_wp2_with fail
  refine (HAS.out _ _).mono ?_
  rintro e w2 ⟨rfl, rfl⟩
  cases h2 : hasZ ys (1 - d) with
  | false =>
   have HR := Lib.hid (show r = -1 from by rw [HZ.out, if_neg (by rw [h2]; decide)])
   clear h2 HZ
   go_wp2_with fail
   go_ret
   rw [HR.out]
   exact ⟨rfl, HB1.out⟩
  | true =>
   rw [if_pos h2] at HZ
   clear h2
   have hic : (i : Int) ≤ (c : Int) := by omega
   go_wp2_with fail
   refine (HAH.out _).mono ?_
   rintro e w2 ⟨rfl, rfl⟩
   by_cases h3 : aheadZ ts s = 1 - d
   ·have HR := Lib.hid (show r = 1 - d from by rw [HZ.out, if_pos h3])
    have hb : (aheadZ ts s == 1 - d) = true := by simpa using h3
    clear h3 HZ
    generalize aheadZ ts s = y at *
    go_wp2_with fail
    go_ret
    rw [HR.out]
    exact ⟨rfl, HB1.out⟩
   ·have HR := Lib.hid (show r = d from by rw [HZ.out, if_neg h3])
    have hb : (aheadZ ts s == 1 - d) = false := by simpa using h3
    clear h3 HZ
    generalize aheadZ ts s = y at *
    go_wp2_with fail
    go_ret
    rw [HR.out]
    exact ⟨rfl, HB1.out⟩
end Go.Proofs.YtfclpecbnailgaaGreat.Pb

/-
 The frame of parquetryref14.Find at its label: which slots are known there; the others are a row of values.
-/
set_option linter.unusedVariables false
namespace Go.Proofs.YtfclpecbnailgaaGreat.Pb
open Go Go.RowKit
structure FitPrRf (t : Act) (cv rv vl : Value) : Prop where
 size : t.tmps.size = 113
 defers : t.defers = []
 s1 : t.tmps.getD 1 undef = cv
 s4 : t.tmps.getD 4 undef = rv
 s5 : t.tmps.getD 5 undef = vl
theorem list_range_PrRf (l : List Value) : l = (List.range l.length).map fun i => l.getD i undef := by
 apply List.ext_getElem
 ·simp
 ·intro i h1 h2
  simp [h1]
theorem FitPrRf.opened {t : Act} {cv rv vl : Value} (h : FitPrRf t cv rv vl) : ∃ g : Nat → Value, t = ⟨#[g 0, cv, g 2, g 3, rv, vl, g 6, g 7, g 8, g 9, g 10, g 11, g 12, g 13, g 14, g 15, g 16, g 17, g 18, g 19, g 20, g 21, g 22, g 23, g 24, g 25, g 26, g 27, g 28, g 29, g 30, g 31, g 32, g 33, g 34, g 35, g 36, g 37, g 38, g 39, g 40, g 41, g 42, g 43, g 44, g 45, g 46, g 47, g 48, g 49, g 50, g 51, g 52, g 53, g 54, g 55, g 56, g 57, g 58, g 59, g 60, g 61, g 62, g 63, g 64, g 65, g 66, g 67, g 68, g 69, g 70, g 71, g 72, g 73, g 74, g 75, g 76, g 77, g 78, g 79, g 80, g 81, g 82, g 83, g 84, g 85, g 86, g 87, g 88, g 89, g 90, g 91, g 92, g 93, g 94, g 95, g 96, g 97, g 98, g 99, g 100, g 101, g 102, g 103, g 104, g 105, g 106, g 107, g 108, g 109, g 110, g 111, g 112], []⟩ := by
 obtain ⟨hs, hd, h1, h4, h5⟩ := h
 obtain ⟨⟨l⟩, d⟩ := t
 simp only at hd hs
 subst hd
 have hl : l.length = 113 := hs
 have e := list_range_PrRf l
 rw [hl] at e
 have e1 : l.getD 1 undef = cv := by rw [← h1]; simp [Array.getD, List.getD, hl]
 have e4 : l.getD 4 undef = rv := by rw [← h4]; simp [Array.getD, List.getD, hl]
 have e5 : l.getD 5 undef = vl := by rw [← h5]; simp [Array.getD, List.getD, hl]
 generalize hg : (fun i => l.getD i undef) = g at e
 have c1 : g 1 = cv := by rw [← hg]; exact e1
 have c4 : g 4 = rv := by rw [← hg]; exact e4
 have c5 : g 5 = vl := by rw [← hg]; exact e5
 refine ⟨g, ?_⟩
 rw [e, ← c1, ← c4, ← c5]
 rfl
end Go.Proofs.YtfclpecbnailgaaGreat.Pb
