/-
  Several texts in one, each with its own remark: NeRef, NeGap, NeSettle.
-/
import Derived.Laws.CopyOwn
import Derived.Laws.BitsLemmas
import Derived.OwnWalk
import Derived.Deep.LoopGhost
import Derived.Test.YtfclpecbnailgaaGreatR2
import Derived.Test.YtfclpecbnailgaaGreatR3

/-
 Proved here: what parquetryref15's Direction, around, Settle, Levels return: the plain ones. They leave what was in memory.
-/
set_option linter.unusedVariables false
namespace Go.Proofs.YtfclpecbnailgaaGreat.Ne
open Go Go.RowKit Go.Lib Go.Proofs.YtfclpecbnailgaaGreat.Cl
theorem bt {w a b : World} (h : Below w.heap.size w a) (k : Below a.heap.size a b) : Below w.heap.size w b := h.trans (k.mono h.size)
set_option maxHeartbeats 1000000 in
theorem rdir_any (c : Int) (w : World) : Calls Tryz.prog 75 #[.int .i64 c] w fun e w' => e = .returned (.int .i64 (dirN c)) ∧ w' = w := by
 by_cases h0 : c = 0
 ·subst h0
  go_enter Tryz.func75, Tryz.ntmps75
  go_wp2
  go_ret
  exact ⟨rfl, rfl⟩
 ·have d0 : (c == 0) = false := beq_eq_false_iff_ne.2 h0
  by_cases h1 : c = 1
  ·subst h1
   go_enter Tryz.func75, Tryz.ntmps75
   go_wp2
   go_ret
   exact ⟨rfl, rfl⟩
  ·have d1 : (c == 1) = false := beq_eq_false_iff_ne.2 h1
   by_cases h3 : c = 3
   ·subst h3
    go_enter Tryz.func75, Tryz.ntmps75
    go_wp2
    go_ret
    exact ⟨rfl, rfl⟩
   ·have d3 : (c == 3) = false := beq_eq_false_iff_ne.2 h3
    by_cases h6 : c = 6
    ·subst h6
     go_enter Tryz.func75, Tryz.ntmps75
     go_wp2
     go_ret
     exact ⟨rfl, rfl⟩
    ·have d6 : (c == 6) = false := beq_eq_false_iff_ne.2 h6
     rw [dirN_no h0 h1 h3 h6]
     clear h0 h1 h3 h6
     go_enter Tryz.func75, Tryz.ntmps75
     go_wp2
     go_ret
     exact ⟨rfl, rfl⟩
set_option maxHeartbeats 2000000 in
set_option maxRecDepth 100000 in
theorem raround_any (A : Option Addr) (T : List Int) (n c k0 : Nat) (s b : Int) (w : World) (hA : IntsAt w A T) (hl : T.length = n) (hn : n ≤ 1099511627776) (hk0 : k0 < n) :
  Calls Tryz.prog 76 #[.slice A n c, .int .i64 k0, .int .i64 s, .int .i64 b] w fun e w' => e = .returned (.tuple #[.int .i64 (lastN s (T.take (k0 + 1))), .int .i64 (nextN b (T.drop k0))]) ∧ w' = w := by
 have HA := Lib.hid hA
 have HL := Lib.hid hl
 obtain ⟨X, hX⟩ : ∃ X, lastN s (T.take (k0 + 1)) = X := ⟨_, rfl⟩
 obtain ⟨Y, hY⟩ : ∃ Y, nextN b (T.drop k0) = Y := ⟨_, rfl⟩
 rw [hX, hY]
 have HX := Lib.hid hX
 have HY := Lib.hid hY
 clear hA hl hX hY
 go_enter Tryz.func76, Tryz.ntmps76
 go_wp2_with fail
 go_loopw [10, 12] (fun s10 s12 wx => ∃ y : Int, -1 ≤ y ∧ y ≤ k0 ∧ s12 = .int .i64 y ∧ s10 = .int .i64 s ∧ lastN s (T.take (y + 1).toNat) = X ∧ wx = w) (fun _ s12 _ => (RowKit.intOf s12 + 1).toNat)
 case atStart => exact ⟨k0, by omega, by omega, rfl, rfl, by rw [show (((k0 : Int) + 1).toNat) = k0 + 1 by omega]; exact HX.out, rfl⟩
 case round =>
  obtain ⟨y, hy1, hy2, rfl, rfl, hx, rfl⟩ := hrel
  by_cases hneg : y < 0
  ·obtain rfl : y = -1 := by omega
   have HE0 := Lib.hid (show s = X from hx)
   clear hx hneg hy1 hy2
   go_wp2_with fail
   go_loopw [11, 13] (fun s11 s13 wx => ∃ k : Nat, k0 ≤ k ∧ k ≤ n ∧ s13 = .int .i64 k ∧ s11 = .int .i64 b ∧ nextN b (T.drop k) = Y ∧ wx = wr) (fun _ s13 _ => n - (RowKit.intOf s13).toNat)
   case atStart => exact ⟨k0, Nat.le_refl _, by omega, by first | rfl | go_num, rfl, HY.out, by first | rfl | trivial⟩
   case round =>
    obtain ⟨k, hk0, hk, rfl, rfl, hy, rfl⟩ := hrel
    have HYK := Lib.hid hy
    clear hy
    by_cases hlt : k < n
    ·have hkz : k < T.length := by rw [HL.out]; exact hlt
     obtain ⟨g2, off2, e2, hc⟩ := HA.out.at_ hkz
     cases e2
     have HS := Lib.hid ((nextN_drop (b := b) hkz).symm.trans HYK.out)
     generalize T[k] = z at *
     have HD := Lib.hid (fun (W : World) => rdir_any z W)
     have hk1 : (0 : Int) ≤ (k : Int) := by omega
     have hk2 : (k : Int) < (n : Int) := by omega
     clear hkz HYK
     by_cases hx : 0 ≤ dirN z
     ·have hbx : decide (0 ≤ dirN z) = true := decide_eq_true hx
      have HE := Lib.hid (show dirN z = Y from by rw [← HS.out, if_pos hx])
      clear HS
      generalize dirN z = y at *
      go_wp2_with fail
      refine (HD.out _).mono ?_
      rintro e w1 ⟨rfl, rfl⟩
      go_wp2_with fail
      refine (HD.out _).mono ?_
      rintro e w1 ⟨rfl, rfl⟩
      go_wp2_with fail
      go_ret2
      exact ⟨by rw [HE.out, HE0.out]; rfl, rfl⟩
     ·have hbx : decide (0 ≤ dirN z) = false := decide_eq_false hx
      have HE := Lib.hid (show nextN b (T.drop (k + 1)) = Y from by rw [← HS.out, if_neg hx])
      clear HS
      generalize dirN z = y at *
      go_wp2_with fail
      refine (HD.out _).mono ?_
      rintro e w1 ⟨rfl, rfl⟩
      go_wp2
      go_roundw
      case rel => exact ⟨k + 1, by omega, by omega, by go_num, rfl, HE.out, by first | rfl | trivial⟩
      case measure => simp [RowKit.intOf]; omega
    ·obtain rfl : k = n := by omega
     have HE := Lib.hid (show b = Y from by rw [← HYK.out, nextN_done (by rw [HL.out]; exact Nat.le_refl _)])
     clear HYK
     go_wp2_with fail
     go_ret2
     exact ⟨by rw [HE.out, HE0.out]; rfl, rfl⟩
  ·obtain ⟨j, rfl⟩ : ∃ j : Nat, y = j := ⟨y.toNat, by omega⟩
   have hjz : j < T.length := by rw [HL.out]; omega
   obtain ⟨g, off, rfl, hc⟩ := HA.out.at_ hjz
   have HS := Lib.hid (show (if 0 ≤ dirN T[j] then dirN T[j] else lastN s (T.take j)) = X from by rw [← lastN_take hjz]; exact hx)
   generalize T[j] = z at *
   have HD := Lib.hid (fun (W : World) => rdir_any z W)
   have hj0 : (0 : Int) ≤ (j : Int) := by omega
   have hjn : (j : Int) < (n : Int) := by omega
   clear hjz hx hneg hy1
   by_cases hq : 0 ≤ dirN z
   ·have hbx : decide (0 ≤ dirN z) = true := decide_eq_true hq
    have HE0 := Lib.hid (show dirN z = X from by rw [← HS.out, if_pos hq])
    clear HS
    generalize dirN z = q at *
    go_wp2_with fail
    refine (HD.out _).mono ?_
    rintro e w1 ⟨rfl, rfl⟩
    go_wp2_with fail
    refine (HD.out _).mono ?_
    rintro e w1 ⟨rfl, rfl⟩
    clear hc HD hj0 hjn hbx hq
    go_wp2_with fail
    go_loopw [11, 13] (fun s11 s13 wx => ∃ k : Nat, k0 ≤ k ∧ k ≤ n ∧ s13 = .int .i64 k ∧ s11 = .int .i64 b ∧ nextN b (T.drop k) = Y ∧ wx = w1) (fun _ s13 _ => n - (RowKit.intOf s13).toNat)
    case atStart => exact ⟨k0, Nat.le_refl _, by omega, by first | rfl | go_num, rfl, HY.out, by first | rfl | trivial⟩
    case round =>
     obtain ⟨k, hk0, hk, rfl, rfl, hy, rfl⟩ := hrel
     have HYK := Lib.hid hy
     clear hy
     by_cases hlt : k < n
     ·have hkz : k < T.length := by rw [HL.out]; exact hlt
      obtain ⟨g2, off2, e2, hc⟩ := HA.out.at_ hkz
      cases e2
      have HS := Lib.hid ((nextN_drop (b := b) hkz).symm.trans HYK.out)
      generalize T[k] = z at *
      have HD := Lib.hid (fun (W : World) => rdir_any z W)
      have hk1 : (0 : Int) ≤ (k : Int) := by omega
      have hk2 : (k : Int) < (n : Int) := by omega
      clear hkz HYK
      by_cases hx : 0 ≤ dirN z
      ·have hbx : decide (0 ≤ dirN z) = true := decide_eq_true hx
       have HE := Lib.hid (show dirN z = Y from by rw [← HS.out, if_pos hx])
       clear HS
       generalize dirN z = y at *
       go_wp2_with fail
       refine (HD.out _).mono ?_
       rintro e w1 ⟨rfl, rfl⟩
       go_wp2_with fail
       refine (HD.out _).mono ?_
       rintro e w1 ⟨rfl, rfl⟩
       go_wp2_with fail
       go_ret2
       exact ⟨by rw [HE.out, HE0.out]; rfl, rfl⟩
      ·have hbx : decide (0 ≤ dirN z) = false := decide_eq_false hx
       have HE := Lib.hid (show nextN b (T.drop (k + 1)) = Y from by rw [← HS.out, if_neg hx])
       clear HS
       generalize dirN z = y at *
       go_wp2_with fail
       refine (HD.out _).mono ?_
       rintro e w1 ⟨rfl, rfl⟩
       go_wp2
       go_roundw
       case rel => exact ⟨k + 1, by omega, by omega, by go_num, rfl, HE.out, by first | rfl | trivial⟩
       case measure => simp [RowKit.intOf]; omega
     ·obtain rfl : k = n := by omega
      have HE := Lib.hid (show b = Y from by rw [← HYK.out, nextN_done (by rw [HL.out]; exact Nat.le_refl _)])
      clear HYK
      go_wp2_with fail
      go_ret2
      exact ⟨by rw [HE.out, HE0.out]; rfl, rfl⟩
   ·have hbx : decide (0 ≤ dirN z) = false := decide_eq_false hq
    have HE := Lib.hid (show lastN s (T.take j) = X from by rw [← HS.out, if_neg hq])
    clear HS
    generalize dirN z = q at *
    go_wp2_with fail
    refine (HD.out _).mono ?_
    rintro e w1 ⟨rfl, rfl⟩
    go_wp2
    go_roundw
    case rel => exact ⟨(j : Int) - 1, by omega, by omega, by go_num, rfl, by rw [show (((j : Int) - 1 + 1).toNat) = j by omega]; exact HE.out, by first | rfl | trivial⟩
    case measure => first | (simp [RowKit.intOf]; done) | (simp [RowKit.intOf]; omega)
set_option maxHeartbeats 4000000 in
set_option maxRecDepth 100000 in
theorem rsettle_any (A0 : Option Addr) (T : List Int) (n cp : Nat) (l s b : Int) (w : World) (hA : IntsAt w A0 T) (hl : T.length = n) (hn : n ≤ 1099511627776) :
  Calls Tryz.prog 35 #[.slice A0 n cp, .int .i64 l, .int .i64 s, .int .i64 b] w fun e w' => ∃ A c, e = .returned (.slice A n c) ∧ w'.ownsRow w.heap.size 3 1 (.slice A n c) n (icl (settleN l b s T)) ∧ Below w.heap.size w w' := by
 have HA := Lib.hid hA
 have HL0 := Lib.hid hl
 have HL := Lib.hid (show (settleN l b s T).length = n from by rw [settle_len, hl])
 have HAR := Lib.hid (fun (k : Nat) (V : World) (h : k < n) (hb : Below w.heap.size w V) => raround_any A0 T n cp k s b V (hA.below hb) hl hn h)
 clear hA hl
 go_enter Tryz.func35, Tryz.ntmps35
 go_wp2_with fail
 go_loopw [9, 10] (fun s9 s10 wx => ∃ k : Nat, k ≤ n ∧ s10 = .int .i64 k ∧ wx.ownsRow w.heap.size 3 1 s9 k (icl ((settleN l b s T).take k)) ∧ Below w.heap.size w wx) (fun _ s10 _ => n - (RowKit.intOf s10).toNat)
 case atStart => exact ⟨0, Nat.zero_le _, rfl, World.ownsRow_nil _ _ _ _, Below.refl _ _⟩
 case round =>
  obtain ⟨k, hk, rfl, hown, hb⟩ := hrel
  have HO := Lib.hid hown
  have HB := Lib.hid hb
  clear hown
  by_cases hlt : k < n
  ·have hkz : k < T.length := by rw [HL0.out]; exact hlt
   obtain ⟨g, off, rfl, hc⟩ := (HA.out.below hb).at_ hkz
   have HAT := Lib.hid (settle_snoc (l := l) (b := b) (a := s) hkz)
   generalize T[k] = z at *
   have HD := Lib.hid (fun (W : World) => rdir_any z W)
   have HA1 := Lib.hid (HAR.out k wr hlt hb)
   have hsz := HB.out.size
   have hk0 : (0 : Int) ≤ (k : Int) := by omega
   have hk1 : (k : Int) < (n : Int) := by omega
   clear hkz hb
   by_cases hq : 0 ≤ dirN z
   ·have hbx : decide (dirN z < 0) = false := decide_eq_false (by omega)
    rw [if_pos hq] at HAT
    clear hq HA1
    generalize dirN z = q at *
    go_wp2_with fail
    refine (HD.out _).mono ?_
    rintro e w1 ⟨rfl, rfl⟩
    go_wp2_with (at_builtin; refine wpList_add rfl _ _ rfl w.heap.size _ k ((settleN l b s T).take k) rfl (ownsRow_below HO.out (below_made _ _)) (some ⟨w1.heap.size, 0, none⟩) 1 1 [(z : Int)] rfl (made_ints [(z : Int)] _ _ _ rfl) rfl (by omega) (by simp; omega) ?_)
    intro v' w2 hown2 hb2
    have hb3 := (HB.out.trans ((below_made w1 (.cells #[.int .i64 (z)] 3)).mono hsz)).trans hb2
    have HO2 := Lib.hid (show w2.ownsRow w.heap.size 3 1 v' (k + 1) (icl ((settleN l b s T).take (k + 1))) from by rw [HAT.out]; exact hown2)
    have HB2 := Lib.hid hb3
    clear hown2 hb2 hb3
    go_wp2_with fail
    go_roundw
    case rel => exact ⟨k + 1, by omega, by go_num, HO2.out, HB2.out⟩
    case measure => simp [RowKit.intOf]; omega
   ·have hbx : decide (dirN z < 0) = true := decide_eq_true (by omega)
    rw [if_neg hq] at HAT
    clear hq
    generalize dirN z = q at *
    generalize lastN s (T.take (k + 1)) = x at *
    generalize nextN b (T.drop k) = y at *
    go_wp2_with fail
    refine (HD.out _).mono ?_
    rintro e w1 ⟨rfl, rfl⟩
    go_wp2_with fail
    refine HA1.out.mono ?_
    rintro e w1 ⟨rfl, rfl⟩
    clear HA1
    by_cases hxy : x = y
    ·subst hxy
     rw [show fillN l x x = x from if_pos rfl] at HAT
     go_wp2_with (at_builtin; refine wpList_add rfl _ _ rfl w.heap.size _ k ((settleN l b s T).take k) rfl (ownsRow_below HO.out (below_made _ _)) (some ⟨w1.heap.size, 0, none⟩) 1 1 [(x : Int)] rfl (made_ints [(x : Int)] _ _ _ rfl) rfl (by omega) (by simp; omega) ?_)
     intro v' w2 hown2 hb2
     have hb3 := (HB.out.trans ((below_made w1 (.cells #[.int .i64 (x)] 3)).mono hsz)).trans hb2
     have HO2 := Lib.hid (show w2.ownsRow w.heap.size 3 1 v' (k + 1) (icl ((settleN l b s T).take (k + 1))) from by rw [HAT.out]; exact hown2)
     have HB2 := Lib.hid hb3
     clear hown2 hb2 hb3
     go_wp2_with fail
     go_roundw
     case rel => exact ⟨k + 1, by omega, by go_num, HO2.out, HB2.out⟩
     case measure => simp [RowKit.intOf]; omega
    ·have b1 : (x != y) = true := bne_iff_ne.2 hxy
     rw [show fillN l x y = lvN l from if_neg hxy] at HAT
     clear hxy
     by_cases hm : l.tmod 2 = 0
     ·have m1 : (l.tmod 2 != 0) = false := by simpa using hm
      rw [show lvN l = 0 from if_pos hm] at HAT
      clear hm
      go_wp2_with (at_builtin; refine wpList_add rfl _ _ rfl w.heap.size _ k ((settleN l b s T).take k) rfl (ownsRow_below HO.out (below_made _ _)) (some ⟨w1.heap.size, 0, none⟩) 1 1 [(0 : Int)] rfl (made_ints [(0 : Int)] _ _ _ rfl) rfl (by omega) (by simp; omega) ?_)
      intro v' w2 hown2 hb2
      have hb3 := (HB.out.trans ((below_made w1 (.cells #[.int .i64 (0)] 3)).mono hsz)).trans hb2
      have HO2 := Lib.hid (show w2.ownsRow w.heap.size 3 1 v' (k + 1) (icl ((settleN l b s T).take (k + 1))) from by rw [HAT.out]; exact hown2)
      have HB2 := Lib.hid hb3
      clear hown2 hb2 hb3
      go_wp2_with fail
      go_roundw
      case rel => exact ⟨k + 1, by omega, by go_num, HO2.out, HB2.out⟩
      case measure => simp [RowKit.intOf]; omega
     ·have m1 : (l.tmod 2 != 0) = true := bne_iff_ne.2 hm
      rw [show lvN l = 1 from if_neg hm] at HAT
      clear hm
      go_wp2_with (at_builtin; refine wpList_add rfl _ _ rfl w.heap.size _ k ((settleN l b s T).take k) rfl (ownsRow_below HO.out (below_made _ _)) (some ⟨w1.heap.size, 0, none⟩) 1 1 [(1 : Int)] rfl (made_ints [(1 : Int)] _ _ _ rfl) rfl (by omega) (by simp; omega) ?_)
      intro v' w2 hown2 hb2
      have hb3 := (HB.out.trans ((below_made w1 (.cells #[.int .i64 (1)] 3)).mono hsz)).trans hb2
      have HO2 := Lib.hid (show w2.ownsRow w.heap.size 3 1 v' (k + 1) (icl ((settleN l b s T).take (k + 1))) from by rw [HAT.out]; exact hown2)
      have HB2 := Lib.hid hb3
      clear hown2 hb2 hb3
      go_wp2_with fail
      go_roundw
      case rel => exact ⟨k + 1, by omega, by go_num, HO2.out, HB2.out⟩
      case measure => simp [RowKit.intOf]; omega
  ·obtain rfl : k = n := by omega
   rw [List.take_of_length_le (by rw [HL.out]; exact Nat.le_refl _)] at HO
   obtain ⟨A, c, rfl, -⟩ := intsAt_icl HO.out HL.out
   clear hb
   go_wp2_with fail
   go_ret
   exact ⟨A, c, rfl, HO.out, HB.out⟩
end Go.Proofs.YtfclpecbnailgaaGreat.Ne

/-
 Plain: a gap that is settled at once. And: copy onto a row of the call's own; the world while Settle writes its row (the row, and the variables that its closure holds). No program in it but its types.
-/
set_option linter.unusedVariables false
namespace Go.Proofs.YtfclpecbnailgaaGreat.Ne
open Go Go.RowKit Go.Lib Go.Proofs.YtfclpecbnailgaaGreat.Cl
theorem next_gap (b : Int) (R : List Int) : ∀ G : List Int, (∀ c ∈ G, ¬ 0 ≤ dirN c) → nextN b (G ++ R) = nextN b R
 | [], _ => rfl
 | c :: G, h => by
  simp only [List.cons_append, nextN]
  rw [if_neg (h c (by simp))]
  exact next_gap b R G (fun d hd => h d (by simp [hd]))
theorem settle_gap (l b : Int) (R : List Int) (a : Int) : ∀ G : List Int, (∀ c ∈ G, ¬ 0 ≤ dirN c) → settleN l b a (G ++ R) = List.replicate G.length (fillN l a (nextN b R)) ++ settleN l b a R
 | [], _ => rfl
 | c :: G, h => by
  have h2 : ∀ d ∈ G, ¬ 0 ≤ dirN d := fun d hd => h d (by simp [hd])
  simp only [List.cons_append, settleN, List.length_cons, List.replicate_succ]
  rw [if_neg (h c (by simp)), next_gap b R G h2, settle_gap l b R a G h2]
theorem or_one (n : Nat) : n ||| 1 = n + (1 - n % 2) := by
 have h1 : (n ||| 1) / 2 = n / 2 := by rw [Nat.or_div_two]; simp
 have h2 : (n ||| 1) % 2 = 1 := Nat.or_mod_two_eq_one.2 (.inr rfl)
 omega
theorem i64_or1 (n : Int) (h0 : 0 ≤ n) (h1 : n ≤ 4611686018427387904) : bits .or .i64 n 1 = n + (1 - n % 2) := by
 have hm : (BitVec.ofInt 64 1).toNat = 1 := by decide
 have key : (BitVec.ofInt 64 n ||| BitVec.ofInt 64 1).toNat = (n % ((2 ^ 64 : Nat) : Int)).toNat ||| 1 := by
  rw [BitVec.toNat_or, BitVec.toNat_ofInt, hm]
 show IntKind.i64.wrap ((BitVec.ofInt 64 n ||| BitVec.ofInt 64 1).toNat : Nat) = n + (1 - n % 2)
 rw [key, or_one, IntKind.wrap_i64]
 omega
theorem and_one (n : Int) : bits .and .i64 n 1 = n % 2 := by
 have hm : (BitVec.ofInt 64 1).toNat = 2 ^ 1 - 1 := by decide
 have key : (BitVec.ofInt 64 n &&& BitVec.ofInt 64 1).toNat = (n % ((2 ^ 64 : Nat) : Int)).toNat % 2 ^ 1 := by
  rw [BitVec.toNat_and, BitVec.toNat_ofInt, hm, Nat.and_two_pow_sub_one_eq_mod]
 show IntKind.i64.wrap ((BitVec.ofInt 64 n &&& BitVec.ofInt 64 1).toNat : Nat) = n % 2
 rw [key, IntKind.wrap_i64]
 omega
/-- copy(dst, src): dst a row of the call's own, src as long as it. -/
theorem wpList_copy_ints {ops : Array Oper} {rest : List Oper} {o : Oper} {a : Act} {Q : Exit → Act → World → Prop} {w : World} (hgd : o.guard = none) (d s : Operand)
  (ho : o.op = .call { callee := .builtin .copy, args := #[d, s], argTypes := #[25, 25] })
  (g n c c0 : Nat) (A0 : Option Addr) (hd : a.eval d = .slice (some ⟨g, 0, none⟩) n c) (hs : a.eval s = .slice A0 n c0)
  (base : Nat) (xs : List Value) (hown : w.ownsRow base 3 1 (.slice (some ⟨g, 0, none⟩) n c) n xs) (T : List Int) (hT : IntsAt w A0 T) (hl : T.length = n)
  (h : ∀ w', w'.ownsRow base 3 1 (.slice (some ⟨g, 0, none⟩) n c) n (icl T) → w.grownBy w' (some g) → wpList Tryz.prog ops Q rest (a.put o.dst (goInt n)) w') : wpList Tryz.prog ops Q (o :: rest) a w := by
 by_cases h0 : n = 0
 ·subst h0
  obtain rfl : T = [] := List.eq_nil_of_length_eq_zero hl
  have hx : xs = [] := List.eq_nil_of_length_eq_zero (by have := hown.1; omega)
  subst hx
  exact wpList_copy_nothing hgd d s 25 25 ho 3 (by kernel_rfl) (by kernel_rfl) _ _ 0 c 0 c0 hd hs rfl (h w hown ⟨rfl, rfl, rfl, Nat.le_refl _, fun _ _ _ => rfl⟩)
 ·rcases hown.2 with ⟨e, -⟩ | ⟨g', cap, cur, e, hb, hg, hn, hc, hcs, -⟩
  ·simp at e
  ·simp only [Value.slice.injEq, Option.some.injEq, Addr.mk.injEq, and_true, true_and] at e
   obtain ⟨rfl, rfl⟩ := e
   have hlen : (icl T).length = n := by rw [icl_len, hl]
   rcases hT with rfl | ⟨b, off, rfl, hlt, hcell⟩
   ·exact absurd hl.symm h0
   ·refine wpList_copy_own hgd d s 25 25 ho 3 (by kernel_rfl) (by kernel_rfl) g 0 n c _ n c0 hd hs cur 3 hg (icl T) (by rw [hlen]; exact (Nat.min_self n).symm) (fun j v hv => ?_) (by omega) (fun v hv => ?_) ?_
    ·exact (show IntsAt w (some ⟨b, off, none⟩) T from .inr ⟨b, off, rfl, hlt, hcell⟩).news j v hv
    ·simp only [icl, List.mem_map] at hv
     obtain ⟨z, -, rfl⟩ := hv
     rfl
    ·rw [hlen]
     refine h _ ⟨by omega, .inr ⟨g, c, _, rfl, hb, setRow_heap w g _ _ _ _ hg, hn, hc, ?_, ?_⟩⟩ ⟨rfl, rfl, rfl, by simp [World.setRow], fun k _ hk => setRow_other w g k _ (fun e => hk (by simp [e]))⟩
     ·simp [hlen]; omega
     ·simp
      rw [show n = (icl T).length from hlen.symm]
      simp
/-- The world while the row is written: it lies in block r, and in the blocks ql, qs, qa, qg the level, the row's slice, the last direction, where the gap begins. -/
structure St (w : World) (n r ql qs qa qg : Nat) (l : Int) (L : List Int) (a : Int) (k : Nat) (W : World) : Prop where
 b : Below w.heap.size w W
 row : W.ownsRow w.heap.size 3 1 (.slice (some ⟨r, 0, none⟩) n n) n (icl L)
 cl : W.heap[ql]? = some (.cells #[.int .i64 l] 3 (0, 0))
 cs : W.heap[qs]? = some (.cells #[.slice (some ⟨r, 0, none⟩) n n] 25 (0, 0))
 ca : W.heap[qa]? = some (.cells #[.int .i64 a] 3 (0, 0))
 cg : W.heap[qg]? = some (.cells #[.int .i64 k] 3 (0, 0))
structure Apart (H r ql qs qa qg : Nat) : Prop where
 hr : H ≤ r
 ha : H ≤ qa
 hg : H ≤ qg
 rl : ql ≠ r
 rs : qs ≠ r
 ra : qa ≠ r
 rg : qg ≠ r
 la : ql ≠ qa
 lg : ql ≠ qg
 sa : qs ≠ qa
 sg : qs ≠ qg
 ag : qa ≠ qg
section
variable {w W : World} {n r ql qs qa qg k : Nat} {l a : Int} {L : List Int}
theorem own_ne (h : W.ownsRow w.heap.size 3 1 (.slice (some ⟨r, 0, none⟩) n n) n (icl L)) (q : Nat) (hq : q ≠ r) (u : Value) : (W.setCell ⟨q, 0, none⟩ u).ownsRow w.heap.size 3 1 (.slice (some ⟨r, 0, none⟩) n n) n (icl L) := by
 refine h.kept (row := some q) ⟨rfl, rfl, rfl, by simp [World.setCell], fun k _ hk => Below.heap_setCell _ _ _ _ (fun e => hk (by simp [e]))⟩ (.inr ?_)
 show some r ≠ some q
 simpa using hq.symm
theorem St.len (h : St w n r ql qs qa qg l L a k W) : L.length = n := by
 have := h.row.1
 rw [icl_len] at this
 omega
theorem St.setLast (h : St w n r ql qs qa qg l L a k W) (p : Apart w.heap.size r ql qs qa qg) (z : Int) : St w n r ql qs qa qg l L z k (W.setCell ⟨qa, 0, none⟩ (.int .i64 z)) :=
 ⟨h.b.setCell p.ha _, own_ne h.row _ p.ra _, (Below.heap_setCell _ _ _ _ p.la).trans h.cl, (Below.heap_setCell _ _ _ _ p.sa).trans h.cs, heap_setCell_same W qa 0 _ _ _ h.ca, (Below.heap_setCell _ _ _ _ p.ag.symm).trans h.cg⟩
theorem St.setGap (h : St w n r ql qs qa qg l L a k W) (p : Apart w.heap.size r ql qs qa qg) (m : Nat) : St w n r ql qs qa qg l L a m (W.setCell ⟨qg, 0, none⟩ (.int .i64 m)) :=
 ⟨h.b.setCell p.hg _, own_ne h.row _ p.rg _, (Below.heap_setCell _ _ _ _ p.lg).trans h.cl, (Below.heap_setCell _ _ _ _ p.sg).trans h.cs, (Below.heap_setCell _ _ _ _ p.ag).trans h.ca, heap_setCell_same W qg 0 _ _ _ h.cg⟩
theorem St.put (h : St w n r ql qs qa qg l L a k W) (p : Apart w.heap.size r ql qs qa qg) (j : Nat) (z : Int) : St w n r ql qs qa qg l (L.set j z) a k (W.setCell ⟨r, j, none⟩ (.int .i64 z)) := by
 obtain ⟨h1, h2⟩ := h.row.stored j (.int .i64 z)
 refine ⟨h.b.setCell p.hr _, ?_, (Below.heap_setCell _ _ _ _ p.rl).trans h.cl, (Below.heap_setCell _ _ _ _ p.rs).trans h.cs, (Below.heap_setCell _ _ _ _ p.ra).trans h.ca, (Below.heap_setCell _ _ _ _ p.rg).trans h.cg⟩
 rw [show icl (L.set j z) = (icl L).set j (.int .i64 z) from by simp [icl]]
 exact h1
theorem St.cell (h : St w n r ql qs qa qg l L a k W) {j : Nat} (hj : j < n) : ∃ x : Int, W.cell? ⟨r, j, none⟩ = some (.int .i64 x) ∧ W.frozen? ⟨r, j, none⟩ = false := by
 have hl := h.len
 refine ⟨L[j], ?_, h.row.frozenAt _⟩
 rw [h.row.cellAt _ (by omega)]
 simp [icl, hl, hj]
theorem St.reads (h : St w n r ql qs qa qg l L a k W) : W.cell? ⟨ql, 0, none⟩ = some (.int .i64 l) ∧ W.cell? ⟨qs, 0, none⟩ = some (.slice (some ⟨r, 0, none⟩) n n) ∧ W.cell? ⟨qa, 0, none⟩ = some (.int .i64 a) ∧ W.cell? ⟨qg, 0, none⟩ = some (.int .i64 k) ∧ W.frozen? ⟨qa, 0, none⟩ = false ∧ W.frozen? ⟨qg, 0, none⟩ = false :=
 ⟨by rw [cell_of_row W ql 0 _ _ _ h.cl]; rfl, by rw [cell_of_row W qs 0 _ _ _ h.cs]; rfl, by rw [cell_of_row W qa 0 _ _ _ h.ca]; rfl, by rw [cell_of_row W qg 0 _ _ _ h.cg]; rfl, frozen_of_row W qa 0 _ _ h.ca, frozen_of_row W qg 0 _ _ h.cg⟩
end
theorem St.start {w W : World} {n r ql qs : Nat} {l : Int} {L : List Int} (hb : Below w.heap.size w W) (hrow : W.ownsRow w.heap.size 3 1 (.slice (some ⟨r, 0, none⟩) n n) n (icl L)) (hl : W.heap[ql]? = some (.cells #[.int .i64 l] 3 (0, 0)))
  (hs : W.heap[qs]? = some (.cells #[.slice (some ⟨r, 0, none⟩) n n] 25 (0, 0))) (a : Int) :
  St w n r ql qs W.heap.size (W.heap.size + 1) l L a 0 ((W.alloc (.cells #[.int .i64 a] 3)).alloc (.cells #[.int .i64 0] 3)) := by
 have h1 := (Array.getElem?_eq_some_iff.1 hl).1
 have h2 := (Array.getElem?_eq_some_iff.1 hs).1
 have e1 : (W.alloc (.cells #[.int .i64 a] 3)).heap.size = W.heap.size + 1 := by simp
 have hz := hb.size
 refine ⟨(hb.alloc hz _).alloc (by omega) _, (hrow.alloc _).alloc _, ?_, ?_, ?_, ?_⟩
 ·rw [Below.heap_alloc _ _ _ (by omega), Below.heap_alloc _ _ _ h1]; exact hl
 ·rw [Below.heap_alloc _ _ _ (by omega), Below.heap_alloc _ _ _ h2]; exact hs
 ·rw [Below.heap_alloc _ _ _ (by omega)]; exact heap_alloc_new W _
 ·rw [← e1]; exact heap_alloc_new _ _
/-- The row while a gap is filled. -/
theorem fill_set (P G R : List Int) (f x : Int) (j : Nat) : (P ++ (List.replicate j f ++ x :: G) ++ R).set (P.length + j) f = P ++ (List.replicate (j + 1) f ++ G) ++ R := by
 rw [List.replicate_succ', List.append_assoc, List.append_assoc, List.set_append_right _ _ (by omega), show P.length + j - P.length = j by omega, List.append_assoc, List.set_append_right _ _ (by simp)]
 simp
end Go.Proofs.YtfclpecbnailgaaGreat.Ne

/-
 Proved here: what neutral's direction, levelDirection, levelOf, the closure of Settle, Settle and Levels return: the plain ones. They leave what was in memory.
-/
set_option linter.unusedVariables false
namespace Go.Proofs.YtfclpecbnailgaaGreat.Ne
open Go Go.RowKit Go.Lib Go.Proofs.YtfclpecbnailgaaGreat.Cl
set_option maxHeartbeats 1000000 in
theorem dir_any (c : Int) (w : World) : Calls Tryz.prog 105 #[.int .i64 c] w fun e w' => e = .returned (.int .i64 (dirN c)) ∧ w' = w := by
 by_cases h0 : c = 0
 ·subst h0
  go_enter Tryz.func105, Tryz.ntmps105
  go_wp2
  go_ret
  exact ⟨rfl, rfl⟩
 ·have d0 : (c == 0) = false := beq_eq_false_iff_ne.2 h0
  by_cases h1 : c = 1
  ·subst h1
   go_enter Tryz.func105, Tryz.ntmps105
   go_wp2
   go_ret
   exact ⟨rfl, rfl⟩
  ·have d1 : (c == 1) = false := beq_eq_false_iff_ne.2 h1
   by_cases h3 : c = 3
   ·subst h3
    go_enter Tryz.func105, Tryz.ntmps105
    go_wp2
    go_ret
    exact ⟨rfl, rfl⟩
   ·have d3 : (c == 3) = false := beq_eq_false_iff_ne.2 h3
    by_cases h6 : c = 6
    ·subst h6
     go_enter Tryz.func105, Tryz.ntmps105
     go_wp2
     go_ret
     exact ⟨rfl, rfl⟩
    ·have d6 : (c == 6) = false := beq_eq_false_iff_ne.2 h6
     rw [dirN_no h0 h1 h3 h6]
     clear h0 h1 h3 h6
     go_enter Tryz.func105, Tryz.ntmps105
     go_wp2
     go_ret
     exact ⟨rfl, rfl⟩
set_option maxHeartbeats 1000000 in
theorem levdir_any (l : Int) (w : World) : Calls Tryz.prog 104 #[.int .i64 l] w fun e w' => e = .returned (.int .i64 (lvN l)) ∧ w' = w := by
 by_cases hm : l.tmod 2 = 0
 ·have m1 : (l.tmod 2 == 0) = true := by simpa using hm
  rw [show lvN l = 0 from if_pos hm]
  clear hm
  go_enter Tryz.func104, Tryz.ntmps104
  go_wp2
  go_ret
  exact ⟨rfl, rfl⟩
 ·have m1 : (l.tmod 2 == 0) = false := by simpa using hm
  rw [show lvN l = 1 from if_neg hm]
  clear hm
  go_enter Tryz.func104, Tryz.ntmps104
  go_wp2
  go_ret
  exact ⟨rfl, rfl⟩
set_option maxHeartbeats 1000000 in
theorem levof_any (c l : Int) (w : World) (hl0 : 0 ≤ l) (hl1 : l ≤ 2147483647) : Calls Tryz.prog 106 #[.int .i64 c, .int .i64 l] w fun e w' => e = .returned (.int .i64 (levN l c)) ∧ w' = w := by
 have e1 : bits .and .i64 l 1 = l % 2 := and_one l
 have e2 : bits .and .i64 (l + 1) 1 = (l + 1) % 2 := and_one _
 have e3 : bits .or .i64 l 1 = l + (1 - l % 2) := i64_or1 l hl0 (by omega)
 have w1 : IntKind.i64.wrap (l + 1) = l + 1 := IntWalk.i64_in _ (by omega)
 have w2 : IntKind.i64.wrap (l + l % 2) = l + l % 2 := IntWalk.i64_in _ (by omega)
 have w3 : IntKind.i64.wrap (l + 1 + (l + 1) % 2) = l + (2 - l % 2) := (IntWalk.i64_in _ (by omega)).trans (by omega)
 clear hl0 hl1
 by_cases h0 : c = 0
 ·subst h0
  rw [show levN l 0 = l + l % 2 from rfl]
  go_enter Tryz.func106, Tryz.ntmps106
  go_wp2
  go_ret
  exact ⟨rfl, rfl⟩
 ·have d0 : (c == 0) = false := beq_eq_false_iff_ne.2 h0
  by_cases h1 : c = 1
  ·subst h1
   rw [show levN l 1 = l + (1 - l % 2) from rfl]
   go_enter Tryz.func106, Tryz.ntmps106
   go_wp2
   go_ret
   exact ⟨rfl, rfl⟩
  ·have d1 : (c == 1) = false := beq_eq_false_iff_ne.2 h1
   by_cases h3 : c = 3
   ·subst h3
    rw [show levN l 3 = l + (2 - l % 2) from rfl]
    go_enter Tryz.func106, Tryz.ntmps106
    go_wp2
    go_ret
    exact ⟨rfl, rfl⟩
   ·have d3 : (c == 3) = false := beq_eq_false_iff_ne.2 h3
    by_cases h6 : c = 6
    ·subst h6
     rw [show levN l 6 = l + (2 - l % 2) from rfl]
     go_enter Tryz.func106, Tryz.ntmps106
     go_wp2
     go_ret
     exact ⟨rfl, rfl⟩
    ·have d6 : (c == 6) = false := beq_eq_false_iff_ne.2 h6
     rw [show levN l c = l from by unfold levN; rw [if_neg h0, if_neg h1, if_neg (by omega)]]
     clear h0 h1 h3 h6
     go_enter Tryz.func106, Tryz.ntmps106
     go_wp2
     go_ret
     exact ⟨rfl, rfl⟩
set_option maxHeartbeats 2000000 in
set_option maxRecDepth 100000 in
theorem fill_any (w : World) (n r ql qs qa qg : Nat) (l a d : Int) (P G R : List Int) (p g : Nat) (W : World) (hp : P.length = p) (hg : G.length = g) (hap : Apart w.heap.size r ql qs qa qg)
  (hs : St w n r ql qs qa qg l (P ++ G ++ R) a p W) (hn : n ≤ 1099511627776) (m : Nat) (hm : p + g = m) :
  Calls Tryz.prog 103 #[.int .i64 m, .int .i64 d, .pointer (some ⟨ql, 0, none⟩), .pointer (some ⟨qa, 0, none⟩), .pointer (some ⟨qg, 0, none⟩), .pointer (some ⟨qs, 0, none⟩)] W
   fun e W' => e = .returned (.tuple #[]) ∧ St w n r ql qs qa qg l (P ++ List.replicate g (fillN l a d) ++ R) d (m + 1) W' := by
 have hmn : m ≤ n := by have := hs.len; simp at this; omega
 obtain ⟨c1, c2, c3, c4, f3, f4⟩ := hs.reads
 have HAP := Lib.hid hap
 have HS := Lib.hid hs
 have HP := Lib.hid hp
 have HG := Lib.hid hg
 have HM := Lib.hid hm
 have HLD := Lib.hid (fun V => levdir_any l V)
 obtain ⟨f, hf⟩ : ∃ f, f = fillN l a d := ⟨_, rfl⟩
 rw [← hf]
 have hcase : ((a == d) = true ∧ f = d) ∨ ((a == d) = false ∧ f = lvN l) := by
  by_cases h : a = d
  ·exact .inl ⟨beq_iff_eq.2 h, by rw [hf]; exact (if_pos h).trans h⟩
  ·exact .inr ⟨beq_eq_false_iff_ne.2 h, by rw [hf]; exact if_neg h⟩
 clear hs hap hp hg hm hf
 generalize lvN l = v at *
 go_enter Tryz.func103, Tryz.ntmps103
 go_wp2_with fail
 refine (HLD.out _).mono ?_
 rintro e w1 ⟨rfl, rfl⟩
 clear HLD
 rcases hcase with ⟨hb, hfd⟩ | ⟨hb, hfd⟩
 all_goals
  subst hfd
  go_wp2_with fail
  go_loopg [] g (fun gf wx => ∃ j k : Nat, j + gf = g ∧ p + j = k ∧ St w n r ql qs qa qg l (P ++ (List.replicate j f ++ G.drop j) ++ R) a k wx)
  case atStart => exact ⟨0, p, by omega, by omega, by simpa using HS.out⟩
  case round =>
   obtain ⟨j, k, hj, hk, hst⟩ := hrel
   obtain ⟨d1, d2, d3, d4, g3, g4⟩ := hst.reads
   clear c1 c2 c3 c4 f3 f4
   have HST := Lib.hid hst
   by_cases hlt : k < m
   ·obtain ⟨g', rfl⟩ : ∃ g', gk = g' + 1 := ⟨gk - 1, by have := HM.out; omega⟩
    have hm := HM.out
    obtain ⟨x, hx, hfx⟩ := hst.cell (j := k) (by omega)
    have hst2 : St w n r ql qs qa qg l (P ++ (List.replicate (j + 1) f ++ G.drop (j + 1)) ++ R) a k (wr.setCell ⟨r, k, none⟩ (.int .i64 f)) := by
     have h := hst.put HAP.out k f
     have fs := fun x => fill_set P (G.drop (j + 1)) R f x j
     have hjg : j < G.length := by rw [HG.out]; omega
     rw [HP.out, hk] at fs
     rw [List.drop_eq_getElem_cons hjg, fs] at h
     exact h
    obtain ⟨-, -, -, k4, -, k6⟩ := hst2.reads
    have HST2 := Lib.hid (hst2.setGap HAP.out (k + 1))
    have HJ := Lib.hid (show j + 1 + g' = g ∧ p + (j + 1) = k + 1 from ⟨by omega, by omega⟩)
    clear hst2 hst HS hj hk hm
    go_wp2_with fail
    go_roundg g'
    case measure => omega
    case rel => exact ⟨j + 1, k + 1, HJ.out.1, HJ.out.2, HST2.out⟩
   ·have hm := HM.out
    obtain rfl : k = m := by omega
    obtain rfl : j = g := by omega
    have hst2 : St w n r ql qs qa qg l (P ++ List.replicate j f ++ R) a k wr := by
     rw [List.drop_eq_nil_of_le (by rw [HG.out]; exact Nat.le_refl _), List.append_nil] at hst
     exact hst
    have HST2 := Lib.hid (fun z => (hst2.setLast HAP.out z))
    have k4 := fun z => (hst2.setLast HAP.out z).reads.2.2.2.1
    have k6 := fun z => (hst2.setLast HAP.out z).reads.2.2.2.2.2
    clear hst2 hst HS hj hk hm
    go_wp2_with fail
    go_end0
    exact ⟨rfl, (HST2.out _).setGap HAP.out _⟩
theorem grown_cell {w w' : World} {g q : Nat} {cs : Array Value} {t : TypeId} (h : w.grownBy w' (some g)) (hq : q ≠ g) (hc : w.heap[q]? = some (.cells cs t (0, 0))) : w'.heap[q]? = some (.cells cs t (0, 0)) := by
 have hlt := (Array.getElem?_eq_some_iff.1 hc).1
 rw [h.block q hlt (fun e => hq (by simpa using e))]
 exact hc
set_option maxHeartbeats 2000000 in
set_option maxRecDepth 100000 in
theorem settle_any (A0 : Option Addr) (T : List Int) (n cp : Nat) (l s b : Int) (w : World) (hA : IntsAt w A0 T) (hl : T.length = n) (hn : n ≤ 1099511627776) :
  Calls Tryz.prog 58 #[.slice A0 n cp, .int .i64 l, .int .i64 s, .int .i64 b] w fun e w' => ∃ A c, e = .returned (.slice A n c) ∧ w'.ownsRow w.heap.size 3 1 (.slice A n c) n (icl (settleN l b s T)) ∧ Below w.heap.size w w' := by
 obtain ⟨i0, hi0, hq0, hq1, hq2⟩ := info_parts infoInt
 have HI := Lib.hid hi0
 have HQ0 := Lib.hid hq0
 have HQ1 := Lib.hid hq1
 have HQ2 := Lib.hid hq2
 have HA := Lib.hid hA
 have HL := Lib.hid hl
 clear hi0 hq0 hq1 hq2 hA hl
 go_enter Tryz.func58, Tryz.ntmps58
 go_wp2_with (refine wpList_make_full _ rfl _ _ 25 rfl w.heap.size 3 i0 (.int .i64 0) 1 Tryz.underlying25 HI.out HQ0.out HQ1.out .i64 .i64 _ _ n rfl rfl rfl rfl ?c1 ?c2 ?c3 ?_)
 case c1 => rw [HQ2.out]; omega
 case c2 => unfold maxLen; omega
 case c3 => simp
 intro w1 hown hgr
 have hb1 : Below w.heap.size w w1 := (below_made w _).grown hgr (by simp) (fun k h => by cases h)
 have hsz1 : w.heap.size + 1 < w1.heap.size := (hown.lt _ rfl).2
 have hcl1 : w1.heap[w.heap.size]? = some (.cells #[.int .i64 l] 3 (0, 0)) := (hgr.block _ (by simp) (by simp)).trans (heap_alloc_new w _)
 have HCL1 := Lib.hid hcl1
 have HB1 := Lib.hid hb1
 have HOWN := Lib.hid hown
 clear hown hgr hcl1 hb1 HI HQ0 HQ1 HQ2
 go_wp2_with (refine wpList_copy_ints rfl _ _ rfl (w.heap.size + 1) n n cp A0 rfl rfl w.heap.size _ (HOWN.out.alloc _) T (HA.out.below (HB1.out.alloc (by omega) _)) HL.out ?_)
 intro w3 hown3 hgr3
 have hcl3 : w3.heap[w.heap.size]? = some (.cells #[.int .i64 l] 3 (0, 0)) := grown_cell hgr3 (by omega) ((Below.heap_alloc _ _ _ (by omega)).trans HCL1.out)
 have hcs3 : w3.heap[w1.heap.size]? = some (.cells #[.slice (some ⟨w.heap.size + 1, 0, none⟩) n n] 25 (0, 0)) := grown_cell hgr3 (by omega) (heap_alloc_new w1 _)
 have hb3 : Below w.heap.size w w3 := (HB1.out.alloc (by omega) _).grown hgr3 (by simp; omega) (fun k h => by cases h; omega)
 have hq3 : w1.heap.size < w3.heap.size := (Array.getElem?_eq_some_iff.1 hcs3).1
 have HST0 := Lib.hid (St.start hb3 hown3 hcl3 hcs3 s)
 clear hown3 hgr3 hcl3 hcs3 hb3 HCL1 HB1 HOWN
 have HAP : Hid (Apart w.heap.size (w.heap.size + 1) w.heap.size w1.heap.size w3.heap.size (w3.heap.size + 1)) := Lib.hid (by constructor <;> omega)
 clear hsz1 hq3
 generalize w1.heap.size = qs at *
 go_wp2_with fail
 go_loopw [26] (fun s26 wx => ∃ (k : Nat) (P G : List Int) (a : Int) (p : Nat), k ≤ n ∧ s26 = .int .i64 k ∧ P.length = p ∧ P.length + G.length = k ∧ (∀ c ∈ G, ¬ 0 ≤ dirN c) ∧ P ++ settleN l b a (G ++ T.drop k) = settleN l b s T ∧ St w n (w.heap.size + 1) w.heap.size qs w3.heap.size (w3.heap.size + 1) l (P ++ G ++ T.drop k) a p wx) (fun s26 _ => n - (RowKit.intOf s26).toNat)
 case atStart => exact ⟨0, [], [], s, 0, Nat.zero_le _, rfl, rfl, rfl, by simp, by simp, by simpa using HST0.out⟩
 case round =>
  obtain ⟨k, P, G, a, p, hk, rfl, hp, hg, hno, heq, hst⟩ := hrel
  have HST := Lib.hid hst
  have HP := Lib.hid hp
  have HG := Lib.hid hg
  have HNO := Lib.hid hno
  have HEQ := Lib.hid heq
  clear hp hg hno heq HST0
  by_cases hlt : k < n
  ·have hkz : k < T.length := by rw [HL.out]; exact hlt
   obtain ⟨g, off, rfl, hc⟩ := (HA.out.below hst.b).at_ hkz
   have hdr : T.drop k = T[k] :: T.drop (k + 1) := List.drop_eq_getElem_cons hkz
   have HDR := Lib.hid hdr
   clear hst hdr
   generalize T[k] = z at *
   rw [HDR.out] at HST HEQ
   clear hkz HDR
   have HD := Lib.hid (fun (W : World) => dir_any z W)
   have hk0 : (0 : Int) ≤ (k : Int) := by omega
   have hk1 : (k : Int) < (n : Int) := by omega
   by_cases hx : 0 ≤ dirN z
   ·have hbx : (dirN z != -1) = true := bne_iff_ne.2 (by omega)
    have HX := Lib.hid hx
    obtain ⟨d, hd⟩ : ∃ d, dirN z = d := ⟨_, rfl⟩
    rw [hd] at hbx
    have HDZ := Lib.hid hd
    have HD2 := Lib.hid (fun (W : World) => hd ▸ HD.out W)
    have HF := Lib.hid (fill_any w n _ _ _ _ _ l a d P G (z :: T.drop (k + 1)) p G.length wr HP.out rfl HAP.out HST.out hn k (by have := HP.out; have := HG.out; omega))
    clear hx hd HD
    go_wp2_with fail
    refine (HD2.out _).mono ?_
    rintro e w4 ⟨rfl, rfl⟩
    go_wp2_with fail
    refine HF.out.mono ?_
    rintro e w4 ⟨rfl, hst4⟩
    have HST4 := Lib.hid hst4
    clear hst4 HF HD2
    go_wp2_with fail
    go_roundw
    case rel =>
     refine ⟨k + 1, P ++ List.replicate G.length (fillN l a d) ++ [z], [], d, k + 1, by omega, by go_num, ?_, ?_, by simp, ?_, ?_⟩
     ·have := HG.out; simp; omega
     ·have := HG.out; simp; omega
     ·rw [← HEQ.out, settle_gap l b (z :: T.drop (k + 1)) a G (fun c h => by have := HNO.out c h; omega)]
      simp only [settleN, nextN]
      rw [if_pos HX.out, if_pos HX.out, HDZ.out]
      simp
     ·simpa using HST4.out
    case measure => simp [RowKit.intOf]; omega
   ·have hbx : (dirN z != -1) = false := by rcases dirN_cases z with h | h | h <;> simp_all
    have HX := Lib.hid hx
    obtain ⟨d, hd⟩ : ∃ d, dirN z = d := ⟨_, rfl⟩
    rw [hd] at hbx
    have HD2 := Lib.hid (fun (W : World) => hd ▸ HD.out W)
    clear hx hd HD
    go_wp2_with fail
    refine (HD2.out _).mono ?_
    rintro e w4 ⟨rfl, rfl⟩
    go_wp2_with fail
    go_roundw
    case rel =>
     refine ⟨k + 1, P, G ++ [z], a, p, by omega, by go_num, HP.out, ?_, ?_, ?_, ?_⟩
     ·have := HG.out; simp; omega
     ·intro c hc
      rcases List.mem_append.1 hc with h | h
      ·have := HNO.out c h; omega
      ·obtain rfl := List.mem_singleton.1 h
       have := HX.out; omega
     ·simpa using HEQ.out
     ·simpa using HST.out
    case measure => simp [RowKit.intOf]; omega
  ·obtain rfl : k = n := by omega
   have hdr : T.drop k = [] := List.drop_eq_nil_of_le (by rw [HL.out]; exact Nat.le_refl _)
   rw [hdr] at HST HEQ
   have HF := Lib.hid (fill_any w k _ _ _ _ _ l a b P G [] p G.length wr HP.out rfl HAP.out HST.out hn k (by have := HP.out; have := HG.out; omega))
   clear hdr hst
   go_wp2_with fail
   refine HF.out.mono ?_
   rintro e w4 ⟨rfl, hst4⟩
   have hr4 := hst4.reads.2.1
   have HST4 := Lib.hid hst4
   clear hst4 HF
   go_wp2_with fail
   go_ret
   refine ⟨_, _, rfl, ?_, HST4.out.b⟩
   have e : settleN l b s T = P ++ List.replicate G.length (fillN l a b) ++ [] := by
    rw [← HEQ.out, settle_gap l b [] a G (fun c h => by have := HNO.out c h; omega)]
    simp [settleN, nextN]
   rw [e]
   exact HST4.out.row
theorem set_take (Z : List Int) (k : Nat) (v : Int) (h : k < Z.length) : (Z.set k v).take (k + 1) = Z.take k ++ [v] := by
 rw [List.take_set, List.take_succ_eq_append_getElem h, List.set_append_right _ _ (by simp; omega)]
 simp [Nat.min_eq_left (Nat.le_of_lt h)]
set_option maxHeartbeats 2000000 in
set_option maxRecDepth 100000 in
theorem levels_any (A0 : Option Addr) (T : List Int) (n cp : Nat) (l : Int) (w : World) (hA : IntsAt w A0 T) (hl : T.length = n) (hn : n ≤ 1099511627776) (hl0 : 0 ≤ l) (hl1 : l ≤ 2147483647) :
  Calls Tryz.prog 59 #[.slice A0 n cp, .int .i64 l] w fun e w' => ∃ A c, e = .returned (.slice A n c) ∧ w'.ownsRow w.heap.size 3 1 (.slice A n c) n (icl (T.map (levN l))) ∧ Below w.heap.size w w' := by
 obtain ⟨i0, hi0, hq0, hq1, hq2⟩ := info_parts infoInt
 have HI := Lib.hid hi0
 have HQ0 := Lib.hid hq0
 have HQ1 := Lib.hid hq1
 have HQ2 := Lib.hid hq2
 have HA := Lib.hid hA
 have HL := Lib.hid hl
 have HLM := Lib.hid (show (T.map (levN l)).length = n from by rw [List.length_map, hl])
 have HLO := Lib.hid (fun (c : Int) (V : World) => levof_any c l V hl0 hl1)
 clear hi0 hq0 hq1 hq2 hA hl hl0 hl1
 go_enter Tryz.func59, Tryz.ntmps59
 go_wp2_with (refine wpList_make_full _ rfl _ _ 25 rfl w.heap.size 3 i0 (.int .i64 0) 1 Tryz.underlying25 HI.out HQ0.out HQ1.out .i64 .i64 _ _ n rfl rfl rfl rfl ?c1 ?c2 ?c3 ?_)
 case c1 => rw [HQ2.out]; omega
 case c2 => unfold maxLen; omega
 case c3 => exact Nat.le_refl _
 intro w1 hown hgr
 have hown1 : w1.ownsRow w.heap.size 3 1 (.slice (some ⟨w.heap.size, 0, none⟩) n n) n (icl (List.replicate n 0)) := by
  have h := hown
  rw [toList_madeCells_one] at h
  rw [show icl (List.replicate n 0) = List.replicate n (.int .i64 0) from by simp [icl]]
  exact h
 have hb1 : Below w.heap.size w w1 := (Below.refl _ _).grown hgr (Nat.le_refl _) (fun k h => by cases h)
 have HO := Lib.hid hown1
 have HB1 := Lib.hid hb1
 clear hown hgr hown1 hb1 HI HQ0 HQ1 HQ2
 go_wp2_with fail
 go_loopw [13] (fun s13 wx => ∃ (k : Nat) (Z : List Int), k ≤ n ∧ s13 = .int .i64 k ∧ Z.take k = (T.map (levN l)).take k ∧ Z.length = n ∧ wx.ownsRow w.heap.size 3 1 (.slice (some ⟨w.heap.size, 0, none⟩) n n) n (icl Z) ∧ Below w.heap.size w wx) (fun s13 _ => n - (RowKit.intOf s13).toNat)
 case atStart => exact ⟨0, List.replicate n 0, Nat.zero_le _, rfl, rfl, by simp, HO.out, HB1.out⟩
 case round =>
  obtain ⟨k, Z, hk, rfl, hz, hzl, hown, hb⟩ := hrel
  have HZ := Lib.hid hz
  have HZL := Lib.hid hzl
  have HW := Lib.hid hown
  have HB := Lib.hid hb
  clear hz hown HO HB1
  by_cases hlt : k < n
  ·have hkz : k < T.length := by rw [HL.out]; exact hlt
   have hkl : k < Z.length := by rw [HZL.out]; exact hlt
   obtain ⟨g, off, rfl, hc⟩ := (HA.out.below hb).at_ hkz
   have hcr : wr.cell? ⟨w.heap.size, k, none⟩ = some (.int .i64 Z[k]) := by
    rw [HW.out.cellAt _ (by omega)]
    simp [icl, hkl]
   have hfr := HW.out.frozenAt k
   obtain ⟨h1, h2⟩ := HW.out.stored k (.int .i64 (levN l T[k]))
   rw [show (icl Z).set k (.int .i64 (levN l T[k])) = icl (Z.set k (levN l T[k])) from by simp [icl]] at h1
   have HST := Lib.hid (set_take Z k (levN l T[k]) hkl)
   have HMT := Lib.hid (show (T.map (levN l)).take (k + 1) = (T.map (levN l)).take k ++ [levN l T[k]] from by
    rw [List.take_succ_eq_append_getElem (by rw [List.length_map]; exact hkz), List.getElem_map])
   generalize T[k] = z at *
   generalize Z[k] = y at *
   have HLZ := Lib.hid (fun (V : World) => HLO.out z V)
   generalize levN l z = v at *
   have HOW := Lib.hid h1
   have hk0 : (0 : Int) ≤ (k : Int) := by omega
   have hk1 : (k : Int) < (n : Int) := by omega
   clear h1 h2 hkz hkl hb hzl
   go_wp2_with fail
   refine (HLZ.out _).mono ?_
   rintro e w4 ⟨rfl, rfl⟩
   clear HLZ
   go_wp2_with fail
   go_roundw
   case rel => exact ⟨k + 1, Z.set k v, by omega, by go_num, by rw [HST.out, HMT.out, HZ.out], by rw [List.length_set]; exact HZL.out, HOW.out, HB.out.setCell (p := ⟨w.heap.size, k, none⟩) (Nat.le_refl _) _⟩
   case measure => simp [RowKit.intOf]; omega
  ·obtain rfl : k = n := by omega
   have HE := Lib.hid (show Z = T.map (levN l) from by
    have h := HZ.out
    rw [List.take_of_length_le (by rw [hzl]; exact Nat.le_refl _), List.take_of_length_le (by rw [HLM.out]; exact Nat.le_refl _)] at h
    exact h)
   clear hb hzl
   go_wp2_with fail
   go_ret
   exact ⟨_, _, rfl, by rw [← HE.out]; exact HW.out, HB.out⟩
end Go.Proofs.YtfclpecbnailgaaGreat.Ne
