/-
  Proved here: what parquetryref15's Direction, around, Settle, Levels return: the plain ones. They leave what was in memory.
-/
import Derived.Test.YtkhhfodbldemeaaDoorNePlain
import Derived.Test.YtkhhfodbldemeaaDoorAddInts
import Derived.Test.YtkhhfodbldemeaaDoorAppSrc
import Derived.Test.YtkhhfodbldemeaaDoorStepKit
set_option linter.unusedVariables false
namespace Go.Proofs.YtkhhfodbldemeaaDoor.Ne
open Go Go.RowKit Go.Lib Go.Proofs.YtkhhfodbldemeaaDoor.Cl

theorem bt {w a b : World} (h : Below w.heap.size w a) (k : Below a.heap.size a b) : Below w.heap.size w b := h.trans (k.mono h.size)
theorem ints_of {w : World} {B n c : Nat} {A : Option Addr} {zs : List Int} (h : w.ownsRow B 3 1 (.slice A n c) n (icl zs)) (hn : zs.length = n) : IntsAt w A zs := by
  obtain ⟨A2, c2, e2, hat⟩ := intsAt_icl h hn
  injection e2 with e3 e4 e5
  subst e3
  exact hat

set_option maxHeartbeats 1000000 in
theorem rdir_any (c : Int) (w : World) : Calls Tryd.prog 22 #[.int .i64 c] w fun e w' => e = .returned (.int .i64 (dirN c)) ∧ w' = w := by
  by_cases h0 : c = 0
  · subst h0
    go_enter Tryd.func22, Tryd.ntmps22
    go_wp2
    go_ret
    exact ⟨rfl, rfl⟩
  · have d0 : (c == 0) = false := beq_eq_false_iff_ne.2 h0
    by_cases h1 : c = 1
    · subst h1
      go_enter Tryd.func22, Tryd.ntmps22
      go_wp2
      go_ret
      exact ⟨rfl, rfl⟩
    · have d1 : (c == 1) = false := beq_eq_false_iff_ne.2 h1
      by_cases h3 : c = 3
      · subst h3
        go_enter Tryd.func22, Tryd.ntmps22
        go_wp2
        go_ret
        exact ⟨rfl, rfl⟩
      · have d3 : (c == 3) = false := beq_eq_false_iff_ne.2 h3
        by_cases h6 : c = 6
        · subst h6
          go_enter Tryd.func22, Tryd.ntmps22
          go_wp2
          go_ret
          exact ⟨rfl, rfl⟩
        · have d6 : (c == 6) = false := beq_eq_false_iff_ne.2 h6
          rw [dirN_no h0 h1 h3 h6]
          clear h0 h1 h3 h6
          go_enter Tryd.func22, Tryd.ntmps22
          go_wp2
          go_ret
          exact ⟨rfl, rfl⟩

set_option maxHeartbeats 2000000 in
set_option maxRecDepth 100000 in
theorem raround_any (A : Option Addr) (T : List Int) (n c k0 : Nat) (s b : Int) (w : World) (hA : IntsAt w A T) (hl : T.length = n) (hn : n ≤ 1099511627776) (hk0 : k0 < n) :
    Calls Tryd.prog 23 #[.slice A n c, .int .i64 k0, .int .i64 s, .int .i64 b] w fun e w' => e = .returned (.tuple #[.int .i64 (lastN s (T.take (k0 + 1))), .int .i64 (nextN b (T.drop k0))]) ∧ w' = w := by
  have HA := Lib.hid hA
  have HL := Lib.hid hl
  obtain ⟨X, hX⟩ : ∃ X, lastN s (T.take (k0 + 1)) = X := ⟨_, rfl⟩
  obtain ⟨Y, hY⟩ : ∃ Y, nextN b (T.drop k0) = Y := ⟨_, rfl⟩
  rw [hX, hY]
  have HX := Lib.hid hX
  have HY := Lib.hid hY
  clear hA hl hX hY
  go_enter Tryd.func23, Tryd.ntmps23
  go_wp2_with fail
  go_loopw [10, 12] (fun s10 s12 wx => ∃ y : Int, -1 ≤ y ∧ y ≤ k0 ∧ s12 = .int .i64 y ∧ s10 = .int .i64 s ∧ lastN s (T.take (y + 1).toNat) = X ∧ wx = w) (fun _ s12 _ => (RowKit.intOf s12 + 1).toNat)
  case atStart => exact ⟨k0, by omega, by omega, rfl, rfl, by rw [show (((k0 : Int) + 1).toNat) = k0 + 1 by omega]; exact HX.out, rfl⟩
  case round =>
    obtain ⟨y, hy1, hy2, rfl, rfl, hx, rfl⟩ := hrel
    by_cases hneg : y < 0
    · obtain rfl : y = -1 := by omega
      have HE0 := Lib.hid (show s = X from hx)
      clear hx hneg hy1 hy2
      go_wp2_with fail
      go_loopw [11, 13] (fun s11 s13 wx => ∃ k : Nat, k0 ≤ k ∧ k ≤ n ∧ s13 = .int .i64 k ∧ s11 = .int .i64 b ∧ nextN b (T.drop k) = Y ∧ wx = wr) (fun _ s13 _ => n - (RowKit.intOf s13).toNat)
      case atStart => exact ⟨k0, Nat.le_refl _, by omega, by first | rfl | go_num, rfl, HY.out, by first | rfl | trivial⟩
      case round =>
        obtain ⟨k, hk0, hk, rfl, rfl, hy, rfl⟩ := hrel
        have HYK := Lib.hid hy
        clear hy
        by_cases hlt : k < n
        · have hkz : k < T.length := by rw [HL.out]; exact hlt
          obtain ⟨g2, off2, e2, hc⟩ := HA.out.at_ hkz
          cases e2
          have HS := Lib.hid ((nextN_drop (b := b) hkz).symm.trans HYK.out)
          generalize T[k] = z at *
          have HD := Lib.hid (fun (W : World) => rdir_any z W)
          have hk1 : (0 : Int) ≤ (k : Int) := by omega
          have hk2 : (k : Int) < (n : Int) := by omega
          clear hkz HYK
          by_cases hx : 0 ≤ dirN z
          · have hbx : decide (0 ≤ dirN z) = true := decide_eq_true hx
            have HE := Lib.hid (show dirN z = Y from by rw [← HS.out, if_pos hx])
            clear HS
            generalize dirN z = y at *
            go_wp2_with fail
            refine (HD.out _).mono ?_
            rintro e w1 ⟨rfl, rfl⟩
            go_wp2_with fail
            refine (HD.out _).mono ?_
            rintro e w1 ⟨rfl, rfl⟩
            go_wp2_with fail
            go_ret2
            exact ⟨by rw [HE.out, HE0.out]; rfl, rfl⟩
          · have hbx : decide (0 ≤ dirN z) = false := decide_eq_false hx
            have HE := Lib.hid (show nextN b (T.drop (k + 1)) = Y from by rw [← HS.out, if_neg hx])
            clear HS
            generalize dirN z = y at *
            go_wp2_with fail
            refine (HD.out _).mono ?_
            rintro e w1 ⟨rfl, rfl⟩
            go_wp2
            go_roundw
            case rel => exact ⟨k + 1, by omega, by omega, by go_num, rfl, HE.out, by first | rfl | trivial⟩
            case measure => simp [RowKit.intOf]; omega
        · obtain rfl : k = n := by omega
          have HE := Lib.hid (show b = Y from by rw [← HYK.out, nextN_done (by rw [HL.out]; exact Nat.le_refl _)])
          clear HYK
          go_wp2_with fail
          go_ret2
          exact ⟨by rw [HE.out, HE0.out]; rfl, rfl⟩
    · obtain ⟨j, rfl⟩ : ∃ j : Nat, y = j := ⟨y.toNat, by omega⟩
      have hjz : j < T.length := by rw [HL.out]; omega
      obtain ⟨g, off, rfl, hc⟩ := HA.out.at_ hjz
      have HS := Lib.hid (show (if 0 ≤ dirN T[j] then dirN T[j] else lastN s (T.take j)) = X from by rw [← lastN_take hjz]; exact hx)
      generalize T[j] = z at *
      have HD := Lib.hid (fun (W : World) => rdir_any z W)
      have hj0 : (0 : Int) ≤ (j : Int) := by omega
      have hjn : (j : Int) < (n : Int) := by omega
      clear hjz hx hneg hy1
      by_cases hq : 0 ≤ dirN z
      · have hbx : decide (0 ≤ dirN z) = true := decide_eq_true hq
        have HE0 := Lib.hid (show dirN z = X from by rw [← HS.out, if_pos hq])
        clear HS
        generalize dirN z = q at *
        go_wp2_with fail
        refine (HD.out _).mono ?_
        rintro e w1 ⟨rfl, rfl⟩
        go_wp2_with fail
        refine (HD.out _).mono ?_
        rintro e w1 ⟨rfl, rfl⟩
        clear hc HD hj0 hjn hbx hq
        go_wp2_with fail
        go_loopw [11, 13] (fun s11 s13 wx => ∃ k : Nat, k0 ≤ k ∧ k ≤ n ∧ s13 = .int .i64 k ∧ s11 = .int .i64 b ∧ nextN b (T.drop k) = Y ∧ wx = w1) (fun _ s13 _ => n - (RowKit.intOf s13).toNat)
        case atStart => exact ⟨k0, Nat.le_refl _, by omega, by first | rfl | go_num, rfl, HY.out, by first | rfl | trivial⟩
        case round =>
          obtain ⟨k, hk0, hk, rfl, rfl, hy, rfl⟩ := hrel
          have HYK := Lib.hid hy
          clear hy
          by_cases hlt : k < n
          · have hkz : k < T.length := by rw [HL.out]; exact hlt
            obtain ⟨g2, off2, e2, hc⟩ := HA.out.at_ hkz
            cases e2
            have HS := Lib.hid ((nextN_drop (b := b) hkz).symm.trans HYK.out)
            generalize T[k] = z at *
            have HD := Lib.hid (fun (W : World) => rdir_any z W)
            have hk1 : (0 : Int) ≤ (k : Int) := by omega
            have hk2 : (k : Int) < (n : Int) := by omega
            clear hkz HYK
            by_cases hx : 0 ≤ dirN z
            · have hbx : decide (0 ≤ dirN z) = true := decide_eq_true hx
              have HE := Lib.hid (show dirN z = Y from by rw [← HS.out, if_pos hx])
              clear HS
              generalize dirN z = y at *
              go_wp2_with fail
              refine (HD.out _).mono ?_
              rintro e w1 ⟨rfl, rfl⟩
              go_wp2_with fail
              refine (HD.out _).mono ?_
              rintro e w1 ⟨rfl, rfl⟩
              go_wp2_with fail
              go_ret2
              exact ⟨by rw [HE.out, HE0.out]; rfl, rfl⟩
            · have hbx : decide (0 ≤ dirN z) = false := decide_eq_false hx
              have HE := Lib.hid (show nextN b (T.drop (k + 1)) = Y from by rw [← HS.out, if_neg hx])
              clear HS
              generalize dirN z = y at *
              go_wp2_with fail
              refine (HD.out _).mono ?_
              rintro e w1 ⟨rfl, rfl⟩
              go_wp2
              go_roundw
              case rel => exact ⟨k + 1, by omega, by omega, by go_num, rfl, HE.out, by first | rfl | trivial⟩
              case measure => simp [RowKit.intOf]; omega
          · obtain rfl : k = n := by omega
            have HE := Lib.hid (show b = Y from by rw [← HYK.out, nextN_done (by rw [HL.out]; exact Nat.le_refl _)])
            clear HYK
            go_wp2_with fail
            go_ret2
            exact ⟨by rw [HE.out, HE0.out]; rfl, rfl⟩
      · have hbx : decide (0 ≤ dirN z) = false := decide_eq_false hq
        have HE := Lib.hid (show lastN s (T.take j) = X from by rw [← HS.out, if_neg hq])
        clear HS
        generalize dirN z = q at *
        go_wp2_with fail
        refine (HD.out _).mono ?_
        rintro e w1 ⟨rfl, rfl⟩
        go_wp2
        go_roundw
        case rel => exact ⟨(j : Int) - 1, by omega, by omega, by go_num, rfl, by rw [show (((j : Int) - 1 + 1).toNat) = j by omega]; exact HE.out, by first | rfl | trivial⟩
        case measure => first | (simp [RowKit.intOf]; done) | (simp [RowKit.intOf]; omega)


set_option maxHeartbeats 4000000 in
set_option maxRecDepth 100000 in
theorem rsettle_any (A0 : Option Addr) (T : List Int) (n cp : Nat) (l s b : Int) (w : World) (hA : IntsAt w A0 T) (hl : T.length = n) (hn : n ≤ 1099511627776) :
    Calls Tryd.prog 12 #[.slice A0 n cp, .int .i64 l, .int .i64 s, .int .i64 b] w fun e w' => ∃ A c, e = .returned (.slice A n c) ∧ w'.ownsRow w.heap.size 3 1 (.slice A n c) n (icl (settleN l b s T)) ∧ Below w.heap.size w w' := by
  have HA := Lib.hid hA
  have HL0 := Lib.hid hl
  have HL := Lib.hid (show (settleN l b s T).length = n from by rw [settle_len, hl])
  have HAR := Lib.hid (fun (k : Nat) (V : World) (h : k < n) (hb : Below w.heap.size w V) => raround_any A0 T n cp k s b V (hA.below hb) hl hn h)
  clear hA hl
  go_enter Tryd.func12, Tryd.ntmps12
  go_wp2_with fail
  go_loopw [9, 10] (fun s9 s10 wx => ∃ k : Nat, k ≤ n ∧ s10 = .int .i64 k ∧ wx.ownsRow w.heap.size 3 1 s9 k (icl ((settleN l b s T).take k)) ∧ Below w.heap.size w wx) (fun _ s10 _ => n - (RowKit.intOf s10).toNat)
  case atStart => exact ⟨0, Nat.zero_le _, rfl, World.ownsRow_nil _ _ _ _, Below.refl _ _⟩
  case round =>
    obtain ⟨k, hk, rfl, hown, hb⟩ := hrel
    have HO := Lib.hid hown
    have HB := Lib.hid hb
    clear hown
    by_cases hlt : k < n
    · have hkz : k < T.length := by rw [HL0.out]; exact hlt
      obtain ⟨g, off, rfl, hc⟩ := (HA.out.below hb).at_ hkz
      have HAT := Lib.hid (settle_snoc (l := l) (b := b) (a := s) hkz)
      generalize T[k] = z at *
      have HD := Lib.hid (fun (W : World) => rdir_any z W)
      have HA1 := Lib.hid (HAR.out k wr hlt hb)
      have hsz := HB.out.size
      have hk0 : (0 : Int) ≤ (k : Int) := by omega
      have hk1 : (k : Int) < (n : Int) := by omega
      clear hkz hb
      by_cases hq : 0 ≤ dirN z
      · have hbx : decide (dirN z < 0) = false := decide_eq_false (by omega)
        rw [if_pos hq] at HAT
        clear hq HA1
        generalize dirN z = q at *
        go_wp2_with fail
        refine (HD.out _).mono ?_
        rintro e w1 ⟨rfl, rfl⟩
        go_wp2_with (at_builtin; refine wpList_add rfl _ _ rfl w.heap.size _ k ((settleN l b s T).take k) rfl (ownsRow_below HO.out (below_made _ _)) (some ⟨w1.heap.size, 0, none⟩) 1 1 [(z : Int)] rfl (made_ints [(z : Int)] _ _ _ rfl) rfl (by omega) (by simp; omega) ?_)
        intro v' w2 hown2 hb2
        have hb3 := (HB.out.trans ((below_made w1 (.cells #[.int .i64 (z)] 3)).mono hsz)).trans hb2
        have HO2 := Lib.hid (show w2.ownsRow w.heap.size 3 1 v' (k + 1) (icl ((settleN l b s T).take (k + 1))) from by rw [HAT.out]; exact hown2)
        have HB2 := Lib.hid hb3
        clear hown2 hb2 hb3
        go_wp2_with fail
        go_roundw
        case rel => exact ⟨k + 1, by omega, by go_num, HO2.out, HB2.out⟩
        case measure => simp [RowKit.intOf]; omega
      · have hbx : decide (dirN z < 0) = true := decide_eq_true (by omega)
        rw [if_neg hq] at HAT
        clear hq
        generalize dirN z = q at *
        generalize lastN s (T.take (k + 1)) = x at *
        generalize nextN b (T.drop k) = y at *
        go_wp2_with fail
        refine (HD.out _).mono ?_
        rintro e w1 ⟨rfl, rfl⟩
        go_wp2_with fail
        refine HA1.out.mono ?_
        rintro e w1 ⟨rfl, rfl⟩
        clear HA1
        by_cases hxy : x = y
        · subst hxy
          rw [show fillN l x x = x from if_pos rfl] at HAT
          go_wp2_with (at_builtin; refine wpList_add rfl _ _ rfl w.heap.size _ k ((settleN l b s T).take k) rfl (ownsRow_below HO.out (below_made _ _)) (some ⟨w1.heap.size, 0, none⟩) 1 1 [(x : Int)] rfl (made_ints [(x : Int)] _ _ _ rfl) rfl (by omega) (by simp; omega) ?_)
          intro v' w2 hown2 hb2
          have hb3 := (HB.out.trans ((below_made w1 (.cells #[.int .i64 (x)] 3)).mono hsz)).trans hb2
          have HO2 := Lib.hid (show w2.ownsRow w.heap.size 3 1 v' (k + 1) (icl ((settleN l b s T).take (k + 1))) from by rw [HAT.out]; exact hown2)
          have HB2 := Lib.hid hb3
          clear hown2 hb2 hb3
          go_wp2_with fail
          go_roundw
          case rel => exact ⟨k + 1, by omega, by go_num, HO2.out, HB2.out⟩
          case measure => simp [RowKit.intOf]; omega
        · have b1 : (x != y) = true := bne_iff_ne.2 hxy
          rw [show fillN l x y = lvN l from if_neg hxy] at HAT
          clear hxy
          by_cases hm : l.tmod 2 = 0
          · have m1 : (l.tmod 2 != 0) = false := by simpa using hm
            rw [show lvN l = 0 from if_pos hm] at HAT
            clear hm
            go_wp2_with (at_builtin; refine wpList_add rfl _ _ rfl w.heap.size _ k ((settleN l b s T).take k) rfl (ownsRow_below HO.out (below_made _ _)) (some ⟨w1.heap.size, 0, none⟩) 1 1 [(0 : Int)] rfl (made_ints [(0 : Int)] _ _ _ rfl) rfl (by omega) (by simp; omega) ?_)
            intro v' w2 hown2 hb2
            have hb3 := (HB.out.trans ((below_made w1 (.cells #[.int .i64 (0)] 3)).mono hsz)).trans hb2
            have HO2 := Lib.hid (show w2.ownsRow w.heap.size 3 1 v' (k + 1) (icl ((settleN l b s T).take (k + 1))) from by rw [HAT.out]; exact hown2)
            have HB2 := Lib.hid hb3
            clear hown2 hb2 hb3
            go_wp2_with fail
            go_roundw
            case rel => exact ⟨k + 1, by omega, by go_num, HO2.out, HB2.out⟩
            case measure => simp [RowKit.intOf]; omega
          · have m1 : (l.tmod 2 != 0) = true := bne_iff_ne.2 hm
            rw [show lvN l = 1 from if_neg hm] at HAT
            clear hm
            go_wp2_with (at_builtin; refine wpList_add rfl _ _ rfl w.heap.size _ k ((settleN l b s T).take k) rfl (ownsRow_below HO.out (below_made _ _)) (some ⟨w1.heap.size, 0, none⟩) 1 1 [(1 : Int)] rfl (made_ints [(1 : Int)] _ _ _ rfl) rfl (by omega) (by simp; omega) ?_)
            intro v' w2 hown2 hb2
            have hb3 := (HB.out.trans ((below_made w1 (.cells #[.int .i64 (1)] 3)).mono hsz)).trans hb2
            have HO2 := Lib.hid (show w2.ownsRow w.heap.size 3 1 v' (k + 1) (icl ((settleN l b s T).take (k + 1))) from by rw [HAT.out]; exact hown2)
            have HB2 := Lib.hid hb3
            clear hown2 hb2 hb3
            go_wp2_with fail
            go_roundw
            case rel => exact ⟨k + 1, by omega, by go_num, HO2.out, HB2.out⟩
            case measure => simp [RowKit.intOf]; omega
    · obtain rfl : k = n := by omega
      rw [List.take_of_length_le (by rw [HL.out]; exact Nat.le_refl _)] at HO
      obtain ⟨A, c, rfl, -⟩ := intsAt_icl HO.out HL.out
      clear hb
      go_wp2_with fail
      go_ret
      exact ⟨A, c, rfl, HO.out, HB.out⟩
end Go.Proofs.YtkhhfodbldemeaaDoor.Ne
