/-
  Proved here: for all three rows of numbers and any two directions PairsTurn returns true (with L and R exchanged, in the classes, ahead, and by the level, classes without numbers become what they did, exchanged, where each row has at most 300), and the rows stay. Conditions: the package variables that the row lists hold what the program's text lays (the card ties them).
-/
import Derived.Test.YtapeebnbiappgaaDoorPbLaw
import Derived.Test.YtapeebnbiappgaaDoorPbTurned
import Derived.Test.YtapeebnbiappgaaDoorPbLike
import Derived.Test.YtapeebnbiappgaaDoorLawInts
import Derived.Test.YtapeebnbiappgaaDoorClLaid
import Derived.Test.YtapeebnbiappgaaDoorTie
import Derived.Test.YtapeebnbiappgaaDoorCards
set_option linter.unusedVariables false
namespace Go.Proofs.YtapeebnbiappgaaDoor.PairsTurn
open Go Go.ChangeShapes Go.WideShapes Go.ChangeAt Go.RowKit Go.Lib Go.Proofs.YtapeebnbiappgaaDoor.Cl Go.Proofs.YtapeebnbiappgaaDoor.Pr Go.Proofs.YtapeebnbiappgaaDoor.Pb

theorem like_n (A B : Option Addr) (zs : List Int) (n c d : Nat) (w : World) (hl : zs.length = n) (ha : IntsAt w A zs) (hb : IntsAt w B zs) (hn : n ≤ 1099511627776) :
    Calls Tryd.prog 18 #[.slice A n c, .slice B n d] w fun e w' => e = .returned (.bool true) ∧ Below w.heap.size w w' := by
  subst hl
  exact like_ints A B zs c d w ha hb hn
theorem nonum_take {T : List Int} {k : Nat} (hk : k < T.length) (h : NoNum (T.take k)) (h3 : T[k] ≠ 3) (h6 : T[k] ≠ 6) : NoNum (T.take (k + 1)) := by
  intro c hc
  rw [List.take_succ_eq_append_getElem hk] at hc
  rcases List.mem_append.1 hc with hc | hc
  · exact h c hc
  · obtain rfl : c = T[k] := by simpa using hc
    exact ⟨h3, h6⟩

set_option maxHeartbeats 8000000 in
set_option maxRecDepth 100000 in
theorem walk_n (w : World) (hH : Held w) (A : Option Addr) (T : List Int) (n ca : Nat) (hA : IntsAt w A T) (hlT : T.length = n) (B : Option Addr) (C : List Int) (m cb : Nat) (hB : IntsAt w B C) (hlC : C.length = m) (D : Option Addr) (O : List Int) (q cd : Nat) (hD : IntsAt w D O) (hlO : O.length = q) (r a : Bool) :
    Calls Tryd.prog 7 #[.slice A n ca, .slice B m cb, .slice D q cd, .bool r, .bool a] w fun e w' => e = .returned (.bool true) ∧ Below w.heap.size w w' := by
  by_cases h0 : 300 < n
  · have d0 : decide ((300 : Int) < (n : Int)) = true := decide_eq_true (by omega)
    have d1 : decide (300 < n) = true := decide_eq_true h0
    go_enter Tryd.func7, Tryd.ntmps7
    go_wp2_with (go_at_call 8; refine (awake_any _ hH).mono ?_; rintro e w' ⟨rfl, hb⟩)
    go_ret
    exact ⟨rfl, hb⟩
  · have d0 : decide ((300 : Int) < (n : Int)) = false := decide_eq_false (by omega)
    have d1 : decide (300 < n) = false := decide_eq_false h0
    by_cases h1 : 300 < m
    · have d2 : decide ((300 : Int) < (m : Int)) = true := decide_eq_true (by omega)
      have d3 : decide (300 < m) = true := decide_eq_true h1
      go_enter Tryd.func7, Tryd.ntmps7
      go_wp2_with (go_at_call 8; refine (awake_any _ hH).mono ?_; rintro e w' ⟨rfl, hb⟩)
      go_ret
      exact ⟨rfl, hb⟩
    · have d2 : decide ((300 : Int) < (m : Int)) = false := decide_eq_false (by omega)
      have d3 : decide (300 < m) = false := decide_eq_false h1
      by_cases h2 : 300 < q
      · have d4 : decide ((300 : Int) < (q : Int)) = true := decide_eq_true (by omega)
        have d5 : decide (300 < q) = true := decide_eq_true h2
        go_enter Tryd.func7, Tryd.ntmps7
        go_wp2_with (go_at_call 8; refine (awake_any _ hH).mono ?_; rintro e w' ⟨rfl, hb⟩)
        go_ret
        exact ⟨rfl, hb⟩
      · have d4 : decide ((300 : Int) < (q : Int)) = false := decide_eq_false (by omega)
        have d5 : decide (300 < q) = false := decide_eq_false h2
        have HH := Lib.hid hH
        have HA := Lib.hid hA
        have HB := Lib.hid hB
        have HD := Lib.hid hD
        have HLT := Lib.hid hlT
        have HLC := Lib.hid hlC
        have HLO := Lib.hid hlO
        clear hH hA hB hD hlT hlC hlO
        go_enter Tryd.func7, Tryd.ntmps7
        go_wp2_with fail
        go_loopw [11] (fun s11 wx => ∃ k : Nat, k ≤ n ∧ s11 = .int .i64 k ∧ NoNum (T.take k) ∧ wx = w) (fun s11 _ => n - (RowKit.intOf s11).toNat)
        case atStart => exact ⟨0, Nat.zero_le _, rfl, fun c hc => by simp at hc, rfl⟩
        case round =>
          obtain ⟨k, hk, rfl, hno, rfl⟩ := hrel
          have HNO := Lib.hid hno
          clear hno
          by_cases hlt : k < n
          · have hkz : k < T.length := by rw [HLT.out]; exact hlt
            obtain ⟨g, off, rfl, hc⟩ := HA.out.at_ hkz
            have HNX := Lib.hid (fun h3 h6 => nonum_take hkz HNO.out h3 h6)
            generalize T[k] = z at *
            have hk0 : (0 : Int) ≤ (k : Int) := by omega
            have hk1 : (k : Int) < (n : Int) := by omega
            clear hkz
            by_cases h3 : z = 3
            · subst h3
              clear HNX
              go_wp2_with fail
              refine (awake_any _ HH.out).mono ?_
              rintro e w2 ⟨rfl, hb⟩
              go_wp2
              go_ret
              exact ⟨rfl, hb⟩
            · have b3 : (z == 3) = false := beq_eq_false_iff_ne.2 h3
              by_cases h6 : z = 6
              · subst h6
                clear HNX h3
                go_wp2_with fail
                refine (awake_any _ HH.out).mono ?_
                rintro e w2 ⟨rfl, hb⟩
                go_wp2
                go_ret
                exact ⟨rfl, hb⟩
              · have b6 : (z == 6) = false := beq_eq_false_iff_ne.2 h6
                have HN2 := Lib.hid (HNX.out h3 h6)
                clear HNX h3 h6
                go_wp2
                go_roundw
                case rel => exact ⟨k + 1, by omega, by go_num, HN2.out, by first | rfl | trivial⟩
                case measure => simp [RowKit.intOf]; omega
          · obtain rfl : k = n := by omega
            have HNN := Lib.hid (show NoNum T from by
              have h := HNO.out
              rwa [List.take_of_length_le (by rw [HLT.out]; exact Nat.le_refl _)] at h)
            clear HNO hlt hk
            cases r with
            | false =>
              cases a with
              | false =>
                have HT2 := Lib.hid (settle_turn HNN.out C O (level := 0) (by decide) 0)
                have HSL := Lib.hid (show (settleZ T C O 0 0).length ≤ 300 from by
                  by_cases h : T.length = C.length ∧ O.length = C.length
                  · rw [settleZ_len 0 0 h.1 h.2, HLT.out]; omega
                  · rw [settle_unlike 0 0 h]; simp)
                have HB1 := Lib.hid (brackets_any A B D T C O k m q ca cb cd 0 0 wr HA.out HB.out HD.out HLT.out HLC.out HLO.out (by omega))
                have HB2 := Lib.hid (fun (V : World) (A2 : Option Addr) (c2 : Nat) (h : IntsAt V A2 (T.map turnZ)) (hb : Below wr.heap.size wr V) => brackets_any A2 B D (T.map turnZ) C O k m q c2 cb cd (1 - 0) (1 - 0) V h (HB.out.below hb) (HD.out.below hb) (by rw [List.length_map, HLT.out]) HLC.out HLO.out (by omega))
                rw [HT2.out, List.length_map] at HB2
                generalize settleZ T C O 0 0 = S at *
                obtain ⟨p, hp⟩ : ∃ p, S.length = p := ⟨_, rfl⟩
                have HP := Lib.hid hp
                rw [hp] at HB1 HB2 HSL
                clear hp HT2
                go_wp2_with fail
                refine HB1.out.mono ?_
                rintro e w1 ⟨A1, c1, rfl, hown, hb⟩
                have HBL1 := Lib.hid hb
                have HO1 := Lib.hid (ints_of hown HP.out)
                have HTU := Lib.hid (turned_any A T k ca w1 (HA.out.below hb) HLT.out (by omega))
                clear hown hb HB1
                go_wp2_with fail
                refine HTU.out.mono ?_
                rintro e w2 ⟨A2, c2, rfl, hown, hb⟩
                have HBL2 := Lib.hid (bt HBL1.out hb)
                have HO2 := Lib.hid (HO1.out.below hb)
                have HBB := Lib.hid (HB2.out w2 A2 c2 (ints_of hown (by rw [List.length_map, HLT.out])) HBL2.out)
                clear hown hb HTU HB2
                go_wp2_with fail
                refine HBB.out.mono ?_
                rintro e w3 ⟨A3, c3, rfl, hown, hb⟩
                have HBL3 := Lib.hid (bt HBL2.out hb)
                have HO3 := Lib.hid (ints_of hown (by rw [List.length_map, HP.out]))
                have HTU := Lib.hid (turned_any A1 S p c1 w3 (HO2.out.below hb) HP.out (by have := HSL.out; omega))
                clear hown hb HBB
                go_wp2_with fail
                refine HTU.out.mono ?_
                rintro e w4 ⟨A4, c4, rfl, hown, hb⟩
                have HBL4 := Lib.hid (bt HBL3.out hb)
                have HLK := Lib.hid (like_n A4 A3 (S.map turnZ) p c4 c3 w4 (by rw [List.length_map, HP.out]) (ints_of hown (by rw [List.length_map, HP.out])) (HO3.out.below hb) (by have := HSL.out; omega))
                clear hown hb HTU
                go_wp2_with fail
                refine HLK.out.mono ?_
                rintro e w5 ⟨rfl, hb⟩
                have HBL5 := Lib.hid (bt HBL4.out hb)
                have HH5 := Lib.hid (HH.out.below HBL5.out)
                clear hb HLK
                go_wp2_with fail
                refine (awake_any w5 HH5.out).mono ?_
                rintro e w6 ⟨rfl, hb⟩
                have HBL6 := Lib.hid (bt HBL5.out hb)
                clear hb
                go_wp2
                go_ret
                exact ⟨rfl, HBL6.out⟩
              | true =>
                have HT2 := Lib.hid (settle_turn HNN.out C O (level := 0) (by decide) 1)
                have HSL := Lib.hid (show (settleZ T C O 0 1).length ≤ 300 from by
                  by_cases h : T.length = C.length ∧ O.length = C.length
                  · rw [settleZ_len 0 1 h.1 h.2, HLT.out]; omega
                  · rw [settle_unlike 0 1 h]; simp)
                have HB1 := Lib.hid (brackets_any A B D T C O k m q ca cb cd 0 1 wr HA.out HB.out HD.out HLT.out HLC.out HLO.out (by omega))
                have HB2 := Lib.hid (fun (V : World) (A2 : Option Addr) (c2 : Nat) (h : IntsAt V A2 (T.map turnZ)) (hb : Below wr.heap.size wr V) => brackets_any A2 B D (T.map turnZ) C O k m q c2 cb cd (1 - 0) (1 - 1) V h (HB.out.below hb) (HD.out.below hb) (by rw [List.length_map, HLT.out]) HLC.out HLO.out (by omega))
                rw [HT2.out, List.length_map] at HB2
                generalize settleZ T C O 0 1 = S at *
                obtain ⟨p, hp⟩ : ∃ p, S.length = p := ⟨_, rfl⟩
                have HP := Lib.hid hp
                rw [hp] at HB1 HB2 HSL
                clear hp HT2
                go_wp2_with fail
                refine HB1.out.mono ?_
                rintro e w1 ⟨A1, c1, rfl, hown, hb⟩
                have HBL1 := Lib.hid hb
                have HO1 := Lib.hid (ints_of hown HP.out)
                have HTU := Lib.hid (turned_any A T k ca w1 (HA.out.below hb) HLT.out (by omega))
                clear hown hb HB1
                go_wp2_with fail
                refine HTU.out.mono ?_
                rintro e w2 ⟨A2, c2, rfl, hown, hb⟩
                have HBL2 := Lib.hid (bt HBL1.out hb)
                have HO2 := Lib.hid (HO1.out.below hb)
                have HBB := Lib.hid (HB2.out w2 A2 c2 (ints_of hown (by rw [List.length_map, HLT.out])) HBL2.out)
                clear hown hb HTU HB2
                go_wp2_with fail
                refine HBB.out.mono ?_
                rintro e w3 ⟨A3, c3, rfl, hown, hb⟩
                have HBL3 := Lib.hid (bt HBL2.out hb)
                have HO3 := Lib.hid (ints_of hown (by rw [List.length_map, HP.out]))
                have HTU := Lib.hid (turned_any A1 S p c1 w3 (HO2.out.below hb) HP.out (by have := HSL.out; omega))
                clear hown hb HBB
                go_wp2_with fail
                refine HTU.out.mono ?_
                rintro e w4 ⟨A4, c4, rfl, hown, hb⟩
                have HBL4 := Lib.hid (bt HBL3.out hb)
                have HLK := Lib.hid (like_n A4 A3 (S.map turnZ) p c4 c3 w4 (by rw [List.length_map, HP.out]) (ints_of hown (by rw [List.length_map, HP.out])) (HO3.out.below hb) (by have := HSL.out; omega))
                clear hown hb HTU
                go_wp2_with fail
                refine HLK.out.mono ?_
                rintro e w5 ⟨rfl, hb⟩
                have HBL5 := Lib.hid (bt HBL4.out hb)
                have HH5 := Lib.hid (HH.out.below HBL5.out)
                clear hb HLK
                go_wp2_with fail
                refine (awake_any w5 HH5.out).mono ?_
                rintro e w6 ⟨rfl, hb⟩
                have HBL6 := Lib.hid (bt HBL5.out hb)
                clear hb
                go_wp2
                go_ret
                exact ⟨rfl, HBL6.out⟩
            | true =>
              cases a with
              | false =>
                have HT2 := Lib.hid (settle_turn HNN.out C O (level := 1) (by decide) 0)
                have HSL := Lib.hid (show (settleZ T C O 1 0).length ≤ 300 from by
                  by_cases h : T.length = C.length ∧ O.length = C.length
                  · rw [settleZ_len 1 0 h.1 h.2, HLT.out]; omega
                  · rw [settle_unlike 1 0 h]; simp)
                have HB1 := Lib.hid (brackets_any A B D T C O k m q ca cb cd 1 0 wr HA.out HB.out HD.out HLT.out HLC.out HLO.out (by omega))
                have HB2 := Lib.hid (fun (V : World) (A2 : Option Addr) (c2 : Nat) (h : IntsAt V A2 (T.map turnZ)) (hb : Below wr.heap.size wr V) => brackets_any A2 B D (T.map turnZ) C O k m q c2 cb cd (1 - 1) (1 - 0) V h (HB.out.below hb) (HD.out.below hb) (by rw [List.length_map, HLT.out]) HLC.out HLO.out (by omega))
                rw [HT2.out, List.length_map] at HB2
                generalize settleZ T C O 1 0 = S at *
                obtain ⟨p, hp⟩ : ∃ p, S.length = p := ⟨_, rfl⟩
                have HP := Lib.hid hp
                rw [hp] at HB1 HB2 HSL
                clear hp HT2
                go_wp2_with fail
                refine HB1.out.mono ?_
                rintro e w1 ⟨A1, c1, rfl, hown, hb⟩
                have HBL1 := Lib.hid hb
                have HO1 := Lib.hid (ints_of hown HP.out)
                have HTU := Lib.hid (turned_any A T k ca w1 (HA.out.below hb) HLT.out (by omega))
                clear hown hb HB1
                go_wp2_with fail
                refine HTU.out.mono ?_
                rintro e w2 ⟨A2, c2, rfl, hown, hb⟩
                have HBL2 := Lib.hid (bt HBL1.out hb)
                have HO2 := Lib.hid (HO1.out.below hb)
                have HBB := Lib.hid (HB2.out w2 A2 c2 (ints_of hown (by rw [List.length_map, HLT.out])) HBL2.out)
                clear hown hb HTU HB2
                go_wp2_with fail
                refine HBB.out.mono ?_
                rintro e w3 ⟨A3, c3, rfl, hown, hb⟩
                have HBL3 := Lib.hid (bt HBL2.out hb)
                have HO3 := Lib.hid (ints_of hown (by rw [List.length_map, HP.out]))
                have HTU := Lib.hid (turned_any A1 S p c1 w3 (HO2.out.below hb) HP.out (by have := HSL.out; omega))
                clear hown hb HBB
                go_wp2_with fail
                refine HTU.out.mono ?_
                rintro e w4 ⟨A4, c4, rfl, hown, hb⟩
                have HBL4 := Lib.hid (bt HBL3.out hb)
                have HLK := Lib.hid (like_n A4 A3 (S.map turnZ) p c4 c3 w4 (by rw [List.length_map, HP.out]) (ints_of hown (by rw [List.length_map, HP.out])) (HO3.out.below hb) (by have := HSL.out; omega))
                clear hown hb HTU
                go_wp2_with fail
                refine HLK.out.mono ?_
                rintro e w5 ⟨rfl, hb⟩
                have HBL5 := Lib.hid (bt HBL4.out hb)
                have HH5 := Lib.hid (HH.out.below HBL5.out)
                clear hb HLK
                go_wp2_with fail
                refine (awake_any w5 HH5.out).mono ?_
                rintro e w6 ⟨rfl, hb⟩
                have HBL6 := Lib.hid (bt HBL5.out hb)
                clear hb
                go_wp2
                go_ret
                exact ⟨rfl, HBL6.out⟩
              | true =>
                have HT2 := Lib.hid (settle_turn HNN.out C O (level := 1) (by decide) 1)
                have HSL := Lib.hid (show (settleZ T C O 1 1).length ≤ 300 from by
                  by_cases h : T.length = C.length ∧ O.length = C.length
                  · rw [settleZ_len 1 1 h.1 h.2, HLT.out]; omega
                  · rw [settle_unlike 1 1 h]; simp)
                have HB1 := Lib.hid (brackets_any A B D T C O k m q ca cb cd 1 1 wr HA.out HB.out HD.out HLT.out HLC.out HLO.out (by omega))
                have HB2 := Lib.hid (fun (V : World) (A2 : Option Addr) (c2 : Nat) (h : IntsAt V A2 (T.map turnZ)) (hb : Below wr.heap.size wr V) => brackets_any A2 B D (T.map turnZ) C O k m q c2 cb cd (1 - 1) (1 - 1) V h (HB.out.below hb) (HD.out.below hb) (by rw [List.length_map, HLT.out]) HLC.out HLO.out (by omega))
                rw [HT2.out, List.length_map] at HB2
                generalize settleZ T C O 1 1 = S at *
                obtain ⟨p, hp⟩ : ∃ p, S.length = p := ⟨_, rfl⟩
                have HP := Lib.hid hp
                rw [hp] at HB1 HB2 HSL
                clear hp HT2
                go_wp2_with fail
                refine HB1.out.mono ?_
                rintro e w1 ⟨A1, c1, rfl, hown, hb⟩
                have HBL1 := Lib.hid hb
                have HO1 := Lib.hid (ints_of hown HP.out)
                have HTU := Lib.hid (turned_any A T k ca w1 (HA.out.below hb) HLT.out (by omega))
                clear hown hb HB1
                go_wp2_with fail
                refine HTU.out.mono ?_
                rintro e w2 ⟨A2, c2, rfl, hown, hb⟩
                have HBL2 := Lib.hid (bt HBL1.out hb)
                have HO2 := Lib.hid (HO1.out.below hb)
                have HBB := Lib.hid (HB2.out w2 A2 c2 (ints_of hown (by rw [List.length_map, HLT.out])) HBL2.out)
                clear hown hb HTU HB2
                go_wp2_with fail
                refine HBB.out.mono ?_
                rintro e w3 ⟨A3, c3, rfl, hown, hb⟩
                have HBL3 := Lib.hid (bt HBL2.out hb)
                have HO3 := Lib.hid (ints_of hown (by rw [List.length_map, HP.out]))
                have HTU := Lib.hid (turned_any A1 S p c1 w3 (HO2.out.below hb) HP.out (by have := HSL.out; omega))
                clear hown hb HBB
                go_wp2_with fail
                refine HTU.out.mono ?_
                rintro e w4 ⟨A4, c4, rfl, hown, hb⟩
                have HBL4 := Lib.hid (bt HBL3.out hb)
                have HLK := Lib.hid (like_n A4 A3 (S.map turnZ) p c4 c3 w4 (by rw [List.length_map, HP.out]) (ints_of hown (by rw [List.length_map, HP.out])) (HO3.out.below hb) (by have := HSL.out; omega))
                clear hown hb HTU
                go_wp2_with fail
                refine HLK.out.mono ?_
                rintro e w5 ⟨rfl, hb⟩
                have HBL5 := Lib.hid (bt HBL4.out hb)
                have HH5 := Lib.hid (HH.out.below HBL5.out)
                clear hb HLK
                go_wp2_with fail
                refine (awake_any w5 HH5.out).mono ?_
                rintro e w6 ⟨rfl, hb⟩
                have HBL6 := Lib.hid (bt HBL5.out hb)
                clear hb
                go_wp2
                go_ret
                exact ⟨rfl, HBL6.out⟩
theorem walk (w : World) (hH : Held w) (A : Option Addr) (T : List Int) (ca : Nat) (hA : IntsAt w A T) (_ : A = none → T = [] ∧ ca = 0) (_ : T.length ≤ 9223372036854775807) (_ : ∀ z ∈ T, -9223372036854775808 ≤ z ∧ z ≤ 9223372036854775807) (B : Option Addr) (C : List Int) (cb : Nat) (hB : IntsAt w B C) (_ : B = none → C = [] ∧ cb = 0) (_ : C.length ≤ 9223372036854775807) (_ : ∀ z ∈ C, -9223372036854775808 ≤ z ∧ z ≤ 9223372036854775807) (D : Option Addr) (O : List Int) (cd : Nat) (hD : IntsAt w D O) (_ : D = none → O = [] ∧ cd = 0) (_ : O.length ≤ 9223372036854775807) (_ : ∀ z ∈ O, -9223372036854775808 ≤ z ∧ z ≤ 9223372036854775807) (r a : Bool) :
    Calls Tryd.prog 7 #[.slice A T.length ca, .slice B C.length cb, .slice D O.length cd, .bool r, .bool a] w fun e w' => e = .returned (.bool true) ∧ Below w.heap.size w w' :=
  walk_n w hH A T T.length ca hA rfl B C C.length cb hB rfl D O O.length cd hD rfl r a

set_option maxRecDepth 100000 in
theorem lifted (os : Os) (started : os.Started) (H : Type) (enc : TypeId × Value → H) :
    ReturnsInHanded {} Tryd.checked os 7 .any (fun w args => (Rows.pairsTurnSpec.pre enc Tryd.prog Tryd.f7 [] false w args ∧ laidMetH Tryd.prog laidL w) ∧ sizedMet enc Tryd.prog Tryd.f7 (OpenSpec.ofChange Rows.pairsTurnSpec) false w args) (Rows.pairsTurnSpec.post enc Tryd.prog Tryd.f7 false true false false) := by
  refine returns_laid started (by kernel_rfl) Tryd.func7 #[.slice none 0 0, .slice none 0 0, .slice none 0 0, .bool false, .bool false] (by kernel_rfl) (World.shaped_of_ZipB (by kernel_rfl) (by kernel_rfl)) (by rw [MakeChecks.laidMetH_plain _ _ _ (by kernel_rfl)]; exact laidMet_laidAll _ (by kernel_rfl) (by kernel_rfl)) (by kernel_rfl) (by kernel_rfl) rfl rfl (by kernel_rfl) ?_ ?_
  · intro ds hds
    rw [show Tryd.f7.params.toList.length = 5 from by kernel_rfl] at hds
    match ds, hds with
    | [d0, d1, d2, d3, d4], _ => rfl
  intro W base args ds p hval hA hH
  rw [Tryd.params7] at hA hval
  obtain ⟨v0, vs0, d0, ds0, p0, q0, hargs, rfl, rfl, h0, r0⟩ := ChangeShapes.trodAll_cons hA
  obtain ⟨v1, vs1, d1, ds1, p1, q1, rfl, rfl, rfl, h1, r1⟩ := ChangeShapes.trodAll_cons r0
  obtain ⟨v2, vs2, d2, ds2, p2, q2, rfl, rfl, rfl, h2, r2⟩ := ChangeShapes.trodAll_cons r1
  obtain ⟨v3, vs3, d3, ds3, p3, q3, rfl, rfl, rfl, h3, r3⟩ := ChangeShapes.trodAll_cons r2
  obtain ⟨v4, vs4, d4, ds4, p4, q4, rfl, rfl, rfl, h4, r4⟩ := ChangeShapes.trodAll_cons r3
  obtain ⟨rfl, rfl, rfl⟩ := ChangeShapes.trodAll_nil r4
  obtain rfl : args = #[v0, v1, v2, v3, v4] := by cases args; simp_all
  obtain ⟨A0, zs0, c0, rfl, hr0, hnil0, hl0, hz0⟩ := open_introw (hval 0 22 v0 rfl rfl) h0
  obtain ⟨A1, zs1, c1, rfl, hr1, hnil1, hl1, hz1⟩ := open_introw (hval 1 22 v1 rfl rfl) h1
  obtain ⟨A2, zs2, c2, rfl, hr2, hnil2, hl2, hz2⟩ := open_introw (hval 2 22 v2 rfl rfl) h2
  obtain ⟨x3, rfl, rfl, rfl⟩ := open_bool Tryd.underlying4 (hval 3 4 v3 rfl rfl) h3
  obtain ⟨x4, rfl, rfl, rfl⟩ := open_bool Tryd.underlying4 (hval 4 4 v4 rfl rfl) h4
  exact walk W hH A0 zs0 c0 hr0 hnil0 hl0 hz0 A1 zs1 c1 hr1 hnil1 hl1 hz1 A2 zs2 c2 hr2 hnil2 hl2 hz2 x3 x4

theorem holds : Rows.PairsTurnSaid :=
  OpenClaim.holds_of_wide 7 Tryd.f7 rfl rfl rfl rfl rfl rfl rfl ⟨rfl, rfl, rfl, rfl, rfl⟩ rfl rfl rfl rfl rfl (by kernel_rfl) Tryd.func7 (by kernel_rfl)
    (of_decide_eq_true (by kernel_rfl)) (by unfold Func.isWrapper; first | (rw [if_pos (by decide +kernel)]; kernel_rfl) | (rw [if_neg (by decide +kernel)]; exact ⟨rfl, rfl⟩))
    (fun os started H enc _ => lifted os started H enc)

theorem card : Rows.PairsTurnCardSaid :=
  Claim7.holds_tied_plain_at .later [] [.data, .data, .pinned] true (true, "5ab8faf20a61821e78c39df3730befa666d67ea68e19ab1afc714c671500d4f5") false
    holds (fun _ h => by cases h) (by kernel_rfl) (fun _ h => by cases h) pairsTurn_row_tie rfl ⟨rfl, rfl⟩ (by kernel_rfl) rfl
    (fun f fn hf hfn => by
      obtain rfl : f = 7 := Option.some.inj ((show Tryd.prog.funcNamed "parquetry/parquetrylaw14.PairsTurn" = some 7 by kernel_rfl).symm.trans hf) |>.symm
      obtain rfl : fn = Tryd.f7 := (Option.some.inj (Tryd.func7.symm.trans hfn)).symm
      exact ⟨by kernel_rfl, fun j t ht => by
        rw [Tryd.params7] at ht
        have hm : t ∈ [22, 4] := by simpa using Array.mem_of_getElem? ht
        have hall : ([22, 4].all fun u => !Tryd.prog.wantsStandIn u) = true := by kernel_rfl
        exact (show Tryd.prog.wantsStandIn t = false by simpa using List.all_eq_true.1 hall t hm)⟩)
    (by kernel_rfl)
end Go.Proofs.YtapeebnbiappgaaDoor.PairsTurn
