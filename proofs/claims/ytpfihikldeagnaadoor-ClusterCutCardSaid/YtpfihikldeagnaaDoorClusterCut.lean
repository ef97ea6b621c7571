/-
  Proved here: for every text and number, ClusterCut returns true (wherever runes are cut ahead of a cluster, the clusters of both parts are those ahead of the cut, and those behind it; of at most 600 bytes), and they stay. Conditions: the package variable that the row lists holds what the program's text lays (the card ties it).
-/
import Derived.Test.YtpfihikldeagnaaDoorKuLaid
import Derived.Test.YtpfihikldeagnaaDoorKuCut
import Derived.Test.YtpfihikldeagnaaDoorTie
import Derived.Test.YtpfihikldeagnaaDoorCards
set_option linter.unusedVariables false
namespace Go.Proofs.YtpfihikldeagnaaDoor.ClusterCut
open Go.ChangeShapes Go.WideShapes Go.ChangeAt Go.RowKit Go.Lib Go.Proofs.YtpfihikldeagnaaDoor.Ku Go.Proofs.YtpfihikldeagnaaDoor.Arr

theorem and_range (x : Int) : ∃ q : Nat, q ≤ 65535 ∧ bits BinOp.and IntKind.i64 x 65535 = (q : Int) := by
  refine ⟨((BitVec.ofInt 64 x) &&& (BitVec.ofInt 64 65535)).toNat, ?_, ?_⟩
  · rw [BitVec.toNat_and]
    exact Nat.le_trans Nat.and_le_right (by decide)
  · have h : ((BitVec.ofInt 64 x) &&& (BitVec.ofInt 64 65535)).toNat ≤ 65535 := by
      rw [BitVec.toNat_and]
      exact Nat.le_trans Nat.and_le_right (by decide)
    show IntKind.i64.wrap ((((BitVec.ofInt 64 x) &&& (BitVec.ofInt 64 65535)).toNat : Nat) : Int) = _
    exact IntWalk.i64_in _ ⟨by omega, by omega⟩
theorem pick_range (x : Int) (n : Nat) (hn : 0 < n) : ∃ k : Nat, k < n ∧ (bits BinOp.and IntKind.i64 x 65535).tmod (n : Int) = (k : Int) := by
  obtain ⟨q, _, hq⟩ := and_range x
  rw [hq]
  exact ⟨q % n, Nat.mod_lt _ hn, rfl⟩

set_option maxHeartbeats 4000000 in
set_option maxRecDepth 100000 in
theorem walk (w : World) (hH : Held w) (s : ByteArray) (hs0 : s.size ≤ maxLen) (nn : Int) :
    Calls Tryd.prog 7 #[.string s, .int .i64 nn] w fun e w' => e = .returned (.bool true) ∧ Below w.heap.size w w' := by
  unfold maxLen at hs0
  have HH := Lib.hid hH
  clear hH
  by_cases hbig : 600 < s.size
  · go_enter Tryd.func7, Tryd.ntmps7
    go_wp2_with (go_at_call 8; refine (awake_any _ HH.out).mono ?_; rintro e w' ⟨rfl, hb⟩)
    go_ret
    exact ⟨rfl, hb⟩
  · have hch := Rn.chain_split s.data.toList.length s.data.toList 0 (Nat.le_refl _)
    rw [← Lib.size_eq, Nat.zero_add] at hch
    have hln := Rn.splitA_len s.data.toList.length s.data.toList 0 (Nat.le_refl _)
    rw [← Lib.size_eq] at hln
    have HSP := Lib.hid (fun W => Rn.split_reads s W (by omega))
    have hil := ints3_len (Rn.splitA s.data.toList 0)
    generalize Rn.splitA s.data.toList 0 = rs at *
    have HCUT := Lib.hid (cutOk rs s.size hch)
    have HRU := Lib.hid (fun W A (h : Rn.RunesAt W A rs) => ruAt_runes h)
    have hl6 : rs.length ≤ 600 := by omega
    rw [← hil] at HSP hl6
    generalize ints3 rs = l at *
    have hXl := ofC_len l
    have HPOS := Lib.hid (ofC_pos l)
    have HFT := Lib.hid (ofC_ft l)
    have HOF := Lib.hid (fun A c W h h2 => of_any A l c W h h2 (by omega))
    have HOFA := Lib.hid (fun m A c W h h2 => of_any A (l.take m) c W h h2 (by simp; omega))
    have HOFB := Lib.hid (fun m A c W h h2 => of_any A (l.drop m) c W h h2 (by simp; omega))
    clear hch hln hil
    go_enter Tryd.func7, Tryd.ntmps7
    go_wp2_with fail
    refine (HSP.out _).mono ?_
    rintro e w1 ⟨A, c, rfl, hr, hb1⟩
    have HR := Lib.hid (HRU.out _ _ hr)
    have HH1 := Lib.hid (HH.out.below hb1)
    have HB1 := Lib.hid hb1
    clear hr hb1 HRU HSP
    go_wp2_with fail
    refine (HOF.out _ _ _ HR.out HH1.out).mono ?_
    rintro e w2 ⟨v, rfl, hown, hb2⟩
    obtain ⟨B, d, rfl, hC⟩ := cuAt_own hown
    have HC := Lib.hid hC
    have HR2 := Lib.hid (HR.out.below hb2)
    have HH2 := Lib.hid (HH1.out.below hb2)
    have HB2 := Lib.hid (HB1.out.trans (hb2.mono HB1.out.size))
    clear hown hC hb2 HR HH1 HB1 HOF
    by_cases h0 : (ofC l).length = 0
    · have hl0 : l.length = 0 := by
        by_cases h : 0 < l.length
        · have := HPOS.out h
          omega
        · omega
      rw [h0] at *
      rw [hl0] at *
      go_wp2_with (go_at_call 8; refine (awake_any _ HH2.out).mono ?_; rintro e w' ⟨rfl, hb⟩)
      go_ret
      exact ⟨rfl, HB2.out.trans (hb.mono HB2.out.size)⟩
    · obtain ⟨k, hk, hpick⟩ := pick_range nn (ofC l).length (by omega)
      obtain ⟨m, hm, h1, h2, h3, h4, h5⟩ := HCUT.out k hk
      have HLT := Lib.hid h1
      have HLA := Lib.hid h2
      have HLB := Lib.hid h3
      have HEA := Lib.hid h4
      have HEB := Lib.hid h5
      clear h1 h2 h3 h4 h5 HCUT
      have hne : ¬ ((ofC l).length : Int) = 0 := by omega
      have hne2 : (((ofC l).length : Int) == 0) = false := by simpa using hne
      obtain ⟨i0, hi, hz0, hz1, hz2⟩ := Cl.info_parts infoR
      have HI := Lib.hid hi
      have HQ0 := Lib.hid hz0
      have HQ1 := Lib.hid hz1
      have HQ2 := Lib.hid hz2
      clear hi hz0 hz1 hz2
      go_wp2_with fail
      go_loopw [8, 9, 10] (fun s8 s9 s10 wx => ∃ i : Nat, i ≤ l.length ∧ s10 = .int .i64 i ∧ Below w2.heap.size w2 wx ∧ ((i ≤ m ∧ wx.ownsRow w2.heap.size 40 3 s8 i (cellsR (l.take i)) ∧ s9 = .slice none 0 0) ∨ (m < i ∧ ∃ (A1 : Option Addr) (c1 : Nat) (V2 : World), s8 = .slice A1 m c1 ∧ RuAt V2 A1 (l.take m) ∧ Below w2.heap.size w2 V2 ∧ Below V2.heap.size V2 wx ∧ wx.ownsRow V2.heap.size 40 3 s9 (i - m) (cellsR ((l.take i).drop m))))) (fun _ _ s10 _ => l.length - (RowKit.intOf s10).toNat)
      case atStart => exact ⟨0, Nat.zero_le _, rfl, Below.refl _ _, .inl ⟨Nat.zero_le _, World.ownsRow_nil _ _ _ _, rfl⟩⟩
      case round =>
        obtain ⟨i, hi, rfl, hbw, hph⟩ := hrel
        by_cases hlt : i < l.length
        · obtain ⟨bA, off, rfl, hbl, q0, q1, q2⟩ := (HR2.out.below hbw).at_ hlt
          obtain ⟨bX, oX, rfl, hblX, p0, p1, p2, p3, p4, p5⟩ := (HC.out.below hbw).at_ hk
          have dlt := HLT.out i hlt
          have hsn : cellsR (l.take (i + 1)) = cellsR (l.take i) ++ [.int .i64 (l[i]).1, .int .i64 (l[i]).2.1, .int .i64 (l[i]).2.2] := by
            rw [List.take_succ_eq_append_getElem hlt, cellsR_snoc]
          have hsd : m ≤ i → cellsR ((l.take (i + 1)).drop m) = cellsR ((l.take i).drop m) ++ [.int .i64 (l[i]).1, .int .i64 (l[i]).2.1, .int .i64 (l[i]).2.2] := by
            intro h
            rw [List.take_succ_eq_append_getElem hlt, List.drop_append_of_le_length (by simp; omega), cellsR_snoc]
          have HSN := Lib.hid hsn
          have HSD := Lib.hid hsd
          have HB2V := Lib.hid hbw
          generalize ((ofC l)[k]).a = xa at *
          generalize l[i] = r at *
          obtain ⟨ra, rz, rc⟩ := r
          simp only at q0 q1 q2 dlt HSN HSD
          have hx1 : (k : Int) < (ofC l).length := by omega
          have hx2 : (i : Int) < l.length := by omega
          clear hsn hsd p1 p2 p3 p4 p5
          by_cases him : i < m
          · obtain ⟨hown, h9⟩ : wr.ownsRow w2.heap.size 40 3 u8 i (cellsR (l.take i)) ∧ u9 = .slice none 0 0 := by
              rcases hph with ⟨_, h1, h2⟩ | ⟨h, _⟩
              · exact ⟨h1, h2⟩
              · omega
            have HOWN := Lib.hid hown
            have H9 := Lib.hid h9
            have hltm := hown.lt
            rw [decide_eq_true him] at dlt
            clear hph hown h9 hbw
            go_wp2_with fail
            go_quiet (fail)
            have hbV : Below wr.heap.size wr (wr.drewN nq) := below_drewN (Below.refl _ _) _
            generalize wr.drewN nq = V at *
            have q0' := (hbV.cell (p := ⟨bA, off + i * 3, none⟩) hbl).trans q0
            have q1' := (hbV.cell (p := ⟨bA, off + i * 3 + 1, none⟩) hbl).trans q1
            have q2' := (hbV.cell (p := ⟨bA, off + i * 3 + 2, none⟩) hbl).trans q2
            have HBV := Lib.hid hbV
            have HOV := Lib.hid (Cl.ownsRow_below HOWN.out hbV)
            have HBN := Lib.hid (HB2V.out.trans (hbV.mono HB2V.out.size))
            have hltV := HOV.out.lt
            clear hbV q0 q1 q2
            go_wp2_with (at_builtin; refine wpList_append_own _ rfl _ _ 22 rfl w2.heap.size 40 i0 (.agg #[.int .i64 0, .int .i64 0, .int .i64 0]) 3 24 Tryd.underlying22 HI.out HQ0.out HQ1.out HQ2.out rfl (by decide) _ _ _ rfl (HOV.out.alloc _) ⟨V.heap.size, 0, none⟩ 1 1 [.int .i64 ra, .int .i64 rz, .int .i64 rc] rfl rfl ?c1 ?c2 ?c3 ?c4 ?c5 ?_)
            try case c1 =>
              intro j u hj
              match j, hj with
              | 0, hj => simp at hj; subst hj; simp [Addr.add]
              | 1, hj => simp at hj; subst hj; simp [Addr.add]
              | 2, hj => simp at hj; subst hj; simp [Addr.add]
              | (j + 3), hj => simp at hj
            try case c2 => first | exact ⟨rfl, rfl, rfl⟩ | exact ⟨rfl, rfl⟩ | (intro u hu; simp at hu; rcases hu with rfl | rfl | rfl <;> rfl)
            try case c3 => unfold maxLen; omega
            try case c4 => omega
            try case c5 => first | omega | (have := HBV.out.size; have := HB2V.out.size; simp; omega)
            intro v' w5 hown' hgrow _
            have HO := Lib.hid hown'
            have HG := Lib.hid hgrow
            clear hown' hgrow
            go_wp2
            go_roundw
            case rel =>
              refine ⟨i + 1, by omega, by go_num, (HBN.out.alloc HBN.out.size _).grown HG.out (by have := HBN.out.size; simp; omega) (fun q hq => (hltV q hq).1), .inl ⟨by omega, ?_, H9.out⟩⟩
              rw [HSN.out]
              exact HO.out
            case measure => simp [RowKit.intOf]; omega
          · obtain ⟨A1, c1, V2, h8, hA1, hbV2, hb2w, hown⟩ : ∃ (A1 : Option Addr) (c1 : Nat) (V2 : World), u8 = .slice A1 m c1 ∧ RuAt V2 A1 (l.take m) ∧ Below w2.heap.size w2 V2 ∧ Below V2.heap.size V2 wr ∧ wr.ownsRow V2.heap.size 40 3 u9 (i - m) (cellsR ((l.take i).drop m)) := by
              rcases hph with ⟨h0, h1, h2⟩ | ⟨_, h⟩
              · obtain rfl : i = m := by omega
                have hta : (l.take i).length = i := by simp; omega
                obtain ⟨A1, c1, e, h⟩ := ruAt_own (l := l.take i) (by rw [hta]; exact h1)
                rw [hta] at e
                refine ⟨A1, c1, wr, e, h, hbw, Below.refl _ _, ?_⟩
                rw [h2, Nat.sub_self, List.drop_of_length_le (by omega)]
                exact World.ownsRow_nil _ _ _ _
              · exact h
            subst h8
            have HOWN := Lib.hid hown
            have HP := Lib.hid (And.intro hA1 (And.intro hbV2 hb2w))
            rw [decide_eq_false him] at dlt
            clear hph hown hA1 hbV2 hb2w hbw
            go_wp2_with fail
            go_quiet (fail)
            have hbV : Below wr.heap.size wr (wr.drewN nq) := below_drewN (Below.refl _ _) _
            generalize wr.drewN nq = V at *
            have q0' := (hbV.cell (p := ⟨bA, off + i * 3, none⟩) hbl).trans q0
            have q1' := (hbV.cell (p := ⟨bA, off + i * 3 + 1, none⟩) hbl).trans q1
            have q2' := (hbV.cell (p := ⟨bA, off + i * 3 + 2, none⟩) hbl).trans q2
            have HBV := Lib.hid hbV
            have HOV := Lib.hid (Cl.ownsRow_below HOWN.out hbV)
            have HBN := Lib.hid (HB2V.out.trans (hbV.mono HB2V.out.size))
            have HBM := Lib.hid (HP.out.2.2.trans (hbV.mono HP.out.2.2.size))
            have hltV := HOV.out.lt
            have hVV := HBM.out.size
            clear hbV q0 q1 q2
            go_wp2_with (at_builtin; refine wpList_append_own _ rfl _ _ 22 rfl V2.heap.size 40 i0 (.agg #[.int .i64 0, .int .i64 0, .int .i64 0]) 3 24 Tryd.underlying22 HI.out HQ0.out HQ1.out HQ2.out rfl (by decide) _ _ _ rfl (HOV.out.alloc _) ⟨V.heap.size, 0, none⟩ 1 1 [.int .i64 ra, .int .i64 rz, .int .i64 rc] rfl rfl ?c1 ?c2 ?c3 ?c4 ?c5 ?_)
            try case c1 =>
              intro j u hj
              match j, hj with
              | 0, hj => simp at hj; subst hj; simp [Addr.add]
              | 1, hj => simp at hj; subst hj; simp [Addr.add]
              | 2, hj => simp at hj; subst hj; simp [Addr.add]
              | (j + 3), hj => simp at hj
            try case c2 => first | exact ⟨rfl, rfl, rfl⟩ | exact ⟨rfl, rfl⟩ | (intro u hu; simp at hu; rcases hu with rfl | rfl | rfl <;> rfl)
            try case c3 => unfold maxLen; omega
            try case c4 => omega
            try case c5 => first | omega | (have := HBV.out.size; have := HB2V.out.size; simp; omega)
            intro v' w5 hown' hgrow _
            have HO := Lib.hid hown'
            have HG := Lib.hid hgrow
            clear hown' hgrow
            go_wp2
            go_roundw
            case rel =>
              refine ⟨i + 1, by omega, by go_num, (HBN.out.alloc HBN.out.size _).grown HG.out (by have := HBN.out.size; simp; omega) (fun q hq => Nat.le_trans HP.out.2.1.size (hltV q hq).1), .inr ⟨by omega, A1, c1, V2, rfl, HP.out.1, HP.out.2.1, (HBM.out.alloc HBM.out.size _).grown HG.out (by have := HBM.out.size; simp; omega) (fun q hq => (hltV q hq).1), ?_⟩⟩
              rw [HSD.out (by omega), show i + 1 - m = i - m + 1 from by omega]
              exact HO.out
            case measure => simp [RowKit.intOf]; omega
        · obtain rfl : i = l.length := by omega
          obtain ⟨A1, c1, V2, h8, hA1, hbV2, hb2w, hown⟩ : ∃ (A1 : Option Addr) (c1 : Nat) (V2 : World), u8 = .slice A1 m c1 ∧ RuAt V2 A1 (l.take m) ∧ Below w2.heap.size w2 V2 ∧ Below V2.heap.size V2 wr ∧ wr.ownsRow V2.heap.size 40 3 u9 (l.length - m) (cellsR ((l.take l.length).drop m)) := by
            rcases hph with ⟨h0, _⟩ | ⟨_, h⟩
            · omega
            · exact h
          subst h8
          rw [List.take_length] at hown
          have hdl : (l.drop m).length = l.length - m := by simp
          have htl : (l.take m).length = m := by simp; omega
          obtain ⟨B9, d9, rfl, hB9⟩ := ruAt_own (l := l.drop m) (by rw [hdl]; exact hown)
          rw [hdl]
          have HA1 := Lib.hid (hA1.below hb2w)
          have HB9 := Lib.hid hB9
          have HBW := Lib.hid (HB2.out.trans (hbw.mono HB2.out.size))
          have HCW := Lib.hid (HC.out.below hbw)
          have HHW := Lib.hid (HH2.out.below hbw)
          have HXA := Lib.hid (fun W h h2 => (by
            have h := HOFA.out m A1 c1 W h h2
            rw [htl, HLA.out] at h
            exact h : Calls Tryd.prog 9 #[.slice A1 m c1] W fun e w' => ∃ v, e = .returned v ∧ w'.ownsRow W.heap.size 32 6 v k (cellsC (ofC (l.take m))) ∧ Below W.heap.size W w'))
          have HXB := Lib.hid (fun W h h2 => (by
            have h := HOFB.out m B9 d9 W h h2
            rw [hdl, HLB.out] at h
            exact h : Calls Tryd.prog 9 #[.slice B9 (l.length - m) d9] W fun e w' => ∃ v, e = .returned v ∧ w'.ownsRow W.heap.size 32 6 v ((ofC l).length - k) (cellsC (ofC (l.drop m))) ∧ Below W.heap.size W w'))
          clear hown hB9 hA1 hbV2 hb2w hph hbw HR2 HC HH2 HB2 HOFA HOFB hdl htl
          go_wp2_with fail
          refine (HXA.out _ HA1.out HHW.out).mono ?_
          rintro e w5 ⟨v, rfl, hown, hb5⟩
          rw [← HLA.out] at hown
          obtain ⟨B1, d1, rfl, hC1⟩ := cuAt_own hown
          rw [HLA.out]
          have HX5 := Lib.hid hC1
          have HB95 := Lib.hid (HB9.out.below hb5)
          have HC5 := Lib.hid (HCW.out.below hb5)
          have HH5 := Lib.hid (HHW.out.below hb5)
          have HB5 := Lib.hid (HBW.out.trans (hb5.mono HBW.out.size))
          clear hown hC1 hb5 HA1 HB9 HCW HHW HBW HXA
          go_wp2_with fail
          refine (HXB.out _ HB95.out HH5.out).mono ?_
          rintro e w6 ⟨v, rfl, hown, hb6⟩
          rw [← HLB.out] at hown
          obtain ⟨B2, d2, rfl, hC2⟩ := cuAt_own hown
          rw [HLB.out]
          have HY6 := Lib.hid hC2
          have HX6 := Lib.hid (HX5.out.below hb6)
          have HC6 := Lib.hid (HC5.out.below hb6)
          have HB6 := Lib.hid (HB5.out.trans (hb6.mono HB5.out.size))
          clear hown hC2 hb6 HX5 HB95 HC5 HH5 HB5 HXB
          have hkk : (k : Int) ≤ (ofC l).length := by omega
          have hw1 : IntKind.i64.wrap (((ofC l).length : Int) - k) = ((ofC l).length : Int) - k := IntWalk.i64_in _ (by omega)
          have hw2 : (((((ofC l).length - k : Nat) : Int)) == ((ofC l).length : Int) - k) = true := by simp; omega
          have hw3 : (((ofC l).length - k : Nat) : Int) = ((ofC l).length : Int) - k := by omega
          go_wp2_with fail
          go_loopw [13] (fun s13 wx => ∃ i : Nat, i ≤ (ofC l).length ∧ s13 = .int .i64 i ∧ Below w6.heap.size w6 wx) (fun s13 _ => (ofC l).length - (RowKit.intOf s13).toNat)
          case atStart => exact ⟨0, Nat.zero_le _, rfl, Below.refl _ _⟩
          case round =>
            obtain ⟨i, hi, rfl, hbw⟩ := hrel
            by_cases hlt : i < (ofC l).length
            · obtain ⟨bX, oX, rfl, hblX, p0, p1, p2, p3, p4, p5⟩ := (HC6.out.below hbw).at_ hlt
              have hft := HFT.out _ (List.getElem_mem hlt)
              have HB := Lib.hid hbw
              have hx5 : (i : Int) < (ofC l).length := by omega
              by_cases hik : i < k
              · have hia : i < (ofC (l.take m)).length := by rw [HLA.out]; exact hik
                obtain ⟨bA, oA, rfl, hblA, a0, a1, a2, a3, a4, a5⟩ := (HX6.out.below hbw).at_ hia
                rw [HEA.out i hik hia] at a0 a1 a2 a3 a4 a5
                have hx6 : (i : Int) < k := by omega
                have hx7 : decide ((i : Int) < (k : Int)) = true := decide_eq_true hx6
                clear hbw hft
                generalize (ofC l)[i] = r at *
                go_wp2_with fail
                go_quiet (fail)
                go_wp2_with fail
                go_roundw
                case rel => exact ⟨i + 1, by omega, by go_num, below_drewN (HB.out.alloc HB.out.size _) _⟩
                case measure => simp [RowKit.intOf]; omega
              · obtain ⟨j, hj⟩ : ∃ j, i = k + j := ⟨i - k, by omega⟩
                have hjb : j < (ofC (l.drop m)).length := by rw [HLB.out]; omega
                obtain ⟨bB, oB, rfl, hblB, a0, a1, a2, a3, a4, a5⟩ := (HY6.out.below hbw).at_ hjb
                have he : shift m ((ofC (l.drop m))[j]) = (ofC l)[i] := by
                  have h := HEB.out j hjb (by omega)
                  rw [h]
                  congr 1
                  omega
                rw [← he] at p0 p1 p2 p3 p4 p5 hft
                generalize (ofC (l.drop m))[j] = y at *
                unfold shift at p0 p1 p2 p3 p4 p5 hft
                simp only at p0 p1 p2 p3 p4 p5 hft
                have hwj : IntKind.i64.wrap ((i : Int) - k) = (j : Int) := by rw [IntWalk.i64_in _ (by omega)]; omega
                have hwj2 : IntKind.i64.wrap (j : Int) = (j : Int) := IntWalk.i64_in _ (by omega)
                have hwf : IntKind.i64.wrap (y.f + (m : Int)) = y.f + m := IntWalk.i64_in _ (by omega)
                have hwt : IntKind.i64.wrap (y.t + (m : Int)) = y.t + m := IntWalk.i64_in _ (by omega)
                have hx6 : ¬ (i : Int) < k := by omega
                have hx7 : decide ((i : Int) < (k : Int)) = false := decide_eq_false hx6
                have hx8 : (j : Int) < (((ofC l).length - k : Nat) : Int) := by rw [HLB.out] at hjb; omega
                have hx9 : (0 : Int) ≤ (j : Int) := by omega
                have hxa : (j : Int) < ((ofC l).length : Int) - k := by omega
                have HJ := Lib.hid hj
                clear hbw he hj hft
                go_wp2_with fail
                go_quiet (fail)
                go_wp2_with fail
                go_roundw
                case rel => exact ⟨i + 1, by omega, by go_num, below_drewN (HB.out.alloc HB.out.size _) _⟩
                case measure => simp [RowKit.intOf]; omega
            · obtain rfl : i = (ofC l).length := by omega
              have HB7 := Lib.hid (HB6.out.trans (hbw.mono HB6.out.size))
              clear hbw
              go_wp2_with fail
              refine (awake_any _ (HH.out.below HB7.out)).mono ?_
              rintro e w7 ⟨rfl, hb7⟩
              go_wp2
              go_ret
              exact ⟨rfl, HB7.out.trans (hb7.mono HB7.out.size)⟩

set_option maxRecDepth 100000 in
theorem lifted (os : Os) (started : os.Started) (H : Type) (enc : TypeId × Value → H) :
    ReturnsInHanded {} Tryd.checked os 7 .any (fun w args => (Rows.clusterCutSpec.pre enc Tryd.prog Tryd.f7 [] false w args ∧ laidMetH Tryd.prog laidL w) ∧ sizedMet enc Tryd.prog Tryd.f7 (OpenSpec.ofChange Rows.clusterCutSpec) false w args) (Rows.clusterCutSpec.post enc Tryd.prog Tryd.f7 false true false false) := by
  refine returns_laid started (by kernel_rfl) Tryd.func7 #[.string ⟨#[]⟩, .int .i64 0] (by kernel_rfl) (World.shaped_of_ZipB (by kernel_rfl) (by kernel_rfl)) (by rw [MakeChecks.laidMetH_plain _ _ _ (by kernel_rfl)]; exact laidMet_laidAll _ (by kernel_rfl) (by kernel_rfl)) (by kernel_rfl) (by kernel_rfl) rfl rfl (by kernel_rfl) ?_ ?_
  · intro ds hds
    rw [show Tryd.f7.params.toList.length = 2 from by kernel_rfl] at hds
    match ds, hds with
    | [d0, d1], _ => rfl
  intro W base args ds p hval hA hH
  rw [Tryd.params7] at hA hval
  obtain ⟨v0, vs0, d0, ds0, p0, q0, hargs, rfl, rfl, h0, r0⟩ := ChangeShapes.trodAll_cons hA
  obtain ⟨v1, vs1, d1, ds1, p1, q1, rfl, rfl, rfl, h1, r1⟩ := ChangeShapes.trodAll_cons r0
  obtain ⟨rfl, rfl, rfl⟩ := ChangeShapes.trodAll_nil r1
  obtain rfl : args = #[v0, v1] := by cases args; simp_all
  obtain ⟨s0, rfl, rfl, rfl, hs0⟩ := Go.ChangeMaps.open_string Tryd.underlying9 (hval 0 9 v0 rfl rfl) h0
  obtain ⟨x1, rfl, rfl, rfl, wx1⟩ := open_int Tryd.underlying3 (hval 1 3 v1 rfl rfl) h1
  exact walk W hH s0 hs0 x1

theorem holds : Rows.ClusterCutSaid :=
  OpenClaim.holds_of_wide 7 Tryd.f7 rfl rfl rfl rfl rfl rfl rfl ⟨rfl, rfl, rfl, rfl, rfl⟩ rfl rfl rfl rfl rfl (by kernel_rfl) Tryd.func7 (by kernel_rfl)
    (of_decide_eq_true (by kernel_rfl)) (by unfold Func.isWrapper; first | (rw [if_pos (by decide +kernel)]; kernel_rfl) | (rw [if_neg (by decide +kernel)]; exact ⟨rfl, rfl⟩))
    (fun os started H enc _ => lifted os started H enc)

theorem card : Rows.ClusterCutCardSaid :=
  Claim7.holds_tied_plain_at .later [] [.data] true (true, "6266be65454116c20761097c10453cce90d7e1924b2052746f8030f8566e73d3") false
    holds (fun _ h => by cases h) (by kernel_rfl) (fun _ h => by cases h) clusterCut_row_tie rfl ⟨rfl, rfl⟩ (by kernel_rfl) rfl
    (fun f fn hf hfn => by
      obtain rfl : f = 7 := Option.some.inj ((show Tryd.prog.funcNamed "parquetry/parquetrylaw06.ClusterCut" = some 7 by kernel_rfl).symm.trans hf) |>.symm
      obtain rfl : fn = Tryd.f7 := (Option.some.inj (Tryd.func7.symm.trans hfn)).symm
      exact ⟨by kernel_rfl, fun j t ht => by
        rw [Tryd.params7] at ht
        have hm : t ∈ [9, 3] := by simpa using Array.mem_of_getElem? ht
        have hall : ([9, 3].all fun u => !Tryd.prog.wantsStandIn u) = true := by kernel_rfl
        exact (show Tryd.prog.wantsStandIn t = false by simpa using List.all_eq_true.1 hall t hm)⟩)
    (by kernel_rfl)
end Go.Proofs.YtpfihikldeagnaaDoor.ClusterCut
