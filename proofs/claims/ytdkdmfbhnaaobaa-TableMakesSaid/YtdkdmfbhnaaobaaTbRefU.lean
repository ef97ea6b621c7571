/-
  Proved here: what the document's answer for Turn is: the columns of what Fill makes of the records; it leaves what was in memory.
-/
import Derived.Test.YtdkdmfbhnaaobaaTbRefF
set_option linter.unusedVariables false
namespace Go.Proofs.Ytdkdmfbhnaaobaa.Tb
open Go Go.RowKit Go.Lib Go.Proofs.Ytdkdmfbhnaaobaa.Cv

def colT (R : Rec) (k j : Nat) : List Bs := (List.range j).map fun i => fieldT R i k
theorem col_len (R : Rec) (k j : Nat) : (colT R k j).length = j := by simp [colT]
theorem col_more (R : Rec) (k j : Nat) : rowC (colT R k (j + 1)) = rowC (colT R k j) ++ [bx (fieldT R j k)] := by
  unfold colT rowC
  rw [List.range_succ, List.map_append, List.map_append]
  rfl
theorem turn_row {R : Rec} {k : Nat} (h : k < (turnT R).length) : (turnT R)[k] = colT R k (highT R) := tab_get h
theorem fill_mem {R : Rec} {r : List Bs} (h : r ∈ fillT R) : r.length = wideT R := tab_mem h
theorem fill_at {R : Rec} {i k : Nat} (h : i < (fillT R).length) (hk : k < (fillT R)[i].length) : (fillT R)[i][k] = fieldT R i k := by
  rw [← fill_field R i k, field_in h hk]

set_option maxHeartbeats 4000000 in
set_option maxRecDepth 1000000 in
theorem refTurn_any (A : Option Addr) (R : Rec) (n c : Nat) (hn : n = R.length) (w : World) (hA : RecsAt w A R) (hF : Few R) :
    Calls Try.prog 20 #[.slice A n c] w (RecsPost (turnT R) w) := by
  obtain ⟨i0, hi, hz0, hz1, hz2⟩ := Cl.info_parts infoStr
  obtain ⟨i1, hi', hz0', hz1', hz2'⟩ := Cl.info_parts infoRow
  have HFI := Lib.hid (refFill_any A R n c hn w hA hF)
  have hH1 := hF.num
  have hW1 := hF.width
  obtain ⟨H, hH⟩ : ∃ H, highT R = H := ⟨_, rfl⟩
  obtain ⟨W, hW⟩ : ∃ W, wideT R = W := ⟨_, rfl⟩
  have hh0 : 1 ≤ H := by rw [← hH]; exact high_pos R
  have hw0 : 1 ≤ W := by rw [← hW]; exact wide_pos R
  have hh1 : H ≤ 1000000 := by rw [← hH]; unfold highT; omega
  have hw1 : W ≤ 1000000 := by rw [← hW]; unfold wideT; omega
  have HFL := Lib.hid (show (fillT R).length = H by rw [fill_len, hH])
  have HTL := Lib.hid (show (turnT R).length = W by rw [turn_len, hW])
  have HROW := Lib.hid (show ∀ i (h : i < (fillT R).length), (fillT R)[i].length = W from fun i h => by rw [fill_mem (List.getElem_mem h), hW])
  have HTR := Lib.hid (show ∀ k (h : k < (turnT R).length), (turnT R)[k] = colT R k H from fun k h => by rw [turn_row h, hH])
  clear hA hF hH hW hH1 hW1 hn
  go_enter Try.func20, Try.ntmps20
  go_wp2_with fail
  refine HFI.out.mono ?_
  rintro e w1 ⟨A1, c1, rfl, hq, hb1⟩
  rw [HFL.out]
  have HQ := Lib.hid hq.recs
  have HB1 := Lib.hid hb1
  clear hq hb1 HFI
  go_wp2_with fail
  go_loopw [4, 5] (fun s4 s5 wx => ∃ (k : Nat) (A' : Option Addr) (c' : Nat), k ≤ W ∧ s5 = .int .i64 k ∧ s4 = .slice A' k c' ∧ RI w1.heap.size wx (.slice A' k c') (.slice none 0 0) ((turnT R).take k) [] ∧ Below w1.heap.size w1 wx) (fun _ s5 _ => W - (RowKit.intOf s5).toNat)
  case atStart => exact ⟨0, none, 0, Nat.zero_le _, rfl, rfl, RI.start (Nat.le_refl _), Below.refl _ _⟩
  case round =>
    obtain ⟨k, A', c', hk, rfl, rfl, hri, hbw⟩ := hrel
    have HRI := Lib.hid hri
    have HBW := Lib.hid hbw
    obtain ⟨b, off, A0, c0, rfl, hc0, -⟩ := first_at (HQ.out.below hbw) (by rw [HFL.out]; omega)
    rw [HROW.out 0 (by rw [HFL.out]; omega)] at hc0
    by_cases hlt : k < W
    · have hk2 : k < (turnT R).length := by rw [HTL.out]; exact hlt
      have htk : (turnT R).take (k + 1) = (turnT R).take k ++ [colT R k H] := by rw [take_next hk2, HTR.out k hk2]
      have HTK := Lib.hid htk
      clear hri hbw htk
      obtain ⟨wo, hwo⟩ : ∃ wo : World, wo = wr := ⟨_, rfl⟩
      subst hwo
      go_wp2_with fail
      clear hc0
      go_loopw [6, 7] (fun s6 s7 wx => ∃ (j : Nat) (A3 : Option Addr) (c3 : Nat), j ≤ H ∧ s7 = .int .i64 j ∧ s6 = .slice A3 j c3 ∧ wx.ownsRow wo.heap.size 9 1 (.slice A3 j c3) j (rowC (colT R k j)) ∧ Below wo.heap.size wo wx) (fun _ s7 _ => H - (RowKit.intOf s7).toNat)
      case atStart => exact ⟨0, none, 0, Nat.zero_le _, rfl, rfl, World.ownsRow_nil _ _ _ _, Below.refl _ _⟩
      case round =>
        obtain ⟨j, A3, c3, hj, rfl, rfl, hoj, hbj⟩ := hrel
        have HOJ := Lib.hid hoj
        have HBJ := Lib.hid hbj
        have hsz := hbj.size
        clear hoj hbj
        by_cases hlj : j < H
        · have hj2 : j < (fillT R).length := by rw [HFL.out]; exact hlj
          have HQJ := Lib.hid (HQ.out.below (HBW.out.trans (HBJ.out.mono HBW.out.size)))
          obtain ⟨b5, off5, A5, c5, hA5, hc5, hv5⟩ := HQJ.out.at_ hj2
          injection hA5 with hA5
          injection hA5 with e1 e2 _
          subst e1
          subst e2
          have hrl := HROW.out j hj2
          have hk5 : k < (fillT R)[j].length := by rw [hrl]; exact hlt
          obtain ⟨b6, off6, rfl, hc6⟩ := hv5.at_ (k := k) (by rw [rowC_len]; exact hk5)
          have e6 : (rowC (fillT R)[j])[k]'(by rw [rowC_len]; exact hk5) = bx (fieldT R j k) := by
            rw [← fill_at hj2 hk5]
            simp [rowC]
          rw [e6] at hc6
          rw [hrl] at hc5
          have hcm := col_more R k j
          obtain ⟨X, hX⟩ : ∃ X, bx (fieldT R j k) = .string X := ⟨_, rfl⟩
          rw [hX] at hc6 hcm
          have HCM := Lib.hid hcm
          clear hv5 e6 hrl hcm hX hk5 HQJ hj2
          have dj : decide (j < H) = true := decide_eq_true hlj
          go_wp2_with (at_builtin; refine wpList_append_own _ rfl _ _ 31 rfl wo.heap.size 9 i0 (.string ⟨#[]⟩) 1 16 Try.underlying31 hi hz0 hz1 hz2 rfl (by decide) _ _ _ rfl (HOJ.out.alloc _) ⟨_, 0, none⟩ 1 1 [.string X] rfl rfl ?c1 ?c2 ?c3 ?c4 ?c5 ?_)
          case c2 => rfl
          case c3 => unfold maxLen; omega
          case c4 => omega
          case c5 => omega
          intro v4 w4 ho4 hg4 _
          obtain ⟨A4, c4, rfl, -, -⟩ := vAt_own ho4
          have hb4 : Below wo.heap.size wo w4 := (HBJ.out.alloc HBJ.out.size _).grown hg4 (by simp; omega) (fun k hk => (HOJ.out.lt k hk).1)
          rw [← HCM.out] at ho4
          have HO4 := Lib.hid ho4
          have HB4 := Lib.hid hb4
          clear ho4 hg4 hb4
          go_wp2_with fail
          go_roundw
          case measure => simp [RowKit.intOf]; omega
          case rel => exact ⟨j + 1, A4, c4, by omega, by go_num, rfl, HO4.out, HB4.out⟩
        · obtain rfl : H = j := by omega
          have hpl := col_len R k H
          have dj : decide (H < H) = false := decide_eq_false (by omega)
          obtain ⟨vals, hB4, hown4, hone4, hclose4⟩ := (RI.with hpl HRI.out HBJ.out HOJ.out).close
          have HOWN := Lib.hid hown4
          have HCL := Lib.hid hclose4
          have HB2 := Lib.hid (HBW.out.trans (HBJ.out.mono HBW.out.size))
          have hkl : ((turnT R).take k).length = k := by rw [List.length_take, HTL.out]; omega
          rw [hkl] at HOWN HCL
          clear hown4 hone4 hclose4 hpl
          go_wp2_with (at_builtin; refine wpList_append_own _ rfl _ _ 22 rfl w1.heap.size 31 i1 (.slice none 0 0) 1 24 Try.underlying22 hi' hz0' hz1' hz2' rfl (by decide) _ _ _ rfl (HOWN.out.alloc _) ⟨_, 0, none⟩ 1 1 [.slice A3 H c3] rfl rfl ?d1 ?d2 ?d3 ?d4 ?d5 ?_)
          case d1 => exact cell_one_new _ _ _
          case d2 => intro u hu; simp only [List.mem_singleton] at hu; subst hu; rfl
          case d3 => unfold maxLen; omega
          case d4 => omega
          case d5 => have := HB2.out.size; simp; omega
          intro vs' w6 ho6 hg6 _
          obtain ⟨A6, k6, rfl, -, -⟩ := vAt_own ho6
          have hbB : Below wr.heap.size wr (wr.alloc (.cells #[.slice A3 H c3] 31)) := (Below.refl _ _).alloc (Nat.le_refl _) _
          have hb6 : Below w1.heap.size w1 w6 := (HB2.out.alloc HB2.out.size _).grown hg6 (by simp; have := HB2.out.size; omega) (fun k hk => (HOWN.out.lt k hk).1)
          have HRI6 := Lib.hid (HCL.out _ _ w6 hbB ho6 hg6)
          have HB6 := Lib.hid hb6
          clear ho6 hg6 hbB hb6
          go_wp2_with fail
          go_roundw
          case measure => simp [RowKit.intOf]; omega
          case rel =>
            refine ⟨k + 1, A6, k6, by omega, by go_num, rfl, ?_, HB6.out⟩
            rw [HTK.out]
            exact HRI6.out
    · have e : (turnT R).take k = turnT R := List.take_of_length_le (by rw [HTL.out]; omega)
      obtain rfl : W = k := by omega
      rw [e] at hri
      obtain ⟨A6, c6, e6, hrec⟩ := RI.readsC hri
      injection e6 with e7 e8 e9
      subst e7
      subst e9
      have HREC := Lib.hid hrec
      clear hri hbw HRI hrec e e8
      go_wp2_with fail
      go_ret
      exact ⟨A', c', by rw [HTL.out]; rfl, HREC.out, HB1.out.trans (HBW.out.mono HB1.out.size)⟩
end Go.Proofs.Ytdkdmfbhnaaobaa.Tb
