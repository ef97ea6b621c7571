/-
  Proved here: what of and level of the statements of layer 10 return, and that parquetrylaw10.awake (the chapter's examples) returns true; they leave what was in memory. No condition.
-/
import Derived.Test.YtifaimoaaiikpaaBaPars
import Derived.Test.YtifaimoaaiikpaaRcSame
set_option linter.unusedVariables false
namespace Go.Proofs.Ytifaimoaaiikpaa.Ba
open Go.RowKit Go.Lib Go.Proofs.Ytifaimoaaiikpaa.Cl Go.Proofs.Ytifaimoaaiikpaa.Rc
open Go.Proofs.Ytifaimoaaiikpaa.Ku (R3 RuAt cellsR)

theorem match_reads (A : Option Addr) (l : List Int) (n c : Nat) (w : World) (hl : l.length = n) (hR : IntsAt w A l) (hn : n ≤ 1099511627776) :
    Calls Try.prog 14 #[.slice A n c] w fun e w' => ∃ g, e = .returned (.slice (some ⟨g, 0, none⟩) n n) ∧ w.heap.size ≤ g ∧ IntsAt w' (some ⟨g, 0, none⟩) (matchL l) ∧ w'.ownsRow w.heap.size 3 1 (.slice (some ⟨g, 0, none⟩) n n) n ((matchL l).map (.int .i64)) ∧ Below w.heap.size w w' := by
  refine (match_any A l n c w hl hR hn).mono ?_
  rintro e w' ⟨g, rfl, hown, hb⟩
  have hlen : n = (matchL l).length := by rw [matchL_len, hl]
  have hown2 : w'.ownsRow w.heap.size 3 1 (.slice (some ⟨g, 0, none⟩) n n) (matchL l).length ((matchL l).map (.int .i64)) := by rw [← hlen]; exact hown
  obtain ⟨A', c', e1, hi⟩ := intsAt_own hown2
  injection e1 with e1
  exact ⟨g, rfl, (hown.lt g rfl).1, e1 ▸ hi, hown, hb⟩
theorem refmatch_reads (A : Option Addr) (l : List Int) (n m : Nat) (w : World) (hl : l.length = n) (hR : IntsAt w A l) (hn : n ≤ 1099511627776) :
    Calls Try.prog 15 #[.slice A n m] w fun e w' => ∃ B d, e = .returned (.slice B n d) ∧ IntsAt w' B (matchL l) ∧ Below w.heap.size w w' := by
  refine (refmatch_any A l n m w hl hR hn).mono ?_
  rintro e w' ⟨v, rfl, hown, hb⟩
  have hlen : n = (matchL l).length := by rw [matchL_len, hl]
  have hown2 : w'.ownsRow w.heap.size 3 1 v (matchL l).length ((matchL l).map (.int .i64)) := by rw [← hlen]; exact hown
  obtain ⟨B, d, e1, hi⟩ := intsAt_own hown2
  exact ⟨B, d, by rw [e1, ← hlen], hi, hb⟩
theorem pars_reads (A : Option Addr) (l : List R3) (n m : Nat) (w : World) (hl : l.length = n) (hR : RuAt w A l) (hn : n ≤ 1099511627776) :
    Calls Try.prog 11 #[.slice A n m] w fun e w' => ∃ B d, e = .returned (.slice B (parL l n).length d) ∧ IntsAt w' B (parL l n) ∧ Below w.heap.size w w' := by
  refine (pars_any A l n m w hl hR hn).mono ?_
  rintro e w' ⟨v, rfl, hown, hb⟩
  obtain ⟨B, d, rfl, hi⟩ := intsAt_own hown
  exact ⟨B, d, rfl, hi, hb⟩

/-- The runes that 'of' makes of numbers. -/
def ofR (zs : List Int) (k : Nat) : List R3 := (List.range k).map fun (i : Nat) => ((i : Int), (1 : Int), zs.getD i 0)
theorem ofR_len (zs : List Int) (k : Nat) : (ofR zs k).length = k := by simp [ofR]
theorem ofR_next (zs : List Int) (k : Nat) (hk : k < zs.length) : cellsR (ofR zs (k + 1)) = cellsR (ofR zs k) ++ [.int .i64 (k : Int), .int .i64 1, .int .i64 zs[k]] := by
  unfold ofR
  rw [List.range_succ, List.map_append]
  simp [cellsR, hk]

set_option maxHeartbeats 1000000 in
set_option maxRecDepth 100000 in
theorem of_reads (A : Option Addr) (zs : List Int) (n c : Nat) (w : World) (hl : zs.length = n) (hR : IntsAt w A zs) (hn : n ≤ 100000) :
    Calls Try.prog 20 #[.slice A n c] w fun e w' => ∃ B d, e = .returned (.slice B n d) ∧ RuAt w' B (ofR zs n) ∧ Below w.heap.size w w' := by
  obtain ⟨i0, hi, hz0, hz1, hz2⟩ := info_parts Ku.infoR
  have HR := Lib.hid hR
  have HL := Lib.hid hl
  clear hR hl
  go_enter Try.func20, Try.ntmps20
  go_wp2_with fail
  go_loopw [3, 4] (fun s3 s4 wx => ∃ k : Nat, k ≤ n ∧ s4 = .int .i64 k ∧ Below w.heap.size w wx ∧ wx.ownsRow w.heap.size 36 3 s3 k (cellsR (ofR zs k))) (fun _ s4 _ => n - (RowKit.intOf s4).toNat)
  case atStart => exact ⟨0, Nat.zero_le _, rfl, Below.refl _ _, World.ownsRow_nil _ _ _ _⟩
  case round =>
    obtain ⟨k, hk, rfl, hb, hown⟩ := hrel
    by_cases hlt : k < n
    · have hkl : k < zs.length := by rw [HL.out]; exact hlt
      obtain ⟨b, off, rfl, c0⟩ := (HR.out.below hb).at_ hkl
      have HT := Lib.hid (ofR_next zs k hkl)
      have HOWN := Lib.hid hown
      have hbs := hb.size
      have HLT := Lib.hid hown.lt
      have HB := Lib.hid hb
      clear hown hb
      generalize zs[k] = z at *
      go_wp2_with (at_builtin; refine wpList_append_own _ rfl _ _ 22 rfl w.heap.size 36 i0 (.agg #[.int .i64 0, .int .i64 0, .int .i64 0]) 3 24 Try.underlying22 hi hz0 hz1 hz2 rfl (by decide) _ _ _ rfl (HOWN.out.alloc _) ⟨wr.heap.size, 0, none⟩ 1 1 [.int .i64 k, .int .i64 1, .int .i64 z] rfl rfl ?c1 ?c2 ?c3 ?c4 ?c5 ?_)
      case c1 => intro j u hu; rcases j with _ | _ | _ | j <;> simp at hu <;> subst hu <;> simp [Addr.add]
      case c2 => intro u hu; simp at hu; rcases hu with rfl | rfl | rfl <;> rfl
      case c3 => unfold maxLen; omega
      case c4 => omega
      case c5 => simp; omega
      intro v' w4 hown' hgrow _
      have HG := Lib.hid hgrow
      have HO := Lib.hid hown'
      clear hgrow hown'
      go_wp2
      go_roundw
      case measure => simp [RowKit.intOf]; omega
      case rel =>
        refine ⟨k + 1, by omega, by go_num, ?_, ?_⟩
        · exact (HB.out.alloc hbs _).grown HG.out (by simp; omega) (fun g hg => (HLT.out g hg).1)
        · rw [HT.out]; exact HO.out
    · obtain rfl : k = n := by omega
      have HO := Lib.hid hown
      go_wp2
      go_ret
      have h0 := HO.out
      have h1 : wr.ownsRow w.heap.size 36 3 u3 (ofR zs k).length (cellsR (ofR zs k)) := by rw [ofR_len]; exact h0
      obtain ⟨B, d, e1, hi⟩ := Ku.ruAt_own h1
      rw [ofR_len] at e1
      exact ⟨B, d, by rw [e1]; rfl, hi, hb⟩

set_option maxHeartbeats 1000000 in
theorem level_as (A : Option Addr) (zs : List Int) (n c : Nat) (x : Int) (b : Bool) (w : World) (h : levL zs 0 = (x, b)) (hl : zs.length = n) (hR : IntsAt w A zs) (hn : n ≤ 100000) :
    Calls Try.prog 21 #[.int .i64 x, .bool b, .slice A n c] w fun e w' => e = .returned (.bool true) ∧ w = w' := by
  have HC := Lib.hid (level_any A zs n c w hl hR (by omega))
  rw [h] at HC
  cases b
  all_goals
    go_enter Try.func21, Try.ntmps21
    go_wp2_with fail
    refine HC.out.mono ?_
    rintro e w1 ⟨rfl, rfl⟩
    go_wp2
    go_ret
    exact ⟨rfl, rfl⟩

theorem x1 : parL (ofR [97, 13, 10, 98, 8233, 99] 6) 6 = [3, 5, 6] := by kernel_rfl
theorem x2 : matchL [20, 0, 19, 22, 22, 22] = [4, -1, 3, 2, 0, -1] := by kernel_rfl
theorem x3 : matchL [21, 0] = [2, -1] := by kernel_rfl
theorem y0 : levL [13, 20, 1, 22, 0] 0 = (0, true) := by kernel_rfl
theorem y1 : levL [3, 2] 0 = (1, true) := by kernel_rfl
theorem y2 : levL [20, 1] 0 = (0, false) := by kernel_rfl
theorem y3 : levL [] 0 = (0, false) := by kernel_rfl

set_option maxHeartbeats 4000000 in
set_option maxRecDepth 100000 in
theorem awake_any (w : World) :
    Calls Try.prog 9 #[] w fun e w' => e = .returned (.bool true) ∧ Below w.heap.size w w' := by
  go_enter Try.func9, Try.ntmps9
  go_wp2_with fail
  have hm1 := made_ints [97, 13, 10, 98, 8233, 99] #[.int .i64 97, .int .i64 13, .int .i64 10, .int .i64 98, .int .i64 8233, .int .i64 99] 3 w rfl
  have hn1 := below_made w (.cells #[.int .i64 97, .int .i64 13, .int .i64 10, .int .i64 98, .int .i64 8233, .int .i64 99] 3)
  refine (of_reads (some ⟨w.heap.size, 0, none⟩) [97, 13, 10, 98, 8233, 99] 6 6 (w.alloc (.cells #[.int .i64 97, .int .i64 13, .int .i64 10, .int .i64 98, .int .i64 8233, .int .i64 99] 3)) rfl hm1 (by decide)).mono ?_
  rintro e w1 ⟨D1, d1, rfl, hr1, hb1⟩
  have B1 := hn1.trans (hb1.mono hn1.size)
  clear hn1 hb1 hm1
  go_wp2_with fail
  refine (pars_reads D1 (ofR [97, 13, 10, 98, 8233, 99] 6) 6 d1 w1 (ofR_len _ _) hr1 (by decide)).mono ?_
  rintro e w2 ⟨D2, d2, rfl, hi2, hb2⟩
  rw [x1] at hi2 ⊢
  have B2 := B1.trans (hb2.mono B1.size)
  clear hr1 hb2 B1
  go_wp2_with fail
  have hm3 := made_ints [3, 5, 6] #[.int .i64 3, .int .i64 5, .int .i64 6] 3 w2 rfl
  have hn3 := below_made w2 (.cells #[.int .i64 3, .int .i64 5, .int .i64 6] 3)
  refine (same_ints D2 (some ⟨w2.heap.size, 0, none⟩) [3, 5, 6] d2 3 (w2.alloc (.cells #[.int .i64 3, .int .i64 5, .int .i64 6] 3)) (hi2.below hn3) hm3 (by decide)).mono ?_
  rintro e w3 ⟨rfl, hb3⟩
  have B3 := B2.trans ((hn3.trans (hb3.mono hn3.size)).mono B2.size)
  clear hn3 hb3 hm3
  clear hi2 B2
  go_wp2_with fail
  have hm4 := made_ints [20, 0, 19, 22, 22, 22] #[.int .i64 20, .int .i64 0, .int .i64 19, .int .i64 22, .int .i64 22, .int .i64 22] 3 w3 rfl
  have hn4 := below_made w3 (.cells #[.int .i64 20, .int .i64 0, .int .i64 19, .int .i64 22, .int .i64 22, .int .i64 22] 3)
  refine (match_reads (some ⟨w3.heap.size, 0, none⟩) [20, 0, 19, 22, 22, 22] 6 6 (w3.alloc (.cells #[.int .i64 20, .int .i64 0, .int .i64 19, .int .i64 22, .int .i64 22, .int .i64 22] 3)) rfl hm4 (by decide)).mono ?_
  rintro e w4 ⟨g4, rfl, -, hi4, -, hb4⟩
  rw [x2] at hi4
  have B4 := B3.trans ((hn4.trans (hb4.mono hn4.size)).mono B3.size)
  clear hn4 hb4 hm4
  clear B3
  go_wp2_with fail
  have hm5 := made_ints [4, -1, 3, 2, 0, -1] #[.int .i64 4, .int .i64 (-1), .int .i64 3, .int .i64 2, .int .i64 0, .int .i64 (-1)] 3 w4 rfl
  have hn5 := below_made w4 (.cells #[.int .i64 4, .int .i64 (-1), .int .i64 3, .int .i64 2, .int .i64 0, .int .i64 (-1)] 3)
  refine (same_ints (some ⟨g4, 0, none⟩) (some ⟨w4.heap.size, 0, none⟩) [4, -1, 3, 2, 0, -1] 6 6 (w4.alloc (.cells #[.int .i64 4, .int .i64 (-1), .int .i64 3, .int .i64 2, .int .i64 0, .int .i64 (-1)] 3)) (hi4.below hn5) hm5 (by decide)).mono ?_
  rintro e w5 ⟨rfl, hb5⟩
  have B5 := B4.trans ((hn5.trans (hb5.mono hn5.size)).mono B4.size)
  clear hn5 hb5 hm5
  clear hi4 B4
  go_wp2_with fail
  have hm6 := made_ints [21, 0] #[.int .i64 21, .int .i64 0] 3 w5 rfl
  have hn6 := below_made w5 (.cells #[.int .i64 21, .int .i64 0] 3)
  refine (match_reads (some ⟨w5.heap.size, 0, none⟩) [21, 0] 2 2 (w5.alloc (.cells #[.int .i64 21, .int .i64 0] 3)) rfl hm6 (by decide)).mono ?_
  rintro e w6 ⟨g6, rfl, -, hi6, -, hb6⟩
  rw [x3] at hi6
  have B6 := B5.trans ((hn6.trans (hb6.mono hn6.size)).mono B5.size)
  clear hn6 hb6 hm6
  clear B5
  go_wp2_with fail
  have hm7 := made_ints [2, -1] #[.int .i64 2, .int .i64 (-1)] 3 w6 rfl
  have hn7 := below_made w6 (.cells #[.int .i64 2, .int .i64 (-1)] 3)
  refine (same_ints (some ⟨g6, 0, none⟩) (some ⟨w6.heap.size, 0, none⟩) [2, -1] 2 2 (w6.alloc (.cells #[.int .i64 2, .int .i64 (-1)] 3)) (hi6.below hn7) hm7 (by decide)).mono ?_
  rintro e w7 ⟨rfl, hb7⟩
  have B7 := B6.trans ((hn7.trans (hb7.mono hn7.size)).mono B6.size)
  clear hn7 hb7 hm7
  clear hi6 B6
  go_wp2_with fail
  have hm8 := made_ints [13, 20, 1, 22, 0] #[.int .i64 13, .int .i64 20, .int .i64 1, .int .i64 22, .int .i64 0] 3 w7 rfl
  have hn8 := below_made w7 (.cells #[.int .i64 13, .int .i64 20, .int .i64 1, .int .i64 22, .int .i64 0] 3)
  refine (level_as (some ⟨w7.heap.size, 0, none⟩) [13, 20, 1, 22, 0] 5 5 0 true (w7.alloc (.cells #[.int .i64 13, .int .i64 20, .int .i64 1, .int .i64 22, .int .i64 0] 3)) y0 rfl hm8 (by decide)).mono ?_
  rintro e w8 ⟨rfl, hw8⟩
  have B8 : Below w.heap.size w w8 := by rw [← hw8]; exact B7.trans (hn8.mono B7.size)
  clear hm8 hn8 hw8 B7
  go_wp2_with fail
  have hm9 := made_ints [3, 2] #[.int .i64 3, .int .i64 2] 3 w8 rfl
  have hn9 := below_made w8 (.cells #[.int .i64 3, .int .i64 2] 3)
  refine (level_as (some ⟨w8.heap.size, 0, none⟩) [3, 2] 2 2 1 true (w8.alloc (.cells #[.int .i64 3, .int .i64 2] 3)) y1 rfl hm9 (by decide)).mono ?_
  rintro e w9 ⟨rfl, hw9⟩
  have B9 : Below w.heap.size w w9 := by rw [← hw9]; exact B8.trans (hn9.mono B8.size)
  clear hm9 hn9 hw9 B8
  go_wp2_with fail
  have hm10 := made_ints [20, 1] #[.int .i64 20, .int .i64 1] 3 w9 rfl
  have hn10 := below_made w9 (.cells #[.int .i64 20, .int .i64 1] 3)
  refine (level_as (some ⟨w9.heap.size, 0, none⟩) [20, 1] 2 2 0 false (w9.alloc (.cells #[.int .i64 20, .int .i64 1] 3)) y2 rfl hm10 (by decide)).mono ?_
  rintro e w10 ⟨rfl, hw10⟩
  have B10 : Below w.heap.size w w10 := by rw [← hw10]; exact B9.trans (hn10.mono B9.size)
  clear hm10 hn10 hw10 B9
  go_wp2_with fail
  refine (level_as none [] 0 0 0 false w10 y3 rfl (.inl rfl) (by decide)).mono ?_
  rintro e w11 ⟨rfl, hw11⟩
  subst hw11
  go_wp2
  go_ret
  exact ⟨rfl, B10⟩
end Go.Proofs.Ytifaimoaaiikpaa.Ba
