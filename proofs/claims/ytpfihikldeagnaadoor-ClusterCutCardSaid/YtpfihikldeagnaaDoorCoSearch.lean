/-
  Proved here: what the closure of cols.within, the search by halves at rows that rise, cols.within and cols.slotsBy return, for every number; they leave what was in memory. Condition: rows that rise, of 1000 numbers at most.
-/
import Derived.Test.YtpfihikldeagnaaDoorCoRows
import Derived.IntWalk
import Derived.OwnWalk
set_option linter.unusedVariables false
namespace Go.Proofs.YtpfihikldeagnaaDoor.Co
open Go.RowKit Go.Lib Go.Proofs.YtpfihikldeagnaaDoor.Tab Go.Proofs.YtpfihikldeagnaaDoor.Arr

/-- What the closure reads: a variable that holds the slice, one that holds the number, the slice's row. -/
def Boxed (w : World) (g1 g2 b : Nat) (E : List Int) (c : Int) : Prop :=
  LitAt w b E ∧ g1 < w.heap.size ∧ g2 < w.heap.size ∧ w.cell? ⟨g1, 0, none⟩ = some (.slice (some ⟨b, 0, none⟩) E.length E.length) ∧ w.cell? ⟨g2, 0, none⟩ = some (.int .i64 c)
theorem Boxed.below {w w' : World} {g1 g2 b : Nat} {E : List Int} {c : Int} (h : Boxed w g1 g2 b E c) (hb : Below w.heap.size w w') : Boxed w' g1 g2 b E c :=
  ⟨h.1.below hb, Nat.lt_of_lt_of_le h.2.1 hb.size, Nat.lt_of_lt_of_le h.2.2.1 hb.size, (hb.cell (p := ⟨g1, 0, none⟩) h.2.1).trans h.2.2.2.1, (hb.cell (p := ⟨g2, 0, none⟩) h.2.2.1).trans h.2.2.2.2⟩

set_option maxHeartbeats 1000000 in
set_option maxRecDepth 100000 in
theorem closure_any (E : List Int) (c : Int) (g1 g2 b k : Nat) (w : World) (hB : Boxed w g1 g2 b E c) (hk : k < E.length) :
    Calls Tryd.prog 62 #[.int .i64 k, .pointer (some ⟨g1, 0, none⟩), .pointer (some ⟨g2, 0, none⟩)] w fun e w' => e = .returned (.bool (decide (c < E[k]))) ∧ Below w.heap.size w w' := by
  obtain ⟨⟨hlt, hE⟩, h1, h2, c1, c2⟩ := hB
  have c0 := hE k hk
  clear hE
  generalize E[k] = y at *
  generalize E.length = n at *
  go_enter Tryd.func62, Tryd.ntmps62
  go_wp2
  go_quiet (fail)
  go_wp2
  go_ret
  exact ⟨rfl, below_drewN (Below.refl _ _) _⟩

set_option maxHeartbeats 1000000 in
set_option maxRecDepth 100000 in
theorem search_any (E : List Int) (c : Int) (g1 g2 b : Nat) (w : World) (hB : Boxed w g1 g2 b E c) (hl : E.length ≤ 1000) (hr : risesI E = true) :
    Calls Tryd.prog 61 #[.int .i64 E.length, .func (.func 62) #[] #[.pointer (some ⟨g1, 0, none⟩), .pointer (some ⟨g2, 0, none⟩)]] w fun e w' => e = .returned (.int .i64 (ahead E c : Nat)) ∧ Below w.heap.size w w' := by
  have HR := Lib.hid hr
  have HX := Lib.hid hB
  clear hr hB
  go_enter Tryd.func61, Tryd.ntmps61
  go_wp2
  go_loopw [5, 6] (fun s5 s6 wx => ∃ i j : Nat, i ≤ j ∧ j ≤ E.length ∧ s5 = .int .i64 i ∧ s6 = .int .i64 j ∧ Below w.heap.size w wx ∧ (∀ k (hk : k < E.length), k < i → E[k] ≤ c) ∧ (∀ k (hk : k < E.length), j ≤ k → c < E[k])) (fun s5 s6 _ => (RowKit.intOf s6).toNat - (RowKit.intOf s5).toNat)
  case atStart => exact ⟨0, E.length, Nat.zero_le _, Nat.le_refl _, rfl, rfl, Below.refl _ _, fun k hk h => by omega, fun k hk h => by omega⟩
  case round =>
    obtain ⟨i, j, hij, hj, rfl, rfl, hb, hlo, hhi⟩ := hrel
    have HLO := Lib.hid hlo
    have HHI := Lib.hid hhi
    have HB := Lib.hid hb
    clear hlo hhi hb
    by_cases hlt : i < j
    · have hh : (i + j) / 2 < E.length := by omega
      have CL := Lib.hid (fun W hW => closure_any E c g1 g2 b ((i + j) / 2) W hW hh)
      by_cases hc : c < E[(i + j) / 2]
      · have hd : decide (c < E[(i + j) / 2]) = true := decide_eq_true hc
        rw [hd] at CL
        have hc' := Lib.hid hc
        clear hc hd
        go_wp2_with fail
        refine (CL.out _ (HX.out.below HB.out)).mono ?_
        rintro e w' ⟨rfl, hb2⟩
        go_wp2
        go_roundw
        case rel =>
          refine ⟨i, (i + j) / 2, by omega, by omega, rfl, by go_num, HB.out.trans (hb2.mono HB.out.size), HLO.out, fun k hk hki => ?_⟩
          have := risesI_le HR.out _ k hh hk hki
          have := hc'.out
          omega
        case measure => simp [RowKit.intOf]; omega
      · have hd : decide (c < E[(i + j) / 2]) = false := decide_eq_false hc
        rw [hd] at CL
        have hc' := Lib.hid hc
        clear hc hd
        go_wp2_with fail
        refine (CL.out _ (HX.out.below HB.out)).mono ?_
        rintro e w' ⟨rfl, hb2⟩
        go_wp2
        go_roundw
        case rel =>
          refine ⟨(i + j) / 2 + 1, j, by omega, hj, by go_num, rfl, HB.out.trans (hb2.mono HB.out.size), fun k hk hki => ?_, HHI.out⟩
          have := risesI_le HR.out k _ hk hh (by omega)
          have := hc'.out
          omega
        case measure => simp [RowKit.intOf]; omega
    · obtain rfl : i = j := by omega
      have HC := Lib.hid (ahead_is E c i hj HLO.out (fun h => HHI.out i h (Nat.le_refl _)))
      go_wp2
      go_ret
      exact ⟨by rw [HC.out]; rfl, HB.out⟩

set_option maxHeartbeats 1000000 in
set_option maxRecDepth 100000 in
theorem within_any (S : List CSpan) (E : List Int) (hE : E = endsL S) (c : Int) (b : Nat) (w : World) (hL : LitAt w b E) (hl : E.length ≤ 1000) (hr : risesI E = true) :
    Calls Tryd.prog 48 #[.slice (some ⟨b, 0, none⟩) E.length E.length, .int .i64 c] w fun e w' => e = .returned (.bool (inS S c)) ∧ Below w.heap.size w w' := by
  have ho : (ahead E c % 2 == 1) = inS S c := by subst hE; exact odd_in S c hr
  have HO := Lib.hid ho
  have SE := Lib.hid (fun g1 g2 W hW => search_any E c g1 g2 b W hW hl hr)
  have hle := ahead_le E c
  have HL := Lib.hid hL
  rw [← HO.out]
  clear ho HO hE hr hL
  generalize ahead E c = a at *
  have HA := Lib.hid (show ((a : Int) % 2 == 1) = (a % 2 == 1) from by rw [Bool.eq_iff_iff]; simp only [beq_iff_eq]; omega)
  go_enter Tryd.func48, Tryd.ntmps48
  go_wp2_with fail
  have hb2 : Below w.heap.size w ((w.alloc (.cells #[.slice (some ⟨b, 0, none⟩) E.length E.length] 43)).alloc (.cells #[.int .i64 c] 3)) := ((Below.refl _ _).alloc (Nat.le_refl _) _).alloc (by simp) _
  have HB2 := Lib.hid hb2
  have HX := Lib.hid (show Boxed ((w.alloc (.cells #[.slice (some ⟨b, 0, none⟩) E.length E.length] 43)).alloc (.cells #[.int .i64 c] 3)) w.heap.size (w.heap.size + 1) b E c from
    ⟨HL.out.below hb2, by simp; omega, by simp, by simp, by simp⟩)
  clear hb2
  refine (SE.out _ _ _ HX.out).mono ?_
  rintro e w3 ⟨rfl, hb3⟩
  go_wp2
  go_ret
  exact ⟨by rw [← HA.out]; rfl, HB2.out.trans (hb3.mono HB2.out.size)⟩

theorem slotsV_as (n w : Bool) : slotsV n w = if n = true then 0 else if w = true then 2 else 1 := rfl
set_option maxHeartbeats 1000000 in
set_option maxRecDepth 100000 in
theorem slotsBy_any (c : Int) (b1 b2 : Nat) (w : World) (h1 : LitAt w b1 narrowE) (h2 : LitAt w b2 wideE) :
    Calls Tryd.prog 36 #[.slice (some ⟨b1, 0, none⟩) 90 90, .slice (some ⟨b2, 0, none⟩) 184 184, .int .i64 c] w fun e w' => e = .returned (.int .i64 (slotsT c)) ∧ Below w.heap.size w w' := by
  have CN := fun W (h : LitAt W b1 narrowE) => within_any narrowS narrowE rfl c b1 W h (by rw [narrowE_len]; decide) narrowE_rises
  have CW := fun W (h : LitAt W b2 wideE) => within_any wideS wideE rfl c b2 W h (by rw [wideE_len]; decide) wideE_rises
  rw [narrowE_len] at CN
  rw [wideE_len] at CW
  have HN := Lib.hid CN
  have HW := Lib.hid CW
  have H1 := Lib.hid h1
  have H2 := Lib.hid h2
  clear CN CW h1 h2
  unfold slotsT
  generalize inS narrowS c = p at *
  generalize inS wideS c = q at *
  cases p
  · cases q
    all_goals
      go_enter Tryd.func36, Tryd.ntmps36
      go_wp2_with fail
      refine (HN.out _ H1.out).mono ?_
      rintro e w1 ⟨rfl, hb1⟩
      go_wp2_with fail
      refine (HW.out _ (H2.out.below hb1)).mono ?_
      rintro e w2 ⟨rfl, hb2⟩
      go_wp2
      go_ret
      exact ⟨rfl, hb1.trans (hb2.mono hb1.size)⟩
  · go_enter Tryd.func36, Tryd.ntmps36
    go_wp2_with fail
    refine (HN.out _ H1.out).mono ?_
    rintro e w1 ⟨rfl, hb1⟩
    go_wp2
    go_ret
    exact ⟨rfl, hb1⟩
end Go.Proofs.YtpfihikldeagnaaDoor.Co
