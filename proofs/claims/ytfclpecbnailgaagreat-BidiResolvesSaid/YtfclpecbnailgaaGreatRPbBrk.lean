/-
 Proved here: what pairs.Brackets returns: a new row of the classes, settled pair by pair (the plain settleZ); nothing, if the lists are unlike long. It leaves what was in memory.
-/
import Derived.Test.YtfclpecbnailgaaGreatRPbFind
import Derived.Test.YtfclpecbnailgaaGreatR12
import Derived.Test.YtfclpecbnailgaaGreatR9
set_option linter.unusedVariables false
namespace Go.Proofs.YtfclpecbnailgaaGreat.Pb
open Go Go.RowKit Go.Lib Go.Shelf Go.Proofs.YtfclpecbnailgaaGreat.Cl Go.Proofs.YtfclpecbnailgaaGreat.Pr Go.Proofs.YtfclpecbnailgaaGreat.Mi Go.Proofs.YtfclpecbnailgaaGreat.Wk
section
variable {bs : Nat} {A : Option Addr} {n c : Nat} {w wx wy : World} {L L' : List Int}
theorem row_then (h : Row bs A n c w L wx) (k : Row bs A n c wx L' wy) : Row bs A n c w L' wy := ⟨k.own, grown_trans h.gr k.gr⟩
theorem row_ints (h : Row bs A n c w L wx) : IntsAt wx A L := by
 obtain ⟨A', c', e, hat⟩ := intsAt_icl h.own h.len
 injection e with e
 rw [e]
 exact hat
theorem row_room (h : Row bs A n c w L wx) (hn : 0 < n) : n ≤ c := by
 rcases h.own.2 with ⟨_, h0⟩ | ⟨g, cap', cur, e, _, _, hle, _⟩
 ·omega
 ·injection e with e1 e2 e3
  omega
theorem row_other (h : Row bs A n c w L wx) {A3 : Option Addr} {own : List Int} (hp : IntsAt w A3 own) (hne : ∀ p q, A3 = some ⟨p, q, none⟩ → some p ≠ (Value.slice A n c).ownBlock) : IntsAt wx A3 own := by
 rcases hp with rfl | ⟨b, off, rfl, hb, hz⟩
 ·exact .inl rfl
 ·exact h.ints (.inr ⟨b, off, rfl, hb, hz⟩) (hne b off rfl)
theorem row_pairs (h : Row bs A n c w L wx) {AP : Option Addr} {P : List (Nat × Nat)} (hp : PaAt w AP P) (hne : ∀ p q, AP = some ⟨p, q, none⟩ → some p ≠ (Value.slice A n c).ownBlock) : PaAt wx AP P := by
 rcases hp with h0 | ⟨b, off, rfl, hb, hz⟩
 ·exact .inl h0
 ·exact .inr ⟨b, off, rfl, Nat.lt_of_lt_of_le hb h.gr.size, fun k p hk => ⟨h.cell (p := ⟨b, off + k * 2, none⟩) (hz k p hk).1 (hne b off rfl), h.cell (p := ⟨b, off + k * 2 + 1, none⟩) (hz k p hk).2 (hne b off rfl)⟩⟩
end
theorem fold_step (own : List Int) (way s : Int) (ps : List (Nat × Nat)) (T : List Int) {k : Nat} {p : Nat × Nat} (h : ps[k]? = some p) : (ps.take (k + 1)).foldl (applyZ own way s) T = applyZ own way s ((ps.take k).foldl (applyZ own way s) T) p := by
 obtain ⟨hk, rfl⟩ := List.getElem?_eq_some_iff.1 h
 rw [List.take_succ_eq_append_getElem hk, List.foldl_append]
 rfl
set_option maxHeartbeats 4000000 in
set_option maxRecDepth 100000 in
theorem brackets_like (A1 A2 A3 : Option Addr) (T C own : List Int) (n c1 c2 c3 : Nat) (level s : Int) (w : World) (hT : IntsAt w A1 T) (hC : IntsAt w A2 C) (hO : IntsAt w A3 own) (hlT : T.length = n) (hlC : C.length = n) (hlO : own.length = n) (hn : n ≤ 1099511627776) :
  Calls Tryz.prog 57 #[.slice A1 n c1, .slice A2 n c2, .slice A3 n c3, .int .i64 level, .int .i64 s] w fun e w' => ∃ A c, e = .returned (.slice A n c) ∧ w'.ownsRow w.heap.size 3 1 (.slice A n c) n (icl (settleZ T C own level s)) ∧ Below w.heap.size w w' := by
 have hS : settleZ T C own level s = (findP T C).foldl (applyZ own (wayZ level) s) T := by
  unfold settleZ
  rw [if_pos ⟨by rw [hlT, hlC], by rw [hlO, hlC]⟩]
 rw [hS]
 have hw01 := wayZ_01 level
 have HDR := Lib.hid (fun (W : World) => direction_any level W)
 have HCL := Lib.hid (Wk.clone_any A1 T n c1 w hT hlT hn)
 have HT := Lib.hid hT
 have HC := Lib.hid hC
 have HO := Lib.hid hO
 have HLT := Lib.hid hlT
 have HLC := Lib.hid hlC
 have HLO := Lib.hid hlO
 generalize wayZ level = d at *
 obtain ⟨ps, hps⟩ : ∃ ps, findP T C = ps := ⟨_, rfl⟩
 rw [hps]
 have HPE := Lib.hid hps
 clear hps
 clear hS hT hC hO hlT hlC hlO
 go_enter Tryz.func57, Tryz.ntmps57
 go_wp2_with fail
 refine HCL.out.mono ?_
 rintro e w1 ⟨A', c', rfl, hown, hb1⟩
 have HOW := Lib.hid hown
 have HB1 := Lib.hid hb1
 clear hown hb1 HCL
 go_wp2_with fail
 refine (HDR.out _).mono ?_
 rintro e w1 ⟨rfl, rfl⟩
 go_wp2_with fail
 have hx := heap_alloc_last w1 (.cells #[.slice A' n c', .slice A3 n c3, .int .i64 s, .int .i64 d] 123)
 have hb2 := HB1.out.trans ((below_made w1 (.cells #[.slice A' n c', .slice A3 n c3, .int .i64 s, .int .i64 d] 123)).mono HB1.out.size)
 have ho2 := ownsRow_below HOW.out (below_made w1 (.cells #[.slice A' n c', .slice A3 n c3, .int .i64 s, .int .i64 d] 123))
 have hs2 : (w1.alloc (.cells #[.slice A' n c', .slice A3 n c3, .int .i64 s, .int .i64 d] 123)).heap.size = w1.heap.size + 1 := World.size_alloc _ _
 have holt := HOW.out.lt
 generalize w1.alloc (.cells #[.slice A' n c', .slice A3 n c3, .int .i64 s, .int .i64 d] 123) = w2 at *
 refine (find_any A1 A2 T C n n c1 c2 w2 (HT.out.below hb2) (HC.out.below hb2) HLT.out HLC.out hn).mono ?_
 rintro e w3 ⟨v, rfl, hownP, hb3⟩
 rw [HPE.out] at hownP
 obtain ⟨AP, cP, rfl, hPa⟩ := paAt_own hownP rfl
 have HPS := Lib.hid (fun (k : Nat) (p : Nat × Nat) (h : ps[k]? = some p) => show p.1 < p.2 ∧ p.2 < C.length from have h2 := find_lt (T := T) (C := C) (p := p) (by rw [HPE.out]; exact List.mem_of_getElem? h); ⟨h2.1, h2.2.2⟩)
 have hPn : ps.length ≤ n := by rw [← HLC.out, ← HPE.out]; exact find_len
 have hAPlt := hownP.lt
 obtain ⟨m, hm⟩ : ∃ m, ps.length = m := ⟨_, rfl⟩
 rw [hm] at hPn hAPlt ⊢
 have HM := Lib.hid hm
 have HB3 := Lib.hid (hb2.trans (hb3.mono hb2.size))
 have HR3 := Lib.hid (Row.start (ownsRow_below ho2 hb3))
 have hne : ∀ k, (Value.slice A' n c').ownBlock = some k → w.heap.size ≤ k ∧ k < w1.heap.size := holt
 have hx3 := (hb3.block w1.heap.size (by omega)).trans hx
 have hnb : some w1.heap.size ≠ (Value.slice A' n c').ownBlock := fun e => by have := (hne _ e.symm).2; omega
 have HFS := Lib.hid (fun (V : World) (L : List Int) (h : Row w.heap.size A' n c' w3 L V) => show V.cell? ⟨w1.heap.size, 0, none⟩ = some (.slice A' n c') ∧ V.cell? ⟨w1.heap.size, 1, none⟩ = some (.slice A3 n c3) ∧ V.cell? ⟨w1.heap.size, 2, none⟩ = some (.int .i64 s) ∧ V.cell? ⟨w1.heap.size, 3, none⟩ = some (.int .i64 d) from
  ⟨h.cell (cell_of_row w3 w1.heap.size 0 _ _ _ hx3) hnb, h.cell (cell_of_row w3 w1.heap.size 1 _ _ _ hx3) hnb, h.cell (cell_of_row w3 w1.heap.size 2 _ _ _ hx3) hnb, h.cell (cell_of_row w3 w1.heap.size 3 _ _ _ hx3) hnb⟩)
 have HNO := Lib.hid (fun (p q : Nat) (e : A3 = some ⟨p, q, none⟩) (h : p < w.heap.size) => show some p ≠ (Value.slice A' n c').ownBlock from fun e2 => by have := (hne _ e2.symm).1; omega)
 have HOW3 := Lib.hid (fun (V : World) (L : List Int) (h : Row w.heap.size A' n c' w3 L V) => show IntsAt V A3 own from by
  rcases HO.out with h0 | ⟨b, off, e, hb, hz⟩
  ·exact .inl h0
  ·refine row_other h (HO.out.below HB3.out) (fun p q e2 => ?_)
   rw [e] at e2
   injection e2 with e2
   injection e2 with e2
   subst e2
   exact HNO.out b off e hb)
 have HPA := Lib.hid (fun (V : World) (L : List Int) (h : Row w.heap.size A' n c' w3 L V) => show PaAt V AP ps from row_pairs h hPa (fun p q e e2 => by
  have h1 := (hAPlt p (by rw [e]; rfl)).1
  have h2 := (hne _ e2.symm).2
  omega))
 clear hx hb2 ho2 hs2 holt hownP hPa hAPlt hm hx3 hnb hb3 HDR
 go_wp2_with fail
 go_loopw [38] (fun s38 wx => ∃ k : Nat, k ≤ m ∧ s38 = .int .i64 k ∧ Row w.heap.size A' n c' w3 ((ps.take k).foldl (applyZ own d s) T) wx) (fun s38 _ => m - (RowKit.intOf s38).toNat)
 case atStart => exact ⟨0, Nat.zero_le _, rfl, HR3.out⟩
 case round =>
  obtain ⟨k, hk, rfl, hr⟩ := hrel
  have HR := Lib.hid hr
  by_cases hlt : k < m
  ·have hkp : k < ps.length := by rw [HM.out]; exact hlt
   obtain ⟨⟨i, j⟩, hpk⟩ : ∃ p, ps[k]? = some p := ⟨_, List.getElem?_eq_getElem hkp⟩
   have HST := Lib.hid (fold_step own d s ps T hpk)
   have HIS := Lib.hid (HPS.out k _ hpk)
   obtain ⟨bp, op, rfl, hblt, hp0, hp1⟩ := (HPA.out wr _ hr).at_ hpk
   try dsimp only at hp0 hp1
   generalize (ps.take k).foldl (applyZ own d s) T = L at *
   have hk0 : (0 : Int) ≤ (k : Int) := by omega
   have hk1 : (k : Int) < (m : Int) := by omega
   have hij := HIS.out.1
   have hjn : j < n := by rw [← HLC.out]; exact HIS.out.2
   have hrA := hr.alloc (.cells #[.int .i64 i, .int .i64 j] 95)
   have hxA := heap_alloc_last wr (.cells #[.int .i64 i, .int .i64 j] 95)
   have holt := hr.own.lt
   obtain ⟨f0, f1, f2, f3⟩ := HFS.out _ _ hrA
   clear hkp hr hpk
   go_wp2_with fail
   clear hp0 hp1 hblt
   generalize wr.alloc (.cells #[.int .i64 i, .int .i64 j] 95) = W1 at *
   refine (outcome_any A' A3 L n c' n c3 i j s d W1 hw01 (row_ints hrA) hrA.len hn (row_room hrA (by omega)) hij hjn).mono ?_
   rintro e W2 ⟨rfl, hbw⟩
   have hr2 := hrA.below hbw
   have hnx : some wr.heap.size ≠ (Value.slice A' n c').ownBlock := fun e => by have := (holt _ e.symm).2; omega
   have hx2 := (hbw.block wr.heap.size (Array.getElem?_eq_some_iff.1 hxA).1).trans hxA
   have HX := Lib.hid (fun (V : World) (M : List Int) (h : Row w.heap.size A' n c' W2 M V) => show V.cell? ⟨wr.heap.size, 0, none⟩ = some (.int .i64 i) ∧ V.cell? ⟨wr.heap.size, 1, none⟩ = some (.int .i64 j) from
    ⟨h.cell (cell_of_row W2 wr.heap.size 0 _ _ _ hx2) hnx, h.cell (cell_of_row W2 wr.heap.size 1 _ _ _ hx2) hnx⟩)
   obtain ⟨z, hz⟩ : ∃ z, becZ L (i, j) d s = z := ⟨_, rfl⟩
   have h01 : z = 0 ∨ z = 1 ∨ z = -1 := by rw [← hz]; exact becZ_01 hw01 L (i, j) s
   rw [hz]
   have HR2 := Lib.hid hr2
   clear f0 f1 f2 f3 hx2 hnx hxA holt hrA hbw
   by_cases hz1 : z = -1
   ·subst hz1
    have HS2 := Lib.hid (HST.out.trans (applyZ_no own d s L (i, j) (by rw [hz]; decide)))
    clear hz h01 hr2
    go_wp2_with fail
    go_roundw
    case rel => exact ⟨k + 1, by omega, by go_num, by rw [HS2.out]; exact HR2.out⟩
    case measure => simp [RowKit.intOf]; omega
   ·have HS2 := Lib.hid (HST.out.trans (applyZ_two own d s L (i, j) hz (by omega)))
    have hb : (z != -1) = true := bne_iff_ne.2 hz1
    have hne3 : ∀ p q, A3 = some ⟨p, q, none⟩ → some p ≠ (Value.slice A' n c').ownBlock := fun p q e => by
     rcases HO.out with h0 | ⟨b, off, e3, hbb, -⟩
     ·rw [h0] at HLO
      have := HLO.out
      simp at this
      omega
     ·rw [e] at e3
      injection e3 with e3
      injection e3 with e3
      subst e3
      exact HNO.out p q e hbb
    obtain ⟨f0, f1, f2, f3⟩ := HFS.out _ _ hr2
    obtain ⟨g0, g1⟩ := HX.out W2 L (Row.start hr2.own)
    clear hz h01 hz1
    go_wp2_with fail
    refine (become_any w.heap.size A' A3 L own n c' c3 i z s d W2 hr2.own hn (HOW3.out W2 L hr2) HLO.out hne3 (by omega)).mono ?_
    rintro e W3 ⟨rfl, hr3⟩
    have hr3' := row_then hr2 hr3
    obtain ⟨g0', g1'⟩ := HX.out W3 _ hr3
    clear f0 f1 f2 f3 g0 g1 hr2
    obtain ⟨f0, f1, f2, f3⟩ := HFS.out _ _ hr3'
    go_wp2_with fail
    refine (become_any w.heap.size A' A3 (setOne own i z L) own n c' c3 j z s d W3 hr3.own hn (HOW3.out W3 _ hr3') HLO.out hne3 hjn).mono ?_
    rintro e W4 ⟨rfl, hr4⟩
    have HR4 := Lib.hid (row_then hr3' hr4)
    clear f0 f1 f2 f3 g0' g1' hr3 hr3' hr4
    go_wp2_with fail
    go_roundw
    case rel => exact ⟨k + 1, by omega, by go_num, by rw [HS2.out]; exact HR4.out⟩
    case measure => simp [RowKit.intOf]; omega
  ·obtain rfl : k = m := by omega
   rw [List.take_of_length_le (by rw [HM.out]; exact Nat.le_refl _)] at HR
   obtain ⟨f0, f1, f2, f3⟩ := HFS.out wr _ HR.out
   clear hr hlt
   go_wp2_with fail
   go_ret
   exact ⟨A', c', rfl, HR.out.own, HB3.out.grown HR.out.gr HB3.out.size (fun q hq => (hne q hq).1)⟩
theorem settle_unlike {T C own : List Int} (level s : Int) (h : ¬ (T.length = C.length ∧ own.length = C.length)) : settleZ T C own level s = [] := by unfold settleZ; rw [if_neg h]
set_option maxHeartbeats 1000000 in
set_option maxRecDepth 100000 in
theorem brackets_any (A1 A2 A3 : Option Addr) (T C own : List Int) (n m k c1 c2 c3 : Nat) (level s : Int) (w : World) (hT : IntsAt w A1 T) (hC : IntsAt w A2 C) (hO : IntsAt w A3 own) (hlT : T.length = n) (hlC : C.length = m) (hlO : own.length = k) (hn : n ≤ 1099511627776) :
  Calls Tryz.prog 57 #[.slice A1 n c1, .slice A2 m c2, .slice A3 k c3, .int .i64 level, .int .i64 s] w fun e w' => ∃ A c, e = .returned (.slice A (settleZ T C own level s).length c) ∧ w'.ownsRow w.heap.size 3 1 (.slice A (settleZ T C own level s).length c) (settleZ T C own level s).length (icl (settleZ T C own level s)) ∧ Below w.heap.size w w' := by
 by_cases h1 : n = m
 ·subst h1
  by_cases h2 : n = k
  ·subst h2
   rw [settleZ_len level s (by rw [hlT, hlC]) (by rw [hlO, hlC]), hlT]
   exact brackets_like A1 A2 A3 T C own n c1 c2 c3 level s w hT hC hO hlT hlC hlO hn
  ·rw [settle_unlike level s (by rw [hlT, hlC, hlO]; omega)]
   have hb : (((n : Int)) != (k : Int)) = true := bne_iff_ne.2 (by omega)
   clear h2 hlT hlC hlO hT hC hO
   go_enter Tryz.func57, Tryz.ntmps57
   go_wp2_with fail
   go_ret
   exact ⟨none, 0, rfl, World.ownsRow_nil _ _ _ _, Below.refl _ _⟩
 ·rw [settle_unlike level s (by rw [hlT, hlC]; omega)]
  have hb : (((n : Int)) != (m : Int)) = true := bne_iff_ne.2 (by omega)
  clear h1 hlT hlC hlO hT hC hO
  go_enter Tryz.func57, Tryz.ntmps57
  go_wp2_with fail
  go_ret
  exact ⟨none, 0, rfl, World.ownsRow_nil _ _ _ _, Below.refl _ _⟩
end Go.Proofs.YtfclpecbnailgaaGreat.Pb
