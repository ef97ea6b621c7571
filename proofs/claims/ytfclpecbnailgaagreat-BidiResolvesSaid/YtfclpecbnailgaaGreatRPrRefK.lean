/-
 Proved here: what parquetryref14.Brackets returns: a new row of the classes, settled pair by pair (the plain settleZ); nothing, if the lists are unlike long. It leaves what was in memory.
-/
import Derived.Test.YtfclpecbnailgaaGreatRPrRefF
import Derived.Test.YtfclpecbnailgaaGreatRPbBrk
set_option linter.unusedVariables false
set_option linter.unusedSimpArgs false
namespace Go.Proofs.YtfclpecbnailgaaGreat.Pb
open Go Go.RowKit Go.Lib Go.Shelf Go.Proofs.YtfclpecbnailgaaGreat.Cl Go.Proofs.YtfclpecbnailgaaGreat.Pr Go.Proofs.YtfclpecbnailgaaGreat.Mi Go.Proofs.YtfclpecbnailgaaGreat.Wk
theorem pair_cells {w : World} {b off : Nat} {P : List (Nat × Nat)} (h : PaAt w (some ⟨b, off, none⟩) P) {k i j : Nat} (hk : P[k]? = some (i, j)) : w.cell? ⟨b, off + k * 2, none⟩ = some (.int .i64 i) ∧ w.cell? ⟨b, off + k * 2 + 1, none⟩ = some (.int .i64 j) := by
 obtain ⟨b2, o2, e, -, h0, h1⟩ := h.at_ hk
 injection e with e
 injection e with e1 e2
 subst e1 e2
 exact ⟨h0, h1⟩
theorem setUp_set {own l : List Int} {p : Nat × Nat} {c : Int} {k : Nat} (hk : k < l.length) : setUp own p c l (k + 1) = if mayZ own p k = true then (setUp own p c l k).set k c else setUp own p c l k := by
 rw [setUp_step own p c l (List.getElem?_eq_getElem hk), setUp_parts own p c l (List.getElem?_eq_getElem hk)]
 have hl : ((setZ own p c l).take k).length = k := by rw [List.length_take, setZ_len]; omega
 split
 ·rw [List.set_append_right _ _ (by rw [hl]; exact Nat.le_refl _), hl, Nat.sub_self]
  rfl
 ·rfl
set_option maxHeartbeats 4000000 in
set_option maxRecDepth 100000 in
theorem rbrackets_like (A1 A2 A3 : Option Addr) (T C own : List Int) (n c1 c2 c3 : Nat) (level s : Int) (w : World) (hT : IntsAt w A1 T) (hC : IntsAt w A2 C) (hO : IntsAt w A3 own) (hlT : T.length = n) (hlC : C.length = n) (hlO : own.length = n) (hn : n ≤ 1099511627776) :
  Calls Tryz.prog 34 #[.slice A1 n c1, .slice A2 n c2, .slice A3 n c3, .int .i64 level, .int .i64 s] w fun e w' => ∃ A c, e = .returned (.slice A n c) ∧ w'.ownsRow w.heap.size 3 1 (.slice A n c) n (icl (settleZ T C own level s)) ∧ Below w.heap.size w w' := by
 have hS : settleZ T C own level s = (findP T C).foldl (applyZ own (wayZ level) s) T := by
  unfold settleZ
  rw [if_pos ⟨by rw [hlT, hlC], by rw [hlO, hlC]⟩]
 rw [hS]
 have hw01 := wayZ_01 level
 have HT := Lib.hid hT
 have HC := Lib.hid hC
 have HO := Lib.hid hO
 have HLT := Lib.hid hlT
 have HLC := Lib.hid hlC
 have HLO := Lib.hid hlO
 have HM := Lib.hid (show (w.alloc (.cells #[] 3)).ownsRow w.heap.size 3 1 (.slice (some ⟨w.heap.size, 0, none⟩) 0 0) 0 (icl []) from World.ownsRow_made w #[] 0 (Nat.le_refl _) (Nat.zero_le _) rfl)
 have HD := Lib.hid (below_made w (.cells #[] 3))
 have HT1 := Lib.hid (hT.below HD.out)
 obtain ⟨ps, hps⟩ : ∃ ps, findP T C = ps := ⟨_, rfl⟩
 rw [hps]
 have HPE := Lib.hid hps
 obtain ⟨d, hd⟩ : ∃ d, wayZ level = d := ⟨_, rfl⟩
 rw [hd] at hw01 ⊢
 have main : ∀ K : (Act → World → Prop), True := fun _ => trivial
 clear hps hS hT hC hO hlT hlC hlO main
 rw [wayZ_tmod] at hd
 cases hb : (level.tmod 2 != 0) with
 | true =>
  obtain rfl : d = 1 := by
   have : ¬ level.tmod 2 = 0 := by simpa using hb
   rw [if_neg this] at hd
   exact hd.symm
  clear hd hw01
  go_enter Tryz.func34, Tryz.ntmps34
  go_wp2_with (at_builtin; refine wpList_add rfl _ _ rfl w.heap.size _ 0 [] rfl HM.out A1 n c1 T rfl HT1.out HLT.out (by omega) (by simp) ?_)
  intro v1 w1 hown hbd
  try simp only [List.nil_append, Nat.zero_add] at hown
  obtain ⟨A', c', rfl, -⟩ := intsAt_icl hown HLT.out
  have HOW := Lib.hid hown
  have HB1 := Lib.hid (HD.out.trans hbd)
  clear hown hbd HM HT1
  go_wp2_with fail
  refine (rfind_any A1 A2 T C n n c1 c2 w1 (HT.out.below HB1.out) (HC.out.below HB1.out) HLT.out HLC.out hn).mono ?_
  rintro e w3 ⟨v, rfl, hownP, hb3⟩
  rw [HPE.out] at hownP
  obtain ⟨AP, cP, rfl, hPa⟩ := paAt_own hownP rfl
  have HPS := Lib.hid (fun (k : Nat) (p : Nat × Nat) (h : ps[k]? = some p) => show p.1 < p.2 ∧ p.2 < C.length from have h2 := find_lt (T := T) (C := C) (p := p) (by rw [HPE.out]; exact List.mem_of_getElem? h); ⟨h2.1, h2.2.2⟩)
  have hPn : ps.length ≤ n := by rw [← HLC.out, ← HPE.out]; exact find_len
  have hAPlt := hownP.lt
  obtain ⟨m, hm⟩ : ∃ m, ps.length = m := ⟨_, rfl⟩
  rw [hm] at hPn hAPlt ⊢
  have HM := Lib.hid hm
  have HB3 := Lib.hid (HB1.out.trans (hb3.mono HB1.out.size))
  have HR3 := Lib.hid (Row.start (ownsRow_below HOW.out hb3))
  have hne : ∀ k, (Value.slice A' n c').ownBlock = some k → w.heap.size ≤ k ∧ k < w1.heap.size := HOW.out.lt
  have HNO := Lib.hid (fun (p q : Nat) (e : A3 = some ⟨p, q, none⟩) (h : p < w.heap.size) => show some p ≠ (Value.slice A' n c').ownBlock from fun e2 => by have := (hne _ e2.symm).1; omega)
  have HOW3 := Lib.hid (fun (V : World) (L : List Int) (h : Row w.heap.size A' n c' w3 L V) => show IntsAt V A3 own from by
   rcases HO.out with h0 | ⟨b, off, e, hb, hz⟩
   ·exact .inl h0
   ·refine row_other h (HO.out.below HB3.out) (fun p q e2 => ?_)
    rw [e] at e2
    injection e2 with e2
    injection e2 with e2
    subst e2
    exact HNO.out b off e hb)
  have HPA := Lib.hid (fun (V : World) (L : List Int) (h : Row w.heap.size A' n c' w3 L V) => show PaAt V AP ps from row_pairs h hPa (fun p q e e2 => by
   have h1 := (hAPlt p (by rw [e]; rfl)).1
   have h2 := (hne _ e2.symm).2
   omega))
  clear hownP hPa hAPlt hm hb3 hb
  go_wp2_with fail
  go_loopw [14] (fun s14 wx => ∃ k : Nat, k ≤ m ∧ s14 = .int .i64 k ∧ Row w.heap.size A' n c' w3 ((ps.take k).foldl (applyZ own 1 s) T) wx) (fun s14 _ => m - (RowKit.intOf s14).toNat)
  case atStart => exact ⟨0, Nat.zero_le _, rfl, HR3.out⟩
  case round =>
   obtain ⟨k, hk, rfl, hr⟩ := hrel
   have HR := Lib.hid hr
   by_cases hlt : k < m
   ·have hkp : k < ps.length := by rw [HM.out]; exact hlt
    obtain ⟨⟨i, j⟩, hpk⟩ : ∃ p, ps[k]? = some p := ⟨_, List.getElem?_eq_getElem hkp⟩
    have HST := Lib.hid (fold_step own 1 s ps T hpk)
    have HIS := Lib.hid (HPS.out k _ hpk)
    obtain ⟨bp, op, rfl, hblt, hp0, hp1⟩ := (HPA.out wr _ hr).at_ hpk
    try dsimp only at hp0 hp1
    have HCP := Lib.hid (fun (V : World) (M : List Int) (h : Row w.heap.size A' n c' w3 M V) => show V.cell? ⟨bp, op + k * 2, none⟩ = some (.int .i64 i) ∧ V.cell? ⟨bp, op + k * 2 + 1, none⟩ = some (.int .i64 j) from pair_cells (HPA.out V M h) hpk)
    generalize (ps.take k).foldl (applyZ own 1 s) T = L at *
    have hk0 : (0 : Int) ≤ (k : Int) := by omega
    have hk1 : (k : Int) < (m : Int) := by omega
    have hij := HIS.out.1
    have hjn : j < n := by rw [← HLC.out]; exact HIS.out.2
    have HRB := Lib.hid (fun (V : World) (h : Row w.heap.size A' n c' w3 L V) => rbecomes_any A' L n c' i j s 1 V (by decide) (row_ints h) h.len hn (row_room h (by omega)) hij hjn)
    have HLL := Lib.hid hr.len
    clear hkp hr hpk
    go_wp2_with fail
    refine (HRB.out wr HR.out).mono ?_
    rintro e W2 ⟨rfl, hbw⟩
    have HR2 := Lib.hid (HR.out.below hbw)
    obtain ⟨z, hz⟩ : ∃ z, becZ L (i, j) 1 s = z := ⟨_, rfl⟩
    have h01 : z = 0 ∨ z = 1 ∨ z = -1 := by rw [← hz]; exact becZ_01 (by decide) L (i, j) s
    rw [hz]
    clear hp0 hp1 hblt hbw HRB
    by_cases hz1 : z = -1
    ·subst hz1
     have HS2 := Lib.hid (HST.out.trans (applyZ_no own 1 s L (i, j) (by rw [hz]; decide)))
     have hn0 : (0 : Int) < (n : Int) := by omega
     have hn0' : 0 < n := by omega
     clear hz h01
     go_wp2_with fail
     go_loopw [16] (fun s16 wx => s16 = .int .i64 0 ∧ wx = W2) (fun _ _ => 0)
     case atStart => exact ⟨rfl, rfl⟩
     case round =>
      obtain ⟨rfl, rfl⟩ := hrel
      go_wp2_with fail
      go_roundw
      case rel => exact ⟨k + 1, by omega, by go_num, by rw [HS2.out]; exact HR2.out⟩
      case measure => simp [RowKit.intOf]; omega
    ·have hz0 : 0 ≤ z := by omega
     have HS2 := Lib.hid (show applyZ own 1 s L (i, j) = setZ own (i, j) z L from by unfold applyZ; rw [hz, if_neg (by omega)])
     have hdz : decide (0 ≤ z) = true := decide_eq_true hz0
     clear hz h01 hz1
     go_wp2_with fail
     go_loopw [16] (fun s16 wx => ∃ q : Nat, q ≤ n ∧ s16 = .int .i64 q ∧ Row w.heap.size A' n c' w3 (setUp own (i, j) z L q) wx) (fun s16 _ => n - (RowKit.intOf s16).toNat)
     case atStart => exact ⟨0, Nat.zero_le _, rfl, by rw [setUp_zero]; exact HR2.out⟩
     case round =>
      obtain ⟨q, hq, rfl, hrq⟩ := hrel
      have HRQ := Lib.hid hrq
      obtain ⟨hp0, hp1⟩ := HCP.out wr _ hrq
      by_cases hqn : q < n
      ·have HSU := Lib.hid (setUp_set (own := own) (p := (i, j)) (c := z) (k := q) (l := L) (by rw [HLL.out]; exact hqn))
       obtain ⟨g, rfl, hfr, hnc, ⟨x, hcx, -⟩, hput⟩ := row_idx hrq hqn
       have HPUT := Lib.hid (hput z)
       have HMI := Lib.hid (rmarks_any A3 own n c3 i q wr (HOW3.out wr _ hrq) HLO.out hn (by omega) hqn)
       have HMJ := Lib.hid (rmarks_any A3 own n c3 j q wr (HOW3.out wr _ hrq) HLO.out hn hjn hqn)
       have hq0 : (0 : Int) ≤ (q : Int) := by omega
       have hq1 : (q : Int) < (n : Int) := by omega
       have hdq : decide ((q : Int) < (n : Int)) = true := decide_eq_true hq1
       have hdn : decide (q < n) = true := decide_eq_true hqn
       have hmay : mayZ own (i, j) q = (decide (q = i) || decide (q = j) || marksZ own i q || marksZ own j q) := rfl
       rw [hmay] at HSU
       clear hput hrq hmay
       by_cases hqi : q = i
       ·have hIi : ((q : Int) == (i : Int)) = true := beq_iff_eq.2 (by omega)
        have hNi : (q == i) = true := beq_iff_eq.2 (by omega)
        have HSU2 := Lib.hid (show setUp own (i, j) z L (q + 1) = (setUp own (i, j) z L q).set q z from by rw [HSU.out, if_pos (by simp [hqi])])
        clear hqi HSU HMI HMJ
        go_wp2_with fail
        go_roundw
        case rel => exact ⟨q + 1, by omega, by go_num, by rw [HSU2.out]; exact HPUT.out⟩
        case measure => simp [RowKit.intOf]; omega
       ·have hIi : ((q : Int) == (i : Int)) = false := beq_eq_false_iff_ne.2 (by omega)
        have hNi : (q == i) = false := beq_eq_false_iff_ne.2 (by omega)
        by_cases hqj : q = j
        ·have hIj : ((q : Int) == (j : Int)) = true := beq_iff_eq.2 (by omega)
         have hNj : (q == j) = true := beq_iff_eq.2 (by omega)
         have HSU2 := Lib.hid (show setUp own (i, j) z L (q + 1) = (setUp own (i, j) z L q).set q z from by rw [HSU.out, if_pos (by simp [hqj])])
         clear hqi hqj HSU HMI HMJ
         go_wp2_with fail
         go_roundw
         case rel => exact ⟨q + 1, by omega, by go_num, by rw [HSU2.out]; exact HPUT.out⟩
         case measure => simp [RowKit.intOf]; omega
        ·have hIj : ((q : Int) == (j : Int)) = false := beq_eq_false_iff_ne.2 (by omega)
         have hNj : (q == j) = false := beq_eq_false_iff_ne.2 (by omega)
         cases hmi : marksZ own i q with
         | true =>
          have HSU2 := Lib.hid (show setUp own (i, j) z L (q + 1) = (setUp own (i, j) z L q).set q z from by rw [HSU.out, if_pos (by simp [hmi])])
          rw [hmi] at HMI
          clear hqi hqj hmi HSU HMJ
          go_wp2_with fail
          refine HMI.out.mono ?_
          rintro e w2 ⟨rfl, rfl⟩
          go_wp2_with fail
          go_roundw
          case rel => exact ⟨q + 1, by omega, by go_num, by rw [HSU2.out]; exact HPUT.out⟩
          case measure => simp [RowKit.intOf]; omega
         | false =>
          rw [hmi] at HMI
          cases hmj : marksZ own j q with
          | true =>
           have HSU2 := Lib.hid (show setUp own (i, j) z L (q + 1) = (setUp own (i, j) z L q).set q z from by rw [HSU.out, if_pos (by simp [hmj])])
           rw [hmj] at HMJ
           clear hqi hqj hmi hmj HSU
           go_wp2_with fail
           refine HMI.out.mono ?_
           rintro e w2 ⟨rfl, rfl⟩
           go_wp2_with fail
           refine HMJ.out.mono ?_
           rintro e w2 ⟨rfl, rfl⟩
           go_wp2_with fail
           go_roundw
           case rel => exact ⟨q + 1, by omega, by go_num, by rw [HSU2.out]; exact HPUT.out⟩
           case measure => simp [RowKit.intOf]; omega
          | false =>
           have HSU2 := Lib.hid (show setUp own (i, j) z L (q + 1) = setUp own (i, j) z L q from by rw [HSU.out, if_neg (by simp [hqi, hqj, hmi, hmj])])
           rw [hmj] at HMJ
           clear hqi hqj hmi hmj HSU
           go_wp2_with fail
           refine HMI.out.mono ?_
           rintro e w2 ⟨rfl, rfl⟩
           go_wp2_with fail
           refine HMJ.out.mono ?_
           rintro e w2 ⟨rfl, rfl⟩
           go_wp2_with fail
           go_roundw
           case rel => exact ⟨q + 1, by omega, by go_num, by rw [HSU2.out]; exact HRQ.out⟩
           case measure => simp [RowKit.intOf]; omega
      ·obtain rfl : q = n := by omega
       have HS3 := Lib.hid (show setUp own (i, j) z L q = applyZ own 1 s L (i, j) from by rw [HS2.out, ← HLL.out, setUp_all])
       rw [HS3.out] at HRQ
       clear hrq hqn hp0 hp1
       go_wp2_with fail
       go_roundw
       case rel => exact ⟨k + 1, by omega, by go_num, by rw [HST.out]; exact HRQ.out⟩
       case measure => simp [RowKit.intOf]; omega
   ·obtain rfl : k = m := by omega
    rw [List.take_of_length_le (by rw [HM.out]; exact Nat.le_refl _)] at HR
    clear hr hlt
    go_wp2_with fail
    go_ret
    exact ⟨A', c', rfl, HR.out.own, HB3.out.grown HR.out.gr HB3.out.size (fun q hq => (hne q hq).1)⟩
 | false =>
  obtain rfl : d = 0 := by
   have : level.tmod 2 = 0 := by simpa using hb
   rw [if_pos this] at hd
   exact hd.symm
  clear hd hw01
  go_enter Tryz.func34, Tryz.ntmps34
  go_wp2_with (at_builtin; refine wpList_add rfl _ _ rfl w.heap.size _ 0 [] rfl HM.out A1 n c1 T rfl HT1.out HLT.out (by omega) (by simp) ?_)
  intro v1 w1 hown hbd
  try simp only [List.nil_append, Nat.zero_add] at hown
  obtain ⟨A', c', rfl, -⟩ := intsAt_icl hown HLT.out
  have HOW := Lib.hid hown
  have HB1 := Lib.hid (HD.out.trans hbd)
  clear hown hbd HM HT1
  go_wp2_with fail
  refine (rfind_any A1 A2 T C n n c1 c2 w1 (HT.out.below HB1.out) (HC.out.below HB1.out) HLT.out HLC.out hn).mono ?_
  rintro e w3 ⟨v, rfl, hownP, hb3⟩
  rw [HPE.out] at hownP
  obtain ⟨AP, cP, rfl, hPa⟩ := paAt_own hownP rfl
  have HPS := Lib.hid (fun (k : Nat) (p : Nat × Nat) (h : ps[k]? = some p) => show p.1 < p.2 ∧ p.2 < C.length from have h2 := find_lt (T := T) (C := C) (p := p) (by rw [HPE.out]; exact List.mem_of_getElem? h); ⟨h2.1, h2.2.2⟩)
  have hPn : ps.length ≤ n := by rw [← HLC.out, ← HPE.out]; exact find_len
  have hAPlt := hownP.lt
  obtain ⟨m, hm⟩ : ∃ m, ps.length = m := ⟨_, rfl⟩
  rw [hm] at hPn hAPlt ⊢
  have HM := Lib.hid hm
  have HB3 := Lib.hid (HB1.out.trans (hb3.mono HB1.out.size))
  have HR3 := Lib.hid (Row.start (ownsRow_below HOW.out hb3))
  have hne : ∀ k, (Value.slice A' n c').ownBlock = some k → w.heap.size ≤ k ∧ k < w1.heap.size := HOW.out.lt
  have HNO := Lib.hid (fun (p q : Nat) (e : A3 = some ⟨p, q, none⟩) (h : p < w.heap.size) => show some p ≠ (Value.slice A' n c').ownBlock from fun e2 => by have := (hne _ e2.symm).1; omega)
  have HOW3 := Lib.hid (fun (V : World) (L : List Int) (h : Row w.heap.size A' n c' w3 L V) => show IntsAt V A3 own from by
   rcases HO.out with h0 | ⟨b, off, e, hb, hz⟩
   ·exact .inl h0
   ·refine row_other h (HO.out.below HB3.out) (fun p q e2 => ?_)
    rw [e] at e2
    injection e2 with e2
    injection e2 with e2
    subst e2
    exact HNO.out b off e hb)
  have HPA := Lib.hid (fun (V : World) (L : List Int) (h : Row w.heap.size A' n c' w3 L V) => show PaAt V AP ps from row_pairs h hPa (fun p q e e2 => by
   have h1 := (hAPlt p (by rw [e]; rfl)).1
   have h2 := (hne _ e2.symm).2
   omega))
  clear hownP hPa hAPlt hm hb3 hb
  go_wp2_with fail
  go_loopw [14] (fun s14 wx => ∃ k : Nat, k ≤ m ∧ s14 = .int .i64 k ∧ Row w.heap.size A' n c' w3 ((ps.take k).foldl (applyZ own 0 s) T) wx) (fun s14 _ => m - (RowKit.intOf s14).toNat)
  case atStart => exact ⟨0, Nat.zero_le _, rfl, HR3.out⟩
  case round =>
   obtain ⟨k, hk, rfl, hr⟩ := hrel
   have HR := Lib.hid hr
   by_cases hlt : k < m
   ·have hkp : k < ps.length := by rw [HM.out]; exact hlt
    obtain ⟨⟨i, j⟩, hpk⟩ : ∃ p, ps[k]? = some p := ⟨_, List.getElem?_eq_getElem hkp⟩
    have HST := Lib.hid (fold_step own 0 s ps T hpk)
    have HIS := Lib.hid (HPS.out k _ hpk)
    obtain ⟨bp, op, rfl, hblt, hp0, hp1⟩ := (HPA.out wr _ hr).at_ hpk
    try dsimp only at hp0 hp1
    have HCP := Lib.hid (fun (V : World) (M : List Int) (h : Row w.heap.size A' n c' w3 M V) => show V.cell? ⟨bp, op + k * 2, none⟩ = some (.int .i64 i) ∧ V.cell? ⟨bp, op + k * 2 + 1, none⟩ = some (.int .i64 j) from pair_cells (HPA.out V M h) hpk)
    generalize (ps.take k).foldl (applyZ own 0 s) T = L at *
    have hk0 : (0 : Int) ≤ (k : Int) := by omega
    have hk1 : (k : Int) < (m : Int) := by omega
    have hij := HIS.out.1
    have hjn : j < n := by rw [← HLC.out]; exact HIS.out.2
    have HRB := Lib.hid (fun (V : World) (h : Row w.heap.size A' n c' w3 L V) => rbecomes_any A' L n c' i j s 0 V (by decide) (row_ints h) h.len hn (row_room h (by omega)) hij hjn)
    have HLL := Lib.hid hr.len
    clear hkp hr hpk
    go_wp2_with fail
    refine (HRB.out wr HR.out).mono ?_
    rintro e W2 ⟨rfl, hbw⟩
    have HR2 := Lib.hid (HR.out.below hbw)
    obtain ⟨z, hz⟩ : ∃ z, becZ L (i, j) 0 s = z := ⟨_, rfl⟩
    have h01 : z = 0 ∨ z = 1 ∨ z = -1 := by rw [← hz]; exact becZ_01 (by decide) L (i, j) s
    rw [hz]
    clear hp0 hp1 hblt hbw HRB
    by_cases hz1 : z = -1
    ·subst hz1
     have HS2 := Lib.hid (HST.out.trans (applyZ_no own 0 s L (i, j) (by rw [hz]; decide)))
     have hn0 : (0 : Int) < (n : Int) := by omega
     have hn0' : 0 < n := by omega
     clear hz h01
     go_wp2_with fail
     go_loopw [16] (fun s16 wx => s16 = .int .i64 0 ∧ wx = W2) (fun _ _ => 0)
     case atStart => exact ⟨rfl, rfl⟩
     case round =>
      obtain ⟨rfl, rfl⟩ := hrel
      go_wp2_with fail
      go_roundw
      case rel => exact ⟨k + 1, by omega, by go_num, by rw [HS2.out]; exact HR2.out⟩
      case measure => simp [RowKit.intOf]; omega
    ·have hz0 : 0 ≤ z := by omega
     have HS2 := Lib.hid (show applyZ own 0 s L (i, j) = setZ own (i, j) z L from by unfold applyZ; rw [hz, if_neg (by omega)])
     have hdz : decide (0 ≤ z) = true := decide_eq_true hz0
     clear hz h01 hz1
     go_wp2_with fail
     go_loopw [16] (fun s16 wx => ∃ q : Nat, q ≤ n ∧ s16 = .int .i64 q ∧ Row w.heap.size A' n c' w3 (setUp own (i, j) z L q) wx) (fun s16 _ => n - (RowKit.intOf s16).toNat)
     case atStart => exact ⟨0, Nat.zero_le _, rfl, by rw [setUp_zero]; exact HR2.out⟩
     case round =>
      obtain ⟨q, hq, rfl, hrq⟩ := hrel
      have HRQ := Lib.hid hrq
      obtain ⟨hp0, hp1⟩ := HCP.out wr _ hrq
      by_cases hqn : q < n
      ·have HSU := Lib.hid (setUp_set (own := own) (p := (i, j)) (c := z) (k := q) (l := L) (by rw [HLL.out]; exact hqn))
       obtain ⟨g, rfl, hfr, hnc, ⟨x, hcx, -⟩, hput⟩ := row_idx hrq hqn
       have HPUT := Lib.hid (hput z)
       have HMI := Lib.hid (rmarks_any A3 own n c3 i q wr (HOW3.out wr _ hrq) HLO.out hn (by omega) hqn)
       have HMJ := Lib.hid (rmarks_any A3 own n c3 j q wr (HOW3.out wr _ hrq) HLO.out hn hjn hqn)
       have hq0 : (0 : Int) ≤ (q : Int) := by omega
       have hq1 : (q : Int) < (n : Int) := by omega
       have hdq : decide ((q : Int) < (n : Int)) = true := decide_eq_true hq1
       have hdn : decide (q < n) = true := decide_eq_true hqn
       have hmay : mayZ own (i, j) q = (decide (q = i) || decide (q = j) || marksZ own i q || marksZ own j q) := rfl
       rw [hmay] at HSU
       clear hput hrq hmay
       by_cases hqi : q = i
       ·have hIi : ((q : Int) == (i : Int)) = true := beq_iff_eq.2 (by omega)
        have hNi : (q == i) = true := beq_iff_eq.2 (by omega)
        have HSU2 := Lib.hid (show setUp own (i, j) z L (q + 1) = (setUp own (i, j) z L q).set q z from by rw [HSU.out, if_pos (by simp [hqi])])
        clear hqi HSU HMI HMJ
        go_wp2_with fail
        go_roundw
        case rel => exact ⟨q + 1, by omega, by go_num, by rw [HSU2.out]; exact HPUT.out⟩
        case measure => simp [RowKit.intOf]; omega
       ·have hIi : ((q : Int) == (i : Int)) = false := beq_eq_false_iff_ne.2 (by omega)
        have hNi : (q == i) = false := beq_eq_false_iff_ne.2 (by omega)
        by_cases hqj : q = j
        ·have hIj : ((q : Int) == (j : Int)) = true := beq_iff_eq.2 (by omega)
         have hNj : (q == j) = true := beq_iff_eq.2 (by omega)
         have HSU2 := Lib.hid (show setUp own (i, j) z L (q + 1) = (setUp own (i, j) z L q).set q z from by rw [HSU.out, if_pos (by simp [hqj])])
         clear hqi hqj HSU HMI HMJ
         go_wp2_with fail
         go_roundw
         case rel => exact ⟨q + 1, by omega, by go_num, by rw [HSU2.out]; exact HPUT.out⟩
         case measure => simp [RowKit.intOf]; omega
        ·have hIj : ((q : Int) == (j : Int)) = false := beq_eq_false_iff_ne.2 (by omega)
         have hNj : (q == j) = false := beq_eq_false_iff_ne.2 (by omega)
         cases hmi : marksZ own i q with
         | true =>
          have HSU2 := Lib.hid (show setUp own (i, j) z L (q + 1) = (setUp own (i, j) z L q).set q z from by rw [HSU.out, if_pos (by simp [hmi])])
          rw [hmi] at HMI
          clear hqi hqj hmi HSU HMJ
          go_wp2_with fail
          refine HMI.out.mono ?_
          rintro e w2 ⟨rfl, rfl⟩
          go_wp2_with fail
          go_roundw
          case rel => exact ⟨q + 1, by omega, by go_num, by rw [HSU2.out]; exact HPUT.out⟩
          case measure => simp [RowKit.intOf]; omega
         | false =>
          rw [hmi] at HMI
          cases hmj : marksZ own j q with
          | true =>
           have HSU2 := Lib.hid (show setUp own (i, j) z L (q + 1) = (setUp own (i, j) z L q).set q z from by rw [HSU.out, if_pos (by simp [hmj])])
           rw [hmj] at HMJ
           clear hqi hqj hmi hmj HSU
           go_wp2_with fail
           refine HMI.out.mono ?_
           rintro e w2 ⟨rfl, rfl⟩
           go_wp2_with fail
           refine HMJ.out.mono ?_
           rintro e w2 ⟨rfl, rfl⟩
           go_wp2_with fail
           go_roundw
           case rel => exact ⟨q + 1, by omega, by go_num, by rw [HSU2.out]; exact HPUT.out⟩
           case measure => simp [RowKit.intOf]; omega
          | false =>
           have HSU2 := Lib.hid (show setUp own (i, j) z L (q + 1) = setUp own (i, j) z L q from by rw [HSU.out, if_neg (by simp [hqi, hqj, hmi, hmj])])
           rw [hmj] at HMJ
           clear hqi hqj hmi hmj HSU
           go_wp2_with fail
           refine HMI.out.mono ?_
           rintro e w2 ⟨rfl, rfl⟩
           go_wp2_with fail
           refine HMJ.out.mono ?_
           rintro e w2 ⟨rfl, rfl⟩
           go_wp2_with fail
           go_roundw
           case rel => exact ⟨q + 1, by omega, by go_num, by rw [HSU2.out]; exact HRQ.out⟩
           case measure => simp [RowKit.intOf]; omega
      ·obtain rfl : q = n := by omega
       have HS3 := Lib.hid (show setUp own (i, j) z L q = applyZ own 0 s L (i, j) from by rw [HS2.out, ← HLL.out, setUp_all])
       rw [HS3.out] at HRQ
       clear hrq hqn hp0 hp1
       go_wp2_with fail
       go_roundw
       case rel => exact ⟨k + 1, by omega, by go_num, by rw [HST.out]; exact HRQ.out⟩
       case measure => simp [RowKit.intOf]; omega
   ·obtain rfl : k = m := by omega
    rw [List.take_of_length_le (by rw [HM.out]; exact Nat.le_refl _)] at HR
    clear hr hlt
    go_wp2_with fail
    go_ret
    exact ⟨A', c', rfl, HR.out.own, HB3.out.grown HR.out.gr HB3.out.size (fun q hq => (hne q hq).1)⟩
set_option maxHeartbeats 1000000 in
set_option maxRecDepth 100000 in
theorem rbrackets_any (A1 A2 A3 : Option Addr) (T C own : List Int) (n m k c1 c2 c3 : Nat) (level s : Int) (w : World) (hT : IntsAt w A1 T) (hC : IntsAt w A2 C) (hO : IntsAt w A3 own) (hlT : T.length = n) (hlC : C.length = m) (hlO : own.length = k) (hn : n ≤ 1099511627776) :
  Calls Tryz.prog 34 #[.slice A1 n c1, .slice A2 m c2, .slice A3 k c3, .int .i64 level, .int .i64 s] w fun e w' => ∃ A c, e = .returned (.slice A (settleZ T C own level s).length c) ∧ w'.ownsRow w.heap.size 3 1 (.slice A (settleZ T C own level s).length c) (settleZ T C own level s).length (icl (settleZ T C own level s)) ∧ Below w.heap.size w w' := by
 by_cases h1 : n = m
 ·subst h1
  by_cases h2 : k = n
  ·subst h2
   rw [settleZ_len level s (by rw [hlT, hlC]) (by rw [hlO, hlC]), hlT]
   exact rbrackets_like A1 A2 A3 T C own _ c1 c2 c3 level s w hT hC hO hlT hlC hlO hn
  ·rw [settle_unlike level s (by rw [hlT, hlC, hlO]; omega)]
   have hb : (((k : Int)) != (n : Int)) = true := bne_iff_ne.2 (by omega)
   clear h2 hlT hlC hlO hT hC hO
   go_enter Tryz.func34, Tryz.ntmps34
   go_wp2_with fail
   go_ret
   exact ⟨none, 0, rfl, World.ownsRow_nil _ _ _ _, Below.refl _ _⟩
 ·rw [settle_unlike level s (by rw [hlT, hlC]; omega)]
  have hb : (((n : Int)) != (m : Int)) = true := bne_iff_ne.2 (by omega)
  clear h1 hlT hlC hlO hT hC hO
  go_enter Tryz.func34, Tryz.ntmps34
  go_wp2_with fail
  go_ret
  exact ⟨none, 0, rfl, World.ownsRow_nil _ _ _ _, Below.refl _ _⟩
end Go.Proofs.YtfclpecbnailgaaGreat.Pb
