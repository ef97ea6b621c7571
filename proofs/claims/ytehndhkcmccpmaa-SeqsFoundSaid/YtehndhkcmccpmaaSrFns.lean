/-
  Proved here: what the small functions of the document's own answer of layer 12 return: Near, Begins, Next, First, Way, at. They leave what was in memory.
-/
import Derived.Test.YtehndhkcmccpmaaSqGoes
import Derived.Test.YtehndhkcmccpmaaBaRef
import Derived.BigQuiet
set_option linter.unusedVariables false
namespace Go.Proofs.Ytehndhkcmccpmaa.Sq
open Go Go.RowKit Go.Lib Go.Proofs.Ytehndhkcmccpmaa.Cl Go.Proofs.Ytehndhkcmccpmaa.Ba

def resO : Option Nat → Int
  | none => -1
  | some q => (q : Int)
/-- Levels are -1, or not below 0. -/
def LevOk (z : List Int) : Prop := ∀ i, L z i = -1 ∨ 0 ≤ L z i
theorem up_kept {z : List Int} {k : Nat} (hk : L z k ≠ -1) : up z k = some k := up_eq (Nat.le_refl _) hk fun j h1 h2 => by omega
theorem up_not {z : List Int} {k : Nat} (hk : L z k = -1) : up z k = up z (k + 1) := by
  cases h : up z (k + 1) with
  | some q =>
    obtain ⟨h1, h2, h3⟩ := upS h
    refine up_eq (by omega) h2 fun j hj1 hj2 => ?_
    by_cases e : j = k
    · rw [e]; exact hk
    · exact h3 j (by omega) hj2
  | none =>
    cases h2 : up z k with
    | none => rfl
    | some q =>
      obtain ⟨a, b, _⟩ := upS h2
      by_cases e : q = k
      · rw [e] at b; exact absurd hk b
      · exact absurd (upN h q (by omega)) b
theorem up_end (z : List Int) : up z z.length = none := by
  rw [up, if_neg (by omega)]

set_option maxHeartbeats 2000000 in
set_option maxRecDepth 100000 in
theorem near_up (A : Option Addr) (z : List Int) (N c i : Nat) (w : World) (hz : z.length = N) (hR : IntsAt w A z) (hok : LevOk z) (hN : N ≤ 1000000) (hi : i ≤ N) :
    Calls Try.prog 40 #[.slice A N c, .int .i64 i, .int .i64 1] w fun e w' => e = .returned (.int .i64 (resO (up z i))) ∧ w = w' := by
  obtain ⟨o, ho⟩ : ∃ o, up z i = o := ⟨_, rfl⟩
  rw [ho]
  have HO := Lib.hid ho
  have HR := Lib.hid hR
  have HZ := Lib.hid hz
  have HOK := Lib.hid hok
  clear ho hR hz hok
  go_enter Try.func40, Try.ntmps40
  go_wp2
  go_loop [7] (fun s7 => ∃ k : Nat, s7 = .int .i64 k ∧ k ≤ N ∧ up z k = o) (fun s7 => N - (RowKit.intOf s7).toNat)
  case atStart => exact ⟨i, rfl, hi, HO.out⟩
  case round =>
    obtain ⟨k, rfl, hk, hu⟩ := hrel
    have HU := Lib.hid hu
    clear hu
    by_cases hlt : k < N
    · have hkl : k < z.length := by rw [HZ.out]; exact hlt
      obtain ⟨b, off, rfl, hc⟩ := HR.out.at_ hkl
      have hL : L z k = z[k] := L_at hkl
      have hq := HOK.out k
      rw [hL] at hq
      generalize z[k] = q at *
      by_cases h0 : 0 ≤ q
      · have kq : decide (0 ≤ q) = true := decide_eq_true h0
        have ho : some k = o := by rw [← HU.out]; exact (up_kept (by rw [hL]; omega)).symm
        subst ho
        clear HU HO hq hL
        go_wp2
        go_ret
        exact ⟨rfl, rfl⟩
      · have kq : decide (0 ≤ q) = false := decide_eq_false h0
        have HU2 := Lib.hid (show up z (k + 1) = o from by rw [← up_not (by rw [hL]; omega)]; exact HU.out)
        clear HU HO hq hL
        go_wp2
        go_round
        case measure => simp [RowKit.intOf]; omega
        case rel => exact ⟨k + 1, by go_num, by omega, HU2.out⟩
    · have hke : k = N := by omega
      subst hke
      have ho : none = o := by rw [← HU.out, ← HZ.out]; exact (up_end z).symm
      subst ho
      clear HU HO
      go_wp2
      go_ret
      exact ⟨rfl, rfl⟩

set_option maxHeartbeats 2000000 in
set_option maxRecDepth 100000 in
theorem near_dn (A : Option Addr) (z : List Int) (N c i : Nat) (y : Int) (w : World) (hz : z.length = N) (hR : IntsAt w A z) (hok : LevOk z) (hN : N ≤ 1000000) (hi : i ≤ N) (hy : y = (i : Int) - 1) :
    Calls Try.prog 40 #[.slice A N c, .int .i64 y, .int .i64 (-1)] w fun e w' => e = .returned (.int .i64 (resO (dn z i))) ∧ w = w' := by
  obtain ⟨o, ho⟩ : ∃ o, dn z i = o := ⟨_, rfl⟩
  rw [ho]
  have HO := Lib.hid ho
  have HR := Lib.hid hR
  have HZ := Lib.hid hz
  have HOK := Lib.hid hok
  have HY := Lib.hid hy
  clear ho hR hz hok hy
  go_enter Try.func40, Try.ntmps40
  go_wp2
  go_loop [7] (fun s7 => ∃ (k : Nat) (y : Int), s7 = .int .i64 y ∧ y = (k : Int) - 1 ∧ k ≤ N ∧ dn z k = o) (fun s7 => (RowKit.intOf s7 + 1).toNat)
  case atStart => exact ⟨i, y, rfl, HY.out, hi, HO.out⟩
  case round =>
    obtain ⟨k, y', rfl, hy', hk, hu⟩ := hrel
    have HU := Lib.hid hu
    clear hu
    cases k with
    | zero =>
      have : y' = -1 := by omega
      subst this
      have ho : none = o := by rw [← HU.out]; rfl
      subst ho
      clear HU HO hy'
      go_wp2
      go_ret
      exact ⟨rfl, rfl⟩
    | succ k =>
      have hyk : y' = (k : Int) := by omega
      subst hyk
      have hlt : k < N := by omega
      have hkl : k < z.length := by rw [HZ.out]; exact hlt
      obtain ⟨b, off, rfl, hc⟩ := HR.out.at_ hkl
      have hL : L z k = z[k] := L_at hkl
      have hq := HOK.out k
      rw [hL] at hq
      generalize z[k] = q at *
      by_cases h0 : 0 ≤ q
      · have kq : decide (0 ≤ q) = true := decide_eq_true h0
        have ho : some k = o := by
          rw [← HU.out]
          unfold dn
          rw [if_neg (by rw [hL]; omega)]
        subst ho
        clear HU HO hq hL hy'
        go_wp2
        go_ret
        exact ⟨rfl, rfl⟩
      · have kq : decide (0 ≤ q) = false := decide_eq_false h0
        have HU2 := Lib.hid (show dn z k = o from by
          have h := HU.out
          unfold dn at h
          rwa [if_pos (by rw [hL]; omega)] at h)
        have hw : IntKind.i64.wrap ((k : Int) + -1) = (k : Int) - 1 := by rw [IntKind.wrap_i64]; omega
        clear HU HO hq hL hy'
        go_wp2
        go_round
        case measure => simp [RowKit.intOf]
        case rel => exact ⟨k, (k : Int) - 1, by go_num, rfl, by omega, HU2.out⟩

set_option maxHeartbeats 1000000 in
theorem rway_any (x y : Int) (w : World) (hx : 0 ≤ x) :
    Calls Try.prog 38 #[.int .i64 x, .int .i64 y] w fun e w' => e = .returned (.int .i64 (way x y)) ∧ w = w' := by
  unfold way
  have hm : (if x < y then y else x) = max x y := by split <;> omega
  have hpos : 0 ≤ max x y := by omega
  have htm : (max x y).tmod 2 = (max x y) % 2 := Int.tmod_eq_emod_of_nonneg hpos
  cases hb : ((if x < y then y else x).tmod 2 == 1) with
  | true =>
    have hb2 : ((max x y).tmod 2 == 1) = true := by rw [← hm]; exact hb
    rw [if_neg (by rw [hm] at hb; have : (max x y).tmod 2 = 1 := by simpa using hb
                   omega)]
    clear hm htm hpos hx
    go_enter Try.func38, Try.ntmps38
    go_wp2
    all_goals go_ret
    all_goals exact ⟨rfl, rfl⟩
  | false =>
    have hb2 : ((max x y).tmod 2 == 1) = false := by rw [← hm]; exact hb
    rw [if_pos (by rw [hm] at hb; have : ¬ (max x y).tmod 2 = 1 := by simpa using hb
                   rw [htm] at this ⊢
                   omega)]
    clear hm htm hpos hx
    go_enter Try.func38, Try.ntmps38
    go_wp2
    all_goals go_ret
    all_goals exact ⟨rfl, rfl⟩

/-- The level of what there may be. -/
def levO (z : List Int) (lv : Int) : Option Nat → Int
  | none => lv
  | some q => L z q
set_option maxHeartbeats 1000000 in
theorem at_any (A : Option Addr) (z : List Int) (N c : Nat) (o : Option Nat) (lv : Int) (w : World) (hz : z.length = N) (hR : IntsAt w A z) (ho : ∀ q, o = some q → q < N) (hN : N ≤ 1000000) :
    Calls Try.prog 39 #[.slice A N c, .int .i64 (resO o), .int .i64 lv] w fun e w' => e = .returned (.int .i64 (levO z lv o)) ∧ w = w' := by
  cases o with
  | none =>
    have e : resO none = -1 := rfl
    rw [e]
    go_enter Try.func39, Try.ntmps39
    go_wp2
    go_ret
    exact ⟨rfl, rfl⟩
  | some q =>
    have e : resO (some q) = (q : Int) := rfl
    rw [e]
    have hq := ho q rfl
    have hql : q < z.length := by omega
    obtain ⟨b, off, rfl, hcq⟩ := hR.at_ hql
    have hL : levO z lv (some q) = z[q] := L_at hql
    rw [hL]
    have h1 : (0 : Int) ≤ (q : Int) := by omega
    have h2 : (q : Int) < (N : Int) := by omega
    clear ho hR hz
    generalize z[q] = x at *
    go_enter Try.func39, Try.ntmps39
    go_wp2
    go_ret
    exact ⟨rfl, rfl⟩

set_option maxHeartbeats 2000000 in
set_option maxRecDepth 100000 in
theorem rbegins_any (A : Option Addr) (z : List Int) (N c p : Nat) (w : World) (hz : z.length = N) (hR : IntsAt w A z) (hok : LevOk z) (hN : N ≤ 1000000) (hp : p < N) :
    Calls Try.prog 57 #[.slice A N c, .int .i64 p] w fun e w' => e = .returned (.bool (begins z p)) ∧ Below w.heap.size w w' := by
  have hw : IntKind.i64.wrap ((p : Int) - 1) = (p : Int) - 1 := by rw [IntKind.wrap_i64]; omega
  have HN := Lib.hid (near_dn A z N c p ((p : Int) - 1) w hz hR hok hN (by omega) rfl)
  have hpl : p < z.length := by omega
  have hLp : L z p = z[p] := L_at hpl
  unfold begins
  cases hd : dn z p with
  | none =>
    rw [hd] at HN
    clear hR hz hok hLp
    go_enter Try.func57, Try.ntmps57
    go_wp2_with fail
    refine HN.out.mono ?_
    rintro e w1 ⟨rfl, rfl⟩
    have e1 : resO none = -1 := rfl
    rw [e1]
    go_wp2_with fail
    go_quiet (fail)
    go_wp2_with fail
    go_ret
    exact ⟨rfl, Arr.below_drewN (Below.refl _ _) _⟩
  | some q =>
    rw [hd] at HN
    obtain ⟨hqp, hqk, -⟩ := dn_some hd
    have hql : q < z.length := by omega
    have hLq : L z q = z[q] := L_at hql
    obtain ⟨b, off, rfl, hcp⟩ := hR.at_ hpl
    obtain ⟨b2, off2, hA2, hcq⟩ := hR.at_ hql
    obtain ⟨rfl, rfl⟩ : b = b2 ∧ off = off2 := by injection hA2 with e; injection e with e1 e2; exact ⟨e1, e2⟩
    dsimp only
    rw [hLp, hLq]
    have h1 : (0 : Int) ≤ (q : Int) := by omega
    have h2 : (q : Int) < (N : Int) := by omega
    have h3 : (0 : Int) ≤ (p : Int) := by omega
    have h4 : (p : Int) < (N : Int) := by omega
    have h5 : decide ((q : Int) < 0) = false := by simp
    generalize z[p] = x at *
    generalize z[q] = y at *
    have hbb : decide (y ≠ x) = (y != x) := by
      by_cases e : y = x
      · subst e; simp
      · simp [e]
    rw [hbb]
    clear hR hz hok hLp hLq hA2 hbb
    go_enter Try.func57, Try.ntmps57
    go_wp2_with fail
    refine HN.out.mono ?_
    rintro e w1 ⟨rfl, rfl⟩
    have e1 : resO (some q) = (q : Int) := rfl
    rw [e1]
    go_wp2_with fail
    go_quiet (fail)
    go_wp2_with fail
    go_ret
    exact ⟨rfl, Arr.below_drewN (Below.refl _ _) _⟩

set_option maxHeartbeats 4000000 in
set_option maxRecDepth 100000 in
theorem rnext_any (A2 A : Option Addr) (c z : List Int) (n c2 cz i : Nat) (w : World) (hc : c.length = n) (hR2 : IntsAt w A2 c) (hz : z.length = n) (hR : IntsAt w A z) (hok : LevOk z) (hN : n ≤ 1000000) (hi : i < n) :
    Calls Try.prog 41 #[.slice A2 n c2, .slice A n cz, .int .i64 i] w fun e w' => e = .returned (.int .i64 (resO (nextS c z i))) ∧ Below w.heap.size w w' := by
  have hw : IntKind.i64.wrap ((i : Int) + 1) = (i : Int) + 1 := by rw [IntKind.wrap_i64]; omega
  have HN := Lib.hid (near_up A z n cz (i + 1) w hz hR hok hN (by omega))
  rw [show (((i + 1 : Nat)) : Int) = (i : Int) + 1 from by omega] at HN
  have HE := Lib.hid (fun V (h : Below w.heap.size w V) => end_any A2 c n c2 i V hc (hR2.below h) (by omega) hi)
  have HB := Lib.hid (fun V (h : Below w.heap.size w V) p hp => rbegins_any A z n cz p V hz (hR.below h) hok hN hp)
  have hil : i < z.length := by omega
  have hic : i < c.length := by omega
  have hLi : L z i = z[i] := L_at hil
  obtain ⟨bz, oz, rfl, hzi⟩ := hR.at_ hil
  obtain ⟨bc, oc, rfl, hcc⟩ := hR2.at_ hic
  have hci : c.getD i 0 = c[i] := by simp [List.getD, List.getElem?_eq_getElem hic]
  generalize c[i] = ci at *
  obtain ⟨res, hres⟩ : ∃ r, nextS c z i = r := ⟨_, rfl⟩
  rw [hres]
  have h3 : (0 : Int) ≤ (i : Int) := by omega
  have h4 : (i : Int) < (n : Int) := by omega
  cases hu : up z (i + 1) with
  | none =>
    rw [hu] at HN
    have HJ := Lib.hid (show jump c z i = res from by rw [← hres]; exact (nextS_jump (fun q hq => by rw [hu] at hq; cases hq)).symm)
    clear hR hR2 hz hok hLi hres
    go_enter Try.func41, Try.ntmps41
    go_wp2_with fail
    refine HN.out.mono ?_
    rintro e w1 ⟨rfl, rfl⟩
    have e1 : resO none = -1 := rfl
    rw [e1]
    go_wp2_with fail
    go_quiet (fail)
    have HBV := Lib.hid (Arr.below_drewN (Below.refl w.heap.size w) nq)
    cases hI : isI ci with
    | false =>
      have hj : jump c z i = none := by unfold jump; rw [if_neg (fun h => by rw [hci, hI] at h; cases h.1)]
      have hres : none = res := by rw [← hj]; exact HJ.out
      subst hres
      clear HJ hj HE HB
      go_wp2_with fail
      refine (init_any _ _).mono ?_
      rintro e w1 ⟨rfl, rfl⟩
      rw [hI]
      go_wp2_with fail
      go_ret
      exact ⟨rfl, HBV.out⟩
    | true =>
      go_wp2_with fail
      refine (init_any _ _).mono ?_
      rintro e w1 ⟨rfl, rfl⟩
      rw [hI]
      go_wp2_with fail
      refine (HE.out _ HBV.out).mono ?_
      rintro e w1 ⟨rfl, rfl⟩
      by_cases he : endAt c i = n
      · have hj : jump c z i = none := by unfold jump; rw [if_neg (fun h => by have := h.2.1; omega)]
        have hres : none = res := by rw [← hj]; exact HJ.out
        subst hres
        rw [he]
        clear HJ hj HE HB he
        go_wp2_with fail
        go_ret
        exact ⟨rfl, HBV.out⟩
      · have hel : endAt c i < n := by have := endAt_le c i (by omega); omega
        have hj : jump c z i = if begins z (endAt c i) = true then some (endAt c i) else none := by
          unfold jump
          by_cases hb : begins z (endAt c i) = true
          · rw [if_pos ⟨by rw [hci]; exact hI, by omega, hb⟩, if_pos hb]
          · rw [if_neg (fun h => hb h.2.2), if_neg hb]
        have HJ2 := Lib.hid (hj.symm.trans HJ.out)
        clear HJ hj
        generalize endAt c i = p at *
        have kE : ((p : Int) == (n : Int)) = false := by simp; omega
        clear he
        go_wp2_with fail
        refine (HB.out _ HBV.out p hel).mono ?_
        rintro e w2 ⟨rfl, hb2⟩
        have HB2 := Lib.hid (HBV.out.trans (hb2.mono HBV.out.size))
        cases hb : begins z p with
        | true =>
          have hres : some p = res := by have h := HJ2.out; rw [if_pos hb] at h; exact h
          subst hres
          clear HJ2 hb2
          go_wp2_with fail
          go_ret
          exact ⟨rfl, HB2.out⟩
        | false =>
          have hres : none = res := by have h := HJ2.out; rw [if_neg (by rw [hb]; decide)] at h; exact h
          subst hres
          clear HJ2 hb2
          go_wp2_with fail
          go_ret
          exact ⟨rfl, HB2.out⟩
  | some q =>
    rw [hu] at HN
    obtain ⟨hq1, hq2, -⟩ := upS hu
    have hql : q < z.length := L_lt hq2
    have hqn : q < n := by omega
    have hLq : L z q = z[q] := L_at hql
    obtain ⟨b2, o2, hA2, hzq⟩ := hR.at_ hql
    obtain ⟨rfl, rfl⟩ : bz = b2 ∧ oz = o2 := by injection hA2 with e; injection e with e1 e2; exact ⟨e1, e2⟩
    have h1 : (0 : Int) ≤ (q : Int) := by omega
    have h2 : (q : Int) < (n : Int) := by omega
    have h5 : decide ((0 : Int) ≤ (q : Int)) = true := by simp
    by_cases hqe : L z q = L z i
    · have hr : some q = res := by rw [← hres]; exact (nextS_same hu hqe).symm
      subst hr
      have kq : (z[q] == z[i]) = true := by rw [← hLq, ← hLi, hqe]; simp
      generalize z[q] = y at *
      generalize z[i] = x at *
      clear hR hR2 hz hok hLi hres HE HB hLq hA2 hqe hu
      go_enter Try.func41, Try.ntmps41
      go_wp2_with fail
      refine HN.out.mono ?_
      rintro e w1 ⟨rfl, rfl⟩
      have e1 : resO (some q) = (q : Int) := rfl
      rw [e1]
      go_wp2_with fail
      go_quiet (fail)
      go_wp2_with fail
      go_ret
      exact ⟨rfl, Arr.below_drewN (Below.refl _ _) _⟩
    · have HJ := Lib.hid (show jump c z i = res from by rw [← hres]; exact (nextS_jump (fun q' hq' => by rw [hu] at hq'; injection hq' with hq'; subst hq'; exact hqe)).symm)
      have kq : (z[q] == z[i]) = false := by rw [← hLq, ← hLi]; simpa using hqe
      generalize z[q] = y at *
      generalize z[i] = x at *
      clear hR hR2 hz hok hLi hres hLq hA2 hqe hu
      go_enter Try.func41, Try.ntmps41
      go_wp2_with fail
      refine HN.out.mono ?_
      rintro e w1 ⟨rfl, rfl⟩
      have e1 : resO (some q) = (q : Int) := rfl
      rw [e1]
      go_wp2_with fail
      go_quiet (fail)
      have HBV := Lib.hid (Arr.below_drewN (Below.refl w.heap.size w) nq)
      cases hI : isI ci with
      | false =>
        have hj : jump c z i = none := by unfold jump; rw [if_neg (fun h => by rw [hci, hI] at h; cases h.1)]
        have hres : none = res := by rw [← hj]; exact HJ.out
        subst hres
        clear HJ hj HE HB
        go_wp2_with fail
        refine (init_any _ _).mono ?_
        rintro e w1 ⟨rfl, rfl⟩
        rw [hI]
        go_wp2_with fail
        go_ret
        exact ⟨rfl, HBV.out⟩
      | true =>
        go_wp2_with fail
        refine (init_any _ _).mono ?_
        rintro e w1 ⟨rfl, rfl⟩
        rw [hI]
        go_wp2_with fail
        refine (HE.out _ HBV.out).mono ?_
        rintro e w1 ⟨rfl, rfl⟩
        by_cases he : endAt c i = n
        · have hj : jump c z i = none := by unfold jump; rw [if_neg (fun h => by have := h.2.1; omega)]
          have hres : none = res := by rw [← hj]; exact HJ.out
          subst hres
          rw [he]
          clear HJ hj HE HB he
          go_wp2_with fail
          go_ret
          exact ⟨rfl, HBV.out⟩
        · have hel : endAt c i < n := by have := endAt_le c i (by omega); omega
          have hj : jump c z i = if begins z (endAt c i) = true then some (endAt c i) else none := by
            unfold jump
            by_cases hb : begins z (endAt c i) = true
            · rw [if_pos ⟨by rw [hci]; exact hI, by omega, hb⟩, if_pos hb]
            · rw [if_neg (fun h => hb h.2.2), if_neg hb]
          have HJ2 := Lib.hid (hj.symm.trans HJ.out)
          clear HJ hj
          generalize endAt c i = p at *
          have kE : ((p : Int) == (n : Int)) = false := by simp; omega
          clear he
          go_wp2_with fail
          refine (HB.out _ HBV.out p hel).mono ?_
          rintro e w2 ⟨rfl, hb2⟩
          have HB2 := Lib.hid (HBV.out.trans (hb2.mono HBV.out.size))
          cases hb : begins z p with
          | true =>
            have hres : some p = res := by have h := HJ2.out; rw [if_pos hb] at h; exact h
            subst hres
            clear HJ2 hb2
            go_wp2_with fail
            go_ret
            exact ⟨rfl, HB2.out⟩
          | false =>
            have hres : none = res := by have h := HJ2.out; rw [if_neg (by rw [hb]; decide)] at h; exact h
            subst hres
            clear HJ2 hb2
            go_wp2_with fail
            go_ret
            exact ⟨rfl, HB2.out⟩

set_option maxHeartbeats 4000000 in
set_option maxRecDepth 100000 in
theorem rfirst_any (A2 A : Option Addr) (c z : List Int) (n c2 cz i : Nat) (w : World) (hc : c.length = n) (hR2 : IntsAt w A2 c) (hz : z.length = n) (hR : IntsAt w A z) (hok : LevOk z) (hN : n ≤ 1000000) (hi : i < n) :
    Calls Try.prog 37 #[.slice A2 n c2, .slice A n cz, .int .i64 i] w fun e w' => e = .returned (.bool (firstB c z i)) ∧ Below w.heap.size w w' := by
  have HNX := Lib.hid (fun V (h : Below w.heap.size w V) k hk => rnext_any A2 A c z n c2 cz k V hc (hR2.below h) hz (hR.below h) hok hN hk)
  have HR := Lib.hid hR
  have HZ := Lib.hid hz
  have HOK := Lib.hid hok
  obtain ⟨fb, hfb⟩ : ∃ b, firstB c z i = b := ⟨_, rfl⟩
  rw [hfb]
  have HFB := Lib.hid hfb
  clear hR hR2 hz hc hok hfb
  go_enter Try.func37, Try.ntmps37
  go_wp2_with fail
  go_loopw [7] (fun s7 wr => ∃ k : Nat, s7 = .int .i64 k ∧ k ≤ i ∧ (∀ j, j < k → L z j ≠ -1 → nextS c z j ≠ some i) ∧ Below w.heap.size w wr) (fun s7 _ => i - (RowKit.intOf s7).toNat)
  case atStart => exact ⟨0, rfl, Nat.zero_le _, fun j hj => by omega, Below.refl _ _⟩
  case round =>
    obtain ⟨k, rfl, hk, hno, hb⟩ := hrel
    have HNO := Lib.hid hno
    have HB := Lib.hid hb
    clear hno hb
    by_cases hlt : k < i
    · have hkn : k < n := by omega
      have hkl : k < z.length := by rw [HZ.out]; exact hkn
      have hLk : L z k = z[k] := L_at hkl
      obtain ⟨b, off, rfl, hck⟩ := (HR.out.below HB.out).at_ hkl
      have hq := HOK.out k
      rw [hLk] at hq
      generalize z[k] = x at *
      have h1 : (0 : Int) ≤ (k : Int) := by omega
      have h2 : (k : Int) < (n : Int) := by omega
      by_cases h0 : 0 ≤ x
      · have kx : decide (0 ≤ x) = true := decide_eq_true h0
        go_wp2_with fail
        refine (HNX.out _ HB.out k hkn).mono ?_
        rintro e w1 ⟨rfl, hb1⟩
        have HB1 := Lib.hid (HB.out.trans (hb1.mono HB.out.size))
        by_cases hn : nextS c z k = some i
        · have hf : false = fb := by
            rw [← HFB.out]
            cases hfb : firstB c z i with
            | false => rfl
            | true => exact absurd hn (firstB_iff.1 hfb k hlt (by rw [hLk]; omega))
          subst hf
          rw [hn]
          have e1 : resO (some i) = (i : Int) := rfl
          rw [e1]
          clear hb1 hq hn hLk
          go_wp2_with fail
          go_ret
          exact ⟨rfl, HB1.out⟩
        · have kn : (resO (nextS c z k) == (i : Int)) = false := by
            cases hx : nextS c z k with
            | none => simp [resO]
            | some q =>
              rw [hx] at hn
              simp only [resO, beq_eq_false_iff_ne, ne_eq]
              intro e
              exact hn (by rw [show q = i from by omega])
          have HNO2 := Lib.hid (show ∀ j, j < k + 1 → L z j ≠ -1 → nextS c z j ≠ some i from fun j hj h => by
            by_cases e : j = k
            · rw [e]; exact hn
            · exact HNO.out j (by omega) h)
          clear hb1 hq hn hLk
          generalize resO (nextS c z k) = rr at *
          go_wp2_with fail
          go_roundw
          case rel => exact ⟨k + 1, by simp, by omega, HNO2.out, HB1.out⟩
          case measure => simp [RowKit.intOf]; omega
      · have kx : decide (0 ≤ x) = false := decide_eq_false h0
        have HNO2 := Lib.hid (show ∀ j, j < k + 1 → L z j ≠ -1 → nextS c z j ≠ some i from fun j hj h => by
          by_cases e : j = k
          · subst e; rw [hLk] at h; omega
          · exact HNO.out j (by omega) h)
        clear hq hLk
        go_wp2_with fail
        go_roundw
        case rel => exact ⟨k + 1, by simp, by omega, HNO2.out, HB.out⟩
        case measure => simp [RowKit.intOf]; omega
    · have hke : k = i := by omega
      subst hke
      have hf : true = fb := by
        rw [← HFB.out]
        exact (firstB_iff.2 HNO.out).symm
      subst hf
      go_wp2_with fail
      go_ret
      exact ⟨rfl, HB.out⟩
end Go.Proofs.Ytehndhkcmccpmaa.Sq
