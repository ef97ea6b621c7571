/-
  Proved here: what parquetrylaw17.WrapWide returns for every row of clusters and every number: true; for any program of wrapping that keeps to the plain one (BlankOk, ShownOk, LinesOk). It leaves what was in memory.
-/
import Derived.Test.YtfbjgibjlppjoaaM14
import Derived.Test.YtfbjgibjlppjoaaM16
import Derived.Test.YtfbjgibjlppjoaaMWrWide
set_option linter.unusedVariables false
namespace Go.Proofs.Ytfbjgibjlppjoaa.Wr
open Go Go.RowKit Go.Lib Go.Proofs.Ytfbjgibjlppjoaa.Ku Go.Proofs.Ytfbjgibjlppjoaa.Arr

set_option maxHeartbeats 4000000 in
set_option maxRecDepth 100000 in
theorem wide_law (HBL : BlankOk) (HSH : ShownOk) (HLN : LinesOk) (A : Option Addr) (l : List C6) (n c : Nat) (s : Int) (w : World) (hR : CuAt w A l) (hl : l.length = n) (hc : n ≤ c) (hs : s ≤ 9223372036854775807) (h0 : 0 < n) (h200 : n ≤ 200) (hs1 : 1 ≤ s) :
    Calls Try.prog 7 #[.slice A n c, .int .i64 s] w fun e w' => e = .returned (.bool true) ∧ Below w.heap.size w w' := by
  have HA := Lib.hid (fun V => awake_of HLN V)
  have d0 : decide ((200 : Int) < (n : Int)) = false := decide_eq_false (by omega)
  have e0 : decide (200 < n) = false := decide_eq_false (by omega)
  have d1 : decide (s < 1) = false := decide_eq_false (by omega)
  obtain ⟨g, off, rfl, -⟩ := hR.at_ (k := 0) (by omega)
  have HR := Lib.hid hR
  have HN := Lib.hid hl
  have HL1 := Lib.hid (HLN (some ⟨g, off, none⟩) l n c s 1 w hR hl (by omega) hc hs)
  have HS1 := Lib.hid (fun V (h : Below w.heap.size w V) => HSH (some ⟨g, off, none⟩) l n c V (hR.below h) hl (by omega))
  obtain ⟨hp0, hple, hone, hall⟩ := linesP_wide l s hs1
  have hN := shownN_le l
  have HMO := Lib.hid (fun (f e : Nat) (h1 : f ≤ e) (h2 : e ≤ n) (cc : Nat) V (hb : Below w.heap.size w V) => (show Calls Try.prog 21 #[.slice (some ⟨g, off + f * 6, none⟩) (e - f) cc, .int .i64 s] V fun e' w' => e' = .returned (.bool (moreK (Wd l) (e - f) f s)) ∧ w' = V from by
    have h := rmore_any (some ⟨g, off + f * 6, none⟩) ((l.drop f).take (e - f)) (e - f) cc s V (cu_part (hR.below hb) f (e - f) (by omega)) (part_len (by omega)) (by omega) hs
    rw [more_part] at h
    exact h))
  have HM0 := Lib.hid (fun (e : Nat) (h2 : e ≤ n) (cc : Nat) V (hb : Below w.heap.size w V) => (show Calls Try.prog 21 #[.slice (some ⟨g, off, none⟩) e cc, .int .i64 s] V fun e' w' => e' = .returned (.bool (moreK (Wd l) e 0 s)) ∧ w' = V from by
    have h := HMO.out 0 e (Nat.zero_le _) h2 cc V hb
    rw [Nat.sub_zero, Nat.zero_mul, Nat.add_zero] at h
    exact h))
  have HALL := Lib.hid hall
  have HONE := Lib.hid hone
  have H2 := Lib.hid (fun (x : C6) V => HBL x V)
  rw [hl] at hN
  clear hR hl HLN HBL HSH hall hone
  generalize linesP l s 1 = P at *
  generalize shownN l = N at *
  obtain ⟨m, hm⟩ : ∃ m, P.length = m := ⟨_, rfl⟩
  rw [hm] at HL1 hp0 HONE HALL
  have HPM := Lib.hid hm
  have hm2 : m ≤ 201 := by have := HN.out; omega
  have n0 : decide ((N : Int) < 0) = false := decide_eq_false (by omega)
  have n1 : decide ((n : Int) < (N : Int)) = false := decide_eq_false (by omega)
  have n2 : decide (n < N) = false := decide_eq_false (by omega)
  have jN0 : (0 : Int) ≤ (N : Int) := by omega
  have jN1 : (N : Int) ≤ (c : Int) := by omega
  clear hm hple
  go_enter Try.func7, Try.ntmps7
  go_wp2_with fail
  refine HL1.out.mono ?_
  rintro e w3 ⟨A3, c3, rfl, ho3, hb3⟩
  have HP3 := Lib.hid (li_own HPM.out ho3)
  have HB3 := Lib.hid hb3
  clear ho3 hb3 HL1
  go_wp2_with fail
  refine (HS1.out _ HB3.out).mono ?_
  rintro e w4 ⟨rfl, hb4⟩
  have HP4 := Lib.hid (HP3.out.below hb4)
  have HB4 := Lib.hid (HB3.out.trans (hb4.mono HB3.out.size))
  have HR4 := Lib.hid (HR.out.below HB4.out)
  have HX0 := Lib.hid (fun cc => HM0.out N hN cc w4 HB4.out)
  clear hb4 HS1 HP3 HB3 HM0
  cases hm0 : moreK (Wd l) N 0 s
  case' false =>
    have HM1 := Lib.hid (HONE.out hm0)
    rw [hm0] at HX0
    clear hm0 HONE
    have k9 : ((m : Int) != (1 : Int)) = false := by rw [bne_eq_false_iff_eq]; have := HM1.out; omega
    have k9' : (m != 1) = false := by rw [bne_eq_false_iff_eq]; exact HM1.out
    go_wp2_with fail
    refine (HX0.out _).mono ?_
    rintro e w5 ⟨rfl, rfl⟩
    go_wp2_with fail
  case' true =>
    rw [hm0] at HX0
    clear hm0 HONE
    go_wp2_with fail
    refine (HX0.out _).mono ?_
    rintro e w5 ⟨rfl, rfl⟩
    go_wp2_with fail
  all_goals
    go_loopw [7] (fun s7 wx => ∃ i : Nat, i ≤ m ∧ s7 = .int .i64 i ∧ Below w5.heap.size w5 wx) (fun s7 _ => m - (RowKit.intOf s7).toNat)
    case atStart => exact ⟨0, Nat.zero_le _, rfl, Below.refl _ _⟩
    case round =>
      obtain ⟨i, hi, rfl, hb⟩ := hrel
      have HB := Lib.hid hb
      have HBW := Lib.hid (HB4.out.trans (hb.mono HB4.out.size))
      by_cases hlt : i < m
      · have hil : i < P.length := by rw [HPM.out]; exact hlt
        have hat := HALL.out i P[i] (List.getElem?_eq_getElem hil)
        obtain ⟨gp, op, rfl, hgp, q0, q1, q2, q3, q4⟩ := (HP4.out.below hb).at_ hil
        obtain ⟨f, t, sh, hx, e, a0, a1, a2, a3, a4, a5⟩ := hat
        rw [e] at q0 q1 q2 q3 q4
        simp only at q0 q1 q2 q3 q4
        rw [HN.out] at a0 a2 a3
        have a6 := a0 h0
        have jf3 : (f : Int) < (c : Int) := by omega
        have jf4 : f < c := by omega
        have jf5 : ¬ c = f := by omega
        clear a0
        have jj0 : (0 : Int) ≤ (i : Int) := by omega
        have jj1 : (i : Int) < (m : Int) := by omega
        have k0 : decide ((f : Int) < 0) = false := decide_eq_false (by omega)
        have k1 : decide ((sh : Int) < (f : Int)) = false := decide_eq_false (by omega)
        have k2 : decide ((n : Int) < (sh : Int)) = false := decide_eq_false (by omega)
        have k3 : decide ((n : Int) < (t : Int)) = false := decide_eq_false (by omega)
        have k1' : decide (sh < f) = false := decide_eq_false (by omega)
        have k2' : decide (n < sh) = false := decide_eq_false (by omega)
        have k3' : decide (n < t) = false := decide_eq_false (by omega)
        have jf0 : (0 : Int) ≤ (f : Int) := by omega
        have jf1 : (f : Int) ≤ (sh : Int) := by omega
        have jf2 : (sh : Int) ≤ (c : Int) := by omega
        have HX := Lib.hid (And.intro a4 a5)
        have hVh : (wr.alloc (.cells #[.int .i64 f, .int .i64 t, .int .i64 sh, .int .i64 hx, .int .i64 0] 36)).heap[wr.heap.size]? = some (.cells #[.int .i64 f, .int .i64 t, .int .i64 sh, .int .i64 hx, .int .i64 0] 36) := heap_alloc_last wr _
        have hbV : Below wr.heap.size wr (wr.alloc (.cells #[.int .i64 f, .int .i64 t, .int .i64 sh, .int .i64 hx, .int .i64 0] 36)) := (Below.refl _ _).alloc (Nat.le_refl _) _
        have HBV := Lib.hid (HB.out.trans (hbV.mono HB.out.size))
        have HBWV := Lib.hid (HBW.out.trans (hbV.mono HBW.out.size))
        have HVH := Lib.hid hVh
        have HRM := Lib.hid (fun cc => HMO.out f sh a1 a2 cc (wr.alloc (.cells #[.int .i64 f, .int .i64 t, .int .i64 sh, .int .i64 hx, .int .i64 0] 36)) HBWV.out)
        have hj : ((i : Int) + 1 == (m : Int)) = (i + 1 == m) := by
          by_cases h : i + 1 = m
          · rw [beq_iff_eq.2 h]; exact beq_iff_eq.2 (by omega)
          · rw [beq_eq_false_iff_ne.2 h]; exact beq_eq_false_iff_ne.2 (by omega)
        have kw : IntKind.i64.wrap ((f : Int) + 1) = ((f + 1 : Nat) : Int) := by rw [IntKind.wrap_i64]; omega
        have kw2 : IntKind.i64.wrap ((t : Int) + 1) = ((t + 1 : Nat) : Int) := by rw [IntKind.wrap_i64]; omega
        have hsf : moreK (Wd l) (sh - f) f s = true → ((sh : Int) != ((f + 1 : Nat) : Int)) = false ∧ ((sh : Int) != (f : Int) + 1) = false ∧ (sh != f + 1) = false := fun h => ⟨by rw [bne_eq_false_iff_eq]; have := a4 h; omega, by rw [bne_eq_false_iff_eq]; have := a4 h; omega, by rw [bne_eq_false_iff_eq]; exact a4 h⟩
        have HSF := Lib.hid hsf
        clear hb hbV a4 a5 e hil hVh hsf
        cases hmm : moreK (Wd l) (sh - f) f s <;> cases hq : (i + 1 == m) <;> rw [hmm] at HRM <;> rw [hq] at hj
        case' true.false => obtain ⟨k5, k6, k5'⟩ := HSF.out hmm
        case' true.true => obtain ⟨k5, k6, k5'⟩ := HSF.out hmm
        all_goals
          have HQ := Lib.hid hq
          clear hmm hq HSF
          go_wp2_with fail
          refine (HRM.out _).mono ?_
          rintro e w6 ⟨rfl, rfl⟩
          clear q0 q1 q2 q3 q4 HRM
          generalize (wr.alloc (.cells #[.int .i64 f, .int .i64 t, .int .i64 sh, .int .i64 hx, .int .i64 0] 36)) = V at *
          have hVh := HVH.out
          obtain ⟨z0, z1, z2, -⟩ := (show (V.cell? ⟨wr.heap.size, 0, none⟩ = some (.int .i64 f)) ∧ (V.cell? ⟨wr.heap.size, 1, none⟩ = some (.int .i64 t)) ∧ (V.cell? ⟨wr.heap.size, 2, none⟩ = some (.int .i64 sh)) ∧ True from ⟨cell_of_row V _ 0 _ _ _ hVh, cell_of_row V _ 1 _ _ _ hVh, cell_of_row V _ 2 _ _ _ hVh, trivial⟩)
          have hlv : wr.heap.size < V.heap.size := (Array.getElem?_eq_some_iff.1 hVh).1
          clear hVh
          generalize wr.heap.size = b8 at *
          go_wp2_with fail
          first
          | (refine (HA.out _).mono ?_
             rintro e w7 ⟨rfl, hb7⟩
             go_wp2_with fail
             go_ret
             exact ⟨rfl, HBWV.out.trans (hb7.mono HBWV.out.size)⟩)
          | (have him : i + 1 < m := by
               have := HQ.out
               rw [beq_eq_false_iff_ne] at this
               omega
             obtain ⟨b1, b2, b3⟩ := HX.out.2 him
             have HWD := Lib.hid b3
             clear b3
             go_loopw [9] (fun s9 wy => ∃ k : Nat, t < k ∧ k ≤ N ∧ s9 = .int .i64 k ∧ (∀ j, t < j → j < k → Bl l j = false) ∧ Below V.heap.size V wy) (fun s9 _ => N - (RowKit.intOf s9).toNat)
             case atStart => exact ⟨t + 1, Nat.lt_succ_self _, b2, rfl, fun j h1 h2 => by omega, Below.refl _ _⟩
             case round =>
               obtain ⟨k, hk1, hk2, rfl, hbl, hy⟩ := hrel
               have u0 := (hy.cell (p := ⟨b8, 0, none⟩) hlv).trans z0
               have HBY := Lib.hid (HBWV.out.trans (hy.mono HBWV.out.size))
               have HBU := Lib.hid (HBV.out.trans (hy.mono HBV.out.size))
               have HY := Lib.hid hy
               have jk0 : (0 : Int) ≤ (k : Int) := by omega
               have jk1 : (f : Int) ≤ (k : Int) := by omega
               have jk2 : (k : Int) ≤ (c : Int) := by omega
               have jk3 : decide ((N : Int) < (k : Int)) = false := decide_eq_false (by omega)
               have jk4 : decide (N < k) = false := decide_eq_false (by omega)
               have HRK := Lib.hid (fun W (h : Below V.heap.size V W) cc => HMO.out f k (by omega) (by omega) cc W (HBWV.out.trans (h.mono HBWV.out.size)))
               clear z0 z1 z2
               by_cases hkN : k < N
               · have hkl : k < l.length := by rw [HN.out]; omega
                 obtain ⟨g2, o2, e2, hg2, c0, c1, c2, c3, c4, c5⟩ := (HR.out.below HBY.out).at_ hkl
                 injection e2 with e2
                 injection e2 with e2 e3
                 subst e2 e3
                 have hblk := Bl_at hkl
                 generalize l[k] = x at *
                 have jk5 : (k : Int) < (n : Int) := by omega
                 have HC0 := Lib.hid (fun W (h : Below wr.heap.size wr W) => (h.cell (p := ⟨b8, 0, none⟩) (show b8 < wr.heap.size by have := HY.out.size; omega)).trans u0)
                 cases hb32 : (x.c == 32)
                 · have HK2 := Lib.hid (fun V => (hb32 ▸ H2.out x V : Calls Try.prog 11 #[.agg #[.int .i64 x.a, .int .i64 x.z, .int .i64 x.f, .int .i64 x.t, .int .i64 x.w, .int .i64 x.c]] V fun e w' => e = .returned (.bool false) ∧ Below V.heap.size V w'))
                   have HBL := Lib.hid (show ∀ j, t < j → j < k + 1 → Bl l j = false from fun j h1 h2 => by
                     by_cases h : j = k
                     · rw [h, hblk, hb32]
                     · exact hbl j h1 (by omega))
                   clear hbl hblk hb32 hkl hy HRK
                   go_wp2_with fail
                   refine (HK2.out _).mono ?_
                   rintro e w9 ⟨rfl, hb9⟩
                   have HB9 := Lib.hid (HY.out.trans (hb9.mono HY.out.size))
                   clear hb9
                   go_wp2_with fail
                   go_roundw
                   case rel => exact ⟨k + 1, by omega, by omega, by go_num, HBL.out, HB9.out⟩
                   case measure => simp [RowKit.intOf]; omega
                 · have HK2 := Lib.hid (fun V => (hb32 ▸ H2.out x V : Calls Try.prog 11 #[.agg #[.int .i64 x.a, .int .i64 x.z, .int .i64 x.f, .int .i64 x.t, .int .i64 x.w, .int .i64 x.c]] V fun e w' => e = .returned (.bool true) ∧ Below V.heap.size V w'))
                   have hmk := HWD.out k hk1 hk2 hbl (fun _ => by rw [hblk, hb32])
                   rw [hmk] at HRK
                   clear hbl hblk hb32 hkl hy hmk
                   go_wp2_with fail
                   refine (HK2.out _).mono ?_
                   rintro e w9 ⟨rfl, hb9⟩
                   have HB9 := Lib.hid (HY.out.trans (hb9.mono HY.out.size))
                   have v0 := HC0.out _ hb9
                   clear hb9 u0
                   go_wp2_with fail
                   refine (HRK.out _ HB9.out _).mono ?_
                   rintro e w10 ⟨rfl, rfl⟩
                   go_wp2_with fail
                   go_roundw
                   case rel => exact ⟨i + 1, by omega, by go_num, HBV.out.trans (HB9.out.mono HBV.out.size)⟩
                   case measure => simp [RowKit.intOf]; omega
               · obtain rfl : k = N := by omega
                 have jk6 : decide ((k : Int) < (k : Int)) = false := decide_eq_false (by omega)
                 have hmk := HWD.out k hk1 hk2 hbl (fun h => by omega)
                 rw [hmk] at HRK
                 clear hbl hy hmk
                 go_wp2_with fail
                 refine (HRK.out _ HY.out _).mono ?_
                 rintro e w10 ⟨rfl, rfl⟩
                 go_wp2_with fail
                 go_roundw
                 case rel => exact ⟨i + 1, by omega, by go_num, HBU.out⟩
                 case measure => simp [RowKit.intOf]; omega)
      · obtain rfl : i = m := by omega
        have jj2 : decide ((i : Int) < (i : Int)) = false := decide_eq_false (by omega)
        clear hb
        go_wp2_with fail
        refine (HA.out _).mono ?_
        rintro e w7 ⟨rfl, hb7⟩
        go_wp2_with fail
        go_ret
        exact ⟨rfl, HBW.out.trans (hb7.mono HBW.out.size)⟩
end Go.Proofs.Ytfbjgibjlppjoaa.Wr
