/-
  Proved here: what parquetryref06.Joins returns, for every row of numbers of at most 1000000, at every place from 1 on; it leaves what was in memory.
-/
import Derived.Deep.RegionHeld3
import Derived.Test.YtlocnjenkanmpaaDoorM9
import Derived.Test.YtlocnjenkanmpaaDoorM0
set_option linter.unusedVariables false
namespace Go.Proofs.YtlocnjenkanmpaaDoor.Ku
open Go.RowKit Go.Lib Go.Proofs.YtlocnjenkanmpaaDoor.Arr Go.Proofs.YtlocnjenkanmpaaDoor.Gc
open Go.Proofs.YtlocnjenkanmpaaDoor.Cl (IntsAt)
theorem refKind_any (c : Int) (w : World) : Calls Tryd.prog 52 #[.int .i64 c] w fun e w' => e = .returned (.int .i64 (kindT c)) ∧ Below w.heap.size w w' := ref_kind c ▸ Gr.refOf_any c w
theorem step_below' {wr V W : World} (h : Below wr.heap.size wr V) (hb : Below V.heap.size V W) : Below wr.heap.size wr W := h.trans (hb.mono h.size)
theorem rev_take (zs : List Int) (j : Nat) (hj : j < zs.length) : (zs.take (j + 1)).reverse = zs[j] :: (zs.take j).reverse := by
  rw [List.take_succ_eq_append_getElem hj, List.reverse_append]
  rfl
theorem paR_cons (c : Int) (l : List Int) : paR (c :: l) = if kindT c = 4 then paR l else pictT c := rfl
set_option maxHeartbeats 4000000 in
set_option maxRecDepth 100000 in
theorem rjoins_any (A : Option Addr) (zs : List Int) (n : Nat) (i : Nat) (w : World) (hR : IntsAt w A zs) (hn : zs.length ≤ 1000000) (h1 : 1 ≤ i) (hi : i < zs.length) :
    Calls Tryd.prog 37 #[.slice A zs.length n, .int .i64 i] w fun e w' => e = .returned (.bool (joins (stR (zs.take i).reverse) zs[i])) ∧ Below w.heap.size w w' := by
  obtain ⟨j, rfl⟩ : ∃ j, i = j + 1 := ⟨i - 1, by omega⟩
  have hjl : j < zs.length := by omega
  rw [rev_take zs j hjl, joins_read]
  obtain ⟨pa, hpa⟩ : ∃ pa, paR (zs.take j).reverse = pa := ⟨_, rfl⟩
  obtain ⟨ri, hri⟩ : ∃ ri, riR (zs.take j).reverse = ri := ⟨_, rfl⟩
  rw [hpa, hri]
  obtain ⟨g, off, rfl, hc0⟩ := hR.at_ hjl
  obtain ⟨g', off', hA', hc1⟩ := hR.at_ hi
  injection hA' with hA'
  injection hA' with e1 e2
  subst e1 e2
  have hgl : g < w.heap.size := World.block_lt_of_cell? w _ hc0
  have HD := Lib.hid (fun W => refKind_any zs[j] W)
  have HC := Lib.hid (fun W => refKind_any zs[j + 1] W)
  have HP := Lib.hid (fun W => Gr.refPict_any zs[j + 1] W)
  have HK := Lib.hid (And.intro (pict_kind (c := zs[j + 1])) (And.intro (kind_le zs[j]) (kind_le zs[j + 1])))
  have HR := Lib.hid hR
  have HPA := Lib.hid hpa
  have HRI := Lib.hid hri
  clear hR hpa hri
  generalize zs[j] = d at *
  generalize zs[j + 1] = c at *
  generalize pictT c = q at *
  obtain ⟨res, hres⟩ : ∃ res : Bool, (rules (kindT d) (kindT c) || ((kindT d == 5 && q && pa) || (kindT d == 6 && kindT c == 6 && decide (ri % 2 = 0)))) = res := ⟨_, rfl⟩
  rw [hres]
  have HRes := Lib.hid hres
  clear hres
  generalize kindT d = a at *
  generalize kindT c = b at *
  have hx1 : IntKind.i64.wrap ((j : Int) + 1 - 1) = j := by rw [IntWalk.i64_in _ (by omega)]; omega
  have hx2 : IntKind.i64.wrap (j : Int) = j := IntWalk.i64_in _ (by omega)
  have hx3 : (j : Int) < zs.length := by omega
  have hx4 : (j : Int) + 1 < zs.length := by omega
  have hx5 : (0 : Int) ≤ (j : Int) + 1 := by omega
  have HCELL := Lib.hid (fun V (h : Below w.heap.size w V) => (⟨(h.cell (p := ⟨g, off + j, none⟩) hgl).trans hc0, (h.cell (p := ⟨g, off + (j + 1), none⟩) hgl).trans hc1, h⟩ : V.cell? ⟨g, off + j, none⟩ = some (.int .i64 d) ∧ V.cell? ⟨g, off + (j + 1), none⟩ = some (.int .i64 c) ∧ Below w.heap.size w V))
  clear hc0 hc1
  go_enter Tryd.func37, Tryd.ntmps37
  go_wp2_with fail
  go_region_held3 (fun V => V.cell? ⟨g, off + j, none⟩ = some (.int .i64 d) ∧ V.cell? ⟨g, off + (j + 1), none⟩ = some (.int .i64 c) ∧ Below w.heap.size w V) (first | exact HCELL.out _ (Below.refl _ _) | exact HCELL.out _ (below_drew (Below.refl _ _)) | exact HCELL.out _ (by assumption))
    (first | (go_at_call 52; first | ((with_reducible refine (HD.out _).mono ?_); rintro e w7 ⟨rfl, hb7⟩; have hbx := step_below' (wr := w) (by first | assumption | exact below_drew (Below.refl _ _)) hb7; clear hb7) | ((with_reducible refine (HC.out _).mono ?_); rintro e w8 ⟨rfl, hb7⟩; have hbx := step_below' (wr := w) (by first | assumption | exact below_drew (Below.refl _ _)) hb7; clear hb7)))
  rename_i hh8
  obtain ⟨-, hcc, hb8⟩ := hh8
  have HB8 := Lib.hid hb8
  have HAA := Lib.hid (fun W => alone_any a W)
  have HAB := Lib.hid (fun W => alone_any b W)
  have HSY := Lib.hid (fun W => syllable_any a b W)
  clear hb8
  cases h1 : (a == 1) with
  | true =>
    obtain rfl : a = 1 := by simpa using h1
    rw [show alone 1 = true from rfl] at HAA
    rw [show syl 1 b = false from by simp [syl]] at HSY
    cases h2 : (b == 2) with
    | true =>
      have HV := Lib.hid (show res = true by rw [← HRes.out]; simp [rules, trail, h2])
      clear HRes
      go_wp2_with (first | (go_at_call 53; first | ((with_reducible refine (HAA.out _).mono ?_); rintro e w9 ⟨rfl, rfl⟩) | ((with_reducible refine (HAB.out _).mono ?_); rintro e w9 ⟨rfl, rfl⟩)) | (go_at_call 54; refine (HSY.out _).mono ?_; rintro e w9 ⟨rfl, rfl⟩) | fail)
      go_ret
      exact ⟨by rw [HV.out]; rfl, HB8.out⟩
    | false =>
      have HV := Lib.hid (show res = false by rw [← HRes.out]; simp [rules, trail, h2, alone, syl])
      clear HRes
      go_wp2_with (first | (go_at_call 53; first | ((with_reducible refine (HAA.out _).mono ?_); rintro e w9 ⟨rfl, rfl⟩) | ((with_reducible refine (HAB.out _).mono ?_); rintro e w9 ⟨rfl, rfl⟩)) | (go_at_call 54; refine (HSY.out _).mono ?_; rintro e w9 ⟨rfl, rfl⟩) | fail)
      go_ret
      exact ⟨by rw [HV.out]; rfl, HB8.out⟩
  | false =>
    cases ha : alone a with
    | true =>
      have ha' := ha
      unfold alone at ha'
      have hsy : syl a b = false := by
        simp at ha' h1
        rcases ha' with e | e | e
        · exact absurd e h1
        · subst e; simp [syl]
        · subst e; simp [syl]
      have h5 : (a == 5) = false := by
        simp at ha' h1 ⊢
        omega
      have h6 : (a == 6) = false := by
        simp at ha' h1 ⊢
        omega
      clear ha'
      rw [ha] at HAA
      rw [hsy] at HSY
      have HV := Lib.hid (show res = false by rw [← HRes.out]; simp [rules, trail, h1, ha, hsy, h5, h6])
      clear HRes
      go_wp2_with (first | (go_at_call 53; first | ((with_reducible refine (HAA.out _).mono ?_); rintro e w9 ⟨rfl, rfl⟩) | ((with_reducible refine (HAB.out _).mono ?_); rintro e w9 ⟨rfl, rfl⟩)) | (go_at_call 54; refine (HSY.out _).mono ?_; rintro e w9 ⟨rfl, rfl⟩) | fail)
      go_ret
      exact ⟨by rw [HV.out]; rfl, HB8.out⟩
    | false =>
      rw [ha] at HAA
      cases hb : alone b with
      | true =>
        rw [hb] at HAB
        have hsy : syl a b = false := by
          have hb' := hb
          unfold alone at hb'
          simp at hb'
          rcases hb' with e | e | e <;> subst e <;> simp [syl]
        have hq : q = false := by
          cases hq : q with
          | false => rfl
          | true =>
            rw [HK.out.1 hq] at hb
            cases hb
        have h6 : (b == 6) = false := by
          cases h6 : (b == 6) with
          | false => rfl
          | true =>
            rw [beq_iff_eq] at h6
            rw [h6] at hb
            cases hb
        have h2 : (a == 1 && b == 2) = false := by rw [h1]; rfl
        rw [hsy] at HSY
        subst hq
        cases h5 : (a == 5) with
        | true =>
          obtain rfl : a = 5 := by simpa using h5
          have HV := Lib.hid (show res = false by rw [← HRes.out]; simp [rules, trail, hb, hsy, h6])
          clear HRes
          go_wp2_with (first | (go_at_call 53; first | ((with_reducible refine (HAA.out _).mono ?_); rintro e w9 ⟨rfl, rfl⟩) | ((with_reducible refine (HAB.out _).mono ?_); rintro e w9 ⟨rfl, rfl⟩)) | (go_at_call 54; refine (HSY.out _).mono ?_; rintro e w9 ⟨rfl, rfl⟩) | (go_at_call 55; refine (HP.out _).mono ?_; rintro e w9 ⟨rfl, hb9⟩))
          go_ret
          exact ⟨by rw [HV.out]; rfl, HB8.out.trans (hb9.mono HB8.out.size)⟩
        | false =>
          cases h7 : (a == 6) with
          | true =>
            obtain rfl : a = 6 := by simpa using h7
            have HV := Lib.hid (show res = false by rw [← HRes.out]; simp [rules, trail, hb, hsy, h6])
            clear HRes
            go_wp2_with (first | (go_at_call 53; first | ((with_reducible refine (HAA.out _).mono ?_); rintro e w9 ⟨rfl, rfl⟩) | ((with_reducible refine (HAB.out _).mono ?_); rintro e w9 ⟨rfl, rfl⟩)) | (go_at_call 54; refine (HSY.out _).mono ?_; rintro e w9 ⟨rfl, rfl⟩) | fail)
            go_ret
            exact ⟨by rw [HV.out]; rfl, HB8.out⟩
          | false =>
            have HV := Lib.hid (show res = false by rw [← HRes.out]; simp [rules, trail, h1, hb, hsy, h5, h7])
            clear HRes
            go_wp2_with (first | (go_at_call 53; first | ((with_reducible refine (HAA.out _).mono ?_); rintro e w9 ⟨rfl, rfl⟩) | ((with_reducible refine (HAB.out _).mono ?_); rintro e w9 ⟨rfl, rfl⟩)) | (go_at_call 54; refine (HSY.out _).mono ?_; rintro e w9 ⟨rfl, rfl⟩) | fail)
            go_ret
            exact ⟨by rw [HV.out]; rfl, HB8.out⟩
      | false =>
        rw [hb] at HAB
        cases h4 : (b == 4) with
        | true =>
          have HV := Lib.hid (show res = true by rw [← HRes.out]; simp [rules, trail, h1, ha, hb, h4])
          clear HRes
          go_wp2_with (first | (go_at_call 53; first | ((with_reducible refine (HAA.out _).mono ?_); rintro e w9 ⟨rfl, rfl⟩) | ((with_reducible refine (HAB.out _).mono ?_); rintro e w9 ⟨rfl, rfl⟩)) | (go_at_call 54; refine (HSY.out _).mono ?_; rintro e w9 ⟨rfl, rfl⟩) | fail)
          go_ret
          exact ⟨by rw [HV.out]; rfl, HB8.out⟩
        | false =>
        cases h5 : (b == 5) with
        | true =>
          have HV := Lib.hid (show res = true by rw [← HRes.out]; simp [rules, trail, h1, ha, hb, h4, h5])
          clear HRes
          go_wp2_with (first | (go_at_call 53; first | ((with_reducible refine (HAA.out _).mono ?_); rintro e w9 ⟨rfl, rfl⟩) | ((with_reducible refine (HAB.out _).mono ?_); rintro e w9 ⟨rfl, rfl⟩)) | (go_at_call 54; refine (HSY.out _).mono ?_; rintro e w9 ⟨rfl, rfl⟩) | fail)
          go_ret
          exact ⟨by rw [HV.out]; rfl, HB8.out⟩
        | false =>
        cases h8 : (b == 8) with
        | true =>
          have HV := Lib.hid (show res = true by rw [← HRes.out]; simp [rules, trail, h1, ha, hb, h4, h5, h8])
          clear HRes
          go_wp2_with (first | (go_at_call 53; first | ((with_reducible refine (HAA.out _).mono ?_); rintro e w9 ⟨rfl, rfl⟩) | ((with_reducible refine (HAB.out _).mono ?_); rintro e w9 ⟨rfl, rfl⟩)) | (go_at_call 54; refine (HSY.out _).mono ?_; rintro e w9 ⟨rfl, rfl⟩) | fail)
          go_ret
          exact ⟨by rw [HV.out]; rfl, HB8.out⟩
        | false =>
        cases h7 : (a == 7) with
        | true =>
          have HV := Lib.hid (show res = true by rw [← HRes.out]; simp [rules, trail, h1, ha, hb, h4, h5, h8, h7])
          clear HRes
          go_wp2_with (first | (go_at_call 53; first | ((with_reducible refine (HAA.out _).mono ?_); rintro e w9 ⟨rfl, rfl⟩) | ((with_reducible refine (HAB.out _).mono ?_); rintro e w9 ⟨rfl, rfl⟩)) | (go_at_call 54; refine (HSY.out _).mono ?_; rintro e w9 ⟨rfl, rfl⟩) | fail)
          go_ret
          exact ⟨by rw [HV.out]; rfl, HB8.out⟩
        | false =>
        cases hsy : syl a b with
        | true =>
          rw [hsy] at HSY
          have HV := Lib.hid (show res = true by rw [← HRes.out]; simp [rules, trail, h1, ha, hb, h4, h5, h8, h7, hsy])
          clear HRes
          go_wp2_with (first | (go_at_call 53; first | ((with_reducible refine (HAA.out _).mono ?_); rintro e w9 ⟨rfl, rfl⟩) | ((with_reducible refine (HAB.out _).mono ?_); rintro e w9 ⟨rfl, rfl⟩)) | (go_at_call 54; refine (HSY.out _).mono ?_; rintro e w9 ⟨rfl, rfl⟩) | fail)
          go_ret
          exact ⟨by rw [HV.out]; rfl, HB8.out⟩
        | false =>
        rw [hsy] at HSY
        have hrl : rules a b = false := by simp [rules, trail, h1, ha, hb, h4, h5, h8, h7, hsy]
        cases g5 : (a == 5) with
        | true =>
          obtain rfl : a = 5 := by simpa using g5
          cases q with
          | false =>
            have HV := Lib.hid (show res = false by rw [← HRes.out]; rw [hrl]; simp)
            clear HRes
            go_wp2_with (first | (go_at_call 53; first | ((with_reducible refine (HAA.out _).mono ?_); rintro e w9 ⟨rfl, rfl⟩) | ((with_reducible refine (HAB.out _).mono ?_); rintro e w9 ⟨rfl, rfl⟩)) | (go_at_call 54; refine (HSY.out _).mono ?_; rintro e w9 ⟨rfl, rfl⟩) | (go_at_call 55; refine (HP.out _).mono ?_; rintro e w9 ⟨rfl, hb9⟩))
            go_ret
            exact ⟨by rw [HV.out]; rfl, HB8.out.trans (hb9.mono HB8.out.size)⟩
          | true =>
            have HV := Lib.hid (show res = pa by rw [← HRes.out, hrl]; simp)
            have hx6 : IntKind.i64.wrap ((j : Int) + 1 - 2) = (j : Int) - 1 := by rw [IntWalk.i64_in _ (by omega)]; omega
            clear HRes HRI hrl
            go_wp2_with (first | (go_at_call 53; first | ((with_reducible refine (HAA.out _).mono ?_); rintro e w9 ⟨rfl, rfl⟩) | ((with_reducible refine (HAB.out _).mono ?_); rintro e w9 ⟨rfl, rfl⟩)) | (go_at_call 54; refine (HSY.out _).mono ?_; rintro e w9 ⟨rfl, rfl⟩) | (go_at_call 55; refine (HP.out _).mono ?_; rintro e w9 ⟨rfl, hb9⟩))
            have HB9 := Lib.hid (HB8.out.trans (hb9.mono HB8.out.size))
            clear hb9 hcc
            go_loopw [7] (fun s7 wx => ∃ (t : Nat) (x : Int), t ≤ j ∧ s7 = .int .i64 x ∧ x = (t : Int) - 1 ∧ paR (zs.take t).reverse = pa ∧ Below w.heap.size w wx) (fun s7 _ => (RowKit.intOf s7 + 1).toNat)
            case atStart => exact ⟨j, (j : Int) - 1, Nat.le_refl _, by rfl, rfl, HPA.out, HB9.out⟩
            case round =>
              obtain ⟨t, x, htj, rfl, hx, hpt, hbw⟩ := hrel
              cases t with
              | zero =>
                obtain rfl : x = -1 := by omega
                have HV2 := Lib.hid (show res = false by rw [HV.out, ← hpt]; rfl)
                clear hx hpt HV
                go_wp2
                go_ret
                exact ⟨by rw [HV2.out]; rfl, hbw⟩
              | succ t =>
                obtain rfl : x = (t : Int) := by omega
                have htl : t < zs.length := by omega
                rw [rev_take zs t htl, paR_cons] at hpt
                obtain ⟨b', off', hA', hct⟩ := (HR.out.below hbw).at_ htl
                injection hA' with hA'
                injection hA' with e1 e2
                subst e1 e2
                have HKZ := Lib.hid (fun W => refKind_any zs[t] W)
                have HPZ := Lib.hid (fun W => Gr.refPict_any zs[t] W)
                have HPT := Lib.hid hpt
                have HBW := Lib.hid hbw
                have hgb : g < wr.heap.size := World.block_lt_of_cell? wr _ hct
                have ht0 : (0 : Int) ≤ (t : Int) := by omega
                have ht1 : IntKind.i64.wrap ((t : Int) - 1) = (t : Int) - 1 := IntWalk.i64_in _ (by omega)
                have ht2 : (t : Int) < zs.length := by omega
                have ht3 : decide (0 ≤ (t : Int)) = true := decide_eq_true ht0
                clear hx hpt hbw
                generalize zs[t] = y at *
                generalize kindT y = ky at *
                generalize pictT y = py at *
                cases k4 : (ky == 4) with
                | true =>
                  have HN := Lib.hid (show paR (zs.take t).reverse = pa by rw [← HPT.out, if_pos (by simpa using k4)])
                  clear HPT
                  go_wp2_with fail
                  refine (HKZ.out _).mono ?_
                  rintro e w10 ⟨rfl, hb10⟩
                  go_wp2
                  go_roundw
                  case rel => exact ⟨t, (t : Int) - 1, by omega, by rfl, rfl, HN.out, HBW.out.trans (hb10.mono HBW.out.size)⟩
                  case measure => simp [RowKit.intOf]
                | false =>
                  have HN := Lib.hid (show py = pa by rw [← HPT.out, if_neg (by simpa using k4)])
                  clear HPT
                  go_wp2_with fail
                  refine (HKZ.out _).mono ?_
                  rintro e w10 ⟨rfl, hb10⟩
                  have hct2 := (hb10.cell (p := ⟨g, off + t, none⟩) hgb).trans hct
                  have HB10 := Lib.hid (HBW.out.trans (hb10.mono HBW.out.size))
                  clear hb10 HBW hct
                  go_wp2_with fail
                  refine (HPZ.out _).mono ?_
                  rintro e w11 ⟨rfl, hb11⟩
                  cases py with
                  | true =>
                    go_wp2
                    go_ret
                    exact ⟨by rw [HV.out, ← HN.out]; rfl, HB10.out.trans (hb11.mono HB10.out.size)⟩
                  | false =>
                    go_wp2
                    go_ret
                    exact ⟨by rw [HV.out, ← HN.out]; rfl, HB10.out.trans (hb11.mono HB10.out.size)⟩
        | false =>
          cases g6 : (a == 6) with
          | false =>
            have HV := Lib.hid (show res = false by rw [← HRes.out]; rw [hrl]; simp [g5, g6])
            clear HRes
            go_wp2_with (first | (go_at_call 53; first | ((with_reducible refine (HAA.out _).mono ?_); rintro e w9 ⟨rfl, rfl⟩) | ((with_reducible refine (HAB.out _).mono ?_); rintro e w9 ⟨rfl, rfl⟩)) | (go_at_call 54; refine (HSY.out _).mono ?_; rintro e w9 ⟨rfl, rfl⟩) | fail)
            go_ret
            exact ⟨by rw [HV.out]; rfl, HB8.out⟩
          | true =>
            obtain rfl : a = 6 := by simpa using g6
            cases k6 : (b == 6) with
            | false =>
              have HV := Lib.hid (show res = false by rw [← HRes.out]; rw [hrl]; simp [k6])
              clear HRes
              go_wp2_with (first | (go_at_call 53; first | ((with_reducible refine (HAA.out _).mono ?_); rintro e w9 ⟨rfl, rfl⟩) | ((with_reducible refine (HAB.out _).mono ?_); rintro e w9 ⟨rfl, rfl⟩)) | (go_at_call 54; refine (HSY.out _).mono ?_; rintro e w9 ⟨rfl, rfl⟩) | fail)
              go_ret
              exact ⟨by rw [HV.out]; rfl, HB8.out⟩
            | true =>
              have HV := Lib.hid (show res = decide (ri % 2 = 0) by rw [← HRes.out, hrl]; simp [k6])
              have hx6 : IntKind.i64.wrap ((j : Int) + 1 - 2) = (j : Int) - 1 := by rw [IntWalk.i64_in _ (by omega)]; omega
              clear HRes HPA hrl hcc
              go_wp2_with (first | (go_at_call 53; first | ((with_reducible refine (HAA.out _).mono ?_); rintro e w9 ⟨rfl, rfl⟩) | ((with_reducible refine (HAB.out _).mono ?_); rintro e w9 ⟨rfl, rfl⟩)) | (go_at_call 54; refine (HSY.out _).mono ?_; rintro e w9 ⟨rfl, rfl⟩) | fail)
              go_loopw [8, 9] (fun s8 s9 wx => ∃ (t cn : Nat) (x : Int), t ≤ j ∧ s9 = .int .i64 x ∧ x = (t : Int) - 1 ∧ s8 = .int .i64 cn ∧ cn + riR (zs.take t).reverse = ri ∧ cn + t ≤ j ∧ Below w.heap.size w wx) (fun _ s9 _ => (RowKit.intOf s9 + 1).toNat)
              case atStart => exact ⟨j, 0, (j : Int) - 1, Nat.le_refl _, by rfl, rfl, rfl, by rw [Nat.zero_add]; exact HRI.out, by omega, HB8.out⟩
              case round =>
                obtain ⟨t, cn, x, htj, rfl, hx, rfl, hrt, hcj, hbw⟩ := hrel
                have hcn2 : IntKind.i64.wrap ((cn : Int) + 1) = (cn : Int) + 1 := IntWalk.i64_in _ (by omega)
                cases t with
                | zero =>
                  obtain rfl : x = -1 := by omega
                  have HV2 := Lib.hid (show res = ((cn : Int) % 2 == 0) by
                    have : ri = cn := by rw [← hrt]; rfl
                    rw [HV.out, this]
                    by_cases h : cn % 2 = 0
                    · rw [decide_eq_true h]; symm; simp; omega
                    · rw [decide_eq_false h]; symm; simp; omega)
                  clear hx hrt HV
                  go_wp2
                  go_ret
                  exact ⟨by rw [HV2.out]; rfl, hbw⟩
                | succ t =>
                  obtain rfl : x = (t : Int) := by omega
                  have htl : t < zs.length := by omega
                  rw [rev_take zs t htl, riR_cons] at hrt
                  obtain ⟨b', off', hA', hct⟩ := (HR.out.below hbw).at_ htl
                  injection hA' with hA'
                  injection hA' with e1 e2
                  subst e1 e2
                  have HKZ := Lib.hid (fun W => refKind_any zs[t] W)
                  have HRT := Lib.hid hrt
                  have HBW := Lib.hid hbw
                  have ht0 : (0 : Int) ≤ (t : Int) := by omega
                  have ht1 : IntKind.i64.wrap ((t : Int) - 1) = (t : Int) - 1 := IntWalk.i64_in _ (by omega)
                  have ht2 : (t : Int) < zs.length := by omega
                  have ht3 : decide (0 ≤ (t : Int)) = true := decide_eq_true ht0
                  clear hx hrt hbw
                  generalize zs[t] = y at *
                  generalize kindT y = ky at *
                  cases k4 : (ky == 6) with
                  | true =>
                    have HN := Lib.hid (show cn + 1 + riR (zs.take t).reverse = ri by
                      have h := HRT.out
                      rw [if_pos (by simpa using k4)] at h
                      omega)
                    clear HRT
                    go_wp2_with fail
                    refine (HKZ.out _).mono ?_
                    rintro e w10 ⟨rfl, hb10⟩
                    go_wp2
                    go_roundw
                    case rel => exact ⟨t, cn + 1, (t : Int) - 1, by omega, by rfl, rfl, by go_num, HN.out, by omega, HBW.out.trans (hb10.mono HBW.out.size)⟩
                    case measure => simp [RowKit.intOf]
                  | false =>
                    have HV2 := Lib.hid (show res = ((cn : Int) % 2 == 0) by
                      have : ri = cn := by
                        have h := HRT.out
                        rw [if_neg (by simpa using k4)] at h
                        omega
                      rw [HV.out, this]
                      by_cases h : cn % 2 = 0
                      · rw [decide_eq_true h]; symm; simp; omega
                      · rw [decide_eq_false h]; symm; simp; omega)
                    clear HRT HV
                    go_wp2_with fail
                    refine (HKZ.out _).mono ?_
                    rintro e w10 ⟨rfl, hb10⟩
                    go_wp2
                    go_ret
                    exact ⟨by rw [HV2.out]; rfl, HBW.out.trans (hb10.mono HBW.out.size)⟩
end Go.Proofs.YtlocnjenkanmpaaDoor.Ku
