/-
  Several texts in one, each with its own remark: KrJoin, CrFns, KrWide, RnPlain.
-/
import Derived.Deep.RegionHeld3
import Derived.Lib.MinMax
import Derived.Lib.MapLaws
import Derived.Lib.RuneBytes
import Derived.Lib.Strings
import Derived.Test.YtfbjgibjlppjoaaM1
import Derived.Test.YtfbjgibjlppjoaaM0

/-
  Proved here: what parquetryref06.Joins returns, for every row of numbers of at most 1000000, at every place from 1 on; it leaves what was in memory.
-/
set_option linter.unusedVariables false
namespace Go.Proofs.Ytfbjgibjlppjoaa.Ku
open Go.RowKit Go.Lib Go.Proofs.Ytfbjgibjlppjoaa.Arr Go.Proofs.Ytfbjgibjlppjoaa.Gc
open Go.Proofs.Ytfbjgibjlppjoaa.Cl (IntsAt)

theorem refKind_any (c : Int) (w : World) : Calls Try.prog 48 #[.int .i64 c] w fun e w' => e = .returned (.int .i64 (kindT c)) ∧ Below w.heap.size w w' := ref_kind c ▸ Gr.refOf_any c w
theorem step_below' {wr V W : World} (h : Below wr.heap.size wr V) (hb : Below V.heap.size V W) : Below wr.heap.size wr W := h.trans (hb.mono h.size)
theorem rev_take (zs : List Int) (j : Nat) (hj : j < zs.length) : (zs.take (j + 1)).reverse = zs[j] :: (zs.take j).reverse := by
  rw [List.take_succ_eq_append_getElem hj, List.reverse_append]
  rfl
theorem paR_cons (c : Int) (l : List Int) : paR (c :: l) = if kindT c = 4 then paR l else pictT c := rfl

set_option maxHeartbeats 4000000 in
set_option maxRecDepth 100000 in
theorem rjoins_any (A : Option Addr) (zs : List Int) (n : Nat) (i : Nat) (w : World) (hR : IntsAt w A zs) (hn : zs.length ≤ 1000000) (h1 : 1 ≤ i) (hi : i < zs.length) :
    Calls Try.prog 41 #[.slice A zs.length n, .int .i64 i] w fun e w' => e = .returned (.bool (joins (stR (zs.take i).reverse) zs[i])) ∧ Below w.heap.size w w' := by
  obtain ⟨j, rfl⟩ : ∃ j, i = j + 1 := ⟨i - 1, by omega⟩
  have hjl : j < zs.length := by omega
  rw [rev_take zs j hjl, joins_read]
  obtain ⟨pa, hpa⟩ : ∃ pa, paR (zs.take j).reverse = pa := ⟨_, rfl⟩
  obtain ⟨ri, hri⟩ : ∃ ri, riR (zs.take j).reverse = ri := ⟨_, rfl⟩
  rw [hpa, hri]
  obtain ⟨g, off, rfl, hc0⟩ := hR.at_ hjl
  obtain ⟨g', off', hA', hc1⟩ := hR.at_ hi
  injection hA' with hA'
  injection hA' with e1 e2
  subst e1 e2
  have hgl : g < w.heap.size := World.block_lt_of_cell? w _ hc0
  have HD := Lib.hid (fun W => refKind_any zs[j] W)
  have HC := Lib.hid (fun W => refKind_any zs[j + 1] W)
  have HP := Lib.hid (fun W => Gr.refPict_any zs[j + 1] W)
  have HK := Lib.hid (And.intro (pict_kind (c := zs[j + 1])) (And.intro (kind_le zs[j]) (kind_le zs[j + 1])))
  have HR := Lib.hid hR
  have HPA := Lib.hid hpa
  have HRI := Lib.hid hri
  clear hR hpa hri
  generalize zs[j] = d at *
  generalize zs[j + 1] = c at *
  generalize pictT c = q at *
  obtain ⟨res, hres⟩ : ∃ res : Bool, (rules (kindT d) (kindT c) || ((kindT d == 5 && q && pa) || (kindT d == 6 && kindT c == 6 && decide (ri % 2 = 0)))) = res := ⟨_, rfl⟩
  rw [hres]
  have HRes := Lib.hid hres
  clear hres
  generalize kindT d = a at *
  generalize kindT c = b at *
  have hx1 : IntKind.i64.wrap ((j : Int) + 1 - 1) = j := by rw [IntWalk.i64_in _ (by omega)]; omega
  have hx2 : IntKind.i64.wrap (j : Int) = j := IntWalk.i64_in _ (by omega)
  have hx3 : (j : Int) < zs.length := by omega
  have hx4 : (j : Int) + 1 < zs.length := by omega
  have hx5 : (0 : Int) ≤ (j : Int) + 1 := by omega
  have HCELL := Lib.hid (fun V (h : Below w.heap.size w V) => (⟨(h.cell (p := ⟨g, off + j, none⟩) hgl).trans hc0, (h.cell (p := ⟨g, off + (j + 1), none⟩) hgl).trans hc1, h⟩ : V.cell? ⟨g, off + j, none⟩ = some (.int .i64 d) ∧ V.cell? ⟨g, off + (j + 1), none⟩ = some (.int .i64 c) ∧ Below w.heap.size w V))
  clear hc0 hc1
  go_enter Try.func41, Try.ntmps41
  go_wp2_with fail
  go_region_held3 (fun V => V.cell? ⟨g, off + j, none⟩ = some (.int .i64 d) ∧ V.cell? ⟨g, off + (j + 1), none⟩ = some (.int .i64 c) ∧ Below w.heap.size w V) (first | exact HCELL.out _ (Below.refl _ _) | exact HCELL.out _ (below_drew (Below.refl _ _)) | exact HCELL.out _ (by assumption))
    (first | (go_at_call 48; first | ((with_reducible refine (HD.out _).mono ?_); rintro e w7 ⟨rfl, hb7⟩; have hbx := step_below' (wr := w) (by first | assumption | exact below_drew (Below.refl _ _)) hb7; clear hb7) | ((with_reducible refine (HC.out _).mono ?_); rintro e w8 ⟨rfl, hb7⟩; have hbx := step_below' (wr := w) (by first | assumption | exact below_drew (Below.refl _ _)) hb7; clear hb7)))
  rename_i hh8
  obtain ⟨-, hcc, hb8⟩ := hh8
  have HB8 := Lib.hid hb8
  have HAA := Lib.hid (fun W => alone_any a W)
  have HAB := Lib.hid (fun W => alone_any b W)
  have HSY := Lib.hid (fun W => syllable_any a b W)
  clear hb8
  cases h1 : (a == 1) with
  | true =>
    obtain rfl : a = 1 := by simpa using h1
    rw [show alone 1 = true from rfl] at HAA
    rw [show syl 1 b = false from by simp [syl]] at HSY
    cases h2 : (b == 2) with
    | true =>
      have HV := Lib.hid (show res = true by rw [← HRes.out]; simp [rules, trail, h2])
      clear HRes
      go_wp2_with (first | (go_at_call 49; first | ((with_reducible refine (HAA.out _).mono ?_); rintro e w9 ⟨rfl, rfl⟩) | ((with_reducible refine (HAB.out _).mono ?_); rintro e w9 ⟨rfl, rfl⟩)) | (go_at_call 50; refine (HSY.out _).mono ?_; rintro e w9 ⟨rfl, rfl⟩) | fail)
      go_ret
      exact ⟨by rw [HV.out]; rfl, HB8.out⟩
    | false =>
      have HV := Lib.hid (show res = false by rw [← HRes.out]; simp [rules, trail, h2, alone, syl])
      clear HRes
      go_wp2_with (first | (go_at_call 49; first | ((with_reducible refine (HAA.out _).mono ?_); rintro e w9 ⟨rfl, rfl⟩) | ((with_reducible refine (HAB.out _).mono ?_); rintro e w9 ⟨rfl, rfl⟩)) | (go_at_call 50; refine (HSY.out _).mono ?_; rintro e w9 ⟨rfl, rfl⟩) | fail)
      go_ret
      exact ⟨by rw [HV.out]; rfl, HB8.out⟩
  | false =>
    cases ha : alone a with
    | true =>
      have ha' := ha
      unfold alone at ha'
      have hsy : syl a b = false := by
        simp at ha' h1
        rcases ha' with e | e | e
        · exact absurd e h1
        · subst e; simp [syl]
        · subst e; simp [syl]
      have h5 : (a == 5) = false := by
        simp at ha' h1 ⊢
        omega
      have h6 : (a == 6) = false := by
        simp at ha' h1 ⊢
        omega
      clear ha'
      rw [ha] at HAA
      rw [hsy] at HSY
      have HV := Lib.hid (show res = false by rw [← HRes.out]; simp [rules, trail, h1, ha, hsy, h5, h6])
      clear HRes
      go_wp2_with (first | (go_at_call 49; first | ((with_reducible refine (HAA.out _).mono ?_); rintro e w9 ⟨rfl, rfl⟩) | ((with_reducible refine (HAB.out _).mono ?_); rintro e w9 ⟨rfl, rfl⟩)) | (go_at_call 50; refine (HSY.out _).mono ?_; rintro e w9 ⟨rfl, rfl⟩) | fail)
      go_ret
      exact ⟨by rw [HV.out]; rfl, HB8.out⟩
    | false =>
      rw [ha] at HAA
      cases hb : alone b with
      | true =>
        rw [hb] at HAB
        have hsy : syl a b = false := by
          have hb' := hb
          unfold alone at hb'
          simp at hb'
          rcases hb' with e | e | e <;> subst e <;> simp [syl]
        have hq : q = false := by
          cases hq : q with
          | false => rfl
          | true =>
            rw [HK.out.1 hq] at hb
            cases hb
        have h6 : (b == 6) = false := by
          cases h6 : (b == 6) with
          | false => rfl
          | true =>
            rw [beq_iff_eq] at h6
            rw [h6] at hb
            cases hb
        have h2 : (a == 1 && b == 2) = false := by rw [h1]; rfl
        rw [hsy] at HSY
        subst hq
        cases h5 : (a == 5) with
        | true =>
          obtain rfl : a = 5 := by simpa using h5
          have HV := Lib.hid (show res = false by rw [← HRes.out]; simp [rules, trail, hb, hsy, h6])
          clear HRes
          go_wp2_with (first | (go_at_call 49; first | ((with_reducible refine (HAA.out _).mono ?_); rintro e w9 ⟨rfl, rfl⟩) | ((with_reducible refine (HAB.out _).mono ?_); rintro e w9 ⟨rfl, rfl⟩)) | (go_at_call 50; refine (HSY.out _).mono ?_; rintro e w9 ⟨rfl, rfl⟩) | (go_at_call 51; refine (HP.out _).mono ?_; rintro e w9 ⟨rfl, hb9⟩))
          go_ret
          exact ⟨by rw [HV.out]; rfl, HB8.out.trans (hb9.mono HB8.out.size)⟩
        | false =>
          cases h7 : (a == 6) with
          | true =>
            obtain rfl : a = 6 := by simpa using h7
            have HV := Lib.hid (show res = false by rw [← HRes.out]; simp [rules, trail, hb, hsy, h6])
            clear HRes
            go_wp2_with (first | (go_at_call 49; first | ((with_reducible refine (HAA.out _).mono ?_); rintro e w9 ⟨rfl, rfl⟩) | ((with_reducible refine (HAB.out _).mono ?_); rintro e w9 ⟨rfl, rfl⟩)) | (go_at_call 50; refine (HSY.out _).mono ?_; rintro e w9 ⟨rfl, rfl⟩) | fail)
            go_ret
            exact ⟨by rw [HV.out]; rfl, HB8.out⟩
          | false =>
            have HV := Lib.hid (show res = false by rw [← HRes.out]; simp [rules, trail, h1, hb, hsy, h5, h7])
            clear HRes
            go_wp2_with (first | (go_at_call 49; first | ((with_reducible refine (HAA.out _).mono ?_); rintro e w9 ⟨rfl, rfl⟩) | ((with_reducible refine (HAB.out _).mono ?_); rintro e w9 ⟨rfl, rfl⟩)) | (go_at_call 50; refine (HSY.out _).mono ?_; rintro e w9 ⟨rfl, rfl⟩) | fail)
            go_ret
            exact ⟨by rw [HV.out]; rfl, HB8.out⟩
      | false =>
        rw [hb] at HAB
        cases h4 : (b == 4) with
        | true =>
          have HV := Lib.hid (show res = true by rw [← HRes.out]; simp [rules, trail, h1, ha, hb, h4])
          clear HRes
          go_wp2_with (first | (go_at_call 49; first | ((with_reducible refine (HAA.out _).mono ?_); rintro e w9 ⟨rfl, rfl⟩) | ((with_reducible refine (HAB.out _).mono ?_); rintro e w9 ⟨rfl, rfl⟩)) | (go_at_call 50; refine (HSY.out _).mono ?_; rintro e w9 ⟨rfl, rfl⟩) | fail)
          go_ret
          exact ⟨by rw [HV.out]; rfl, HB8.out⟩
        | false =>
        cases h5 : (b == 5) with
        | true =>
          have HV := Lib.hid (show res = true by rw [← HRes.out]; simp [rules, trail, h1, ha, hb, h4, h5])
          clear HRes
          go_wp2_with (first | (go_at_call 49; first | ((with_reducible refine (HAA.out _).mono ?_); rintro e w9 ⟨rfl, rfl⟩) | ((with_reducible refine (HAB.out _).mono ?_); rintro e w9 ⟨rfl, rfl⟩)) | (go_at_call 50; refine (HSY.out _).mono ?_; rintro e w9 ⟨rfl, rfl⟩) | fail)
          go_ret
          exact ⟨by rw [HV.out]; rfl, HB8.out⟩
        | false =>
        cases h8 : (b == 8) with
        | true =>
          have HV := Lib.hid (show res = true by rw [← HRes.out]; simp [rules, trail, h1, ha, hb, h4, h5, h8])
          clear HRes
          go_wp2_with (first | (go_at_call 49; first | ((with_reducible refine (HAA.out _).mono ?_); rintro e w9 ⟨rfl, rfl⟩) | ((with_reducible refine (HAB.out _).mono ?_); rintro e w9 ⟨rfl, rfl⟩)) | (go_at_call 50; refine (HSY.out _).mono ?_; rintro e w9 ⟨rfl, rfl⟩) | fail)
          go_ret
          exact ⟨by rw [HV.out]; rfl, HB8.out⟩
        | false =>
        cases h7 : (a == 7) with
        | true =>
          have HV := Lib.hid (show res = true by rw [← HRes.out]; simp [rules, trail, h1, ha, hb, h4, h5, h8, h7])
          clear HRes
          go_wp2_with (first | (go_at_call 49; first | ((with_reducible refine (HAA.out _).mono ?_); rintro e w9 ⟨rfl, rfl⟩) | ((with_reducible refine (HAB.out _).mono ?_); rintro e w9 ⟨rfl, rfl⟩)) | (go_at_call 50; refine (HSY.out _).mono ?_; rintro e w9 ⟨rfl, rfl⟩) | fail)
          go_ret
          exact ⟨by rw [HV.out]; rfl, HB8.out⟩
        | false =>
        cases hsy : syl a b with
        | true =>
          rw [hsy] at HSY
          have HV := Lib.hid (show res = true by rw [← HRes.out]; simp [rules, trail, h1, ha, hb, h4, h5, h8, h7, hsy])
          clear HRes
          go_wp2_with (first | (go_at_call 49; first | ((with_reducible refine (HAA.out _).mono ?_); rintro e w9 ⟨rfl, rfl⟩) | ((with_reducible refine (HAB.out _).mono ?_); rintro e w9 ⟨rfl, rfl⟩)) | (go_at_call 50; refine (HSY.out _).mono ?_; rintro e w9 ⟨rfl, rfl⟩) | fail)
          go_ret
          exact ⟨by rw [HV.out]; rfl, HB8.out⟩
        | false =>
        rw [hsy] at HSY
        have hrl : rules a b = false := by simp [rules, trail, h1, ha, hb, h4, h5, h8, h7, hsy]

        cases g5 : (a == 5) with
        | true =>
          obtain rfl : a = 5 := by simpa using g5
          cases q with
          | false =>
            have HV := Lib.hid (show res = false by rw [← HRes.out]; rw [hrl]; simp)
            clear HRes
            go_wp2_with (first | (go_at_call 49; first | ((with_reducible refine (HAA.out _).mono ?_); rintro e w9 ⟨rfl, rfl⟩) | ((with_reducible refine (HAB.out _).mono ?_); rintro e w9 ⟨rfl, rfl⟩)) | (go_at_call 50; refine (HSY.out _).mono ?_; rintro e w9 ⟨rfl, rfl⟩) | (go_at_call 51; refine (HP.out _).mono ?_; rintro e w9 ⟨rfl, hb9⟩))
            go_ret
            exact ⟨by rw [HV.out]; rfl, HB8.out.trans (hb9.mono HB8.out.size)⟩
          | true =>
            have HV := Lib.hid (show res = pa by rw [← HRes.out, hrl]; simp)
            have hx6 : IntKind.i64.wrap ((j : Int) + 1 - 2) = (j : Int) - 1 := by rw [IntWalk.i64_in _ (by omega)]; omega
            clear HRes HRI hrl
            go_wp2_with (first | (go_at_call 49; first | ((with_reducible refine (HAA.out _).mono ?_); rintro e w9 ⟨rfl, rfl⟩) | ((with_reducible refine (HAB.out _).mono ?_); rintro e w9 ⟨rfl, rfl⟩)) | (go_at_call 50; refine (HSY.out _).mono ?_; rintro e w9 ⟨rfl, rfl⟩) | (go_at_call 51; refine (HP.out _).mono ?_; rintro e w9 ⟨rfl, hb9⟩))
            have HB9 := Lib.hid (HB8.out.trans (hb9.mono HB8.out.size))
            clear hb9 hcc
            go_loopw [7] (fun s7 wx => ∃ (t : Nat) (x : Int), t ≤ j ∧ s7 = .int .i64 x ∧ x = (t : Int) - 1 ∧ paR (zs.take t).reverse = pa ∧ Below w.heap.size w wx) (fun s7 _ => (RowKit.intOf s7 + 1).toNat)
            case atStart => exact ⟨j, (j : Int) - 1, Nat.le_refl _, by rfl, rfl, HPA.out, HB9.out⟩
            case round =>
              obtain ⟨t, x, htj, rfl, hx, hpt, hbw⟩ := hrel
              cases t with
              | zero =>
                obtain rfl : x = -1 := by omega
                have HV2 := Lib.hid (show res = false by rw [HV.out, ← hpt]; rfl)
                clear hx hpt HV
                go_wp2
                go_ret
                exact ⟨by rw [HV2.out]; rfl, hbw⟩
              | succ t =>
                obtain rfl : x = (t : Int) := by omega
                have htl : t < zs.length := by omega
                rw [rev_take zs t htl, paR_cons] at hpt
                obtain ⟨b', off', hA', hct⟩ := (HR.out.below hbw).at_ htl
                injection hA' with hA'
                injection hA' with e1 e2
                subst e1 e2
                have HKZ := Lib.hid (fun W => refKind_any zs[t] W)
                have HPZ := Lib.hid (fun W => Gr.refPict_any zs[t] W)
                have HPT := Lib.hid hpt
                have HBW := Lib.hid hbw
                have hgb : g < wr.heap.size := World.block_lt_of_cell? wr _ hct
                have ht0 : (0 : Int) ≤ (t : Int) := by omega
                have ht1 : IntKind.i64.wrap ((t : Int) - 1) = (t : Int) - 1 := IntWalk.i64_in _ (by omega)
                have ht2 : (t : Int) < zs.length := by omega
                have ht3 : decide (0 ≤ (t : Int)) = true := decide_eq_true ht0
                clear hx hpt hbw
                generalize zs[t] = y at *
                generalize kindT y = ky at *
                generalize pictT y = py at *
                cases k4 : (ky == 4) with
                | true =>
                  have HN := Lib.hid (show paR (zs.take t).reverse = pa by rw [← HPT.out, if_pos (by simpa using k4)])
                  clear HPT
                  go_wp2_with fail
                  refine (HKZ.out _).mono ?_
                  rintro e w10 ⟨rfl, hb10⟩
                  go_wp2
                  go_roundw
                  case rel => exact ⟨t, (t : Int) - 1, by omega, by rfl, rfl, HN.out, HBW.out.trans (hb10.mono HBW.out.size)⟩
                  case measure => simp [RowKit.intOf]
                | false =>
                  have HN := Lib.hid (show py = pa by rw [← HPT.out, if_neg (by simpa using k4)])
                  clear HPT
                  go_wp2_with fail
                  refine (HKZ.out _).mono ?_
                  rintro e w10 ⟨rfl, hb10⟩
                  have hct2 := (hb10.cell (p := ⟨g, off + t, none⟩) hgb).trans hct
                  have HB10 := Lib.hid (HBW.out.trans (hb10.mono HBW.out.size))
                  clear hb10 HBW hct
                  go_wp2_with fail
                  refine (HPZ.out _).mono ?_
                  rintro e w11 ⟨rfl, hb11⟩
                  cases py with
                  | true =>
                    go_wp2
                    go_ret
                    exact ⟨by rw [HV.out, ← HN.out]; rfl, HB10.out.trans (hb11.mono HB10.out.size)⟩
                  | false =>
                    go_wp2
                    go_ret
                    exact ⟨by rw [HV.out, ← HN.out]; rfl, HB10.out.trans (hb11.mono HB10.out.size)⟩
        | false =>
          cases g6 : (a == 6) with
          | false =>
            have HV := Lib.hid (show res = false by rw [← HRes.out]; rw [hrl]; simp [g5, g6])
            clear HRes
            go_wp2_with (first | (go_at_call 49; first | ((with_reducible refine (HAA.out _).mono ?_); rintro e w9 ⟨rfl, rfl⟩) | ((with_reducible refine (HAB.out _).mono ?_); rintro e w9 ⟨rfl, rfl⟩)) | (go_at_call 50; refine (HSY.out _).mono ?_; rintro e w9 ⟨rfl, rfl⟩) | fail)
            go_ret
            exact ⟨by rw [HV.out]; rfl, HB8.out⟩
          | true =>
            obtain rfl : a = 6 := by simpa using g6
            cases k6 : (b == 6) with
            | false =>
              have HV := Lib.hid (show res = false by rw [← HRes.out]; rw [hrl]; simp [k6])
              clear HRes
              go_wp2_with (first | (go_at_call 49; first | ((with_reducible refine (HAA.out _).mono ?_); rintro e w9 ⟨rfl, rfl⟩) | ((with_reducible refine (HAB.out _).mono ?_); rintro e w9 ⟨rfl, rfl⟩)) | (go_at_call 50; refine (HSY.out _).mono ?_; rintro e w9 ⟨rfl, rfl⟩) | fail)
              go_ret
              exact ⟨by rw [HV.out]; rfl, HB8.out⟩
            | true =>
              have HV := Lib.hid (show res = decide (ri % 2 = 0) by rw [← HRes.out, hrl]; simp [k6])
              have hx6 : IntKind.i64.wrap ((j : Int) + 1 - 2) = (j : Int) - 1 := by rw [IntWalk.i64_in _ (by omega)]; omega
              clear HRes HPA hrl hcc
              go_wp2_with (first | (go_at_call 49; first | ((with_reducible refine (HAA.out _).mono ?_); rintro e w9 ⟨rfl, rfl⟩) | ((with_reducible refine (HAB.out _).mono ?_); rintro e w9 ⟨rfl, rfl⟩)) | (go_at_call 50; refine (HSY.out _).mono ?_; rintro e w9 ⟨rfl, rfl⟩) | fail)
              go_loopw [8, 9] (fun s8 s9 wx => ∃ (t cn : Nat) (x : Int), t ≤ j ∧ s9 = .int .i64 x ∧ x = (t : Int) - 1 ∧ s8 = .int .i64 cn ∧ cn + riR (zs.take t).reverse = ri ∧ cn + t ≤ j ∧ Below w.heap.size w wx) (fun _ s9 _ => (RowKit.intOf s9 + 1).toNat)
              case atStart => exact ⟨j, 0, (j : Int) - 1, Nat.le_refl _, by rfl, rfl, rfl, by rw [Nat.zero_add]; exact HRI.out, by omega, HB8.out⟩
              case round =>
                obtain ⟨t, cn, x, htj, rfl, hx, rfl, hrt, hcj, hbw⟩ := hrel
                have hcn2 : IntKind.i64.wrap ((cn : Int) + 1) = (cn : Int) + 1 := IntWalk.i64_in _ (by omega)
                cases t with
                | zero =>
                  obtain rfl : x = -1 := by omega
                  have HV2 := Lib.hid (show res = ((cn : Int) % 2 == 0) by
                    have : ri = cn := by rw [← hrt]; rfl
                    rw [HV.out, this]
                    by_cases h : cn % 2 = 0
                    · rw [decide_eq_true h]; symm; simp; omega
                    · rw [decide_eq_false h]; symm; simp; omega)
                  clear hx hrt HV
                  go_wp2
                  go_ret
                  exact ⟨by rw [HV2.out]; rfl, hbw⟩
                | succ t =>
                  obtain rfl : x = (t : Int) := by omega
                  have htl : t < zs.length := by omega
                  rw [rev_take zs t htl, riR_cons] at hrt
                  obtain ⟨b', off', hA', hct⟩ := (HR.out.below hbw).at_ htl
                  injection hA' with hA'
                  injection hA' with e1 e2
                  subst e1 e2
                  have HKZ := Lib.hid (fun W => refKind_any zs[t] W)
                  have HRT := Lib.hid hrt
                  have HBW := Lib.hid hbw
                  have ht0 : (0 : Int) ≤ (t : Int) := by omega
                  have ht1 : IntKind.i64.wrap ((t : Int) - 1) = (t : Int) - 1 := IntWalk.i64_in _ (by omega)
                  have ht2 : (t : Int) < zs.length := by omega
                  have ht3 : decide (0 ≤ (t : Int)) = true := decide_eq_true ht0
                  clear hx hrt hbw
                  generalize zs[t] = y at *
                  generalize kindT y = ky at *
                  cases k4 : (ky == 6) with
                  | true =>
                    have HN := Lib.hid (show cn + 1 + riR (zs.take t).reverse = ri by
                      have h := HRT.out
                      rw [if_pos (by simpa using k4)] at h
                      omega)
                    clear HRT
                    go_wp2_with fail
                    refine (HKZ.out _).mono ?_
                    rintro e w10 ⟨rfl, hb10⟩
                    go_wp2
                    go_roundw
                    case rel => exact ⟨t, cn + 1, (t : Int) - 1, by omega, by rfl, rfl, by go_num, HN.out, by omega, HBW.out.trans (hb10.mono HBW.out.size)⟩
                    case measure => simp [RowKit.intOf]
                  | false =>
                    have HV2 := Lib.hid (show res = ((cn : Int) % 2 == 0) by
                      have : ri = cn := by
                        have h := HRT.out
                        rw [if_neg (by simpa using k4)] at h
                        omega
                      rw [HV.out, this]
                      by_cases h : cn % 2 = 0
                      · rw [decide_eq_true h]; symm; simp; omega
                      · rw [decide_eq_false h]; symm; simp; omega)
                    clear HRT HV
                    go_wp2_with fail
                    refine (HKZ.out _).mono ?_
                    rintro e w10 ⟨rfl, hb10⟩
                    go_wp2
                    go_ret
                    exact ⟨by rw [HV2.out]; rfl, HBW.out.trans (hb10.mono HBW.out.size)⟩
end Go.Proofs.Ytfbjgibjlppjoaa.Ku

/-
  Proved here: what parquetryref04.Narrow, Wide, in, Of return, for every number; they leave what was in memory. Condition (in): a row of at most 1000 spans.
-/
set_option linter.unusedVariables false
namespace Go.Proofs.Ytfbjgibjlppjoaa.Cr
open Go.RowKit Go.Lib Go.Proofs.Ytfbjgibjlppjoaa.Co Go.Proofs.Ytfbjgibjlppjoaa.Tab

theorem flatL_len : ∀ (l : List CSpan), (flatL l).length = 2 * l.length
  | [] => rfl
  | r :: l => by
    have := flatL_len l
    unfold flatL at this ⊢
    rw [List.flatMap_cons, List.length_append, this]
    simp
    omega
theorem flatL_at : ∀ (l : List CSpan) (k : Nat) (hk : k < l.length), (flatL l)[2 * k]? = some l[k].1 ∧ (flatL l)[2 * k + 1]? = some l[k].2
  | r :: l, 0, hk => ⟨rfl, rfl⟩
  | r :: l, k + 1, hk => by
    have := flatL_at l k (by simpa using hk)
    rw [show flatL (r :: l) = r.1 :: r.2 :: flatL l from rfl, show 2 * (k + 1) = 2 * k + 1 + 1 from by omega]
    simpa using this
theorem flat_at {w : World} {g : Nat} {rs : List CSpan} (h : LitAt w g (flatL rs)) {k : Nat} (hk : k < rs.length) : w.cell? ⟨g, 2 * k, none⟩ = some (.int .i64 rs[k].1) ∧ w.cell? ⟨g, 2 * k + 1, none⟩ = some (.int .i64 rs[k].2) := by
  have hl := flatL_len rs
  obtain ⟨h1, h2⟩ := flatL_at rs k hk
  rw [List.getElem?_eq_getElem (by omega), Option.some.injEq] at h1 h2
  have h3 := h.2 (2 * k) (by omega)
  have h4 := h.2 (2 * k + 1) (by omega)
  rw [h1] at h3
  rw [h2] at h4
  exact ⟨h3, h4⟩
theorem inS_take (rs : List CSpan) (c : Int) (k : Nat) (hk : k < rs.length) (h : inS (rs.take k) c = false) : inS (rs.take (k + 1)) c = (decide (rs[k].1 ≤ c) && decide (c ≤ rs[k].2)) := by
  unfold inS at h ⊢
  rw [List.take_succ_eq_append_getElem hk, List.any_append, h]
  simp
theorem inS_yes (rs : List CSpan) (c : Int) (k : Nat) (hk : k < rs.length) (h : (decide (rs[k].1 ≤ c) && decide (c ≤ rs[k].2)) = true) : inS rs c = true :=
  List.any_eq_true.2 ⟨_, List.getElem_mem hk, h⟩

set_option maxHeartbeats 1000000 in
set_option maxRecDepth 100000 in
theorem in_any (g : Nat) (rs : List CSpan) (c : Int) (n : Nat) (w : World) (hn : n = 2 * rs.length) (hR : LitAt w g (flatL rs)) (hl : rs.length ≤ 1000) :
    Calls Try.prog 58 #[.slice (some ⟨g, 0, none⟩) n n, .int .i64 c] w fun e w' => e = .returned (.bool (inS rs c)) ∧ w = w' := by
  have HR := Lib.hid hR
  have HN := Lib.hid hn
  have hn2 : n ≤ 2000 := by omega
  clear hR hn
  obtain ⟨res, hres⟩ : ∃ res, inS rs c = res := ⟨_, rfl⟩
  rw [hres]
  have HRes := Lib.hid hres
  clear hres
  go_enter Try.func58, Try.ntmps58
  go_wp2
  go_loop [5] (fun s5 => ∃ k i : Nat, k = 2 * i ∧ k ≤ n ∧ s5 = .int .i64 k ∧ inS (rs.take i) c = false) (fun s5 => n - (RowKit.intOf s5).toNat)
  case atStart => exact ⟨0, 0, rfl, Nat.zero_le _, rfl, rfl⟩
  case round =>
    obtain ⟨k, i, hki, hk, rfl, hlo⟩ := hrel
    have HLO := Lib.hid hlo
    have HKI := Lib.hid hki
    clear hlo hki
    by_cases hltk : k < n
    · have hlt : i < rs.length := by have := HN.out; have := HKI.out; omega
      have hlt1 : k + 1 < n := by have := HN.out; have := HKI.out; omega
      obtain ⟨c0, c1⟩ := flat_at HR.out hlt
      rw [← HKI.out] at c0 c1
      have HT := Lib.hid (inS_take rs c i hlt HLO.out)
      have HY := Lib.hid (inS_yes rs c i hlt)
      generalize rs[i] = r at *
      obtain ⟨a, z⟩ := r
      simp only at c0 c1 HT HY
      by_cases e1 : a ≤ c
      · have d1 : decide (a ≤ c) = true := decide_eq_true e1
        by_cases e2 : c ≤ z
        · have d2 : decide (c ≤ z) = true := decide_eq_true e2
          have HV := Lib.hid (HRes.out.symm.trans (HY.out (by simp only [d1, d2, Bool.and_self])))
          clear e1 e2
          go_wp2
          go_ret
          exact ⟨by rw [HV.out]; rfl, rfl⟩
        · have d2 : decide (c ≤ z) = false := decide_eq_false e2
          have HV := Lib.hid (show inS (rs.take (i + 1)) c = false from HT.out.trans (by rw [d2, Bool.and_false]))
          clear e1 e2
          go_wp2
          go_round
          case rel => exact ⟨k + 2, i + 1, by have := HKI.out; omega, by have := HN.out; have := HKI.out; omega, by go_num, HV.out⟩
          case measure => simp [RowKit.intOf]; omega
      · have d1 : decide (a ≤ c) = false := decide_eq_false e1
        have HV := Lib.hid (show inS (rs.take (i + 1)) c = false from HT.out.trans (by rw [d1, Bool.false_and]))
        clear e1
        go_wp2
        go_round
        case rel => exact ⟨k + 2, i + 1, by have := HKI.out; omega, by have := HN.out; have := HKI.out; omega, by go_num, HV.out⟩
        case measure => simp [RowKit.intOf]; omega
    · have HD := Lib.hid (show inS rs c = false by
        have h1 := HLO.out
        rwa [List.take_of_length_le (by have := HN.out; have := HKI.out; omega)] at h1)
      go_wp2
      go_ret
      exact ⟨by rw [← HRes.out, HD.out]; rfl, rfl⟩

set_option maxRecDepth 100000 in
theorem narrowR_any (w : World) :
    Calls Try.prog 59 #[] w fun e w' => e = .returned (.slice (some ⟨w.heap.size, 0, none⟩) 90 90) ∧ LitAt w' w.heap.size (flatL narrowS) ∧ Below w.heap.size w w' := by
  go_enter Try.func59, Try.ntmps59
  refine wp_seq (wp_region_lit (l := [_]) (wpList_assignTo rfl _ rfl ?_))
  show Exit.then _ _ _ _ _
  refine wp_seq ?_
  refine wp_ints 1 0 55 3 (flatL narrowS) 90 Try.underlying55 infoI1 infoI2 (by kernel_rfl) (by decide) (by decide) (by kernel_rfl) ?_
  refine wp_ret ?_
  go_ret
  exact ⟨rfl, litAt_made _ _ _, (Below.refl _ _).alloc (Nat.le_refl _) _⟩
set_option maxRecDepth 100000 in
theorem wideR_any (w : World) :
    Calls Try.prog 60 #[] w fun e w' => e = .returned (.slice (some ⟨w.heap.size, 0, none⟩) 184 184) ∧ LitAt w' w.heap.size (flatL wideS) ∧ Below w.heap.size w w' := by
  go_enter Try.func60, Try.ntmps60
  refine wp_seq (wp_region_lit (l := [_]) (wpList_assignTo rfl _ rfl ?_))
  show Exit.then _ _ _ _ _
  refine wp_seq ?_
  refine wp_ints 1 0 55 3 (flatL wideS) 184 Try.underlying55 infoI1 infoI2 (by kernel_rfl) (by decide) (by decide) (by kernel_rfl) ?_
  refine wp_ret ?_
  go_ret
  exact ⟨rfl, litAt_made _ _ _, (Below.refl _ _).alloc (Nat.le_refl _) _⟩

theorem n_len : 90 = 2 * narrowS.length := by kernel_rfl
theorem w_len : 184 = 2 * wideS.length := by kernel_rfl
set_option maxHeartbeats 1000000 in
set_option maxRecDepth 100000 in
theorem refOf_any (c : Int) (w : World) :
    Calls Try.prog 52 #[.int .i64 c] w fun e w' => e = .returned (.int .i64 (slotsT c)) ∧ Below w.heap.size w w' := by
  have HN := Lib.hid (fun g W (h : LitAt W g (flatL narrowS)) => in_any g narrowS c 90 W n_len h (by have := n_len; omega))
  have HW := Lib.hid (fun g W (h : LitAt W g (flatL wideS)) => in_any g wideS c 184 W w_len h (by have := w_len; omega))
  unfold slotsT
  generalize inS narrowS c = p at *
  generalize inS wideS c = q at *
  cases p
  · cases q
    all_goals
      go_enter Try.func52, Try.ntmps52
      go_wp2_with fail
      refine (narrowR_any _).mono ?_
      rintro e w1 ⟨rfl, hr, hb1⟩
      have HR := Lib.hid hr
      clear hr
      go_wp2_with fail
      refine (HN.out _ _ HR.out).mono ?_
      rintro e w2 ⟨rfl, rfl⟩
      go_wp2_with fail
      refine (wideR_any _).mono ?_
      rintro e w2 ⟨rfl, hr, hb2⟩
      have HQ := Lib.hid hr
      clear hr
      go_wp2_with fail
      refine (HW.out _ _ HQ.out).mono ?_
      rintro e w3 ⟨rfl, rfl⟩
      go_wp2
      go_ret
      exact ⟨rfl, hb1.trans (hb2.mono hb1.size)⟩
  · go_enter Try.func52, Try.ntmps52
    go_wp2_with fail
    refine (narrowR_any _).mono ?_
    rintro e w1 ⟨rfl, hr, hb1⟩
    have HR := Lib.hid hr
    clear hr
    go_wp2_with fail
    refine (HN.out _ _ HR.out).mono ?_
    rintro e w2 ⟨rfl, rfl⟩
    go_wp2
    go_ret
    exact ⟨rfl, hb1⟩
end Go.Proofs.Ytfbjgibjlppjoaa.Cr

/-
  Proved here: what parquetryref06.Wide returns, for every row of numbers, of one at least, of at most 1000000; it leaves what was in memory.
-/
set_option linter.unusedVariables false
namespace Go.Proofs.Ytfbjgibjlppjoaa.Ku
open Go.RowKit Go.Lib Go.Proofs.Ytfbjgibjlppjoaa.Arr Go.Proofs.Ytfbjgibjlppjoaa.Gc Go.Proofs.Ytfbjgibjlppjoaa.Co
open Go.Proofs.Ytfbjgibjlppjoaa.Cl (IntsAt)

theorem wl_append : ∀ (l m : List Int) (p n : Int), wl p n (l ++ m) = wl (l.getLastD p) (wl p n l) m
  | [], m, p, n => rfl
  | c :: l, m, p, n => by
    show wl c _ (l ++ m) = _
    rw [wl_append l m]
    show _ = wl ((c :: l).getLastD p) (wl c _ l) m
    congr 1
    cases l <;> rfl
theorem lastD_take (zs : List Int) (i : Nat) (hi : i < zs.length) : (zs.take (i + 1)).getLastD 0 = zs[i] := by
  rw [List.take_succ_eq_append_getElem hi]
  generalize zs.take i = t
  generalize zs[i] = c
  simp
theorem wl_next (zs : List Int) (i : Nat) (hi : i < zs.length) : wl 0 0 (zs.take (i + 1)) = max (wl 0 0 (zs.take i)) (wideC ((zs.take i).getLastD 0) zs[i]) := by
  rw [List.take_succ_eq_append_getElem hi, wl_snoc]
theorem wl_done (zs : List Int) (i : Nat) (h : wl 0 0 (zs.take i) = 2) : wl 0 0 zs = 2 := by
  have := wl_append (zs.take i) (zs.drop i) 0 0
  rw [List.take_append_drop, h, wl_two] at this
  exact this
theorem wideC_plain {p c : Int} (h : ¬ (c = 65039 ∧ pictT p = true)) : wideC p c = slotsT c := by
  unfold wideC
  rw [if_neg h]
theorem wideC_two {p c : Int} (h : c = 65039 ∧ pictT p = true) : wideC p c = 2 := by
  unfold wideC
  rw [if_pos h]

set_option maxHeartbeats 4000000 in
set_option maxRecDepth 100000 in
theorem rwide_any (A : Option Addr) (zs : List Int) (n : Nat) (w : World) (hR : IntsAt w A zs) (hn : zs.length ≤ 1000000) (h1 : 0 < zs.length) :
    Calls Try.prog 42 #[.slice A zs.length n] w fun e w' => e = .returned (.int .i64 (wideR zs)) ∧ Below w.heap.size w w' := by
  obtain ⟨res, hres⟩ : ∃ res : Int, wideR zs = res := ⟨_, rfl⟩
  rw [hres]
  obtain ⟨g, off, rfl, hc0⟩ := hR.at_ h1
  rw [Nat.add_zero] at hc0
  have hhd : zs.headD 0 = zs[0] := by cases zs <;> first | rfl | (simp at h1)
  unfold wideR at hres
  rw [hhd] at hres
  have HRes := Lib.hid hres
  have HR := Lib.hid hR
  have HK0 := Lib.hid (fun W => refKind_any zs[0] W)
  have HAL := Lib.hid (fun W => alone_any (kindT zs[0]) W)
  have hgl : g < w.heap.size := World.block_lt_of_cell? w _ hc0
  clear hR hres hhd
  generalize zs[0] = z0 at *
  generalize kindT z0 = k0 at *
  go_enter Try.func42, Try.ntmps42
  cases ha : alone k0 with
  | true =>
    rw [ha] at HAL
    have HV := Lib.hid (show res = 0 by rw [← HRes.out, if_pos ha])
    clear HRes
    go_wp2_with fail
    refine (HK0.out _).mono ?_
    rintro e w1 ⟨rfl, hb1⟩
    go_wp2_with fail
    refine (HAL.out _).mono ?_
    rintro e w2 ⟨rfl, rfl⟩
    go_wp2
    go_ret
    exact ⟨by rw [HV.out]; rfl, hb1⟩
  | false =>
    rw [ha] at HAL
    have HV := Lib.hid (show wl 0 0 zs = res by rw [← HRes.out, if_neg (by rw [ha]; decide)])
    clear HRes
    go_wp2_with fail
    refine (HK0.out _).mono ?_
    rintro e w1 ⟨rfl, hb1⟩
    go_wp2_with fail
    refine (HAL.out _).mono ?_
    rintro e w2 ⟨rfl, rfl⟩
    go_wp2_with fail
    go_loopw [3, 4] (fun s3 s4 wx => ∃ (i : Nat) (v : Int), i ≤ zs.length ∧ s4 = .int .i64 i ∧ s3 = .int .i64 v ∧ v = wl 0 0 (zs.take i) ∧ Below w.heap.size w wx) (fun _ s4 _ => zs.length - (RowKit.intOf s4).toNat)
    case atStart => exact ⟨0, 0, Nat.zero_le _, rfl, rfl, rfl, hb1⟩
    case round =>
      obtain ⟨i, v, hi, rfl, rfl, hv, hbw⟩ := hrel
      by_cases hlt : i < zs.length
      · obtain ⟨b', off', hA', hct⟩ := (HR.out.below hbw).at_ hlt
        injection hA' with hA'
        injection hA' with e1 e2
        subst e1 e2
        have hnx := wl_next zs i hlt
        rw [← hv] at hnx
        have hvb := wl_bounds (zs.take i) 0 0 (by omega) (by omega)
        rw [← hv] at hvb
        have hgb : g < wr.heap.size := World.block_lt_of_cell? wr _ hct
        have HS := Lib.hid (fun W => Cr.refOf_any zs[i] W)
        have hsb := slotsT_bounds zs[i]
        have HBW := Lib.hid hbw
        have hi0 : (0 : Int) ≤ (i : Int) := by omega
        have hi1 : (i : Int) < zs.length := by omega
        clear hbw hv
        cases i with
        | zero =>
          rw [Nat.add_zero] at hct
          have hw : wideC (([] : List Int).getLastD 0) zs[0] = slotsT zs[0] := wideC_plain (by rw [show ([] : List Int).getLastD 0 = 0 from rfl, pict_0]; rintro ⟨_, h⟩; cases h)
          rw [List.take_zero, hw] at hnx
          have HN := Lib.hid hnx
          clear hnx hw
          generalize zs[0] = c at *
          generalize slotsT c = sc at *
          go_wp2_with fail
          refine (HS.out _).mono ?_
          rintro e w5 ⟨rfl, hb5⟩
          go_wp2
          go_roundw
          case rel => exact ⟨1, max v sc, by omega, by rfl, by rfl, HN.out.symm, HBW.out.trans (hb5.mono HBW.out.size)⟩
          case measure => simp [RowKit.intOf]; omega
        | succ i =>
          have hil : i < zs.length := by omega
          rw [lastD_take zs i hil] at hnx
          obtain ⟨b', off', hA', hcp⟩ := (HR.out.below HBW.out).at_ hil
          injection hA' with hA'
          injection hA' with e1 e2
          subst e1 e2
          have HP := Lib.hid (fun W => Gr.refPict_any zs[i] W)
          have HN := Lib.hid hnx
          have HDONE := Lib.hid (fun h => HV.out.symm.trans (wl_done zs (i + 1 + 1) h))
          have hx1 : IntKind.i64.wrap ((i : Int) + 1 - 1) = i := by rw [IntWalk.i64_in _ (by omega)]; omega
          have hx2 : IntKind.i64.wrap (i : Int) = i := IntWalk.i64_in _ (by omega)
          have hx3 : (i : Int) < zs.length := by omega
          have hx4 : decide ((0 : Int) < (i : Int) + 1) = true := decide_eq_true (by omega)
          clear hnx
          generalize zs[i] = p at *
          generalize zs[i + 1] = c at *
          have HPL := Lib.hid (wideC_plain (p := p) (c := c))
          have HTW := Lib.hid (wideC_two (p := p) (c := c))
          generalize slotsT c = sc at *
          generalize pictT p = q at *
          cases hc : (c == 65039) with
          | true =>
            cases q with
            | true =>
              have hnx2 := HTW.out ⟨by simpa using hc, rfl⟩
              have HV2 := Lib.hid (HDONE.out (by rw [HN.out, hnx2]; omega))
              clear hnx2 HTW HPL HN HDONE HV
              go_wp2_with fail
              refine (HS.out _).mono ?_
              rintro e w5 ⟨rfl, hb5⟩
              have hct2 := (hb5.cell (p := ⟨g, off + (i + 1), none⟩) hgb).trans hct
              have hcp2 := (hb5.cell (p := ⟨g, off + i, none⟩) hgb).trans hcp
              have HB5 := Lib.hid (HBW.out.trans (hb5.mono HBW.out.size))
              clear hb5 hct hcp HBW
              go_wp2_with fail
              refine (HP.out _).mono ?_
              rintro e w6 ⟨rfl, hb6⟩
              go_wp2
              go_ret
              exact ⟨by rw [HV2.out]; rfl, HB5.out.trans (hb6.mono HB5.out.size)⟩
            | false =>
              have hnx2 := HPL.out (by rintro ⟨_, h⟩; cases h)
              have HN2 := Lib.hid (show max v sc = wl 0 0 (zs.take (i + 1 + 1)) by rw [HN.out, hnx2])
              clear hnx2 HTW HPL HN HDONE
              go_wp2_with fail
              refine (HS.out _).mono ?_
              rintro e w5 ⟨rfl, hb5⟩
              have hct2 := (hb5.cell (p := ⟨g, off + (i + 1), none⟩) hgb).trans hct
              have hcp2 := (hb5.cell (p := ⟨g, off + i, none⟩) hgb).trans hcp
              have HB5 := Lib.hid (HBW.out.trans (hb5.mono HBW.out.size))
              clear hb5 hct hcp HBW
              go_wp2_with fail
              refine (HP.out _).mono ?_
              rintro e w6 ⟨rfl, hb6⟩
              go_wp2
              go_roundw
              case rel => exact ⟨i + 1 + 1, max v sc, by omega, by go_num, by rfl, HN2.out, HB5.out.trans (hb6.mono HB5.out.size)⟩
              case measure => simp [RowKit.intOf]; omega
          | false =>
            have hnx2 := HPL.out (by rintro ⟨h, _⟩; rw [h] at hc; cases hc)
            have HN2 := Lib.hid (show max v sc = wl 0 0 (zs.take (i + 1 + 1)) by rw [HN.out, hnx2])
            clear hnx2 HTW HPL HN HDONE
            go_wp2_with fail
            refine (HS.out _).mono ?_
            rintro e w5 ⟨rfl, hb5⟩
            have hct2 := (hb5.cell (p := ⟨g, off + (i + 1), none⟩) hgb).trans hct
            have HB5 := Lib.hid (HBW.out.trans (hb5.mono HBW.out.size))
            clear hb5 hct hcp HBW
            go_wp2
            go_roundw
            case rel => exact ⟨i + 1 + 1, max v sc, by omega, by go_num, by rfl, HN2.out, HB5.out⟩
            case measure => simp [RowKit.intOf]; omega
      · obtain rfl : i = zs.length := by omega
        rw [List.take_length] at hv
        have hv2 : v = res := hv.trans HV.out
        subst hv2
        go_wp2
        go_ret
        exact ⟨rfl, hbw⟩
end Go.Proofs.Ytfbjgibjlppjoaa.Ku

/-
  Plain mathematics, no program in it: a text as its runes (place, size, code), by the model's own decoder; how it steps.
-/
set_option linter.unusedVariables false
namespace Go.Proofs.Ytfbjgibjlppjoaa.Rn
open Go.Lib

/-- The first rune of a text: its code and its width. -/
def dec (l : List UInt8) : Nat × Nat := Lib.decodeL l

theorem dec_pos (l : List UInt8) : 1 ≤ (dec l).2 := Lib.decodeL_width l
theorem dec_code (l : List UInt8) : (dec l).1 ≤ 1114111 := Lib.decodeL_rune l
theorem dec_le {l : List UInt8} (h : l ≠ []) : (dec l).2 ≤ l.length := Lib.decodeL_le l h
theorem dec_drop (s : ByteArray) (p : Nat) : dec (s.data.toList.drop p) = Utf8.decode s p := Lib.decodeL_drop s p

/-- The runes of a text whose first byte is the a-th: place, size, code. -/
def splitF : Nat → List UInt8 → Nat → List (Nat × Nat × Nat)
  | 0, _, _ => []
  | f + 1, l, a => if l = [] then [] else (a, (dec l).2, (dec l).1) :: splitF f (l.drop (dec l).2) (a + (dec l).2)
def splitA (l : List UInt8) (a : Nat) : List (Nat × Nat × Nat) := splitF l.length l a

theorem splitF_nil (f a : Nat) : splitF f [] a = [] := by cases f <;> simp [splitF]
theorem splitF_fuel : ∀ (f g : Nat) (l : List UInt8) (a : Nat), l.length ≤ f → l.length ≤ g → splitF f l a = splitF g l a
  | 0, g, l, a, h, _ => by
    have : l = [] := List.eq_nil_of_length_eq_zero (by omega)
    subst this; rw [splitF_nil, splitF_nil]
  | f + 1, 0, l, a, _, h => by
    have : l = [] := List.eq_nil_of_length_eq_zero (by omega)
    subst this; rw [splitF_nil, splitF_nil]
  | f + 1, g + 1, l, a, hf, hg => by
    by_cases hl : l = []
    · subst hl; rw [splitF_nil, splitF_nil]
    · have := dec_pos l
      have h0 : 0 < l.length := List.length_pos_iff.2 hl
      simp only [splitF, if_neg hl]
      rw [splitF_fuel f g _ _ (by rw [List.length_drop]; omega) (by rw [List.length_drop]; omega)]
theorem splitA_nil (a : Nat) : splitA [] a = [] := rfl
theorem splitA_step {l : List UInt8} (h : l ≠ []) (a : Nat) : splitA l a = (a, (dec l).2, (dec l).1) :: splitA (l.drop (dec l).2) (a + (dec l).2) := by
  have := dec_pos l
  have h0 : 0 < l.length := List.length_pos_iff.2 h
  obtain ⟨n, hn⟩ : ∃ n, l.length = n + 1 := ⟨l.length - 1, by omega⟩
  unfold splitA
  rw [hn]
  simp only [splitF, if_neg h]
  rw [splitF_fuel n _ _ _ (by rw [List.length_drop]; omega) (Nat.le_refl _)]
theorem splitA_len : ∀ (n : Nat) (l : List UInt8) (a : Nat), l.length ≤ n → (splitA l a).length ≤ l.length
  | 0, l, a, h => by
    have : l = [] := List.eq_nil_of_length_eq_zero (by omega)
    subst this; simp [splitA_nil]
  | n + 1, l, a, h => by
    by_cases hl : l = []
    · subst hl; simp [splitA_nil]
    · have h1 := dec_pos l
      have h2 := dec_le hl
      rw [splitA_step hl]
      have := splitA_len n (l.drop (dec l).2) (a + (dec l).2) (by rw [List.length_drop]; omega)
      rw [List.length_drop] at this
      simp only [List.length_cons]
      omega

/-- Is the byte at this place an odd one, if the range over the string gave this code? -/
def oddB (l : List UInt8) (c : Int) : Bool := (c == 65533) && !Lib.hasPrefix l [239, 191, 189]
/-- Is a rune an odd byte? -/
def oddR (r : Nat × Nat × Nat) : Bool := decide (r.2.2 = 65533 ∧ r.2.1 = 1)

theorem dec_sub {l : List UInt8} (h : Lib.hasPrefix l [239, 191, 189] = true) : dec l = (65533, 3) := by
  unfold Lib.hasPrefix at h
  obtain ⟨t, rfl⟩ := List.isPrefixOf_iff_prefix.1 h
  unfold dec
  rw [Lib.decodeL_N]
  simp [Lib.decodeN]
theorem dec_sub' {l : List UInt8} (h : l ≠ []) (hc : (dec l).1 = 65533) (hw : (dec l).2 ≠ 1) : Lib.hasPrefix l [239, 191, 189] = true := by
  have he := Lib.encode_decode l h (by intro x; exact hw x.2)
  have hc' : (Lib.decodeL l).1 = 65533 := hc
  rw [hc'] at he
  have e3 : Lib.encodeRune ((65533 : Nat) : Int) = [239, 191, 189] := by decide
  rw [e3] at he
  unfold Lib.hasPrefix
  exact List.isPrefixOf_iff_prefix.2 (he ▸ List.take_prefix _ _)
theorem oddB_dec {l : List UInt8} (h : l ≠ []) (a : Nat) : oddB l ((dec l).1 : Int) = oddR (a, (dec l).2, (dec l).1) := by
  unfold oddB oddR
  rw [Bool.eq_iff_iff]
  simp only [Bool.and_eq_true, beq_iff_eq, Bool.not_eq_true', decide_eq_true_eq]
  constructor
  · rintro ⟨h1, h2⟩
    have h1' : (dec l).1 = 65533 := by omega
    refine ⟨h1', ?_⟩
    by_cases hw : (dec l).2 = 1
    · exact hw
    · rw [dec_sub' h h1' hw] at h2; cases h2
  · rintro ⟨h1, h2⟩
    refine ⟨by omega, ?_⟩
    cases hp : Lib.hasPrefix l [239, 191, 189]
    · rfl
    · rw [dec_sub hp] at h2; cases h2
theorem size_dec {l : List UInt8} (h : l ≠ []) : (if oddB l ((dec l).1 : Int) then (1 : Int) else Lib.runeLen ((dec l).1 : Int)) = ((dec l).2 : Int) := by
  by_cases hc : (dec l).1 = 65533
  · cases hp : Lib.hasPrefix l [239, 191, 189]
    · have hw : (dec l).2 = 1 := by
        by_cases hw : (dec l).2 = 1
        · exact hw
        · rw [dec_sub' h hc hw] at hp; cases hp
      rw [hw, hc]
      simp [oddB, hp]
    · rw [dec_sub hp]
      simp [oddB, hp, Lib.runeLen]
  · rw [if_neg (by simp [oddB]; intro h; omega)]
    exact Lib.runeLen_decode l hc

/-- Has a text no odd byte? -/
def validA (l : List UInt8) : Bool := (splitA l 0).all fun r => !oddR r
theorem splitA_shift : ∀ (n : Nat) (l : List UInt8) (a b : Nat), l.length ≤ n → splitA l (a + b) = (splitA l a).map fun r => (r.1 + b, r.2)
  | 0, l, a, b, h => by
    have : l = [] := List.eq_nil_of_length_eq_zero (by omega)
    subst this; simp [splitA_nil]
  | n + 1, l, a, b, h => by
    by_cases hl : l = []
    · subst hl; simp [splitA_nil]
    · have h1 := dec_pos l
      have h2 := dec_le hl
      rw [splitA_step hl, splitA_step hl a]
      rw [show a + b + (dec l).2 = a + (dec l).2 + b from by omega, splitA_shift n _ (a + (dec l).2) b (by rw [List.length_drop]; omega)]
      rfl
theorem validA_any (l : List UInt8) (a : Nat) : ((splitA l a).all fun r => !oddR r) = validA l := by
  have := splitA_shift l.length l 0 a (Nat.le_refl _)
  rw [Nat.zero_add] at this
  rw [this, List.all_map]
  rfl
theorem validA_step {l : List UInt8} (h : l ≠ []) : validA l = (!oddB l ((dec l).1 : Int) && validA (l.drop (dec l).2)) := by
  unfold validA
  rw [splitA_step h, List.all_cons, oddB_dec h 0, validA_any, validA]

theorem dec_le4 (l : List UInt8) : (dec l).2 ≤ 4 := by
  unfold dec
  rw [Lib.decodeL_N]
  rcases Lib.decodeN_shape l.length (l.getD 0 0).toNat (l.getD 1 0).toNat (l.getD 2 0).toNat (l.getD 3 0).toNat with ⟨_, e⟩ | ⟨_, _, _, _, e⟩ | ⟨_, _, _, _, _, _, e⟩ | ⟨_, _, _, _, _, _, _, e⟩ | e
  all_goals (rw [e]; dsimp only; omega)

/-- Runes that follow one another without a gap, from a to b, each of one to four bytes. -/
def Chain : List (Nat × Nat × Nat) → Nat → Nat → Prop
  | [], a, b => a = b
  | r :: rs, a, b => r.1 = a ∧ 1 ≤ r.2.1 ∧ r.2.1 ≤ 4 ∧ r.2.2 ≤ 1114111 ∧ Chain rs (a + r.2.1) b
theorem chain_split : ∀ (n : Nat) (l : List UInt8) (a : Nat), l.length ≤ n → Chain (splitA l a) a (a + l.length)
  | 0, l, a, h => by
    have : l = [] := List.eq_nil_of_length_eq_zero (by omega)
    subst this; simp [splitA_nil, Chain]
  | n + 1, l, a, h => by
    by_cases hl : l = []
    · subst hl; simp [splitA_nil, Chain]
    · have h1 := dec_pos l
      have h2 := dec_le hl
      rw [splitA_step hl]
      have := chain_split n (l.drop (dec l).2) (a + (dec l).2) (by rw [List.length_drop]; omega)
      rw [List.length_drop, show a + (dec l).2 + (l.length - (dec l).2) = a + l.length from by omega] at this
      exact ⟨rfl, h1, dec_le4 l, dec_code l, this⟩
theorem chain_le : ∀ (rs : List (Nat × Nat × Nat)) (a b : Nat), Chain rs a b → a ≤ b
  | [], a, b, h => by simp [Chain] at h; omega
  | r :: rs, a, b, h => by
    have := chain_le rs _ _ h.2.2.2.2
    omega
/-- At its k-th rune. -/
theorem chain_at {rs : List (Nat × Nat × Nat)} {k a b : Nat} (h : Chain (rs.drop k) a b) (hk : k < rs.length) : rs[k].1 = a ∧ 1 ≤ rs[k].2.1 ∧ rs[k].2.1 ≤ 4 ∧ rs[k].2.2 ≤ 1114111 ∧ Chain (rs.drop (k + 1)) (a + rs[k].2.1) b := by
  rw [List.drop_eq_getElem_cons hk] at h
  exact h
theorem chain_end {rs : List (Nat × Nat × Nat)} {k a b : Nat} (h : Chain (rs.drop k) a b) (hk : rs.length ≤ k) : a = b := by
  rw [List.drop_of_length_le hk] at h
  exact h
/-- The document's test: is a number a code point? -/
def isPoint (c : Int) : Bool := decide ((0 ≤ c ∧ c < 0xD800) ∨ (0xDFFF < c ∧ c ≤ 0x10FFFF))
/-- A number as a code point: FFFD for what is none. -/
def fitZ (c : Int) : Int := if isPoint c then c else 65533

theorem isPoint_iff (c : Int) : isPoint c = true ↔ ((0 ≤ c ∧ c < 0xD800) ∨ (0xDFFF < c ∧ c ≤ 0x10FFFF)) := by simp [isPoint]

/-- The bytes of a code point, whatever stands behind them, are read as it. -/
theorem dec_encode (c : Int) (h : isPoint c = true) (t : List UInt8) : dec (Lib.encodeRune c ++ t) = (c.toNat, (Lib.encodeRune c).length) := by
  rw [isPoint_iff] at h
  unfold dec
  rw [Lib.decodeL_N]
  unfold Lib.encodeRune
  by_cases h1 : c < 128
  · rw [Lib.encodeRuneZ_one (by omega) (by omega)]
    simp only [List.map_cons, List.map_nil, List.cons_append, List.nil_append, List.getD_cons_zero, List.length_cons]
    have e0 : c.toNat.toUInt8.toNat = c.toNat := by simp; omega
    rw [e0, Lib.decodeN_ascii _ _ _ _ _ (by omega)]
    rfl
  · by_cases h2 : c < 2048
    · rw [Lib.encodeRuneZ_two (by omega) (by omega)]
      simp only [List.map_cons, List.map_nil, List.cons_append, List.nil_append, List.getD_cons_zero, List.getD_cons_succ, List.length_cons]
      have e0 : (192 + c / 64).toNat.toUInt8.toNat = (192 + c / 64).toNat := by simp; omega
      have e1 : (128 + c % 64).toNat.toUInt8.toNat = (128 + c % 64).toNat := by simp; omega
      rw [e0, e1]
      unfold Lib.decodeN
      rw [if_neg (by omega), if_pos ⟨by omega, by omega, by omega⟩, if_pos (by omega)]
      simp only [List.length_nil]
      refine Prod.ext ?_ rfl
      dsimp only
      omega
    · by_cases h3 : c < 65536
      · rw [Lib.encodeRuneZ_three (by omega)]
        simp only [List.map_cons, List.map_nil, List.cons_append, List.nil_append, List.getD_cons_zero, List.getD_cons_succ, List.length_cons]
        have e0 : (224 + c / 4096).toNat.toUInt8.toNat = (224 + c / 4096).toNat := by simp; omega
        have e1 : (128 + c / 64 % 64).toNat.toUInt8.toNat = (128 + c / 64 % 64).toNat := by simp; omega
        have e2 : (128 + c % 64).toNat.toUInt8.toNat = (128 + c % 64).toNat := by simp; omega
        rw [e0, e1, e2]
        unfold Lib.decodeN
        rw [if_neg (by omega), if_neg (by omega), if_pos ⟨by omega, ⟨by omega, by omega⟩, by omega, by omega⟩, if_pos (by omega)]
        simp only [List.length_nil]
        refine Prod.ext ?_ rfl
        dsimp only
        omega
      · rw [Lib.encodeRuneZ_four (by omega) (by omega)]
        simp only [List.map_cons, List.map_nil, List.cons_append, List.nil_append, List.getD_cons_zero, List.getD_cons_succ, List.length_cons]
        have e0 : (240 + c / 262144).toNat.toUInt8.toNat = (240 + c / 262144).toNat := by simp; omega
        have e1 : (128 + c / 4096 % 64).toNat.toUInt8.toNat = (128 + c / 4096 % 64).toNat := by simp; omega
        have e2 : (128 + c / 64 % 64).toNat.toUInt8.toNat = (128 + c / 64 % 64).toNat := by simp; omega
        have e3 : (128 + c % 64).toNat.toUInt8.toNat = (128 + c % 64).toNat := by simp; omega
        rw [e0, e1, e2, e3]
        unfold Lib.decodeN
        rw [if_neg (by omega), if_neg (by omega), if_neg (by omega), if_pos ⟨by omega, ⟨by omega, by omega⟩, ⟨by omega, by omega⟩, by omega, by omega⟩, if_pos (by omega)]
        simp only [List.length_nil]
        refine Prod.ext ?_ rfl
        dsimp only
        omega

/-- The document's way to read a first rune: the number that the bits would be, by the first byte. -/
def accC (c : Nat) (ls : List UInt8) : Nat := ls.foldl (fun c b => 64 * c + b.toNat % 64) c
def nOf (b : Nat) : Nat := if 240 ≤ b then 4 else if 224 ≤ b then 3 else if 192 ≤ b then 2 else 1
def cOf (b : Nat) : Nat := if 240 ≤ b then b - 240 else if 224 ≤ b then b - 224 else if 192 ≤ b then b - 192 else b
def okFirst (l : List UInt8) (c n : Nat) : Prop := n ≤ l.length ∧ isPoint (c : Int) = true ∧ Lib.encodeRune (c : Int) = l.take n
def numOf (l : List UInt8) : Nat := accC (cOf (l.getD 0 0).toNat) ((l.drop 1).take (nOf (l.getD 0 0).toNat - 1))

theorem first_yes {l : List UInt8} {c n : Nat} (h : okFirst l c n) : dec l = (c, n) := by
  obtain ⟨h1, h2, h3⟩ := h
  have hl : l = Lib.encodeRune (c : Int) ++ l.drop n := by rw [h3, List.take_append_drop]
  have hn : (Lib.encodeRune (c : Int)).length = n := by rw [h3, List.length_take]; omega
  have := dec_encode (c : Int) h2 (l.drop n)
  rw [← hl, hn] at this
  simpa using this
theorem first_no {l : List UInt8} (hl : l ≠ []) (h : ¬ okFirst l (numOf l) (nOf (l.getD 0 0).toNat)) : dec l = (65533, 1) := by
  have hpos : 0 < l.length := List.length_pos_iff.2 hl
  by_cases hd : (dec l).1 = 65533 ∧ (dec l).2 = 1
  · exact Prod.ext hd.1 hd.2
  · exfalso
    apply h
    have he := Lib.encode_decode l hl hd
    have hle := dec_le hl
    change Lib.encodeRune ((dec l).1 : Int) = l.take (dec l).2 at he
    have k0 := (l.getD 0 0).toNat_lt
    have k1 := (l.getD 1 0).toNat_lt
    have k2 := (l.getD 2 0).toNat_lt
    have k3 := (l.getD 3 0).toNat_lt
    suffices hs : nOf (l.getD 0 0).toNat = (dec l).2 ∧ numOf l = (dec l).1 ∧ isPoint ((dec l).1 : Int) = true by
      rw [hs.1, hs.2.1]
      exact ⟨hle, hs.2.2, he⟩
    rw [isPoint_iff]
    unfold numOf
    unfold dec at hd ⊢
    rw [Lib.decodeL_N] at hd ⊢
    rcases Lib.decodeN_shape l.length (l.getD 0 0).toNat (l.getD 1 0).toNat (l.getD 2 0).toNat (l.getD 3 0).toNat with ⟨c, e⟩ | ⟨c1, c2, c3, cv, e⟩ | ⟨c1, c2, c3, c4, cv, cs, e⟩ | ⟨c1, c2, c3, c4, c5, cv, cw, e⟩ | e
    · rw [e]
      dsimp only
      have a1 : nOf (l.getD 0 0).toNat = 1 := by unfold nOf; rw [if_neg (by omega), if_neg (by omega), if_neg (by omega)]
      have a2 : cOf (l.getD 0 0).toNat = (l.getD 0 0).toNat := by unfold cOf; rw [if_neg (by omega), if_neg (by omega), if_neg (by omega)]
      rw [a1, a2]
      exact ⟨rfl, rfl, by omega⟩
    · rw [e]
      dsimp only
      have a1 : nOf (l.getD 0 0).toNat = 2 := by unfold nOf; rw [if_neg (by omega), if_neg (by omega), if_pos (by omega)]
      have a2 : cOf (l.getD 0 0).toNat = (l.getD 0 0).toNat - 192 := by unfold cOf; rw [if_neg (by omega), if_neg (by omega), if_pos (by omega)]
      have a3 : (l.drop 1).take 1 = [l.getD 1 0] := by
        have := Lib.takeA (l.drop 1) (by rw [List.length_drop]; omega)
        rwa [Lib.getD_dropU] at this
      rw [a1, a2, a3]
      simp only [accC, List.foldl_cons, List.foldl_nil]
      refine ⟨trivial, ?_, ?_⟩
      · omega
      · omega
    · rw [e]
      dsimp only
      have a1 : nOf (l.getD 0 0).toNat = 3 := by unfold nOf; rw [if_neg (by omega), if_pos (by omega)]
      have a2 : cOf (l.getD 0 0).toNat = (l.getD 0 0).toNat - 224 := by unfold cOf; rw [if_neg (by omega), if_pos (by omega)]
      have a3 : (l.drop 1).take 2 = [l.getD 1 0, l.getD 2 0] := by
        have := Lib.takeB (l.drop 1) (by rw [List.length_drop]; omega)
        rwa [Lib.getD_dropU, Lib.getD_dropU] at this
      rw [a1, a2, a3]
      simp only [accC, List.foldl_cons, List.foldl_nil]
      refine ⟨trivial, ?_, ?_⟩
      · omega
      · omega
    · rw [e]
      dsimp only
      have a1 : nOf (l.getD 0 0).toNat = 4 := by unfold nOf; rw [if_pos (by omega)]
      have a2 : cOf (l.getD 0 0).toNat = (l.getD 0 0).toNat - 240 := by unfold cOf; rw [if_pos (by omega)]
      have a3 : (l.drop 1).take 3 = [l.getD 1 0, l.getD 2 0, l.getD 3 0] := by
        have := Lib.takeC (l.drop 1) (by rw [List.length_drop]; omega)
        rwa [Lib.getD_dropU, Lib.getD_dropU, Lib.getD_dropU] at this
      rw [a1, a2, a3]
      simp only [accC, List.foldl_cons, List.foldl_nil]
      refine ⟨trivial, ?_, ?_⟩
      · omega
      · omega
    · rw [e] at hd
      exact absurd ⟨rfl, rfl⟩ hd

theorem accC_le (ls : List UInt8) : ∀ c : Nat, accC c ls + 1 ≤ (c + 1) * 64 ^ ls.length := by
  induction ls with
  | nil => intro c; simp [accC]
  | cons b ls ih =>
    intro c
    have h1 := ih (64 * c + b.toNat % 64)
    have h2 : (64 * c + b.toNat % 64 + 1) * 64 ^ ls.length ≤ (64 * (c + 1)) * 64 ^ ls.length := Nat.mul_le_mul_right _ (by omega)
    have h3 : (64 * (c + 1)) * 64 ^ ls.length = (c + 1) * 64 ^ (b :: ls).length := by rw [List.length_cons, Nat.pow_succ]; simp [Nat.mul_comm, Nat.mul_assoc]
    exact Nat.le_trans h1 (h3 ▸ h2)
theorem accC_bound (c : Nat) (ls : List UInt8) (hc : c ≤ 255) (hl : ls.length ≤ 3) : accC c ls ≤ 67108864 := by
  have h1 := accC_le ls c
  have h2 : (64 : Nat) ^ ls.length ≤ 64 ^ 3 := Nat.pow_le_pow_right (by omega) hl
  have h3 : (c + 1) * 64 ^ ls.length ≤ 256 * 64 ^ 3 := Nat.mul_le_mul (by omega) h2
  omega
theorem accC_snoc (c : Nat) (ls : List UInt8) (b : UInt8) : accC c (ls ++ [b]) = 64 * accC c ls + b.toNat % 64 := by simp [accC]
theorem take_next (l : List UInt8) (i : Nat) (h1 : 1 ≤ i) (h : i < l.length) : (l.drop 1).take i = (l.drop 1).take (i - 1) ++ [l[i]] := by
  have hd : i - 1 < (l.drop 1).length := by rw [List.length_drop]; omega
  have := List.take_succ_eq_append_getElem hd
  rw [show i - 1 + 1 = i from by omega] at this
  rw [this]
  congr 2
  rw [List.getElem_drop]
  congr 1
  omega
end Go.Proofs.Ytfbjgibjlppjoaa.Rn
