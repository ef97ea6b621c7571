/-
  Proved here: what parquetryref06.Wide returns, for every row of numbers, of one at least, of at most 1000000; it leaves what was in memory.
-/
import Derived.Test.YtikjchebffohdaaKrJoin
import Derived.Test.YtikjchebffohdaaCrFns
import Derived.Lib.MinMax
set_option linter.unusedVariables false
namespace Go.Proofs.Ytikjchebffohdaa.Ku
open Go.RowKit Go.Lib Go.Proofs.Ytikjchebffohdaa.Arr Go.Proofs.Ytikjchebffohdaa.Gc Go.Proofs.Ytikjchebffohdaa.Co
open Go.Proofs.Ytikjchebffohdaa.Cl (IntsAt)

theorem wl_append : ∀ (l m : List Int) (p n : Int), wl p n (l ++ m) = wl (l.getLastD p) (wl p n l) m
  | [], m, p, n => rfl
  | c :: l, m, p, n => by
    show wl c _ (l ++ m) = _
    rw [wl_append l m]
    show _ = wl ((c :: l).getLastD p) (wl c _ l) m
    congr 1
    cases l <;> rfl
theorem lastD_take (zs : List Int) (i : Nat) (hi : i < zs.length) : (zs.take (i + 1)).getLastD 0 = zs[i] := by
  rw [List.take_succ_eq_append_getElem hi]
  generalize zs.take i = t
  generalize zs[i] = c
  simp
theorem wl_next (zs : List Int) (i : Nat) (hi : i < zs.length) : wl 0 0 (zs.take (i + 1)) = max (wl 0 0 (zs.take i)) (wideC ((zs.take i).getLastD 0) zs[i]) := by
  rw [List.take_succ_eq_append_getElem hi, wl_snoc]
theorem wl_done (zs : List Int) (i : Nat) (h : wl 0 0 (zs.take i) = 2) : wl 0 0 zs = 2 := by
  have := wl_append (zs.take i) (zs.drop i) 0 0
  rw [List.take_append_drop, h, wl_two] at this
  exact this
theorem wideC_plain {p c : Int} (h : ¬ (c = 65039 ∧ pictT p = true)) : wideC p c = slotsT c := by
  unfold wideC
  rw [if_neg h]
theorem wideC_two {p c : Int} (h : c = 65039 ∧ pictT p = true) : wideC p c = 2 := by
  unfold wideC
  rw [if_pos h]

set_option maxHeartbeats 4000000 in
set_option maxRecDepth 100000 in
theorem rwide_any (A : Option Addr) (zs : List Int) (n : Nat) (w : World) (hR : IntsAt w A zs) (hn : zs.length ≤ 1000000) (h1 : 0 < zs.length) :
    Calls Try.prog 27 #[.slice A zs.length n] w fun e w' => e = .returned (.int .i64 (wideR zs)) ∧ Below w.heap.size w w' := by
  obtain ⟨res, hres⟩ : ∃ res : Int, wideR zs = res := ⟨_, rfl⟩
  rw [hres]
  obtain ⟨g, off, rfl, hc0⟩ := hR.at_ h1
  rw [Nat.add_zero] at hc0
  have hhd : zs.headD 0 = zs[0] := by cases zs <;> first | rfl | (simp at h1)
  unfold wideR at hres
  rw [hhd] at hres
  have HRes := Lib.hid hres
  have HR := Lib.hid hR
  have HK0 := Lib.hid (fun W => refKind_any zs[0] W)
  have HAL := Lib.hid (fun W => alone_any (kindT zs[0]) W)
  have hgl : g < w.heap.size := World.block_lt_of_cell? w _ hc0
  clear hR hres hhd
  generalize zs[0] = z0 at *
  generalize kindT z0 = k0 at *
  go_enter Try.func27, Try.ntmps27
  cases ha : alone k0 with
  | true =>
    rw [ha] at HAL
    have HV := Lib.hid (show res = 0 by rw [← HRes.out, if_pos ha])
    clear HRes
    go_wp2_with fail
    refine (HK0.out _).mono ?_
    rintro e w1 ⟨rfl, hb1⟩
    go_wp2_with fail
    refine (HAL.out _).mono ?_
    rintro e w2 ⟨rfl, rfl⟩
    go_wp2
    go_ret
    exact ⟨by rw [HV.out]; rfl, hb1⟩
  | false =>
    rw [ha] at HAL
    have HV := Lib.hid (show wl 0 0 zs = res by rw [← HRes.out, if_neg (by rw [ha]; decide)])
    clear HRes
    go_wp2_with fail
    refine (HK0.out _).mono ?_
    rintro e w1 ⟨rfl, hb1⟩
    go_wp2_with fail
    refine (HAL.out _).mono ?_
    rintro e w2 ⟨rfl, rfl⟩
    go_wp2_with fail
    go_loopw [3, 4] (fun s3 s4 wx => ∃ (i : Nat) (v : Int), i ≤ zs.length ∧ s4 = .int .i64 i ∧ s3 = .int .i64 v ∧ v = wl 0 0 (zs.take i) ∧ Below w.heap.size w wx) (fun _ s4 _ => zs.length - (RowKit.intOf s4).toNat)
    case atStart => exact ⟨0, 0, Nat.zero_le _, rfl, rfl, rfl, hb1⟩
    case round =>
      obtain ⟨i, v, hi, rfl, rfl, hv, hbw⟩ := hrel
      by_cases hlt : i < zs.length
      · obtain ⟨b', off', hA', hct⟩ := (HR.out.below hbw).at_ hlt
        injection hA' with hA'
        injection hA' with e1 e2
        subst e1 e2
        have hnx := wl_next zs i hlt
        rw [← hv] at hnx
        have hvb := wl_bounds (zs.take i) 0 0 (by omega) (by omega)
        rw [← hv] at hvb
        have hgb : g < wr.heap.size := World.block_lt_of_cell? wr _ hct
        have HS := Lib.hid (fun W => Cr.refOf_any zs[i] W)
        have hsb := slotsT_bounds zs[i]
        have HBW := Lib.hid hbw
        have hi0 : (0 : Int) ≤ (i : Int) := by omega
        have hi1 : (i : Int) < zs.length := by omega
        clear hbw hv
        cases i with
        | zero =>
          rw [Nat.add_zero] at hct
          have hw : wideC (([] : List Int).getLastD 0) zs[0] = slotsT zs[0] := wideC_plain (by rw [show ([] : List Int).getLastD 0 = 0 from rfl, pict_0]; rintro ⟨_, h⟩; cases h)
          rw [List.take_zero, hw] at hnx
          have HN := Lib.hid hnx
          clear hnx hw
          generalize zs[0] = c at *
          generalize slotsT c = sc at *
          go_wp2_with fail
          refine (HS.out _).mono ?_
          rintro e w5 ⟨rfl, hb5⟩
          go_wp2
          go_roundw
          case rel => exact ⟨1, max v sc, by omega, by rfl, by rfl, HN.out.symm, HBW.out.trans (hb5.mono HBW.out.size)⟩
          case measure => simp [RowKit.intOf]; omega
        | succ i =>
          have hil : i < zs.length := by omega
          rw [lastD_take zs i hil] at hnx
          obtain ⟨b', off', hA', hcp⟩ := (HR.out.below HBW.out).at_ hil
          injection hA' with hA'
          injection hA' with e1 e2
          subst e1 e2
          have HP := Lib.hid (fun W => Gr.refPict_any zs[i] W)
          have HN := Lib.hid hnx
          have HDONE := Lib.hid (fun h => HV.out.symm.trans (wl_done zs (i + 1 + 1) h))
          have hx1 : IntKind.i64.wrap ((i : Int) + 1 - 1) = i := by rw [IntWalk.i64_in _ (by omega)]; omega
          have hx2 : IntKind.i64.wrap (i : Int) = i := IntWalk.i64_in _ (by omega)
          have hx3 : (i : Int) < zs.length := by omega
          have hx4 : decide ((0 : Int) < (i : Int) + 1) = true := decide_eq_true (by omega)
          clear hnx
          generalize zs[i] = p at *
          generalize zs[i + 1] = c at *
          have HPL := Lib.hid (wideC_plain (p := p) (c := c))
          have HTW := Lib.hid (wideC_two (p := p) (c := c))
          generalize slotsT c = sc at *
          generalize pictT p = q at *
          cases hc : (c == 65039) with
          | true =>
            cases q with
            | true =>
              have hnx2 := HTW.out ⟨by simpa using hc, rfl⟩
              have HV2 := Lib.hid (HDONE.out (by rw [HN.out, hnx2]; omega))
              clear hnx2 HTW HPL HN HDONE HV
              go_wp2_with fail
              refine (HS.out _).mono ?_
              rintro e w5 ⟨rfl, hb5⟩
              have hct2 := (hb5.cell (p := ⟨g, off + (i + 1), none⟩) hgb).trans hct
              have hcp2 := (hb5.cell (p := ⟨g, off + i, none⟩) hgb).trans hcp
              have HB5 := Lib.hid (HBW.out.trans (hb5.mono HBW.out.size))
              clear hb5 hct hcp HBW
              go_wp2_with fail
              refine (HP.out _).mono ?_
              rintro e w6 ⟨rfl, hb6⟩
              go_wp2
              go_ret
              exact ⟨by rw [HV2.out]; rfl, HB5.out.trans (hb6.mono HB5.out.size)⟩
            | false =>
              have hnx2 := HPL.out (by rintro ⟨_, h⟩; cases h)
              have HN2 := Lib.hid (show max v sc = wl 0 0 (zs.take (i + 1 + 1)) by rw [HN.out, hnx2])
              clear hnx2 HTW HPL HN HDONE
              go_wp2_with fail
              refine (HS.out _).mono ?_
              rintro e w5 ⟨rfl, hb5⟩
              have hct2 := (hb5.cell (p := ⟨g, off + (i + 1), none⟩) hgb).trans hct
              have hcp2 := (hb5.cell (p := ⟨g, off + i, none⟩) hgb).trans hcp
              have HB5 := Lib.hid (HBW.out.trans (hb5.mono HBW.out.size))
              clear hb5 hct hcp HBW
              go_wp2_with fail
              refine (HP.out _).mono ?_
              rintro e w6 ⟨rfl, hb6⟩
              go_wp2
              go_roundw
              case rel => exact ⟨i + 1 + 1, max v sc, by omega, by go_num, by rfl, HN2.out, HB5.out.trans (hb6.mono HB5.out.size)⟩
              case measure => simp [RowKit.intOf]; omega
          | false =>
            have hnx2 := HPL.out (by rintro ⟨h, _⟩; rw [h] at hc; cases hc)
            have HN2 := Lib.hid (show max v sc = wl 0 0 (zs.take (i + 1 + 1)) by rw [HN.out, hnx2])
            clear hnx2 HTW HPL HN HDONE
            go_wp2_with fail
            refine (HS.out _).mono ?_
            rintro e w5 ⟨rfl, hb5⟩
            have hct2 := (hb5.cell (p := ⟨g, off + (i + 1), none⟩) hgb).trans hct
            have HB5 := Lib.hid (HBW.out.trans (hb5.mono HBW.out.size))
            clear hb5 hct hcp HBW
            go_wp2
            go_roundw
            case rel => exact ⟨i + 1 + 1, max v sc, by omega, by go_num, by rfl, HN2.out, HB5.out⟩
            case measure => simp [RowKit.intOf]; omega
      · obtain rfl : i = zs.length := by omega
        rw [List.take_length] at hv
        have hv2 : v = res := hv.trans HV.out
        subst hv2
        go_wp2
        go_ret
        exact ⟨rfl, hbw⟩
end Go.Proofs.Ytikjchebffohdaa.Ku
