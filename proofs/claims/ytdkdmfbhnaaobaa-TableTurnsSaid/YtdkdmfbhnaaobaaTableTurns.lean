/-
  Proved here: for every records, TableTurns returns true (at most 60 records of 60 fields of 4000 bytes, turned twice, are what Fill makes of them; each field stands in the record of its column, at its record's place), and the records stay. Without a condition.
-/
import Derived.Test.YtdkdmfbhnaaobaaTbMore
import Derived.Test.YtdkdmfbhnaaobaaTbOpen
set_option linter.unusedVariables false
namespace Go.Proofs.Ytdkdmfbhnaaobaa.TableTurns
open Go.ChangeShapes Go.WideShapes Go.ChangeAt Go.RowKit Go.Lib Go.Proofs.Ytdkdmfbhnaaobaa.Cv Go.Proofs.Ytdkdmfbhnaaobaa.Tb

theorem turn_at {R : Rec} {i k : Nat} (hi : i < R.length) (hk : k < R[i].length) : ∃ (h : k < (turnT R).length) (h2 : i < (turnT R)[k].length), (turnT R)[k][i] = R[i][k] := by
  have hw := len_le_width (List.getElem_mem hi)
  have h : k < (turnT R).length := by rw [turn_len]; unfold wideT; omega
  have hl : (turnT R)[k].length = max 1 R.length := by rw [turn_get h]; simp
  have h2 : i < (turnT R)[k].length := by rw [hl]; omega
  refine ⟨h, h2, ?_⟩
  rw [← field_in h h2, turn_field, field_in hi hk]

set_option maxHeartbeats 4000000 in
set_option maxRecDepth 1000000 in
theorem walk (w : World) (A : Option Addr) (R : Rec) (c : Nat) (hA : RecsC w A R) (hl : R.length ≤ 140737488355328) (hr : ∀ r ∈ R, r.length ≤ 140737488355328) (hx : ∀ r ∈ R, ∀ x ∈ r, x.length ≤ 140737488355328) :
    Calls Try.prog 6 #[.slice A R.length c] w fun e w' => e = .returned (.bool true) ∧ Below w.heap.size w w' := by
  have HA := Lib.hid hA.recs
  have HW := Lib.hid (toowide_any A R R.length c rfl w hA.recs hl hr hx)
  clear hA hl hr hx
  go_enter Try.func6, Try.ntmps6
  go_wp2_with fail
  refine HW.out.mono ?_
  rintro e w0 ⟨⟨b, rfl, hsm⟩, hw0⟩
  subst hw0
  cases b with
  | true =>
    clear hsm
    go_wp2_with fail
    refine (awake_any _).mono ?_
    rintro e w1 ⟨rfl, hb1⟩
    go_wp2
    go_ret
    exact ⟨rfl, hb1⟩
  | false =>
    have hS := hsm rfl
    have hnum := hS.num
    have HRW := Lib.hid hS.rows
    have HF := Lib.hid hS.few
    have hwd : widthT R ≤ 60 := width_le hS.rows
    have GF := Lib.hid (fill_any A R R.length c rfl w0 HA.out HF.out)
    have GU := Lib.hid (fun W h => turn_any A R R.length c rfl W h HF.out)
    have GV := Lib.hid (fun A' c' W h => turn_any A' (turnT R) (turnT R).length c' rfl W h HF.out.turn)
    have GW := Lib.hid (fun W h => width_any A R R.length c rfl W h HF.out)
    have F1 := Lib.hid HF.out.fill
    have HT := Lib.hid (fun i k => @turn_at R i k)
    have HTT := Lib.hid (turn_turn R)
    have hul := turn_len R
    unfold wideT at hul
    have HUL := Lib.hid hul
    clear hul
    have HU := Lib.hid (fun k => fun (h : k < (turnT R).length) => (show (turnT R)[k].length = max 1 R.length by rw [turn_get h]; simp))
    rw [HTT.out] at GV
    generalize fillT R = S1 at *
    generalize turnT R = S3 at *
    generalize widthT R = m at *
    clear hsm hS HW HTT
    go_wp2_with fail
    refine GF.out.mono ?_
    rintro e w1 ⟨A1, c1, rfl, ht1, hb1⟩
    have B1 := Lib.hid hb1
    have T1 := Lib.hid ht1.recs.recs
    have X1 := Lib.hid (GU.out w1 (HA.out.below hb1))
    clear ht1 hb1 GF GU
    go_wp2_with fail
    refine X1.out.mono ?_
    rintro e w2 ⟨A2, c2, rfl, ht2, hb2⟩
    have B2 := Lib.hid (B1.out.trans (hb2.mono B1.out.size))
    have T1 := Lib.hid (T1.out.below hb2)
    have T2 := Lib.hid ht2.recs.recs
    have X2 := Lib.hid (GV.out A2 c2 w2 ht2.recs.recs)
    clear ht2 hb2 X1 B1 GV
    go_wp2_with fail
    refine X2.out.mono ?_
    rintro e w3 ⟨A3, c3, rfl, ht3, hb3⟩
    have B3 := Lib.hid (B2.out.trans (hb3.mono B2.out.size))
    have T1 := Lib.hid (T1.out.below hb3)
    have T2 := Lib.hid (T2.out.below hb3)
    have X3 := Lib.hid (same_yes A3 A1 S1 S1 S1.length S1.length c3 c1 w3 rfl rfl ht3.recs.recs T1.out F1.out rfl)
    clear ht3 hb3 X2 B2
    go_wp2_with fail
    refine X3.out.mono ?_
    rintro e w4 ⟨rfl, hb4⟩
    have B4 := Lib.hid (B3.out.trans (hb4.mono B3.out.size))
    have T2 := Lib.hid (T2.out.below hb4)
    have X4 := Lib.hid (GW.out w4 (HA.out.below B4.out))
    clear hb4 X3 T1 B3 GW
    go_wp2_with fail
    refine X4.out.mono ?_
    rintro e w5 ⟨rfl, rfl⟩
    obtain ⟨U, hU⟩ : ∃ U, S3.length = U := ⟨_, rfl⟩
    have hum : U = max 1 m := by rw [← hU]; exact HUL.out
    have HUU := Lib.hid hU
    have hu1 : U ≤ 60 := by omega
    rw [hU]
    have HM := Lib.hid hum
    clear hU X4 hum HUL
    by_cases hm : 1 ≤ m
    · have e1 : ((U : Int) != (m : Int)) = false := by rw [bne_eq_false_iff_eq]; have := HM.out; omega
      go_wp2_with fail
      clear e1
      go_loopw [5] (fun s5 wx => ∃ i : Nat, i ≤ R.length ∧ s5 = .int .i64 i ∧ Below w4.heap.size w4 wx) (fun s5 _ => R.length - (RowKit.intOf s5).toNat)
      case atStart => exact ⟨0, Nat.zero_le _, rfl, Below.refl _ _⟩
      case round =>
        obtain ⟨i, hi, rfl, hb⟩ := hrel
        have HB := Lib.hid hb
        clear hb
        by_cases hli : i < R.length
        · have HAI := Lib.hid (HA.out.below (B4.out.trans (HB.out.mono B4.out.size)))
          obtain ⟨g, off, A5, c5, rfl, hc5, hv5⟩ := HAI.out.at_ hli
          have hrl := HRW.out _ (List.getElem_mem hli)
          have HTI := Lib.hid (HT.out i)
          have HR := Lib.hid (show ∀ k (hk : k < R[i].length), ∃ (h : k < S3.length) (h2 : i < S3[k].length), S3[k][i] = R[i][k] from fun k hk => HT.out i k hli hk)
          obtain ⟨r, hre⟩ : ∃ r, R[i] = r := ⟨_, rfl⟩
          have HRE := Lib.hid (show ∀ k (hk : k < r.length), ∃ (h : k < S3.length) (h2 : i < S3[k].length), S3[k][i] = r[k] from by subst hre; exact HR.out)
          rw [hre] at hc5 hv5 hrl
          have HV5 := Lib.hid hv5
          have HC5 := Lib.hid hc5
          have hg5 := World.block_lt_of_cell? wr _ hc5
          clear hre hv5 HTI HR HAI
          obtain ⟨wo, hwo⟩ : ∃ wo : World, wo = wr := ⟨_, rfl⟩
          subst hwo
          go_wp2_with fail
          clear hc5
          go_loopw [6] (fun s6 wx => ∃ k : Nat, k ≤ r.length ∧ s6 = .int .i64 k ∧ Below wo.heap.size wo wx) (fun s6 _ => r.length - (RowKit.intOf s6).toNat)
          case atStart => exact ⟨0, Nat.zero_le _, rfl, Below.refl _ _⟩
          case round =>
            obtain ⟨k, hk, rfl, hbk⟩ := hrel
            have HBK := Lib.hid hbk
            have hc5 := (hbk.cell (p := ⟨g, off + i, none⟩) hg5).trans HC5.out
            clear hbk
            by_cases hlk : k < r.length
            · obtain ⟨h1, h2, h3⟩ := HRE.out k hlk
              have hbw := HB.out.trans (HBK.out.mono HB.out.size)
              obtain ⟨g6, off6, A6, c6, rfl, hc6, hv6⟩ := (T2.out.below hbw).at_ h1
              obtain ⟨g7, off7, rfl, hc7⟩ := hv6.at_ (k := i) (by rw [rowC_len]; exact h2)
              obtain ⟨g8, off8, rfl, hc8⟩ := (HV5.out.below HBK.out).at_ (k := k) (by rw [rowC_len]; exact hlk)
              have e7 : (rowC S3[k])[i]'(by rw [rowC_len]; exact h2) = bx r[k] := by simp only [rowC, List.getElem_map]; rw [h3]
              have e8 : (rowC r)[k]'(by rw [rowC_len]; exact hlk) = bx r[k] := by simp [rowC]
              rw [e7] at hc7
              rw [e8] at hc8
              obtain ⟨X, hX⟩ : ∃ X, bx r[k] = .string X := ⟨_, rfl⟩
              rw [hX] at hc7 hc8
              have hul : k < U := by rw [← HUU.out]; exact h1
              obtain ⟨z, hz⟩ : ∃ z, S3[k].length = z := ⟨_, rfl⟩
              have hz2 : z = max 1 R.length := by rw [← hz]; exact HU.out k h1
              have h2z : i < z := by rw [← hz]; exact h2
              rw [hz] at hc6
              have hz3 : z ≤ 60 := by omega
              have d1 : decide ((U : Int) ≤ (k : Int)) = false := decide_eq_false (by omega)
              have d2 : decide ((z : Int) ≤ (i : Int)) = false := decide_eq_false (by omega)
              have d3 : decide (U ≤ k) = false := decide_eq_false (by omega)
              have d4 : decide (z ≤ i) = false := decide_eq_false (by omega)
              clear hbw hv6 e7 e8 hX hz2 hz h3 h2 h1
              go_wp2_with fail
              go_quiet (fail)
              go_wp2_with fail
              go_roundw
              case rel => exact ⟨k + 1, by omega, by go_num, HBK.out.trans ((drewN_below _ _).mono HBK.out.size)⟩
              case measure => simp [RowKit.intOf]; omega
            · go_wp2_with fail
              go_roundw
              case rel => exact ⟨i + 1, by omega, by go_num, HB.out.trans (HBK.out.mono HB.out.size)⟩
              case measure => simp [RowKit.intOf]; omega
        · go_wp2_with fail
          refine (awake_any _).mono ?_
          rintro e w9 ⟨rfl, hb9⟩
          go_wp2
          go_ret
          have h0 := B4.out.trans (HB.out.mono B4.out.size)
          exact ⟨rfl, h0.trans (hb9.mono h0.size)⟩
    · have e1 : ((U : Int) != 1) = false := by rw [bne_eq_false_iff_eq]; have := HM.out; omega
      obtain rfl : m = 0 := by omega
      go_wp2_with fail
      clear e1
      go_loopw [5] (fun s5 wx => ∃ i : Nat, i ≤ R.length ∧ s5 = .int .i64 i ∧ Below w4.heap.size w4 wx) (fun s5 _ => R.length - (RowKit.intOf s5).toNat)
      case atStart => exact ⟨0, Nat.zero_le _, rfl, Below.refl _ _⟩
      case round =>
        obtain ⟨i, hi, rfl, hb⟩ := hrel
        have HB := Lib.hid hb
        clear hb
        by_cases hli : i < R.length
        · have HAI := Lib.hid (HA.out.below (B4.out.trans (HB.out.mono B4.out.size)))
          obtain ⟨g, off, A5, c5, rfl, hc5, hv5⟩ := HAI.out.at_ hli
          have hrl := HRW.out _ (List.getElem_mem hli)
          have HTI := Lib.hid (HT.out i)
          have HR := Lib.hid (show ∀ k (hk : k < R[i].length), ∃ (h : k < S3.length) (h2 : i < S3[k].length), S3[k][i] = R[i][k] from fun k hk => HT.out i k hli hk)
          obtain ⟨r, hre⟩ : ∃ r, R[i] = r := ⟨_, rfl⟩
          have HRE := Lib.hid (show ∀ k (hk : k < r.length), ∃ (h : k < S3.length) (h2 : i < S3[k].length), S3[k][i] = r[k] from by subst hre; exact HR.out)
          rw [hre] at hc5 hv5 hrl
          have HV5 := Lib.hid hv5
          have HC5 := Lib.hid hc5
          have hg5 := World.block_lt_of_cell? wr _ hc5
          clear hre hv5 HTI HR HAI
          obtain ⟨wo, hwo⟩ : ∃ wo : World, wo = wr := ⟨_, rfl⟩
          subst hwo
          go_wp2_with fail
          clear hc5
          go_loopw [6] (fun s6 wx => ∃ k : Nat, k ≤ r.length ∧ s6 = .int .i64 k ∧ Below wo.heap.size wo wx) (fun s6 _ => r.length - (RowKit.intOf s6).toNat)
          case atStart => exact ⟨0, Nat.zero_le _, rfl, Below.refl _ _⟩
          case round =>
            obtain ⟨k, hk, rfl, hbk⟩ := hrel
            have HBK := Lib.hid hbk
            have hc5 := (hbk.cell (p := ⟨g, off + i, none⟩) hg5).trans HC5.out
            clear hbk
            by_cases hlk : k < r.length
            · obtain ⟨h1, h2, h3⟩ := HRE.out k hlk
              have hbw := HB.out.trans (HBK.out.mono HB.out.size)
              obtain ⟨g6, off6, A6, c6, rfl, hc6, hv6⟩ := (T2.out.below hbw).at_ h1
              obtain ⟨g7, off7, rfl, hc7⟩ := hv6.at_ (k := i) (by rw [rowC_len]; exact h2)
              obtain ⟨g8, off8, rfl, hc8⟩ := (HV5.out.below HBK.out).at_ (k := k) (by rw [rowC_len]; exact hlk)
              have e7 : (rowC S3[k])[i]'(by rw [rowC_len]; exact h2) = bx r[k] := by simp only [rowC, List.getElem_map]; rw [h3]
              have e8 : (rowC r)[k]'(by rw [rowC_len]; exact hlk) = bx r[k] := by simp [rowC]
              rw [e7] at hc7
              rw [e8] at hc8
              obtain ⟨X, hX⟩ : ∃ X, bx r[k] = .string X := ⟨_, rfl⟩
              rw [hX] at hc7 hc8
              have hul : k < U := by rw [← HUU.out]; exact h1
              obtain ⟨z, hz⟩ : ∃ z, S3[k].length = z := ⟨_, rfl⟩
              have hz2 : z = max 1 R.length := by rw [← hz]; exact HU.out k h1
              have h2z : i < z := by rw [← hz]; exact h2
              rw [hz] at hc6
              have hz3 : z ≤ 60 := by omega
              have d1 : decide ((U : Int) ≤ (k : Int)) = false := decide_eq_false (by omega)
              have d2 : decide ((z : Int) ≤ (i : Int)) = false := decide_eq_false (by omega)
              have d3 : decide (U ≤ k) = false := decide_eq_false (by omega)
              have d4 : decide (z ≤ i) = false := decide_eq_false (by omega)
              clear hbw hv6 e7 e8 hX hz2 hz h3 h2 h1
              go_wp2_with fail
              go_quiet (fail)
              go_wp2_with fail
              go_roundw
              case rel => exact ⟨k + 1, by omega, by go_num, HBK.out.trans ((drewN_below _ _).mono HBK.out.size)⟩
              case measure => simp [RowKit.intOf]; omega
            · go_wp2_with fail
              go_roundw
              case rel => exact ⟨i + 1, by omega, by go_num, HB.out.trans (HBK.out.mono HB.out.size)⟩
              case measure => simp [RowKit.intOf]; omega
        · go_wp2_with fail
          refine (awake_any _).mono ?_
          rintro e w9 ⟨rfl, hb9⟩
          go_wp2
          go_ret
          have h0 := B4.out.trans (HB.out.mono B4.out.size)
          exact ⟨rfl, h0.trans (hb9.mono h0.size)⟩

set_option maxRecDepth 100000 in
theorem lifted (os : Os) (started : os.Started) (H : Type) (enc : TypeId × Value → H) :
    ReturnsInHanded {} Try.checked os 6 .any (Rows.tableTurnsSpec.pre6 enc Try.prog Try.f6 Rows.tableTurnsRow.domain false) (Rows.tableTurnsSpec.post enc Try.prog Try.f6 false true false false) := by
  refine returns_w started (by kernel_rfl) Try.func6 (ChangeSpec.witness6 (enc := enc) (C := Try.checked) false ⟨#[], #[.slice none 0 0], []⟩ 8 (by kernel_rfl) (by kernel_rfl) (by kernel_rfl) (by kernel_rfl)) rfl rfl (by kernel_rfl) ?_ ?_
  · intro ds hds
    rw [show Try.f6.params.toList.length = 1 from by kernel_rfl] at hds
    match ds, hds with
    | [d0], _ => rfl
  intro W base args ds p hval hA hwe
  rw [Try.params6] at hA hval hwe
  obtain ⟨v0, vs0, d0, ds0, p0, q0, hargs, rfl, rfl, h0, r0⟩ := ChangeShapes.trodAll_cons hA
  obtain ⟨rfl, rfl, rfl⟩ := ChangeShapes.trodAll_nil r0
  obtain rfl : args = #[v0] := by cases args; simp_all
  obtain ⟨A0, R0, c0, rfl, hr0, -, hl0, hrl0, hxl0⟩ := open_recsC (hval 0 22 v0 rfl rfl) h0 (hwe 0 _ _ rfl rfl)
  exact walk W A0 R0 c0 hr0 hl0 hrl0 hxl0

theorem holds : Rows.TableTurnsSaid :=
  OpenClaim.holds_of_wide 6 Try.f6 rfl rfl rfl rfl rfl rfl rfl ⟨rfl, rfl, rfl, rfl, rfl⟩ rfl rfl rfl rfl rfl (by kernel_rfl) Try.func6 (by kernel_rfl)
    (of_decide_eq_true (by kernel_rfl)) (by unfold Func.isWrapper; first | (rw [if_pos (by decide +kernel)]; kernel_rfl) | (rw [if_neg (by decide +kernel)]; exact ⟨rfl, rfl⟩))
    (fun os started H enc _ => lifted os started H enc)
end Go.Proofs.Ytdkdmfbhnaaobaa.TableTurns
