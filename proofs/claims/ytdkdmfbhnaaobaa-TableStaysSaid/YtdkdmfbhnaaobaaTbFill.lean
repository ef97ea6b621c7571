/-
  Proved here: what table.Width, Fill, Turn answer: the width; a table, filled, turned, in new memory; they leave what was in memory.
-/
import Derived.Test.YtdkdmfbhnaaobaaTbMade
set_option linter.unusedVariables false
namespace Go.Proofs.Ytdkdmfbhnaaobaa.Tb
open Go Go.RowKit Go.Lib Go.Proofs.Ytdkdmfbhnaaobaa.Cv

/-- Records that are few, and short. -/
structure Few (R : Rec) : Prop where
  num : R.length ≤ 1000000
  each : ∀ r ∈ R, r.length ≤ 1000000
theorem Few.width {R : Rec} (h : Few R) : widthT R ≤ 1000000 := width_le h.each

set_option maxHeartbeats 1000000 in
set_option maxRecDepth 100000 in
theorem width_any (A : Option Addr) (R : Rec) (n c : Nat) (hn : n = R.length) (w : World) (hA : RecsAt w A R) (hF : Few R) :
    Calls Try.prog 9 #[.slice A n c] w fun e w' => e = .returned (.int .i64 (widthT R)) ∧ w = w' := by
  subst hn
  obtain ⟨b0, hb0⟩ : ∃ b, widthT R = b := ⟨_, rfl⟩
  rw [hb0]
  have HB0 := Lib.hid hb0
  clear hb0
  have HA := Lib.hid hA
  have HF := Lib.hid hF
  have hl := hF.num
  clear hA hF
  go_enter Try.func9, Try.ntmps9
  go_wp2_with fail
  go_loop [3, 8] (fun s3 s8 => ∃ k : Nat, k ≤ R.length ∧ s8 = .int .i64 k ∧ s3 = .int .i64 (widthT (R.take k))) (fun _ s8 => R.length - (RowKit.intOf s8).toNat)
  case atStart => exact ⟨0, Nat.zero_le _, rfl, rfl⟩
  case round =>
    obtain ⟨k, hk, rfl, rfl⟩ := hrel
    by_cases hlt : k < R.length
    · obtain ⟨g, off, A1, c1, rfl, hc, -⟩ := HA.out.at_ hlt
      have hr := HF.out.each R[k] (List.getElem_mem hlt)
      have hw := Nat.le_trans (width_take_le R k) HF.out.width
      have HS := Lib.hid (width_take hlt)
      generalize R[k].length = m at *
      generalize widthT (R.take k) = b at *
      go_wp2
      all_goals
        go_round
        case measure => simp [RowKit.intOf]; omega
        case rel => exact ⟨k + 1, by omega, by go_num, by rw [HS.out]; congr 1; omega⟩
    · have e : R.take k = R := List.take_of_length_le (by omega)
      rw [e, HB0.out]
      go_wp2
      go_ret
      exact ⟨rfl, rfl⟩

set_option maxHeartbeats 1000000 in
set_option maxRecDepth 100000 in
theorem look_any (A : Option Addr) (R : Rec) (n c : Nat) (hn : n = R.length) (w : World) (hA : RecsAt w A R) (hF : Few R) :
    Calls Try.prog 26 #[.slice A n c] w fun e w' => e = .returned (.agg #[.slice A n c, .int .i64 (widthT R)]) ∧ Below w.heap.size w w' := by
  subst hn
  obtain ⟨b0, hb0⟩ : ∃ b, widthT R = b := ⟨_, rfl⟩
  rw [hb0]
  have HB0 := Lib.hid hb0
  clear hb0
  have HA := Lib.hid (hA.below (below_one w (.cells #[.slice none 0 0, .int .i64 0] 36)))
  clear hA
  go_enter Try.func26, Try.ntmps26
  go_wp2_with fail
  refine (width_any A R R.length c rfl _ HA.out hF).mono ?_
  rintro e w1 ⟨rfl, rfl⟩
  rw [HB0.out]
  go_wp2
  exact bodyPost_ret (v := .agg #[.slice A R.length c, .int .i64 b0]) (by simp [results, Try.results26, go_sem]) rfl ⟨rfl, (Below.refl _ _).alloc (Nat.le_refl _) _⟩

theorem fill_get {R : Rec} {k : Nat} (h : k < (fillT R).length) : (fillT R)[k] = (List.range (max 1 (widthT R))).map fun j => fieldT R k j := tab_get h
theorem turn_get {R : Rec} {k : Nat} (h : k < (turnT R).length) : (turnT R)[k] = (List.range (max 1 R.length)).map fun i => fieldT R i k := tab_get h
theorem fill_lines (A : Option Addr) (R : Rec) (c : Nat) (w : World) (hA : RecsAt w A R) (hF : Few R) :
    Calls Try.prog 25 #[.iface 36 (.agg #[.slice A R.length c, .int .i64 (widthT R)])] w (TblPost (fillT R) w) := by
  have hw := hF.width
  have hl := fill_len R
  unfold highT at hl
  have hn := hF.num
  refine made_of 36 _ 52 53 (enters_of Try.func52 (by kernel_rfl) rfl) (enters_of Try.func53 (by kernel_rfl) rfl)
    (fun k W => by kernel_rfl) (fun k W => by kernel_rfl) (fillT R) w (by omega) ?_ fun k h W hW => ?_
  · rw [hl]
    exact rowcount_any A R.length c (widthT R) w hF.num
  · rw [fill_get h]
    exact rowline_any A R c (widthT R) k W (hA.below hW) hF.num hF.each (by omega) hw
theorem turn_lines (A : Option Addr) (R : Rec) (c : Nat) (w : World) (hA : RecsAt w A R) (hF : Few R) :
    Calls Try.prog 25 #[.iface 39 (.agg #[.slice A R.length c, .int .i64 (widthT R)])] w (TblPost (turnT R) w) := by
  have hw := hF.width
  have hl := turn_len R
  unfold wideT at hl
  have hn := hF.num
  refine made_of 39 _ 59 60 (enters_of Try.func59 (by kernel_rfl) rfl) (enters_of Try.func60 (by kernel_rfl) rfl)
    (fun k W => by kernel_rfl) (fun k W => by kernel_rfl) (turnT R) w (by omega) ?_ fun k h W hW => ?_
  · rw [hl]
    exact colcount_any A R.length c (widthT R) w hw
  · rw [turn_get h]
    exact colline_any A R c (widthT R) k W (hA.below hW) hF.num hF.each (by omega) hw

set_option maxHeartbeats 1000000 in
set_option maxRecDepth 100000 in
theorem fill_any (A : Option Addr) (R : Rec) (n c : Nat) (hn : n = R.length) (w : World) (hA : RecsAt w A R) (hF : Few R) :
    Calls Try.prog 14 #[.slice A n c] w (TblPost (fillT R) w) := by
  subst hn
  have HL := Lib.hid (look_any A R R.length c rfl w hA hF)
  have HM := Lib.hid (fun W hW => fill_lines A R c W (hA.below hW) hF)
  obtain ⟨Q, hQ⟩ : ∃ Q, fillT R = Q := ⟨_, rfl⟩
  rw [hQ] at HM ⊢
  obtain ⟨b0, hb0⟩ : ∃ b, widthT R = b := ⟨_, rfl⟩
  rw [hb0] at HM HL
  clear hA hF hQ hb0
  go_enter Try.func14, Try.ntmps14
  go_wp2_with fail
  refine HL.out.mono ?_
  rintro e w1 ⟨rfl, hb1⟩
  have HM1 := Lib.hid (HM.out w1 hb1)
  have HB1 := Lib.hid hb1
  clear hb1 HM HL
  go_wp2_with fail
  refine HM1.out.mono ?_
  rintro e w2 ⟨A2, c2, rfl, ht, hb2⟩
  have HT := Lib.hid ht
  have HB2 := Lib.hid (HB1.out.trans (hb2.mono HB1.out.size))
  clear ht hb2
  go_wp2
  go_ret
  exact ⟨A2, c2, rfl, HT.out.base HB1.out.size, HB2.out⟩
set_option maxHeartbeats 1000000 in
set_option maxRecDepth 100000 in
theorem turn_any (A : Option Addr) (R : Rec) (n c : Nat) (hn : n = R.length) (w : World) (hA : RecsAt w A R) (hF : Few R) :
    Calls Try.prog 16 #[.slice A n c] w (TblPost (turnT R) w) := by
  subst hn
  have HL := Lib.hid (look_any A R R.length c rfl w hA hF)
  have HM := Lib.hid (fun W hW => turn_lines A R c W (hA.below hW) hF)
  obtain ⟨Q, hQ⟩ : ∃ Q, turnT R = Q := ⟨_, rfl⟩
  rw [hQ] at HM ⊢
  obtain ⟨b0, hb0⟩ : ∃ b, widthT R = b := ⟨_, rfl⟩
  rw [hb0] at HM HL
  clear hA hF hQ hb0
  go_enter Try.func16, Try.ntmps16
  go_wp2_with fail
  refine HL.out.mono ?_
  rintro e w1 ⟨rfl, hb1⟩
  have HM1 := Lib.hid (HM.out w1 hb1)
  have HB1 := Lib.hid hb1
  clear hb1 HM HL
  go_wp2_with fail
  refine HM1.out.mono ?_
  rintro e w2 ⟨A2, c2, rfl, ht, hb2⟩
  have HT := Lib.hid ht
  have HB2 := Lib.hid (HB1.out.trans (hb2.mono HB1.out.size))
  clear ht hb2
  go_wp2
  go_ret
  exact ⟨A2, c2, rfl, HT.out.base HB1.out.size, HB2.out⟩
end Go.Proofs.Ytdkdmfbhnaaobaa.Tb
