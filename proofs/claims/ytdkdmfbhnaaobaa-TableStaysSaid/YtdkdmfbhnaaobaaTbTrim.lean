/-
  Proved here: what table.Trim answers: a table, trimmed, in new memory; it leaves what was in memory.
-/
import Derived.Test.YtdkdmfbhnaaobaaTbFill
import Derived.Lib.SlicesS
set_option linter.unusedVariables false
namespace Go.Proofs.Ytdkdmfbhnaaobaa.Tb
open Go Go.RowKit Go.Lib Go.Proofs.Ytdkdmfbhnaaobaa.Cv

set_option maxHeartbeats 1000000 in
set_option maxRecDepth 100000 in
theorem hastext_any (x : Bs) (w : World) :
    Calls Try.prog 33 #[bx x] w fun e w' => e = .returned (.bool (nb x)) ∧ w = w' := by
  have e : nb x = !(⟨x.toArray⟩ : ByteArray).toList.isEmpty := by rw [ByteArray.toList_eq]; rfl
  rw [e]
  show Calls _ _ #[.string ⟨x.toArray⟩] _ _
  clear e
  generalize (⟨x.toArray⟩ : ByteArray) = X
  go_enter Try.func33, Try.ntmps33
  go_wp2
  go_ret
  exact ⟨rfl, rfl⟩
set_option maxHeartbeats 1000000 in
set_option maxRecDepth 100000 in
theorem hasany_any (A : Option Addr) (r : List Bs) (c : Nat) (w : World) :
    Calls Try.prog 35 #[.slice A r.length c] w fun e w' => e = .returned (.bool (nr r)) ∧ w = w' := by
  have e : nr r = decide (0 < r.length) := by cases r <;> simp [nr]
  rw [e]
  clear e
  generalize r.length = n
  go_enter Try.func35, Try.ntmps35
  go_wp2
  go_ret
  exact ⟨rfl, rfl⟩

set_option maxHeartbeats 1000000 in
set_option maxRecDepth 100000 in
theorem upto_str (A : Option Addr) (r : List Bs) (c : Nat) (w : World) (hv : VAt w A (rowC r)) (hl : r.length ≤ 1000000) (hc : r.length ≤ c) :
    Calls Try.prog 32 #[.slice A r.length c, .func (.func 33) #[] #[]] w fun e w' => e = .returned (.slice A (lastT nb r) c) ∧ w = w' := by
  obtain ⟨z, hz⟩ : ∃ z, lastT nb r = z := ⟨_, rfl⟩
  have HZ := Lib.hid hz
  have HV := Lib.hid hv
  rw [hz]
  clear hz hv
  have hen := enters_of (P := Try.prog) Try.func33 (by kernel_rfl) rfl
  go_enter Try.func32, Try.ntmps32
  go_wp2_with fail
  go_loop [5] (fun s5 => ∃ e : Nat, e ≤ r.length ∧ s5 = .int .i64 e ∧ lastT nb (r.take e) = z) (fun s5 => (RowKit.intOf s5).toNat)
  case atStart => exact ⟨r.length, Nat.le_refl _, rfl, by rw [List.take_length]; exact HZ.out⟩
  case round =>
    obtain ⟨e, he, rfl, hlast⟩ := hrel
    have HL := Lib.hid hlast
    clear hlast
    rcases Nat.eq_zero_or_pos e with h0 | h0
    · subst h0
      obtain rfl : 0 = z := by have := HL.out; simpa [lastT] using this
      go_wp2_with fail
      go_ret
      exact ⟨rfl, rfl⟩
    · have hlt : e - 1 < r.length := by omega
      obtain ⟨b, off, rfl, hcell⟩ := HV.out.at_ (k := e - 1) (by rw [rowC_len]; exact hlt)
      have e2 : (rowC r)[e - 1]'(by rw [rowC_len]; exact hlt) = bx r[e - 1] := by simp [rowC]
      rw [e2] at hcell
      have hs := last_take (p := nb) hlt
      rw [show e - 1 + 1 = e by omega] at hs
      have HS := Lib.hid hs
      obtain ⟨x, hx⟩ : ∃ x, r[e - 1] = x := ⟨_, rfl⟩
      rw [hx] at hcell HS
      have HH := Lib.hid (fun W => hastext_any x W)
      obtain ⟨X, hX⟩ : ∃ X, bx x = .string X := ⟨_, rfl⟩
      rw [hX] at hcell HH
      have d0 : decide (0 < e) = true := decide_eq_true h0
      clear e2 hs hx hX
      go_wp2_with fail
      refine (HH.out _).mono ?_
      rintro e9 w9 ⟨rfl, rfl⟩
      cases hb : nb x with
      | true =>
        have h9 := HS.out
        rw [hb, if_pos rfl, HL.out] at h9
        subst h9
        clear hb
        go_wp2_with fail
        go_ret
        exact ⟨rfl, rfl⟩
      | false =>
        have h9 := HS.out
        rw [hb, if_neg (by simp), HL.out] at h9
        have H9 := Lib.hid h9
        clear hb h9
        go_wp2_with fail
        go_round
        case rel => exact ⟨e - 1, by omega, by go_num, H9.out.symm⟩
        case measure => simp [RowKit.intOf]; omega
set_option maxHeartbeats 1000000 in
set_option maxRecDepth 100000 in
theorem upto_rec (A : Option Addr) (r : Rec) (c : Nat) (w : World) (hv : RecsC w A r) (hl : r.length ≤ 1000000) (hc : r.length ≤ c) :
    Calls Try.prog 34 #[.slice A r.length c, .func (.func 35) #[] #[]] w fun e w' => e = .returned (.slice A (lastT nr r) c) ∧ w = w' := by
  obtain ⟨z, hz⟩ : ∃ z, lastT nr r = z := ⟨_, rfl⟩
  have HZ := Lib.hid hz
  have HV := Lib.hid hv
  rw [hz]
  clear hz hv
  have hen := enters_of (P := Try.prog) Try.func35 (by kernel_rfl) rfl
  go_enter Try.func34, Try.ntmps34
  go_wp2_with fail
  go_loop [5] (fun s5 => ∃ e : Nat, e ≤ r.length ∧ s5 = .int .i64 e ∧ lastT nr (r.take e) = z) (fun s5 => (RowKit.intOf s5).toNat)
  case atStart => exact ⟨r.length, Nat.le_refl _, rfl, by rw [List.take_length]; exact HZ.out⟩
  case round =>
    obtain ⟨e, he, rfl, hlast⟩ := hrel
    have HL := Lib.hid hlast
    clear hlast
    rcases Nat.eq_zero_or_pos e with h0 | h0
    · subst h0
      obtain rfl : 0 = z := by have := HL.out; simpa [lastT] using this
      go_wp2_with fail
      go_ret
      exact ⟨rfl, rfl⟩
    · have hlt : e - 1 < r.length := by omega
      obtain ⟨b, off, A1, c1, rfl, hcell, -, -⟩ := HV.out.at_ hlt
      have hs := last_take (p := nr) hlt
      rw [show e - 1 + 1 = e by omega] at hs
      have HS := Lib.hid hs
      obtain ⟨x, hx⟩ : ∃ x, r[e - 1] = x := ⟨_, rfl⟩
      rw [hx] at hcell HS
      have HH := Lib.hid (fun W => hasany_any A1 x c1 W)
      have d0 : decide (0 < e) = true := decide_eq_true h0
      clear hs hx
      go_wp2_with fail
      refine (HH.out _).mono ?_
      rintro e9 w9 ⟨rfl, rfl⟩
      cases hb : nr x with
      | true =>
        have h9 := HS.out
        rw [hb, if_pos rfl, HL.out] at h9
        subst h9
        clear hb
        go_wp2_with fail
        go_ret
        exact ⟨rfl, rfl⟩
      | false =>
        have h9 := HS.out
        rw [hb, if_neg (by simp), HL.out] at h9
        have H9 := Lib.hid h9
        clear hb h9
        go_wp2_with fail
        go_round
        case rel => exact ⟨e - 1, by omega, by go_num, H9.out.symm⟩
        case measure => simp [RowKit.intOf]; omega

def CutPost (Q : Rec) (w : World) (e : Ending) (w' : World) : Prop := ∃ A c, e = .returned (.slice A Q.length c) ∧ RecsC w' A Q ∧ Below w.heap.size w w'

set_option maxHeartbeats 2000000 in
set_option maxRecDepth 100000 in
theorem cut_any (A : Option Addr) (R : Rec) (n c : Nat) (hn : n = R.length) (w : World) (hA : RecsC w A R) (hF : Few R) :
    Calls Try.prog 27 #[.slice A n c] w (CutPost (cutT R) w) := by
  obtain ⟨i0, hi, hz0, hz1, hz2⟩ := Cl.info_parts infoRow
  have HI := Lib.hid hi
  have HQ0 := Lib.hid hz0
  have HQ1 := Lib.hid hz1
  have HQ2 := Lib.hid hz2
  have HA := Lib.hid hA
  have HF := Lib.hid hF
  have HN := Lib.hid hn
  have hn1 : n ≤ 1000000 := by rw [hn]; exact hF.num
  clear hi hz0 hz1 hz2 hA hF hn
  generalize hg : w.heap.size = g at *
  have HG0 := Lib.hid hg
  go_enter Try.func27, Try.ntmps27
  go_wp2_with (refine wpList_make_full _ rfl _ _ 22 rfl w.heap.size 31 i0 (.slice none 0 0) 1 Try.underlying22 HI.out HQ0.out HQ1.out .i64 .i64 _ _ n rfl rfl rfl rfl ?c1 ?c2 ?c3 ?_)
  case c1 => rw [HQ2.out]; omega
  case c2 => unfold maxLen; omega
  case c3 => exact Nat.le_refl _
  intro w4 hown hgrow
  rw [toList_madeCells_one] at hown
  have hf0 : Fil (fun i x => ∀ h : i < (pieces R).length, RecC w x (pieces R)[i]) g w4 g n 0 := Fil.start hown
  have hb4 : Below g w w4 := by
    rw [← HG0.out]
    exact (Below.refl _ _).grown hgrow (Nat.le_refl _) (fun k h => by cases h)
  have hg4 : g < w4.heap.size := (hown.lt _ rfl).2
  have HF4 := Lib.hid hf0
  have HB4 := Lib.hid hb4
  clear hown hgrow hf0 hb4 HI HQ0 HQ1 HQ2 hg
  go_wp2_with fail
  go_loopw [11] (fun s11 wx => ∃ k : Nat, k ≤ n ∧ s11 = .int .i64 k ∧ Below g w wx ∧ g < wx.heap.size ∧ Fil (fun i x => ∀ h : i < (pieces R).length, RecC w x (pieces R)[i]) g wx g n k) (fun s11 _ => n - (RowKit.intOf s11).toNat)
  case atStart => exact ⟨0, Nat.zero_le _, rfl, HB4.out, hg4, HF4.out⟩
  case round =>
    obtain ⟨k, hk, rfl, hb, hgx, hfil⟩ := hrel
    have HB := Lib.hid hb
    have HFI := Lib.hid hfil
    clear hb hfil HF4 HB4
    by_cases hlt : k < n
    · have hk1 : k < R.length := by rw [← HN.out]; exact hlt
      obtain ⟨b, off, A1, c1, rfl, hc0, hcc, hv⟩ := HA.out.at_ hk1
      have hbw : Below w.heap.size w wr := by rw [HG0.out]; exact HB.out
      have hc := (hbw.cell (p := ⟨b, off + k, none⟩) (World.block_lt_of_cell? w _ hc0)).trans hc0
      have hrl := HF.out.each _ (List.getElem_mem hk1)
      have hpk : ∀ h : k < (pieces R).length, (pieces R)[k] = piece R[k] := fun h => pieces_get h
      obtain ⟨r, hr⟩ : ∃ r, R[k] = r := ⟨_, rfl⟩
      rw [hr] at hc hcc hv hrl hpk
      have HU := Lib.hid (upto_str A1 r c1 wr (hv.below hbw) hrl hcc)
      have HR := Lib.hid (show RecC w (.slice A1 (lastT nb r) c1) (piece r) from by
        have hle := last_le nb r
        have hl : (piece r).length = lastT nb r := by unfold piece; rw [List.length_take]; omega
        refine ⟨A1, c1, by rw [hl], by omega, ?_⟩
        unfold piece
        rw [rowC_take]
        exact VAt.take hv _)
      have HPK := Lib.hid hpk
      obtain ⟨x0, hcell, hfrz⟩ := HFI.out.cell hlt
      generalize lastT nb r = z at *
      clear hc0 hcc hv hbw hr hpk
      go_wp2_with fail
      refine HU.out.mono ?_
      rintro e w5 ⟨rfl, rfl⟩
      go_wp2_with fail
      go_roundw
      case measure => simp [RowKit.intOf]; omega
      case rel =>
        refine ⟨k + 1, by omega, by go_num, HB.out.setCell (Nat.le_refl _) _, by simpa using hgx, ?_⟩
        exact HFI.out.put hlt (Below.refl _ _) hgx (fun h => by rw [HPK.out h]; exact HR.out) fun i y hi hy => hy
    · obtain rfl : k = n := by omega
      have hbw : Below w.heap.size w wr := by rw [HG0.out]; exact HB.out
      obtain ⟨vals, hv1, hv2⟩ := HFI.out
      have hrec : RecsC wr (some ⟨g, 0, none⟩) (pieces R) := Fil.recs (by rw [pieces_len]; exact HN.out) ⟨vals, hv1, fun i x hi hx h => (hv2 i x hi hx h).below hbw⟩
      have hpl : (pieces R).length = k := by rw [pieces_len]; exact HN.out.symm
      have HU := Lib.hid (upto_rec (some ⟨g, 0, none⟩) (pieces R) k wr hrec (by omega) (by omega))
      have HR := Lib.hid (show RecsC wr (some ⟨g, 0, none⟩) (cutT R) from hrec.take (lastT nr (pieces R)))
      have hcl : (cutT R).length = lastT nr (pieces R) := by have := last_le nr (pieces R); unfold cutT; rw [List.length_take]; omega
      have HCL := Lib.hid hcl
      rw [hpl] at HU
      generalize lastT nr (pieces R) = z at *
      clear hrec hpl hv1 hv2 hbw hcl
      go_wp2_with fail
      refine HU.out.mono ?_
      rintro e w5 ⟨rfl, rfl⟩
      go_wp2
      go_ret
      refine ⟨some ⟨g, 0, none⟩, k, ?_, HR.out, by rw [HG0.out]; exact HB.out⟩
      rw [HCL.out]
      rfl

theorem Few.cut {R : Rec} (h : Few R) : Few (cutT R) := by
  refine ⟨?_, fun r hr => ?_⟩
  · have := last_le nr (pieces R)
    have := pieces_len R
    have := h.num
    unfold cutT
    rw [List.length_take]
    omega
  · have hr2 : r ∈ pieces R := List.mem_of_mem_take hr
    unfold pieces at hr2
    rw [List.mem_map] at hr2
    obtain ⟨q, hq, rfl⟩ := hr2
    have := h.each q hq
    unfold piece
    rw [List.length_take]
    omega

set_option maxHeartbeats 1000000 in
set_option maxRecDepth 100000 in
theorem trim_any (A : Option Addr) (R : Rec) (n c : Nat) (hn : n = R.length) (w : World) (hA : RecsC w A R) (hF : Few R) :
    Calls Try.prog 15 #[.slice A n c] w (TblPost (trimT R) w) := by
  have HC := Lib.hid (cut_any A R n c hn w hA hF)
  obtain ⟨Q, hQ⟩ : ∃ Q, trimT R = Q := ⟨_, rfl⟩
  rw [hQ]
  have HQ := Lib.hid hQ
  have HF := Lib.hid hF.cut
  clear hA hF hQ hn
  go_enter Try.func15, Try.ntmps15
  go_wp2_with fail
  refine HC.out.mono ?_
  rintro e w1 ⟨A1, c1, rfl, hA1, hb1⟩
  have HL := Lib.hid (look_any A1 (cutT R) (cutT R).length c1 rfl w1 hA1.recs HF.out)
  have HM := Lib.hid (fun W hW => fill_lines A1 (cutT R) c1 W (hA1.recs.below hW) HF.out)
  rw [show fillT (cutT R) = Q from HQ.out] at HM
  have HB1 := Lib.hid hb1
  generalize (cutT R).length = m at *
  generalize widthT (cutT R) = b0 at *
  clear hA1 hb1 HC
  go_wp2_with fail
  refine HL.out.mono ?_
  rintro e w2 ⟨rfl, hb2⟩
  have HM1 := Lib.hid (HM.out w2 hb2)
  have HB2 := Lib.hid (HB1.out.trans (hb2.mono HB1.out.size))
  clear hb2 HM HL
  go_wp2_with fail
  refine HM1.out.mono ?_
  rintro e w3 ⟨A2, c2, rfl, ht, hb3⟩
  have HT := Lib.hid ht
  have HB3 := Lib.hid (HB2.out.trans (hb3.mono HB2.out.size))
  clear ht hb3
  go_wp2
  go_ret
  exact ⟨A2, c2, rfl, HT.out.base HB2.out.size, HB3.out⟩
end Go.Proofs.Ytdkdmfbhnaaobaa.Tb
