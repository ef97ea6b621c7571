/-
  Proved here: what table.made answers, of whatever lines: a table with a record of each, in new memory; it leaves what was in memory.
-/
import Derived.Test.YtdkdmfbhnaaobaaTbLine
set_option linter.unusedVariables false
namespace Go.Proofs.Ytdkdmfbhnaaobaa.Tb
open Go Go.RowKit Go.Lib Go.Proofs.Ytdkdmfbhnaaobaa.Cv

def TblPost (R : Rec) (w : World) (e : Ending) (w' : World) : Prop :=
  ∃ A c, e = .returned (.slice A R.length c) ∧ Tbl w.heap.size w'.heap.size w' A c R ∧ Below w.heap.size w w'

theorem OwnV.lim {B L L' : Nat} {w : World} {x : Value} {r : List Bs} (h : OwnV B L w x r) (hl : L ≤ L') : OwnV B L' w x r := ⟨h.1, fun k hk => Nat.lt_of_lt_of_le (h.2 k hk) hl⟩
theorem OwnV.base {B B' L : Nat} {w : World} {x : Value} {r : List Bs} (h : OwnV B L w x r) (hl : B' ≤ B) : OwnV B' L w x r := ⟨own_mono h.1 hl, h.2⟩
theorem Tbl.base {B B' L : Nat} {w : World} {A : Option Addr} {c : Nat} {R : Rec} (h : Tbl B L w A c R) (hl : B' ≤ B) : Tbl B' L w A c R := by
  obtain ⟨vals, h1, h2, h3⟩ := h
  exact ⟨vals, own_mono h1 hl, h2, fun i hi x hx => (h3 i hi x hx).base hl⟩
/-- A row that stands while another one's row of rows is written. -/
theorem OwnV.set {B L : Nat} {w : World} {x : Value} {r : List Bs} (h : OwnV B L w x r) {vs : Value} {n : Nat} {vals : List Value} {B' : Nat} (hv : w.ownsRow B' 31 1 vs n vals) {g k : Nat} (hg : vs.ownBlock = some g) (u : Value) : OwnV B L (w.setCell ⟨g, k, none⟩ u) x r := by
  refine ⟨h.1.kept (row := some g) ⟨rfl, rfl, rfl, by simp, fun j _ hj => heap_setCell_other w ⟨g, k, none⟩ j u (fun e => hj (by simp [e]))⟩ ?_, h.2⟩
  rw [← hg]
  exact own_ne h.1 hv (by decide)

set_option maxHeartbeats 2000000 in
set_option maxRecDepth 100000 in
theorem made_of (T : TypeId) (rv : Value) (fc fl : FuncId) (hfc : ∀ args w, (callFunc fc args).run Try.prog w = .ok (.enter fc args) w) (hfl : ∀ args w, (callFunc fl args).run Try.prog w = .ok (.enter fl args) w)
    (hmc : ∀ k w, (method (k + 1) T rv "parquetry/table.count").run Try.prog w = .ok (fc, rv) w) (hml : ∀ k w, (method (k + 1) T rv "parquetry/table.line").run Try.prog w = .ok (fl, rv) w)
    (R : Rec) (w : World) (hn : R.length ≤ 1000000)
    (count : Calls Try.prog fc #[rv] w fun e w' => e = .returned (.int .i64 (R.length : Int)) ∧ Below w.heap.size w w')
    (line : ∀ k (h : k < R.length) W, Below w.heap.size w W → Calls Try.prog fl #[rv, .int .i64 k] W (LinePost R[k] W)) :
    Calls Try.prog 25 #[.iface T rv] w (TblPost R w) := by
  obtain ⟨i0, hi, hz0, hz1, hz2⟩ := Cl.info_parts infoRow
  have HI := Lib.hid hi
  have HQ0 := Lib.hid hz0
  have HQ1 := Lib.hid hz1
  have HQ2 := Lib.hid hz2
  have HC := Lib.hid count
  have HL := Lib.hid line
  clear hi hz0 hz1 hz2 count line
  obtain ⟨n, hRn⟩ : ∃ n, R.length = n := ⟨_, rfl⟩
  have HN := Lib.hid hRn
  rw [hRn] at HC hn
  clear hRn
  go_enter Try.func25, Try.ntmps25
  go_wp2_with fail
  refine HC.out.mono ?_
  rintro e w1 ⟨rfl, hb1⟩
  have HB1 := Lib.hid hb1
  clear hb1
  generalize hg : w1.heap.size = g at *
  have HG0 := Lib.hid hg
  go_wp2_with (refine wpList_make_full _ rfl _ _ 22 rfl w1.heap.size 31 i0 (.slice none 0 0) 1 Try.underlying22 HI.out HQ0.out HQ1.out .i64 .i64 _ _ n rfl rfl rfl rfl ?c1 ?c2 ?c3 ?_)
  case c1 => rw [HQ2.out]; omega
  case c2 => unfold maxLen; omega
  case c3 => exact Nat.le_refl _
  intro w4 hown hgrow
  rw [toList_madeCells_one] at hown
  have hf0 : Fil (fun i x => ∀ h : i < R.length, OwnV w.heap.size w4.heap.size w4 x R[i]) w.heap.size w4 g n 0 := Fil.start (own_mono hown (by rw [← HG0.out]; exact HB1.out.size))
  have hb4 : Below w.heap.size w w4 := HB1.out.trans (((Below.refl w1.heap.size w1).grown hgrow (Nat.le_refl _) (fun k h => by cases h)).mono HB1.out.size)
  have hg4 : g < w4.heap.size := (hown.lt _ rfl).2
  have HF4 := Lib.hid hf0
  have HB4 := Lib.hid hb4
  have HGB := Lib.hid (show w.heap.size ≤ g by rw [← HG0.out]; exact HB1.out.size)
  clear hown hgrow hf0 hb4 HI HQ0 HQ1 HQ2 hg HB1 HG0
  go_wp2_with fail
  go_loopw [10] (fun s10 wx => ∃ k : Nat, k ≤ n ∧ s10 = .int .i64 k ∧ Below w.heap.size w wx ∧ g < wx.heap.size ∧ Fil (fun i x => ∀ h : i < R.length, OwnV w.heap.size wx.heap.size wx x R[i]) w.heap.size wx g n k) (fun s10 _ => n - (RowKit.intOf s10).toNat)
  case atStart => exact ⟨0, Nat.zero_le _, rfl, HB4.out, hg4, HF4.out⟩
  case round =>
    obtain ⟨k, hk, rfl, hb, hgx, hfil⟩ := hrel
    have HB := Lib.hid hb
    have HF := Lib.hid hfil
    clear hb hfil HF4 HB4
    by_cases hlt : k < n
    · have hk1 : k < R.length := by rw [HN.out]; exact hlt
      have HLK := Lib.hid (HL.out k hk1 wr HB.out)
      go_wp2_with fail
      refine HLK.out.mono ?_
      rintro e w5 ⟨A2, c2, rfl, ho5, hb5⟩
      obtain ⟨x0, hc0, hf0⟩ := HF.out.cell hlt
      have hcell := (hb5.cell (p := ⟨g, k, none⟩) hgx).trans hc0
      have hfrz := (hb5.frozen (p := ⟨g, k, none⟩) hgx).trans hf0
      have HO5 := Lib.hid ho5
      have HB5 := Lib.hid hb5
      obtain ⟨m, hm⟩ : ∃ m, R[k].length = m := ⟨_, rfl⟩
      rw [hm] at HO5
      rw [hm]
      clear ho5 hb5 hc0 hf0 hm HLK
      go_wp2_with fail
      go_roundw
      case measure => simp [RowKit.intOf]; omega
      case rel =>
        refine ⟨k + 1, by omega, by go_num, (HB.out.trans (HB5.out.mono HB.out.size)).setCell HGB.out _, by have := HB5.out.size; simp; omega, ?_⟩
        obtain ⟨vals, hv, -⟩ := HF.out
        have hv5 := own_below hv HB5.out fun b hb => by injection hb with hb; subst hb; exact hgx
        refine HF.out.put hlt HB5.out hgx (fun hk => ?_) fun i y hi hy hk => ?_
        · refine OwnV.set (OwnV.lim (HO5.out.base HB.out.size) (by simp)) hv5 rfl _
        · exact OwnV.set (OwnV.lim ((hy hk).below HB5.out) (by simp; exact HB5.out.size)) hv5 rfl _
    · obtain rfl : k = n := by omega
      have HT := Lib.hid (HF.out.tbl HN.out.symm hgx)
      go_wp2
      go_ret
      refine ⟨some ⟨g, 0, none⟩, k, ?_, HT.out, HB.out⟩
      rw [HN.out]
      rfl
end Go.Proofs.Ytdkdmfbhnaaobaa.Tb
