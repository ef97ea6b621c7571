/-
  Proved here: what cluster.codes returns, for every row of runes of at most 2^40: a new row of their numbers; it leaves what was in memory.
-/
import Derived.Test.YtpfihikldeagnaaDoorKuRows
import Derived.Test.YtpfihikldeagnaaDoorCoLaid
set_option linter.unusedVariables false
namespace Go.Proofs.YtpfihikldeagnaaDoor.Ku
open Go.RowKit Go.Lib

/-- The row that codes fills: the first ones told, the others zero. -/
def fillZ (zs : List Int) (k : Nat) : List Value := (zs.take k).map (Value.int .i64) ++ List.replicate (zs.length - k) (.int .i64 0)
theorem fillZ_next (zs : List Int) (k : Nat) (hk : k < zs.length) : (fillZ zs k).set k (.int .i64 zs[k]) = fillZ zs (k + 1) := by
  unfold fillZ
  have h1 : ((zs.take k).map (Value.int .i64)).length = k := by simp; omega
  rw [List.set_append_right _ _ (by omega), h1, Nat.sub_self, show zs.length - k = (zs.length - (k + 1)) + 1 from by omega, List.replicate_succ, List.set_cons_zero, List.take_succ_eq_append_getElem hk, List.map_append, List.append_assoc]
  rfl
theorem fillZ_at (zs : List Int) (k : Nat) (hk : k < zs.length) : (fillZ zs k)[k]? = some (.int .i64 0) := by
  unfold fillZ
  have h1 : ((zs.take k).map (Value.int .i64)).length = k := by simp; omega
  rw [List.getElem?_append_right (by omega), h1, Nat.sub_self, show zs.length - k = (zs.length - (k + 1)) + 1 from by omega, List.replicate_succ]
  rfl
theorem fillZ_all (zs : List Int) : fillZ zs zs.length = zs.map (Value.int .i64) := by
  unfold fillZ
  rw [List.take_length, Nat.sub_self]
  simp
theorem fillZ_none (zs : List Int) : fillZ zs 0 = List.replicate zs.length (.int .i64 0) := by
  unfold fillZ
  simp

theorem fillZ_step (l : List R3) (k : Nat) (hk : k < l.length) : (fillZ (codes l) k).set k (.int .i64 l[k].2.2) = fillZ (codes l) (k + 1) := by
  have h := fillZ_next (codes l) k (by rw [codes_len]; exact hk)
  rw [← h]
  simp [codes]

set_option maxHeartbeats 1000000 in
set_option maxRecDepth 100000 in
theorem codes_any (A : Option Addr) (l : List R3) (c : Nat) (w : World) (hR : RuAt w A l) (hn : l.length ≤ 1099511627776) :
    Calls Tryd.prog 21 #[.slice A l.length c] w fun e w' => ∃ g, e = .returned (.slice (some ⟨g, 0, none⟩) l.length l.length) ∧ w'.ownsRow w.heap.size 3 1 (.slice (some ⟨g, 0, none⟩) l.length l.length) l.length ((codes l).map (Value.int .i64)) ∧ Below w.heap.size w w' := by
  obtain ⟨i0, hi, hz0, hzs, hzb⟩ := Cl.info_parts Cl.infoInt
  have HR := Lib.hid hR
  have HI := Lib.hid hi
  have HQ0 := Lib.hid hz0
  have HQ1 := Lib.hid hzs
  have HQ2 := Lib.hid hzb
  have HX := Lib.hid (fun k (hk : k < l.length) => fillZ_step l k hk)
  have HAT := Lib.hid (fun k (hk : k < l.length) => fillZ_at (codes l) k (by rw [codes_len]; exact hk))
  have hcl := codes_len l
  have HALL := Lib.hid (show fillZ (codes l) l.length = (codes l).map (Value.int .i64) by rw [← hcl]; exact fillZ_all _)
  have HNONE := Lib.hid (show fillZ (codes l) 0 = List.replicate l.length (.int .i64 0) by rw [← hcl]; exact fillZ_none _)
  clear hR hi hz0 hzs hzb hcl
  go_enter Tryd.func21, Tryd.ntmps21
  go_wp2_with (refine wpList_make_full _ rfl _ _ 43 rfl w.heap.size 3 i0 (.int .i64 0) 1 Tryd.underlying43 HI.out HQ0.out HQ1.out .i64 .i64 _ _ l.length rfl rfl rfl rfl ?c1 ?c2 ?c3 ?_)
  case c1 => rw [HQ2.out]; omega
  case c2 => unfold maxLen; omega
  case c3 => exact Nat.le_refl _
  intro w4 hown hgrow
  have hown1 : w4.ownsRow w.heap.size 3 1 (.slice (some ⟨w.heap.size, 0, none⟩) l.length l.length) l.length (fillZ (codes l) 0) := by
    have h := hown
    rw [toList_madeCells_one] at h
    rw [HNONE.out]
    exact h
  have hb4 : Below w.heap.size w w4 := (Below.refl _ _).grown hgrow (Nat.le_refl _) (fun k h => by cases h)
  have hg4 : w.heap.size < w4.heap.size := (hown1.lt _ rfl).2
  have HO := Lib.hid hown1
  have HB4 := Lib.hid hb4
  clear hown hgrow hown1 hb4 HI HQ0 HQ1 HQ2
  generalize hg : w.heap.size = g at *
  have HG0 := Lib.hid hg
  clear hg
  go_wp2_with fail
  go_loopw [11] (fun s11 wx => ∃ k : Nat, k ≤ l.length ∧ s11 = .int .i64 k ∧ Below g w wx ∧ g < wx.heap.size ∧ wx.ownsRow g 3 1 (.slice (some ⟨g, 0, none⟩) l.length l.length) l.length (fillZ (codes l) k)) (fun s11 _ => l.length - (RowKit.intOf s11).toNat)
  case atStart => exact ⟨0, Nat.zero_le _, rfl, HB4.out, hg4, HO.out⟩
  case round =>
    obtain ⟨k, hk, rfl, hb, hgx, hown⟩ := hrel
    have HB := Lib.hid hb
    have HW := Lib.hid hown
    clear hb hown HO HB4
    by_cases hlt : k < l.length
    · have hb' : Below w.heap.size w wr := by rw [HG0.out]; exact HB.out
      obtain ⟨a, off, rfl, hal, q0, q1, q2⟩ := (HR.out.below hb').at_ hlt
      have hX := HX.out k hlt
      have hat := HAT.out k hlt
      have HX' := Lib.hid hX
      clear hX hb'
      generalize l[k] = r at *
      obtain ⟨ra, rz, rc⟩ := r
      simp only at q0 q1 q2 HX'
      have hcell := (HW.out.cellAt k (by omega)).trans hat
      have hfrz := HW.out.frozenAt k
      clear hat
      go_wp2
      go_roundw
      case rel =>
        refine ⟨k + 1, by omega, by go_num, (HB.out.setCell (by simp) _).alloc (by simp; omega) _, by simp; omega, ?_⟩
        rw [← HX'.out]
        exact (HW.out.stored k _).1.alloc _
      case measure => simp [RowKit.intOf]; omega
    · obtain rfl : k = l.length := by omega
      go_wp2
      go_ret
      have h0 := HW.out
      rw [HALL.out] at h0
      exact ⟨g, rfl, by rw [HG0.out]; exact h0, by rw [HG0.out]; exact HB.out⟩
end Go.Proofs.YtpfihikldeagnaaDoor.Ku
