/-
  Proved here: what cols.All returns, for every row of numbers of at most 2^40: a new row of how many slots each takes. It leaves what was in memory.
-/
import Derived.Test.YtpfihikldeagnaaDoorCoLaid
import Derived.Deep.RegionWith
import Derived.Test.YtpfihikldeagnaaDoorClInts
set_option linter.unusedVariables false
namespace Go.Proofs.YtpfihikldeagnaaDoor.Co
open Go.RowKit Go.Lib Go.Proofs.YtpfihikldeagnaaDoor.Tab Go.Proofs.YtpfihikldeagnaaDoor.Arr
open Go.Proofs.YtpfihikldeagnaaDoor.Cl (IntsAt)

/-- The row that All fills: the first ones told, the others zero. -/
def fillC (zs : List Int) (k : Nat) : List Value := ((zs.take k).map slotsT).map (Value.int .i64) ++ List.replicate (zs.length - k) (.int .i64 0)
def slotsC (zs : List Int) : List Value := (zs.map slotsT).map (Value.int .i64)
theorem fillC_next (zs : List Int) (k : Nat) (hk : k < zs.length) : (fillC zs k).set k (.int .i64 (slotsT zs[k])) = fillC zs (k + 1) := by
  unfold fillC
  have h1 : (((zs.take k).map slotsT).map (Value.int .i64)).length = k := by simp; omega
  rw [List.set_append_right _ _ (by omega), h1, Nat.sub_self, show zs.length - k = (zs.length - (k + 1)) + 1 from by omega, List.replicate_succ, List.set_cons_zero, List.take_succ_eq_append_getElem hk, List.map_append, List.map_append, List.append_assoc]
  rfl
theorem fillC_at (zs : List Int) (k : Nat) (hk : k < zs.length) : (fillC zs k)[k]? = some (.int .i64 0) := by
  unfold fillC
  have h1 : (((zs.take k).map slotsT).map (Value.int .i64)).length = k := by simp; omega
  rw [List.getElem?_append_right (by omega), h1, Nat.sub_self, show zs.length - k = (zs.length - (k + 1)) + 1 from by omega, List.replicate_succ]
  rfl
theorem fillC_all (zs : List Int) : fillC zs zs.length = slotsC zs := by
  unfold fillC slotsC
  rw [List.take_length, Nat.sub_self]
  simp
theorem fillC_none (zs : List Int) : fillC zs 0 = List.replicate zs.length (.int .i64 0) := by
  unfold fillC
  simp

set_option maxHeartbeats 1000000 in
set_option maxRecDepth 100000 in
theorem all_any (A : Option Addr) (zs : List Int) (c : Nat) (w : World) (hR : IntsAt w A zs) (hn : zs.length ≤ 1099511627776) :
    Calls Tryd.prog 20 #[.slice A zs.length c] w fun e w' => ∃ g, e = .returned (.slice (some ⟨g, 0, none⟩) zs.length zs.length) ∧ w'.ownsRow w.heap.size 3 1 (.slice (some ⟨g, 0, none⟩) zs.length zs.length) zs.length (slotsC zs) ∧ Below w.heap.size w w' := by
  obtain ⟨i0, hi, hz0, hzs, hzb⟩ := Cl.info_parts Cl.infoInt
  have HC := Lib.hid (fun W => narrow_any W)
  have HD := Lib.hid (fun W => wide_any W)
  have HS := Lib.hid (fun c b1 b2 W (h1 : LitAt W b1 narrowE) (h2 : LitAt W b2 wideE) => slotsBy_any c b1 b2 W h1 h2)
  have HL := Lib.hid (fun w1 (h : Below w.heap.size w w1) => laid2 h)
  obtain ⟨hz1, hi1⟩ := zero_of_info infoN
  obtain ⟨hz2, hi2⟩ := zero_of_info infoW
  have HZ1 := Lib.hid hz1
  have HZ2 := Lib.hid hz2
  rw [← n_size] at hi1
  rw [← w_size] at hi2
  have HI := Lib.hid hi
  have HI1 := Lib.hid hi1
  have HI2 := Lib.hid hi2
  have HN1 := Lib.hid n_size
  have HN2 := Lib.hid w_size
  have HO1 := Lib.hid (iC_one narrowE)
  have HO2 := Lib.hid (iC_one wideE)
  have HR := Lib.hid hR
  have HQ0 := Lib.hid hz0
  have HQ1 := Lib.hid hzs
  have HQ2 := Lib.hid hzb
  clear hz1 hz2 hi1 hi2 hR hi hz0 hzs hzb
  generalize iC narrowE = cs at *
  generalize iC wideE = ds at *
  go_enter Tryd.func20, Tryd.ntmps20
  go_wp2_with fail
  refine (HC.out _).mono ?_
  rintro e w1 ⟨rfl, hb1⟩
  go_wp2_with fail
  rename_i Q0 K1 hK1 K2 hK2
  refine (HD.out _).mono ?_
  rintro e w2 ⟨rfl, hb2⟩
  have hb12 := hb1.trans (hb2.mono hb1.size)
  have HB := Lib.hid (HL.out _ hb12)
  refine hK2 _ _ ?_
  refine wpList_two 60 62 3 4 (.tmp 8) (.tmp 9) cs ds _ _ rfl HZ1.out HZ2.out _ rfl rfl rfl rfl rfl HI1.out HI2.out (by rw [HN1.out]; rfl) (by rw [HN2.out]; rfl) HO1.out HO2.out ?_
  refine wpList_nil (hK1 _ _ ?_)
  clear hb1 hb2 hb12 HI1 HI2 HO1 HO2 HZ1 HZ2 HN1 HN2 HC HD HL
  generalize (w2.alloc (.cells cs 60)).alloc (.cells ds 62) = w3 at *
  generalize w2.heap.size = b at *
  obtain ⟨H1, H2, H3, -⟩ := HB.out
  have HR3 := Lib.hid (HR.out.below H3)
  have G := Lib.hid (fun W (h : Below w3.heap.size w3 W) V (e : V.heap = W.heap) c => HS.out c b (b + 1) V (litAt_heap (H1.below h) e) (litAt_heap (H2.below h) e))
  have G3 := Lib.hid H3
  have hs3 := H3.size
  clear H1 H2 H3 HB HS HR
  go_wp2_with (refine wpList_make_full _ rfl _ _ 43 rfl w3.heap.size 3 i0 (.int .i64 0) 1 Tryd.underlying43 HI.out HQ0.out HQ1.out .i64 .i64 _ _ zs.length rfl rfl rfl rfl ?c1 ?c2 ?c3 ?_)
  case c1 => rw [HQ2.out]; omega
  case c2 => unfold maxLen; omega
  case c3 => exact Nat.le_refl _
  intro w4 hown hgrow
  have hown1 : w4.ownsRow w3.heap.size 3 1 (.slice (some ⟨w3.heap.size, 0, none⟩) zs.length zs.length) zs.length (fillC zs 0) := by
    have h := hown
    rw [toList_madeCells_one] at h
    rw [fillC_none]
    exact h
  have hb4 : Below w3.heap.size w3 w4 := (Below.refl _ _).grown hgrow (Nat.le_refl _) (fun k h => by cases h)
  have hg4 : w3.heap.size < w4.heap.size := (hown1.lt _ rfl).2
  have HO := Lib.hid hown1
  have HB4 := Lib.hid hb4
  clear hown hgrow hown1 hb4 HI HQ0 HQ1 HQ2
  generalize hg : w3.heap.size = g at *
  have HG0 := Lib.hid hg
  clear hg
  go_wp2_with fail
  go_loopw [15] (fun s15 wx => ∃ k : Nat, k ≤ zs.length ∧ s15 = .int .i64 k ∧ Below g w3 wx ∧ g < wx.heap.size ∧ wx.ownsRow g 3 1 (.slice (some ⟨g, 0, none⟩) zs.length zs.length) zs.length (fillC zs k)) (fun s15 _ => zs.length - (RowKit.intOf s15).toNat)
  case atStart => exact ⟨0, Nat.zero_le _, rfl, HB4.out, hg4, HO.out⟩
  case round =>
    obtain ⟨k, hk, rfl, hb, hgx, hown⟩ := hrel
    have HB := Lib.hid hb
    have HW := Lib.hid hown
    clear hb hown HO HB4
    by_cases hlt : k < zs.length
    · have hb' : Below w3.heap.size w3 wr := by rw [HG0.out]; exact HB.out
      obtain ⟨a, off, rfl, hc⟩ := (HR3.out.below hb').at_ hlt
      have HX := Lib.hid (fillC_next zs k hlt)
      have hat := fillC_at zs k hlt
      generalize zs[k] = z at *
      have HG := Lib.hid (fun V e => G.out _ HB.out V e z)
      have HOWN := Lib.hid (fun V V' (e : V.heap = wr.heap) (h : Below V.heap.size V V') =>
        (show V'.ownsRow g 3 1 (.slice (some ⟨g, 0, none⟩) zs.length zs.length) zs.length (fillC zs k) from Cl.ownsRow_below (w := V) (by
            have h0 := HW.out
            unfold World.ownsRow at h0 ⊢
            rw [e]
            exact h0) h))
      have HCELL := Lib.hid (fun V V' (e : V.heap = wr.heap) (h : Below V.heap.size V V') =>
        (show V'.cell? ⟨g, k, none⟩ = some (.int .i64 0) ∧ V'.frozen? ⟨g, k, none⟩ = false from
          have ho := HOWN.out V V' e h
          ⟨(ho.cellAt k (by omega)).trans hat, ho.frozenAt k⟩))
      clear hb' hat
      generalize slotsT z = v at *
      go_wp2_with fail
      go_region_with (go_at_call 36; refine (HG.out _ (by rfl)).mono ?_; rintro e w5 ⟨rfl, hb5⟩; obtain ⟨hcell, hfrz⟩ := HCELL.out _ _ (by rfl) hb5)
      all_goals go_wp2
      all_goals
        go_roundw
        case rel =>
          have hb6 : Below g w3 w5 := (below_heap HB.out (by rfl) (by rfl) (by rfl) (by rfl)).trans (hb5.mono (Nat.le_of_lt hgx))
          have ho := HOWN.out _ _ (by rfl) hb5
          refine ⟨k + 1, by omega, by go_num, hb6.setCell (by simp) _, ?_, ?_⟩
          · have := hb5.size
            simp at this ⊢
            omega
          · rw [← HX.out]
            exact (ho.stored k _).1
        case measure => simp [RowKit.intOf]; omega
    · obtain rfl : k = zs.length := by omega
      have HF := Lib.hid (fillC_all zs)
      go_wp2
      go_ret
      have h0 := HW.out
      rw [HF.out] at h0
      have hsz : w.heap.size ≤ g := by rw [← HG0.out]; exact G3.out.size
      exact ⟨g, rfl, Cl.ownsRow_mono h0 hsz, G3.out.trans (HB.out.mono hsz)⟩
end Go.Proofs.YtpfihikldeagnaaDoor.Co
