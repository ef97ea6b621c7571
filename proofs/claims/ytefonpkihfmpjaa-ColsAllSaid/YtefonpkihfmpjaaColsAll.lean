/-
  Proved here: for every row of numbers ColsAll returns true (how many slots at most 300 numbers take, each, and together, is what the document says; they stay), and the row stays. No condition.
-/
import Derived.Test.YtefonpkihfmpjaaCoAwake
import Derived.Test.YtefonpkihfmpjaaLawInts
import Derived.Test.YtefonpkihfmpjaaAppSrc
import Derived.Test.YtefonpkihfmpjaaClearInts
import Derived.Deep.RegionHeld3
import Derived.Test.YtefonpkihfmpjaaLawKit
import Derived.Stop.Joined
set_option linter.unusedVariables false
namespace Go.Proofs.Ytefonpkihfmpjaa.ColsAll
open Go.ChangeShapes Go.WideShapes Go.ChangeAt Go.RowKit Go.Lib Go.Proofs.Ytefonpkihfmpjaa.Co
open Go.Proofs.Ytefonpkihfmpjaa.Cl (IntsAt)


open Go.Proofs.Ytefonpkihfmpjaa.Arr
theorem slots_at {w : World} {B g n : Nat} {zs : List Int} (h : w.ownsRow B 3 1 (.slice (some ⟨g, 0, none⟩) n n) n (slotsC zs)) (hn : n = zs.length) (k : Nat) (hk : k < zs.length) : w.cell? ⟨g, k, none⟩ = some (.int .i64 (slotsT zs[k])) := by
  rw [h.cellAt k (by omega)]
  unfold slotsC
  simp [hk]

set_option maxHeartbeats 2000000 in
set_option maxRecDepth 100000 in
theorem walk (w : World) (A : Option Addr) (zs : List Int) (c : Nat) (hr : IntsAt w A zs) (hnil : A = none → zs = [] ∧ c = 0) (hs0 : zs.length ≤ 9223372036854775807) (hz : ∀ z ∈ zs, -9223372036854775808 ≤ z ∧ z ≤ 9223372036854775807) :
    Calls Try.prog 4 #[.slice A zs.length c] w fun e w' => e = .returned (.bool true) ∧ Below w.heap.size w w' := by
  clear hz
  by_cases hbig : 300 < zs.length
  · go_enter Try.func4, Try.ntmps4
    go_wp2_with fail
    refine (awake_any _).mono ?_
    rintro e w3 ⟨rfl, hb3⟩
    go_wp2
    go_ret
    exact ⟨rfl, hb3⟩
  obtain ⟨i0, hi, hz0, hz1, hz2⟩ := Cl.info_parts Cl.infoInt
  have hmade : (w.alloc (.cells #[] 3)).ownsRow w.heap.size 3 1 (.slice (some ⟨w.heap.size, 0, none⟩) 0 0) 0 [] := World.ownsRow_made w #[] 0 (Nat.le_refl _) (Nat.zero_le _) rfl
  have hr1 := hr.below ((Below.refl w.heap.size w).alloc (Nat.le_refl _) (.cells #[] 3))
  have HM := Lib.hid hmade
  have HR := Lib.hid hr1
  have HA := Lib.hid (fun h => (hr.nil_len h))
  clear hmade hr1 hnil
  go_enter Try.func4, Try.ntmps4
  go_wp2_with (at_builtin; refine wpList_append_src _ rfl _ _ 25 rfl w.heap.size 3 i0 (.int .i64 0) 1 8 Try.underlying25 hi hz0 hz1 hz2 rfl (by decide) _ _ _ rfl HM.out A _ _ (zs.map (Value.int .i64)) rfl (by simp) HA.out (fun ad had => (had ▸ HR.out : IntsAt _ (some ad) zs).news) (Cl.ints_one _) ?c3 ?c4 ?c5 ?_)
  case c3 => unfold maxLen; omega
  case c4 => omega
  case c5 => simp
  intro v' w2 hown' hgrow
  have hown2 : w2.ownsRow w.heap.size 3 1 v' zs.length (zs.map (Value.int .i64)) := by simpa using hown'
  have hb2 : Below w.heap.size w w2 := ((Below.refl w.heap.size w).alloc (Nat.le_refl _) _).grown hgrow (by simp) (fun g hg => by simp [Value.ownBlock] at hg; omega)
  obtain ⟨A', c', rfl, hr'⟩ := Cl.intsAt_own hown2
  have hr2 := hr.below hb2
  have HRO := Lib.hid hr'
  have HRC := Lib.hid hr2
  have HBW := Lib.hid hb2
  clear hgrow hown' hown2 HM HR HA hi hz0 hz1 hz2
  go_wp2_with fail
  refine (all_any _ zs _ _ hr' (by omega)).mono ?_
  rintro e w3 ⟨g, rfl, hown3, hb3⟩
  have hr3 := hr2.below hb3
  have hr3' := hr'.below hb3
  go_wp2_with fail
  refine (sum_any _ zs _ _ hr3' (by omega)).mono ?_
  rintro e w4 ⟨rfl, hb4⟩
  have hr4 := hr3.below hb4
  have hr4' := hr3'.below hb4
  have hown4 := Cl.ownsRow_below hown3 hb4
  go_wp2_with fail
  refine (refSum_any _ zs _ _ hr4 (by omega)).mono ?_
  rintro e w5 ⟨rfl, hb5⟩
  have hR5 := Lib.hid (hr4.below hb5)
  have hR5' := Lib.hid (hr4'.below hb5)
  have hOWN := Lib.hid (Cl.ownsRow_below hown4 hb5)
  have hb35 := (hb3.trans (hb4.mono hb3.size)).trans (hb5.mono (Nat.le_trans hb3.size hb4.size))
  have hg5 : w2.heap.size ≤ g ∧ g < w5.heap.size := (hOWN.out.lt g rfl)
  have HB5 := Lib.hid (hb2.trans (hb35.mono hb2.size))
  have HB25 := Lib.hid hb35
  clear hr hr' hr2 hr3 hr3' hr4 hr4' hown3 hown4 hb2 hb3 hb4 hb5 hb35
  go_wp2_with fail
  go_loopw [5] (fun s5 wx => ∃ k : Nat, k ≤ zs.length ∧ s5 = .int .i64 k ∧ Below w5.heap.size w5 wx) (fun s5 _ => zs.length - (RowKit.intOf s5).toNat)
  case atStart => exact ⟨0, Nat.zero_le _, rfl, Below.refl _ _⟩
  case round =>
    obtain ⟨k, hk, rfl, hb⟩ := hrel
    by_cases hlt : k < zs.length
    · have hc0 := slots_at (Cl.ownsRow_below hOWN.out hb) rfl k hlt
      obtain ⟨b, off, rfl, hc1⟩ := (hR5.out.below hb).at_ hlt
      obtain ⟨b', off', rfl, hc2⟩ := (hR5'.out.below hb).at_ hlt
      have CR := Lib.hid (fun W => Cr.refOf_any zs[k] W)
      have HC := Lib.hid (fun V (h : Below wr.heap.size wr V) => (⟨(h.cell (World.block_lt_of_cell? wr _ hc0)).trans hc0, (h.cell (World.block_lt_of_cell? wr _ hc1)).trans hc1, (h.cell (World.block_lt_of_cell? wr _ hc2)).trans hc2, h⟩ : V.cell? ⟨g, k, none⟩ = _ ∧ V.cell? ⟨b, off + k, none⟩ = _ ∧ V.cell? ⟨b', off' + k, none⟩ = _ ∧ Below wr.heap.size wr V))
      have HB := Lib.hid hb
      clear hb hOWN hR5 hR5' HB25 hc0 hc1 hc2
      generalize slotsT zs[k] = v at *
      generalize zs[k] = z at *
      go_wp2_with fail
      go_region_held3 (fun V => V.cell? ⟨g, k, none⟩ = some (.int .i64 v) ∧ V.cell? ⟨b, off + k, none⟩ = some (.int .i64 z) ∧ V.cell? ⟨b', off' + k, none⟩ = some (.int .i64 z) ∧ Below wr.heap.size wr V) (first | exact HC.out _ (Below.refl _ _) | exact HC.out _ (below_drew (Below.refl _ _)) | exact HC.out _ (by assumption))
        (first | (go_at_call 8; refine (CR.out _).mono ?_; rintro e w7 ⟨rfl, hb7⟩; have hbx : Below wr.heap.size wr w7 := (below_drew (Below.refl _ _)).trans hb7))
      all_goals go_wp2
      all_goals go_roundw
      case rel => exact ⟨k + 1, by omega, by go_num, HB.out.trans (hbx.mono HB.out.size)⟩
      case measure => simp [RowKit.intOf]; omega
    · obtain rfl : k = zs.length := by omega
      obtain ⟨w6, hcl, hgr⟩ := clear_ints (Cl.ownsRow_below hOWN.out hb)
      have hb2x : Below w2.heap.size w2 wr := HB25.out.trans (hb.mono HB25.out.size)
      have hb26 : Below w2.heap.size w2 w6 := hb2x.grown hgr hb2x.size (fun q hq => by simp [Value.ownBlock] at hq; omega)
      have hR6 := Lib.hid (HRC.out.below hb26)
      have hR6' := Lib.hid (HRO.out.below hb26)
      have HB26 := Lib.hid hb26
      clear hb hb2x hgr hb26 hOWN hR5 hR5' HB25
      go_wp2_with fail
      refine (sum_any _ zs _ _ hR6'.out (by omega)).mono ?_
      rintro e w7 ⟨rfl, hb7⟩
      have hR7 := Lib.hid (hR6.out.below hb7)
      clear hcl
      go_wp2_with fail
      refine (refSum_any _ zs _ _ hR7.out (by omega)).mono ?_
      rintro e w8 ⟨rfl, hb8⟩
      go_wp2_with fail
      refine (awake_any _).mono ?_
      rintro e w9 ⟨rfl, hb9⟩
      go_wp2
      go_ret
      have h0 := HBW.out.trans (HB26.out.mono HBW.out.size)
      have h1 := h0.trans (hb7.mono h0.size)
      have h2 := h1.trans (hb8.mono h1.size)
      exact ⟨rfl, h2.trans (hb9.mono h2.size)⟩

set_option maxRecDepth 100000 in
theorem lifted (os : Os) (started : os.Started) (H : Type) (enc : TypeId × Value → H) :
    ReturnsInHanded {} Try.checked os 4 .any (Rows.colsAllSpec.pre6 enc Try.prog Try.f4 Rows.colsAllRow.domain false) (Rows.colsAllSpec.post enc Try.prog Try.f4 false true false false) := by
  refine returnsInHanded_of_change (C := Try.checked) law_own started (by kernel_rfl) Try.func4
    (ChangeSpec.witness6 (enc := enc) (C := Try.checked) false ⟨#[], #[.slice none 0 0], []⟩ 8 (by kernel_rfl) (by kernel_rfl) (by kernel_rfl) (by kernel_rfl)) ?_
  intro W base args ds gs before hval0 hW _ _
  have hval : ∀ (j : Nat) t v, Try.f4.params[j]? = some t → args[j]? = some v → Value.okWide Try.prog W .any base t v := hval0
  have hW' := hW
  obtain ⟨p, q, hA0, hV, rfl, hfz, hnd⟩ := hW
  have hA : DataW.TrodAll enc Try.prog W 0 (fun _ => true) true Try.f4.params.toList args.toList ds p := hA0
  rw [Try.params4] at hA hval
  obtain ⟨v0, vs0, d0, ds0, p0, q0, hargs, rfl, rfl, h0, r0⟩ := ChangeShapes.trodAll_cons hA
  obtain ⟨rfl, rfl, rfl⟩ := ChangeShapes.trodAll_nil r0
  obtain rfl : args = #[v0] := by cases args; simp_all
  obtain ⟨rfl, rfl⟩ := ChangeShapes.trodVars_none hV
  obtain ⟨A0, zs0, c0, rfl, hr0, hnil0, hl0, hz0⟩ := open_introw (hval 0 25 v0 rfl rfl) h0
  refine (walk W A0 zs0 c0 hr0 hnil0 hl0 hz0).mono fun e W' ⟨he, hB⟩ => ?_
  subst he
  exact ⟨_, rfl, law_post hW' rfl rfl (by kernel_rfl) rfl hB⟩

theorem holds : Rows.ColsAllSaid :=
  OpenClaim.holds_of_wide 4 Try.f4 rfl rfl rfl rfl rfl rfl rfl ⟨rfl, rfl, rfl, rfl, rfl⟩ rfl rfl rfl rfl rfl (by kernel_rfl) Try.func4 (by kernel_rfl)
    (of_decide_eq_true (by kernel_rfl)) (by unfold Func.isWrapper; first | (rw [if_pos (by decide +kernel)]; kernel_rfl) | (rw [if_neg (by decide +kernel)]; exact ⟨rfl, rfl⟩))
    (fun os started H enc _ => lifted os started H enc)
end Go.Proofs.Ytefonpkihfmpjaa.ColsAll
