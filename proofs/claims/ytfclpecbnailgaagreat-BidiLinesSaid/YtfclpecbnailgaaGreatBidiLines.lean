/-
  Proved here: for every row of runes and of numbers and every number as the paragraph's level BidiLines returns true (the levels of at most 300 runes as a line are what the document's answer says), and the rows stay. No condition.
-/
import Derived.Test.YtfclpecbnailgaaGreatM24
import Derived.Test.YtfclpecbnailgaaGreatM26
import Derived.Test.YtfclpecbnailgaaGreatM25
set_option linter.unusedVariables false
namespace Go.Proofs.YtfclpecbnailgaaGreat.BidiLines
open Go Go.ChangeShapes Go.WideShapes Go.ChangeAt Go.RowKit Go.Lib Go.Proofs.YtfclpecbnailgaaGreat.Cl Go.Proofs.YtfclpecbnailgaaGreat.Rc Go.Proofs.YtfclpecbnailgaaGreat.Bi
open Go.Proofs.YtfclpecbnailgaaGreat.Ku (R3 RuAt cellsR cellsR_len cellsR_one ruAt_own infoR)
set_option maxHeartbeats 4000000 in
set_option maxRecDepth 100000 in
theorem walk_n (w : World) (A : Option Addr) (l : List R3) (c : Nat) (hr : RuAt w A l) (hnil : A = none → l = [] ∧ c = 0) (hlz : l.length ≤ 9223372036854775807) (B : Option Addr) (lv : List Int) (m cb : Nat) (hB : IntsAt w B lv) (hlm : lv.length = m) (x : Int) :
    Calls Tryz.prog 4 #[.slice A l.length c, .slice B m cb, .int .i64 x] w fun e w' => e = .returned (.bool true) ∧ Below w.heap.size w w' := by
  by_cases hbig : 300 < l.length
  · have d0 : decide ((300 : Int) < (l.length : Int)) = true := decide_eq_true (by omega)
    have e0 : decide (300 < l.length) = true := decide_eq_true hbig
    go_enter Tryz.func4, Tryz.ntmps4
    go_wp2_with (go_at_call 10; refine (awake_any _).mono ?_; rintro e w' ⟨rfl, hb⟩)
    go_ret
    exact ⟨rfl, hb⟩
  by_cases hbm : 300 < m
  · have d0 : decide ((300 : Int) < (l.length : Int)) = false := decide_eq_false (by omega)
    have e0 : decide (300 < l.length) = false := decide_eq_false hbig
    have d1 : decide ((300 : Int) < (m : Int)) = true := decide_eq_true (by omega)
    have e1 : decide (300 < m) = true := decide_eq_true hbm
    go_enter Tryz.func4, Tryz.ntmps4
    go_wp2_with (go_at_call 10; refine (awake_any _).mono ?_; rintro e w' ⟨rfl, hb⟩)
    go_ret
    exact ⟨rfl, hb⟩
  · obtain ⟨i0, hi, hz0, hz1, hz2⟩ := info_parts infoR
    have hmade : (w.alloc (.cells #[] 38)).ownsRow w.heap.size 38 3 (.slice (some ⟨w.heap.size, 0, none⟩) 0 0) 0 [] := World.ownsRow_made w #[] 0 (Nat.le_refl _) (Nat.zero_le _) rfl
    have hr1 := hr.below ((Below.refl w.heap.size w).alloc (Nat.le_refl _) (.cells #[] 38))
    have HM := Lib.hid hmade
    have HR1 := Lib.hid hr1
    have HR := Lib.hid hr
    have HA := Lib.hid (fun h => (by rw [(hnil h).1]; rfl : l.length = 0))
    have hcr := cellsR_len l
    clear hmade hr1 hnil hr
    obtain ⟨n, hn⟩ : ∃ n, l.length = n := ⟨_, rfl⟩
    rw [hn] at HA hbig hcr ⊢
    have d0 : decide ((300 : Int) < (n : Int)) = false := decide_eq_false (by omega)
    have e0 : decide (300 < n) = false := decide_eq_false hbig
    have d1 : decide ((300 : Int) < (m : Int)) = false := decide_eq_false (by omega)
    have e1 : decide (300 < m) = false := decide_eq_false hbm
    have HN := Lib.hid hn
    have HLM := Lib.hid hlm
    have HI := Lib.hid hB
    clear hn hB hlm
    go_enter Tryz.func4, Tryz.ntmps4
    go_wp2_with (at_builtin; refine wpList_append_src _ rfl _ _ 22 rfl w.heap.size 38 i0 (.agg #[.int .i64 0, .int .i64 0, .int .i64 0]) 3 24 Tryz.underlying22 hi hz0 hz1 hz2 rfl (by decide) _ _ _ rfl HM.out A n c (cellsR l) rfl hcr HA.out (fun ad had => (had ▸ HR1.out : RuAt _ (some ad) l).news) (cellsR_one _) (by unfold maxLen; omega) (by omega) (by simp) ?_)
    intro v' w2 hown' hgrow
    have hown2 : w2.ownsRow w.heap.size 38 3 v' l.length (cellsR l) := by
      rw [HN.out]
      simpa using hown'
    have hb2 : Below w.heap.size w w2 := ((Below.refl w.heap.size w).alloc (Nat.le_refl _) _).grown hgrow (by simp) (fun g hg => by simp [Value.ownBlock] at hg; omega)
    obtain ⟨A1, c1, rfl, hr'⟩ := ruAt_own hown2
    rw [HN.out]
    have HO2 := Lib.hid hr'
    have HC2 := Lib.hid (HR.out.below hb2)
    have HB2 := Lib.hid hb2
    clear hgrow hown' hown2 hr' hb2 HM HR HR1 HA hi hz0 hz1 hz2 hcr
    have HI2 := Lib.hid (HI.out.below HB2.out)
    have hdd := below_made w2 (.cells #[] 3)
    have HSRC := Lib.hid (HI2.out.below hdd)
    have HDD := Lib.hid hdd
    clear hdd
    go_wp2_with (at_builtin; refine wpList_add rfl _ _ rfl w2.heap.size _ 0 [] rfl (made_nil w2) B m cb lv rfl HSRC.out HLM.out (by omega) (by simp) ?_)
    intro v3 w3 hown hb
    try simp only [List.nil_append, Nat.zero_add] at hown
    obtain ⟨A3, c3, rfl, hat⟩ := intsAt_icl hown HLM.out
    have hb23 := HDD.out.trans hb
    have HB3 := Lib.hid (bt HB2.out hb23)
    have HO3 := Lib.hid (HO2.out.below hb23)
    have HC3 := Lib.hid (HC2.out.below hb23)
    have HP3 := Lib.hid hat
    have HQ3 := Lib.hid (HI2.out.below hb23)
    clear hown hb hb23 hat HDD HSRC HI2 HI HO2 HC2 HB2
    have HLA := Lib.hid (line_any A1 A3 l lv n m c1 c3 x w3 HO3.out HP3.out HN.out HLM.out (by omega))
    have HLB := Lib.hid (fun (V : World) (h : RuAt V A l) (h2 : IntsAt V B lv) => rline_any A B l lv n m c cb x V h h2 HN.out HLM.out (by omega))
    have HRS := Lib.hid (fun A B c d W ha hb => Ku.rsame_yes A B l n c d W HN.out ha hb (by omega))
    have HSL := Lib.hid (show (lineZ (clsR l) lv x).length ≤ 300 from by have h := lineZ_le (clsR l) lv x; rw [HLM.out] at h; omega)
    generalize lineZ (clsR l) lv x = S at *
    obtain ⟨q, hq⟩ : ∃ q, S.length = q := ⟨_, rfl⟩
    rw [hq] at HLA HLB HSL
    have HSM := Lib.hid hq
    have hq6 := HSL.out
    clear hq
    go_wp2_with fail
    refine HLA.out.mono ?_
    rintro e w4 ⟨A4, c4, rfl, hown, hb⟩
    have HOW4 := Lib.hid hown
    have HBB4 := Lib.hid hb
    have HB4 := Lib.hid (bt HB3.out hb)
    have HLB2 := Lib.hid (HLB.out w4 (HC3.out.below hb) (HQ3.out.below hb))
    clear hown hb HLA HLB
    go_wp2_with fail
    refine HLB2.out.mono ?_
    rintro e w5 ⟨A5, c5, rfl, hown, hb⟩
    have HOW5 := Lib.hid (ownsRow_below HOW4.out hb)
    have HBB5 := Lib.hid (bt HBB4.out hb)
    have HS := Lib.hid (same_n A4 A5 S q c4 c5 w5 HSM.out (own_reads HOW5.out HSM.out) (own_reads hown HSM.out) (by omega))
    clear hown hb HLB2 HOW4 HBB4
    go_wp2_with fail
    refine HS.out.mono ?_
    rintro e w6 ⟨rfl, hb⟩
    have HOW6 := Lib.hid (ownsRow_below HOW5.out hb)
    have HBB6 := Lib.hid (bt HBB5.out hb)
    clear hb HS HOW5 HBB5
    obtain ⟨w7, hcl, hgr⟩ := clear_ints HOW6.out
    have HBB7 := Lib.hid (HBB6.out.grown hgr HBB6.out.size (fun k hk => (HOW6.out.lt k hk).1))
    have HB7 := Lib.hid (bt HB3.out HBB7.out)
    have HRS2 := Lib.hid (HRS.out A1 A c1 c w7 (HO3.out.below HBB7.out) (HC3.out.below HBB7.out))
    clear hgr
    go_wp2_with fail
    refine HRS2.out.mono ?_
    rintro e w8 ⟨rfl, hb⟩
    have HBB8 := Lib.hid (bt HBB7.out hb)
    have HB8 := Lib.hid (bt HB3.out HBB8.out)
    have HS1 := Lib.hid (same_n A3 B lv m c3 cb w8 HLM.out (HP3.out.below HBB8.out) (HQ3.out.below HBB8.out) (by omega))
    clear hb HRS2 hcl
    go_wp2_with fail
    refine HS1.out.mono ?_
    rintro e w9 ⟨rfl, hb⟩
    have HBZ := Lib.hid (bt HB8.out hb)
    clear hb HS1
    go_wp2_with fail
    refine (awake_any _).mono ?_
    rintro e w99 ⟨rfl, hb⟩
    have HB99 := Lib.hid (HBZ.out.trans (hb.mono HBZ.out.size))
    clear hb
    go_wp2
    go_ret
    exact ⟨by first | rfl | simp, HB99.out⟩
theorem walk (w : World) (A : Option Addr) (l : List R3) (c : Nat) (hr : RuAt w A l) (hnil : A = none → l = [] ∧ c = 0) (hlz : l.length ≤ 9223372036854775807) (B : Option Addr) (lv : List Int) (cb : Nat) (hB : IntsAt w B lv) (_ : B = none → lv = [] ∧ cb = 0) (_ : lv.length ≤ 9223372036854775807) (_ : ∀ z ∈ lv, -9223372036854775808 ≤ z ∧ z ≤ 9223372036854775807) (x : Int) :
    Calls Tryz.prog 4 #[.slice A l.length c, .slice B lv.length cb, .int .i64 x] w fun e w' => e = .returned (.bool true) ∧ Below w.heap.size w w' :=
  walk_n w A l c hr hnil hlz B lv lv.length cb hB rfl x
set_option maxRecDepth 100000 in
theorem lifted (os : Os) (started : os.Started) (H : Type) (enc : TypeId × Value → H) :
    ReturnsInHanded {} Tryz.checked os 4 .any (Rows.bidiLinesSpec.pre6 enc Tryz.prog Tryz.f4 Rows.bidiLinesRow.domain false) (Rows.bidiLinesSpec.post enc Tryz.prog Tryz.f4 false true false false) := by
  refine returnsInHanded_of_change (C := Tryz.checked) law_own started (by kernel_rfl) Tryz.func4
    (ChangeSpec.witness6 (enc := enc) (C := Tryz.checked) false ⟨#[], #[.slice none 0 0, .slice none 0 0, .int .i64 0], []⟩ 8 (by kernel_rfl) (by kernel_rfl) (by kernel_rfl) (by kernel_rfl)) ?_
  intro W base args ds gs before hval0 hW _ _
  have hval : ∀ (j : Nat) t v, Tryz.f4.params[j]? = some t → args[j]? = some v → Value.okWide Tryz.prog W .any base t v := hval0
  have hW' := hW
  obtain ⟨p, q, hA0, hV, rfl, hfz, hnd⟩ := hW
  have hA : DataW.TrodAll enc Tryz.prog W 0 (fun _ => true) true Tryz.f4.params.toList args.toList ds p := hA0
  rw [Tryz.params4] at hA hval
  obtain ⟨v0, vs0, d0, ds0, p0, q0, hargs, rfl, rfl, h0, r0⟩ := ChangeShapes.trodAll_cons hA
  obtain ⟨v1, vs1, d1, ds1, p1, q1, rfl, rfl, rfl, h1, r1⟩ := ChangeShapes.trodAll_cons r0
  obtain ⟨v2, vs2, d2, ds2, p2, q2, rfl, rfl, rfl, h2, r2⟩ := ChangeShapes.trodAll_cons r1
  obtain ⟨rfl, rfl, rfl⟩ := ChangeShapes.trodAll_nil r2
  obtain rfl : args = #[v0, v1, v2] := by cases args; simp_all
  obtain ⟨rfl, rfl⟩ := ChangeShapes.trodVars_none hV
  obtain ⟨A0, l0, c0, rfl, hr0, hnil0, hc0, hl0, hz0⟩ := open_runes (hval 0 22 v0 rfl rfl) h0
  obtain ⟨A1, zs1, c1, rfl, hr1, hnil1, hl1, hz1⟩ := open_introw (hval 1 25 v1 rfl rfl) h1
  obtain ⟨x2, rfl, rfl, rfl, wx2⟩ := open_int Tryz.underlying3 (hval 2 3 v2 rfl rfl) h2
  refine (walk W A0 l0 c0 hr0 hnil0 hl0 A1 zs1 c1 hr1 hnil1 hl1 hz1 x2).mono fun e W' ⟨he, hB⟩ => ?_
  subst he
  exact ⟨_, rfl, law_post hW' rfl rfl (by kernel_rfl) rfl hB⟩
theorem holds : Rows.BidiLinesSaid :=
  OpenClaim.holds_of_wide 4 Tryz.f4 rfl rfl rfl rfl rfl rfl rfl ⟨rfl, rfl, rfl, rfl, rfl⟩ rfl rfl rfl rfl rfl (by kernel_rfl) Tryz.func4 (by kernel_rfl)
    (of_decide_eq_true (by kernel_rfl)) (by unfold Func.isWrapper; first | (rw [if_pos (by decide +kernel)]; kernel_rfl) | (rw [if_neg (by decide +kernel)]; exact ⟨rfl, rfl⟩))
    (fun os started H enc _ => lifted os started H enc)
end Go.Proofs.YtfclpecbnailgaaGreat.BidiLines
