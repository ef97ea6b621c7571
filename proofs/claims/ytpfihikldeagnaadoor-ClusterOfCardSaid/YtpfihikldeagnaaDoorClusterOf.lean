/-
  Proved here: for all runes, ClusterOf returns true (the clusters of at most 200 runes are the document's; they stay), and they stay. Conditions: the package variable that the row lists holds what the program's text lays (the card ties it).
-/
import Derived.Test.YtpfihikldeagnaaDoorKuLaid
import Derived.Test.YtpfihikldeagnaaDoorKrOf
import Derived.Test.YtpfihikldeagnaaDoorKrSame
import Derived.Test.YtpfihikldeagnaaDoorAppSrc
import Derived.Test.YtpfihikldeagnaaDoorTie
import Derived.Test.YtpfihikldeagnaaDoorCards
set_option linter.unusedVariables false
namespace Go.Proofs.YtpfihikldeagnaaDoor.ClusterOf
open Go.ChangeShapes Go.WideShapes Go.ChangeAt Go.RowKit Go.Lib Go.Proofs.YtpfihikldeagnaaDoor.Ku Go.Proofs.YtpfihikldeagnaaDoor.Arr

set_option maxHeartbeats 2000000 in
set_option maxRecDepth 100000 in
theorem walk (w : World) (hH : Held w) (A : Option Addr) (l : List R3) (c : Nat) (hr : RuAt w A l) (hnil : A = none → l = [] ∧ c = 0) (hc : l.length ≤ c) (hz : ∀ q ∈ l, okN q.1 ∧ okN q.2.1 ∧ okN q.2.2) :
    Calls Tryd.prog 3 #[.slice A l.length c] w fun e w' => e = .returned (.bool true) ∧ Below w.heap.size w w' := by
  have HH := Lib.hid hH
  clear hH hz hc
  by_cases hbig : 200 < l.length
  · clear hr hnil
    go_enter Tryd.func3, Tryd.ntmps3
    go_wp2_with (go_at_call 8; refine (awake_any _ HH.out).mono ?_; rintro e w' ⟨rfl, hb⟩)
    go_ret
    exact ⟨rfl, hb⟩
  · obtain ⟨i0, hi, hz0, hz1, hz2⟩ := Cl.info_parts infoR
    have HOF := Lib.hid (fun A c W h h2 => of_any A l c W h h2 (by omega))
    have HRO := Lib.hid (fun A c W h => rof_any A l c W h (by omega))
    have HRS := Lib.hid (fun A B c d W ha hb => rsame_yes A B l l.length c d W rfl ha hb (by omega))
    have hXl := ofC_len l
    generalize hX : ofC l = X at *
    have HSA := Lib.hid (fun A B c d W ha hb => csame_yes A B X X.length c d W rfl ha hb (by omega))
    have HWI := Lib.hid (fun A c W hR => cwide_any A X X.length c W rfl hR (by omega))
    generalize wideS X = W0 at *
    clear hX
    have hmade : (w.alloc (.cells #[] 40)).ownsRow w.heap.size 40 3 (.slice (some ⟨w.heap.size, 0, none⟩) 0 0) 0 [] := World.ownsRow_made w #[] 0 (Nat.le_refl _) (Nat.zero_le _) rfl
    have hr1 := hr.below ((Below.refl w.heap.size w).alloc (Nat.le_refl _) (.cells #[] 40))
    have HM := Lib.hid hmade
    have HR := Lib.hid hr1
    have HR0 := Lib.hid hr
    have HA := Lib.hid (fun h => (by rw [(hnil h).1]; rfl : l.length = 0))
    have hcr := cellsR_len l
    clear hmade hr1 hnil hr
    go_enter Tryd.func3, Tryd.ntmps3
    go_wp2_with (at_builtin; refine wpList_append_src _ rfl _ _ 22 rfl w.heap.size 40 i0 (.agg #[.int .i64 0, .int .i64 0, .int .i64 0]) 3 24 Tryd.underlying22 hi hz0 hz1 hz2 rfl (by decide) _ _ _ rfl HM.out A _ _ (cellsR l) rfl hcr HA.out (fun ad had => (had ▸ HR.out : RuAt _ (some ad) l).news) (cellsR_one _) ?c3 ?c4 ?c5 ?_)
    case c3 => unfold maxLen; omega
    case c4 => omega
    case c5 => simp
    intro v' w2 hown' hgrow
    have hown2 : w2.ownsRow w.heap.size 40 3 v' l.length (cellsR l) := by simpa using hown'
    have hb2 : Below w.heap.size w w2 := ((Below.refl w.heap.size w).alloc (Nat.le_refl _) _).grown hgrow (by simp) (fun g hg => by simp [Value.ownBlock] at hg; omega)
    obtain ⟨A', c', rfl, hr'⟩ := ruAt_own hown2
    have HO2 := Lib.hid hr'
    have HC2 := Lib.hid (HR0.out.below hb2)
    have HH2 := Lib.hid (HH.out.below hb2)
    have HB2 := Lib.hid hb2
    clear hgrow hown' hown2 hr' hb2 HM HR HA hi hz0 hz1 hz2 hcr
    go_wp2_with fail
    refine (HOF.out _ _ _ HO2.out HH2.out).mono ?_
    rintro e w3 ⟨v, rfl, hown, hb3⟩
    obtain ⟨B1, d1, rfl, hC1⟩ := cuAt_own hown
    have HX3 := Lib.hid hC1
    have HO3 := Lib.hid (HO2.out.below hb3)
    have HC3 := Lib.hid (HC2.out.below hb3)
    have HB3 := Lib.hid (HB2.out.trans (hb3.mono HB2.out.size))
    clear hown hC1 hb3 HO2 HC2 HB2 HH2
    go_wp2_with fail
    refine (HRO.out _ _ _ HC3.out).mono ?_
    rintro e w4 ⟨v, rfl, hown, hb4⟩
    obtain ⟨B2, d2, rfl, hC2⟩ := cuAt_own hown
    have HY4 := Lib.hid hC2
    have HX4 := Lib.hid (HX3.out.below hb4)
    have HO4 := Lib.hid (HO3.out.below hb4)
    have HC4 := Lib.hid (HC3.out.below hb4)
    have HB4 := Lib.hid (HB3.out.trans (hb4.mono HB3.out.size))
    clear hown hC2 hb4 HX3 HO3 HC3 HB3
    go_wp2_with fail
    refine (HSA.out _ _ _ _ _ HX4.out HY4.out).mono ?_
    rintro e w5 ⟨rfl, hb5⟩
    have HX5 := Lib.hid (HX4.out.below hb5)
    have HO5 := Lib.hid (HO4.out.below hb5)
    have HC5 := Lib.hid (HC4.out.below hb5)
    have HB5 := Lib.hid (HB4.out.trans (hb5.mono HB4.out.size))
    clear hb5 HX4 HY4 HO4 HC4 HB4
    go_wp2_with fail
    refine (HRS.out _ _ _ _ _ HO5.out HC5.out).mono ?_
    rintro e w6 ⟨rfl, hb6⟩
    have HX6 := Lib.hid (HX5.out.below hb6)
    have HC6 := Lib.hid (HC5.out.below hb6)
    have HB6 := Lib.hid (HB5.out.trans (hb6.mono HB5.out.size))
    clear hb6 HX5 HO5 HC5 HB5
    go_wp2_with fail
    refine (HWI.out _ _ _ HX6.out).mono ?_
    rintro e w7 ⟨rfl, hb7⟩
    have HC7 := Lib.hid (HC6.out.below hb7)
    have HB7 := Lib.hid (HB6.out.trans (hb7.mono HB6.out.size))
    clear hb7 HX6 HC6 HB6
    go_wp2_with fail
    refine (HRO.out _ _ _ HC7.out).mono ?_
    rintro e w8 ⟨v, rfl, hown, hb8⟩
    obtain ⟨B3, d3, rfl, hC3⟩ := cuAt_own hown
    have HY8 := Lib.hid hC3
    have HB8 := Lib.hid (HB7.out.trans (hb8.mono HB7.out.size))
    clear hown hC3 hb8 HC7 HB7
    go_wp2_with fail
    refine (HWI.out _ _ _ HY8.out).mono ?_
    rintro e w9 ⟨rfl, hb9⟩
    have HB9 := Lib.hid (HB8.out.trans (hb9.mono HB8.out.size))
    clear hb9 HY8 HB8
    go_wp2_with fail
    refine (awake_any _ (HH.out.below HB9.out)).mono ?_
    rintro e wa ⟨rfl, hba⟩
    go_wp2
    go_ret
    exact ⟨rfl, HB9.out.trans (hba.mono HB9.out.size)⟩

set_option maxRecDepth 100000 in
theorem lifted (os : Os) (started : os.Started) (H : Type) (enc : TypeId × Value → H) :
    ReturnsInHanded {} Tryd.checked os 3 .any (fun w args => (Rows.clusterOfSpec.pre enc Tryd.prog Tryd.f3 [] false w args ∧ laidMetH Tryd.prog laidL w) ∧ sizedMet enc Tryd.prog Tryd.f3 (OpenSpec.ofChange Rows.clusterOfSpec) false w args) (Rows.clusterOfSpec.post enc Tryd.prog Tryd.f3 false true false false) := by
  refine returns_laid started (by kernel_rfl) Tryd.func3 #[.slice none 0 0] (by kernel_rfl) (World.shaped_of_ZipB (by kernel_rfl) (by kernel_rfl)) (by rw [MakeChecks.laidMetH_plain _ _ _ (by kernel_rfl)]; exact laidMet_laidAll _ (by kernel_rfl) (by kernel_rfl)) (by kernel_rfl) (by kernel_rfl) rfl rfl (by kernel_rfl) ?_ ?_
  · intro ds hds
    rw [show Tryd.f3.params.toList.length = 1 from by kernel_rfl] at hds
    match ds, hds with
    | [d0], _ => rfl
  intro W base args ds p hval hA hH
  rw [Tryd.params3] at hA hval
  obtain ⟨v0, vs0, d0, ds0, p0, q0, hargs, rfl, rfl, h0, r0⟩ := ChangeShapes.trodAll_cons hA
  obtain ⟨rfl, rfl, rfl⟩ := ChangeShapes.trodAll_nil r0
  obtain rfl : args = #[v0] := by cases args; simp_all
  obtain ⟨A0, l0, c0, rfl, hr0, hnil0, hc0, hl0, hz0⟩ := open_runes (hval 0 22 v0 rfl rfl) h0
  exact walk W hH A0 l0 c0 hr0 hnil0 hc0 hz0

theorem holds : Rows.ClusterOfSaid :=
  OpenClaim.holds_of_wide 3 Tryd.f3 rfl rfl rfl rfl rfl rfl rfl ⟨rfl, rfl, rfl, rfl, rfl⟩ rfl rfl rfl rfl rfl (by kernel_rfl) Tryd.func3 (by kernel_rfl)
    (of_decide_eq_true (by kernel_rfl)) (by unfold Func.isWrapper; first | (rw [if_pos (by decide +kernel)]; kernel_rfl) | (rw [if_neg (by decide +kernel)]; exact ⟨rfl, rfl⟩))
    (fun os started H enc _ => lifted os started H enc)

theorem card : Rows.ClusterOfCardSaid :=
  Claim7.holds_tied_plain_at .later [] [.data] true (true, "6266be65454116c20761097c10453cce90d7e1924b2052746f8030f8566e73d3") false
    holds (fun _ h => by cases h) (by kernel_rfl) (fun _ h => by cases h) clusterOf_row_tie rfl ⟨rfl, rfl⟩ (by kernel_rfl) rfl
    (fun f fn hf hfn => by
      obtain rfl : f = 3 := Option.some.inj ((show Tryd.prog.funcNamed "parquetry/parquetrylaw06.ClusterOf" = some 3 by kernel_rfl).symm.trans hf) |>.symm
      obtain rfl : fn = Tryd.f3 := (Option.some.inj (Tryd.func3.symm.trans hfn)).symm
      exact ⟨by kernel_rfl, fun j t ht => by
        rw [Tryd.params3] at ht
        have hm : t ∈ [22] := by simpa using Array.mem_of_getElem? ht
        have hall : ([22].all fun u => !Tryd.prog.wantsStandIn u) = true := by kernel_rfl
        exact (show Tryd.prog.wantsStandIn t = false by simpa using List.all_eq_true.1 hall t hm)⟩)
    (by kernel_rfl)
end Go.Proofs.YtpfihikldeagnaaDoor.ClusterOf
