/-
  Proved here: for all clusters and every number, ClusterFind returns true (in which of at most 200 clusters any byte is), and they stay. Conditions: the package variable that the row lists holds what the program's text lays (the card ties it).
-/
import Derived.Test.YtpfihikldeagnaaDoorKuLaid
import Derived.Test.YtpfihikldeagnaaDoorKrFind
import Derived.Test.YtpfihikldeagnaaDoorTie
import Derived.Test.YtpfihikldeagnaaDoorCards
set_option linter.unusedVariables false
namespace Go.Proofs.YtpfihikldeagnaaDoor.ClusterFind
open Go.ChangeShapes Go.WideShapes Go.ChangeAt Go.RowKit Go.Lib Go.Proofs.YtpfihikldeagnaaDoor.Ku Go.Proofs.YtpfihikldeagnaaDoor.Arr

theorem ok_wf {p : Int} (h : (Lit.int .i64 p).wf = true) : okN p := by
  have h1 : IntKind.i64.min = -9223372036854775808 := rfl
  have h2 : IntKind.i64.max = 9223372036854775807 := rfl
  simp only [Lit.wf, Bool.and_eq_true, decide_eq_true_eq] at h
  unfold okN
  omega

set_option maxHeartbeats 2000000 in
set_option maxRecDepth 100000 in
theorem walk (w : World) (hH : Held w) (A : Option Addr) (l : List C6) (c : Nat) (hr : CuAt w A l) (hnil : A = none → l = [] ∧ c = 0) (hc : l.length ≤ c) (hz : ∀ q ∈ l, okN q.a ∧ okN q.z ∧ okN q.f ∧ okN q.t ∧ okN q.w ∧ okN q.c) (p : Int) (wp : (Lit.int .i64 p).wf = true) :
    Calls Tryd.prog 5 #[.slice A l.length c, .int .i64 p] w fun e w' => e = .returned (.bool true) ∧ Below w.heap.size w w' := by
  have HH := Lib.hid hH
  have hp := ok_wf wp
  have HOK := Lib.hid (show ∀ x ∈ l, okN x.a ∧ okN x.z from fun x hx => ⟨(hz x hx).1, (hz x hx).2.1⟩)
  have HR := Lib.hid hr
  clear hH hr hnil hc hz wp
  by_cases hbig : 200 < l.length
  · clear HOK
    go_enter Tryd.func5, Tryd.ntmps5
    go_wp2_with (go_at_call 8; refine (awake_any _ HH.out).mono ?_; rintro e w' ⟨rfl, hb⟩)
    go_ret
    exact ⟨rfl, hb⟩
  · have HF := Lib.hid (fun W h => find_any A l c p W h (by omega) HOK.out hp)
    have HG := Lib.hid (fun W h => rfind_any A l c p W h (by omega) HOK.out hp)
    have hm1 : max (-1 : Int) 0 = 0 := by decide
    clear hp
    generalize findN l p = y at *
    by_cases hy : y < l.length
    · have hd : decide (y < l.length) = true := decide_eq_true hy
      rw [if_pos hy, hd] at HF
      rw [if_pos hy] at HG
      have hm2 : max (y : Int) 0 = y := by omega
      have hd2 : decide ((0 : Int) ≤ (y : Int)) = true := decide_eq_true (by omega)
      clear hd hy
      go_enter Tryd.func5, Tryd.ntmps5
      go_wp2_with fail
      refine (HF.out _ HR.out).mono ?_
      rintro e w1 ⟨rfl, hb1⟩
      have HR1 := Lib.hid (HR.out.below hb1)
      have HB1 := Lib.hid hb1
      clear hb1
      go_wp2_with fail
      refine (HG.out _ HR1.out).mono ?_
      rintro e w2 ⟨rfl, hb2⟩
      have HB2 := Lib.hid (HB1.out.trans (hb2.mono HB1.out.size))
      clear hb2
      go_wp2_with fail
      refine (awake_any _ (HH.out.below HB2.out)).mono ?_
      rintro e w3 ⟨rfl, hb3⟩
      go_wp2
      go_ret
      exact ⟨rfl, HB2.out.trans (hb3.mono HB2.out.size)⟩
    · have hd : decide (y < l.length) = false := decide_eq_false hy
      rw [if_neg hy, hd] at HF
      rw [if_neg hy] at HG
      clear hd hy
      go_enter Tryd.func5, Tryd.ntmps5
      go_wp2_with fail
      refine (HF.out _ HR.out).mono ?_
      rintro e w1 ⟨rfl, hb1⟩
      have HR1 := Lib.hid (HR.out.below hb1)
      have HB1 := Lib.hid hb1
      clear hb1
      go_wp2_with fail
      refine (HG.out _ HR1.out).mono ?_
      rintro e w2 ⟨rfl, hb2⟩
      have HB2 := Lib.hid (HB1.out.trans (hb2.mono HB1.out.size))
      clear hb2
      go_wp2_with fail
      refine (awake_any _ (HH.out.below HB2.out)).mono ?_
      rintro e w3 ⟨rfl, hb3⟩
      go_wp2
      go_ret
      exact ⟨rfl, HB2.out.trans (hb3.mono HB2.out.size)⟩

set_option maxRecDepth 100000 in
theorem lifted (os : Os) (started : os.Started) (H : Type) (enc : TypeId × Value → H) :
    ReturnsInHanded {} Tryd.checked os 5 .any (fun w args => (Rows.clusterFindSpec.pre enc Tryd.prog Tryd.f5 [] false w args ∧ laidMetH Tryd.prog laidL w) ∧ sizedMet enc Tryd.prog Tryd.f5 (OpenSpec.ofChange Rows.clusterFindSpec) false w args) (Rows.clusterFindSpec.post enc Tryd.prog Tryd.f5 false true false false) := by
  refine returns_laid started (by kernel_rfl) Tryd.func5 #[.slice none 0 0, .int .i64 0] (by kernel_rfl) (World.shaped_of_ZipB (by kernel_rfl) (by kernel_rfl)) (by rw [MakeChecks.laidMetH_plain _ _ _ (by kernel_rfl)]; exact laidMet_laidAll _ (by kernel_rfl) (by kernel_rfl)) (by kernel_rfl) (by kernel_rfl) rfl rfl (by kernel_rfl) ?_ ?_
  · intro ds hds
    rw [show Tryd.f5.params.toList.length = 2 from by kernel_rfl] at hds
    match ds, hds with
    | [d0, d1], _ => rfl
  intro W base args ds p hval hA hH
  rw [Tryd.params5] at hA hval
  obtain ⟨v0, vs0, d0, ds0, p0, q0, hargs, rfl, rfl, h0, r0⟩ := ChangeShapes.trodAll_cons hA
  obtain ⟨v1, vs1, d1, ds1, p1, q1, rfl, rfl, rfl, h1, r1⟩ := ChangeShapes.trodAll_cons r0
  obtain ⟨rfl, rfl, rfl⟩ := ChangeShapes.trodAll_nil r1
  obtain rfl : args = #[v0, v1] := by cases args; simp_all
  obtain ⟨A0, l0, c0, rfl, hr0, hnil0, hc0, hl0, hz0⟩ := open_clusters (hval 0 24 v0 rfl rfl) h0
  obtain ⟨x1, rfl, rfl, rfl, wx1⟩ := open_int Tryd.underlying3 (hval 1 3 v1 rfl rfl) h1
  exact walk W hH A0 l0 c0 hr0 hnil0 hc0 hz0 x1 wx1

theorem holds : Rows.ClusterFindSaid :=
  OpenClaim.holds_of_wide 5 Tryd.f5 rfl rfl rfl rfl rfl rfl rfl ⟨rfl, rfl, rfl, rfl, rfl⟩ rfl rfl rfl rfl rfl (by kernel_rfl) Tryd.func5 (by kernel_rfl)
    (of_decide_eq_true (by kernel_rfl)) (by unfold Func.isWrapper; first | (rw [if_pos (by decide +kernel)]; kernel_rfl) | (rw [if_neg (by decide +kernel)]; exact ⟨rfl, rfl⟩))
    (fun os started H enc _ => lifted os started H enc)

theorem card : Rows.ClusterFindCardSaid :=
  Claim7.holds_tied_plain_at .later [] [.data] true (true, "6266be65454116c20761097c10453cce90d7e1924b2052746f8030f8566e73d3") false
    holds (fun _ h => by cases h) (by kernel_rfl) (fun _ h => by cases h) clusterFind_row_tie rfl ⟨rfl, rfl⟩ (by kernel_rfl) rfl
    (fun f fn hf hfn => by
      obtain rfl : f = 5 := Option.some.inj ((show Tryd.prog.funcNamed "parquetry/parquetrylaw06.ClusterFind" = some 5 by kernel_rfl).symm.trans hf) |>.symm
      obtain rfl : fn = Tryd.f5 := (Option.some.inj (Tryd.func5.symm.trans hfn)).symm
      exact ⟨by kernel_rfl, fun j t ht => by
        rw [Tryd.params5] at ht
        have hm : t ∈ [24, 3] := by simpa using Array.mem_of_getElem? ht
        have hall : ([24, 3].all fun u => !Tryd.prog.wantsStandIn u) = true := by kernel_rfl
        exact (show Tryd.prog.wantsStandIn t = false by simpa using List.all_eq_true.1 hall t hm)⟩)
    (by kernel_rfl)
end Go.Proofs.YtpfihikldeagnaaDoor.ClusterFind
