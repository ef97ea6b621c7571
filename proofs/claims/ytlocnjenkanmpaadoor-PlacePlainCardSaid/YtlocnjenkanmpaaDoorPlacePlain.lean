/-
  Proved here: parquetrylaw19.PlacePlain, as its row states it.
-/
import Derived.Lay
import Derived.Test.YtlocnjenkanmpaaDoorM33
import Derived.Test.YtlocnjenkanmpaaDoorM29
import Derived.Test.YtlocnjenkanmpaaDoorM30
import Derived.Test.YtlocnjenkanmpaaDoorTie
import Derived.Test.YtlocnjenkanmpaaDoorCards
set_option linter.unusedVariables false
namespace Go.Proofs.YtlocnjenkanmpaaDoor.PlacePlain
open Go Go.ChangeShapes Go.WideShapes Go.ChangeAt Go.RowKit Go.Lib Go.Proofs.YtlocnjenkanmpaaDoor.Ku Go.Proofs.YtlocnjenkanmpaaDoor.Pl
theorem u8_wf {n : Int} (h : (Lit.int .u8 n).wf = true) : 0 ≤ n ∧ n ≤ 255 := by
  have e1 : IntKind.u8.min = 0 := by decide
  have e2 : IntKind.u8.max = 255 := by decide
  simp only [Lit.wf, Bool.and_eq_true, decide_eq_true_eq, e1, e2] at h
  exact h
theorem walk (w : World) (hH : Ku.Held w) (A : Option Addr) (l : List R3) (c : Nat) (hr : RuAt w A l) (hnil : A = none → l = [] ∧ c = 0) (hc : l.length ≤ c) (f : Int) (wf : (Lit.int .u8 f).wf = true) (s : Int) (ws : (Lit.int .u8 s).wf = true) (t : Int) (wt : (Lit.int .u8 t).wf = true) (W : Int) :
    Calls Tryd.prog 6 #[.slice A l.length c, .int .u8 f, .int .u8 s, .int .u8 t, .int .i64 W] w fun e w' => e = .returned (.bool true) ∧ Below w.heap.size w w' :=
  plain_law place_ok of_ok (fun _ _ h hb => h.below hb) A l l.length c f s t W w hH hr rfl hc hnil (u8_wf wf) (u8_wf ws) (u8_wf wt)
set_option maxRecDepth 100000 in
theorem lifted (os : Os) (started : os.Started) (H : Type) (enc : TypeId × Value → H) :
    ReturnsInHanded {} Tryd.checked os 6 .any (fun w args => (Rows.placePlainSpec.pre enc Tryd.prog Tryd.f6 [] false w args ∧ laidMetH Tryd.prog laidL w) ∧ sizedMet enc Tryd.prog Tryd.f6 (OpenSpec.ofChange Rows.placePlainSpec) false w args) (Rows.placePlainSpec.post enc Tryd.prog Tryd.f6 false true false false) := by
  refine returns_laid started (by kernel_rfl) Tryd.func6 #[.slice none 0 0, .int .u8 0, .int .u8 0, .int .u8 0, .int .i64 0] (by kernel_rfl) (World.shaped_of_ZipB (by kernel_rfl) (by kernel_rfl)) (by rw [MakeChecks.laidMetH_plain _ _ _ (by kernel_rfl)]; exact laidMet_laidAll _ (by kernel_rfl) (by kernel_rfl)) (by kernel_rfl) (by kernel_rfl) rfl rfl (by kernel_rfl) ?_ ?_
  · intro ds hds
    rw [show Tryd.f6.params.toList.length = 5 from by kernel_rfl] at hds
    match ds, hds with
    | [d0, d1, d2, d3, d4], _ => rfl
  intro W base args ds p hval hA hH
  rw [Tryd.params6] at hA hval
  obtain ⟨v0, vs0, d0, ds0, p0, q0, hargs, rfl, rfl, h0, r0⟩ := ChangeShapes.trodAll_cons hA
  obtain ⟨v1, vs1, d1, ds1, p1, q1, rfl, rfl, rfl, h1, r1⟩ := ChangeShapes.trodAll_cons r0
  obtain ⟨v2, vs2, d2, ds2, p2, q2, rfl, rfl, rfl, h2, r2⟩ := ChangeShapes.trodAll_cons r1
  obtain ⟨v3, vs3, d3, ds3, p3, q3, rfl, rfl, rfl, h3, r3⟩ := ChangeShapes.trodAll_cons r2
  obtain ⟨v4, vs4, d4, ds4, p4, q4, rfl, rfl, rfl, h4, r4⟩ := ChangeShapes.trodAll_cons r3
  obtain ⟨rfl, rfl, rfl⟩ := ChangeShapes.trodAll_nil r4
  obtain rfl : args = #[v0, v1, v2, v3, v4] := by cases args; simp_all
  obtain ⟨A0, l0, c0, rfl, hr0, hnil0, hc0, hl0, hz0⟩ := open_runes (hval 0 22 v0 rfl rfl) h0
  obtain ⟨x1, rfl, rfl, rfl, wx1⟩ := open_int Tryd.underlying5 (hval 1 5 v1 rfl rfl) h1
  obtain ⟨x2, rfl, rfl, rfl, wx2⟩ := open_int Tryd.underlying5 (hval 2 5 v2 rfl rfl) h2
  obtain ⟨x3, rfl, rfl, rfl, wx3⟩ := open_int Tryd.underlying5 (hval 3 5 v3 rfl rfl) h3
  obtain ⟨x4, rfl, rfl, rfl, wx4⟩ := open_int Tryd.underlying3 (hval 4 3 v4 rfl rfl) h4
  exact walk W hH A0 l0 c0 hr0 hnil0 hc0 x1 wx1 x2 wx2 x3 wx3 x4
theorem holds : Rows.PlacePlainSaid :=
  OpenClaim.holds_of_wide 6 Tryd.f6 rfl rfl rfl rfl rfl rfl rfl ⟨rfl, rfl, rfl, rfl, rfl⟩ rfl rfl rfl rfl rfl (by kernel_rfl) Tryd.func6 (by kernel_rfl)
    (of_decide_eq_true (by kernel_rfl)) (by unfold Func.isWrapper; first | (rw [if_pos (by decide +kernel)]; kernel_rfl) | (rw [if_neg (by decide +kernel)]; exact ⟨rfl, rfl⟩))
    (fun os started H enc _ => lifted os started H enc)
theorem card : Rows.PlacePlainCardSaid :=
  Claim7.holds_tied_plain_at .later [] [.data] true (true, "15f2f917b7162d6546a3c1fdf4bbff9482936b5ceb45a052df0047ed9c78612d") false
    holds (fun _ h => by cases h) (by kernel_rfl) (fun _ h => by cases h) placePlain_row_tie rfl ⟨rfl, rfl⟩ (by kernel_rfl) rfl
    (fun f fn hf hfn => by
      obtain rfl : f = 6 := Option.some.inj ((show Tryd.prog.funcNamed "parquetry/parquetrylaw19.PlacePlain" = some 6 by kernel_rfl).symm.trans hf) |>.symm
      obtain rfl : fn = Tryd.f6 := (Option.some.inj (Tryd.func6.symm.trans hfn)).symm
      exact ⟨by kernel_rfl, fun j t ht => by
        rw [Tryd.params6] at ht
        have hm : t ∈ [22, 5, 3] := by simpa using Array.mem_of_getElem? ht
        have hall : ([22, 5, 3].all fun u => !Tryd.prog.wantsStandIn u) = true := by kernel_rfl
        exact (show Tryd.prog.wantsStandIn t = false by simpa using List.all_eq_true.1 hall t hm)⟩)
    (by kernel_rfl)
end Go.Proofs.YtlocnjenkanmpaaDoor.PlacePlain
