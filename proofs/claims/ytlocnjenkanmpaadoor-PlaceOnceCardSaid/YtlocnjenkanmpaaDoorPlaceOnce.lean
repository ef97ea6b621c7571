/-
  Proved here: parquetrylaw19.PlaceOnce, as its row states it.
-/
import Derived.Lay
import Derived.Test.YtlocnjenkanmpaaDoorM33
import Derived.Test.YtlocnjenkanmpaaDoorM29
import Derived.Test.YtlocnjenkanmpaaDoorM30
import Derived.Test.YtlocnjenkanmpaaDoorTie
import Derived.Test.YtlocnjenkanmpaaDoorCards
set_option linter.unusedVariables false
namespace Go.Proofs.YtlocnjenkanmpaaDoor.PlaceOnce
open Go Go.ChangeShapes Go.WideShapes Go.ChangeAt Go.RowKit Go.Lib Go.Proofs.YtlocnjenkanmpaaDoor.Ku Go.Proofs.YtlocnjenkanmpaaDoor.Pl
theorem walk (w : World) (hH : Ku.Held w) (A : Option Addr) (l : List R3) (c : Nat) (hr : RuAt w A l) (hnil : A = none → l = [] ∧ c = 0) (hc : l.length ≤ c) (B : Option Addr) (lv : List Int) (cb : Nat) (hI : Cl.IntsAt w B lv) (hnilB : B = none → lv = [] ∧ cb = 0) (hlv : lv.length ≤ 9223372036854775807) (hcb : lv.length ≤ cb) (x : Wr.L5) (para W al : Int) :
    Calls Tryd.prog 4 #[.slice A l.length c, .slice B lv.length cb, Wr.lnV x, .int .i64 para, .int .i64 W, .int .i64 al] w fun e w' => e = .returned (.bool true) ∧ Below w.heap.size w w' :=
  once_law place_ok of_ok (fun _ _ h hb => h.below hb) A B l lv l.length lv.length c cb x para W al w hH hr hI rfl rfl hc hcb hnil hnilB hlv
set_option maxRecDepth 100000 in
theorem lifted (os : Os) (started : os.Started) (H : Type) (enc : TypeId × Value → H) :
    ReturnsInHanded {} Tryd.checked os 4 .any (fun w args => (Rows.placeOnceSpec.pre enc Tryd.prog Tryd.f4 [] false w args ∧ laidMetH Tryd.prog laidL w) ∧ sizedMet enc Tryd.prog Tryd.f4 (OpenSpec.ofChange Rows.placeOnceSpec) false w args) (Rows.placeOnceSpec.post enc Tryd.prog Tryd.f4 false true false false) := by
  refine returns_laid started (by kernel_rfl) Tryd.func4 #[.slice none 0 0, .slice none 0 0, .agg #[.int .i64 0, .int .i64 0, .int .i64 0, .int .i64 0, .int .i64 0], .int .i64 0, .int .i64 0, .int .i64 0] (by kernel_rfl) (World.shaped_of_ZipB (by kernel_rfl) (by kernel_rfl)) (by rw [MakeChecks.laidMetH_plain _ _ _ (by kernel_rfl)]; exact laidMet_laidAll _ (by kernel_rfl) (by kernel_rfl)) (by kernel_rfl) (by kernel_rfl) rfl rfl (by kernel_rfl) ?_ ?_
  · intro ds hds
    rw [show Tryd.f4.params.toList.length = 6 from by kernel_rfl] at hds
    match ds, hds with
    | [d0, d1, d2, d3, d4, d5], _ => rfl
  intro W base args ds p hval hA hH
  rw [Tryd.params4] at hA hval
  obtain ⟨v0, vs0, d0, ds0, p0, q0, hargs, rfl, rfl, h0, r0⟩ := ChangeShapes.trodAll_cons hA
  obtain ⟨v1, vs1, d1, ds1, p1, q1, rfl, rfl, rfl, h1, r1⟩ := ChangeShapes.trodAll_cons r0
  obtain ⟨v2, vs2, d2, ds2, p2, q2, rfl, rfl, rfl, h2, r2⟩ := ChangeShapes.trodAll_cons r1
  obtain ⟨v3, vs3, d3, ds3, p3, q3, rfl, rfl, rfl, h3, r3⟩ := ChangeShapes.trodAll_cons r2
  obtain ⟨v4, vs4, d4, ds4, p4, q4, rfl, rfl, rfl, h4, r4⟩ := ChangeShapes.trodAll_cons r3
  obtain ⟨v5, vs5, d5, ds5, p5, q5, rfl, rfl, rfl, h5, r5⟩ := ChangeShapes.trodAll_cons r4
  obtain ⟨rfl, rfl, rfl⟩ := ChangeShapes.trodAll_nil r5
  obtain rfl : args = #[v0, v1, v2, v3, v4, v5] := by cases args; simp_all
  obtain ⟨A0, l0, c0, rfl, hr0, hnil0, hc0, hl0, hz0⟩ := open_runes (hval 0 22 v0 rfl rfl) h0
  obtain ⟨A1, zs1, c1, rfl, hr1, hnil1, hl1, hz1, hc1⟩ := open_introwc (hval 1 23 v1 rfl rfl) h1
  obtain ⟨x2, rfl, hx2⟩ := Wr.open_line (hval 2 25 v2 rfl rfl) h2
  obtain ⟨x3, rfl, rfl, rfl, wx3⟩ := open_int Tryd.underlying3 (hval 3 3 v3 rfl rfl) h3
  obtain ⟨x4, rfl, rfl, rfl, wx4⟩ := open_int Tryd.underlying3 (hval 4 3 v4 rfl rfl) h4
  obtain ⟨x5, rfl, rfl, rfl, wx5⟩ := open_int Tryd.underlying3 (hval 5 3 v5 rfl rfl) h5
  exact walk W hH A0 l0 c0 hr0 hnil0 hc0 A1 zs1 c1 hr1 hnil1 hl1 hc1 x2 x3 x4 x5
theorem holds : Rows.PlaceOnceSaid :=
  OpenClaim.holds_of_wide 4 Tryd.f4 rfl rfl rfl rfl rfl rfl rfl ⟨rfl, rfl, rfl, rfl, rfl⟩ rfl rfl rfl rfl rfl (by kernel_rfl) Tryd.func4 (by kernel_rfl)
    (of_decide_eq_true (by kernel_rfl)) (by unfold Func.isWrapper; first | (rw [if_pos (by decide +kernel)]; kernel_rfl) | (rw [if_neg (by decide +kernel)]; exact ⟨rfl, rfl⟩))
    (fun os started H enc _ => lifted os started H enc)
theorem card : Rows.PlaceOnceCardSaid :=
  Claim7.holds_tied_plain_at .later [] [.data] true (true, "15f2f917b7162d6546a3c1fdf4bbff9482936b5ceb45a052df0047ed9c78612d") false
    holds (fun _ h => by cases h) (by kernel_rfl) (fun _ h => by cases h) placeOnce_row_tie rfl ⟨rfl, rfl⟩ (by kernel_rfl) rfl
    (fun f fn hf hfn => by
      obtain rfl : f = 4 := Option.some.inj ((show Tryd.prog.funcNamed "parquetry/parquetrylaw19.PlaceOnce" = some 4 by kernel_rfl).symm.trans hf) |>.symm
      obtain rfl : fn = Tryd.f4 := (Option.some.inj (Tryd.func4.symm.trans hfn)).symm
      exact ⟨by kernel_rfl, fun j t ht => by
        rw [Tryd.params4] at ht
        have hm : t ∈ [22, 23, 25, 3] := by simpa using Array.mem_of_getElem? ht
        have hall : ([22, 23, 25, 3].all fun u => !Tryd.prog.wantsStandIn u) = true := by kernel_rfl
        exact (show Tryd.prog.wantsStandIn t = false by simpa using List.all_eq_true.1 hall t hm)⟩)
    (by kernel_rfl)
end Go.Proofs.YtlocnjenkanmpaaDoor.PlaceOnce
