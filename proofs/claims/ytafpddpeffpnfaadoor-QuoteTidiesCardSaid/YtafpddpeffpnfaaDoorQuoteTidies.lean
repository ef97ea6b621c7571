/-
  Proved here: for every text, QuoteTidies returns true (a text of at most 3000 bytes is written in one way, or it is spoilt where the document says; one of more than 65536 bytes is too long), and the text stays. Conditions: the package variables that the row lists hold what the program's text lays (the card ties them).
-/
import Derived.Test.YtafpddpeffpnfaaDoorQuAwake
import Derived.Test.YtafpddpeffpnfaaDoorCvLaid
import Derived.Test.YtafpddpeffpnfaaDoorTie
import Derived.Test.YtafpddpeffpnfaaDoorCards
set_option linter.unusedVariables false
namespace Go.Proofs.YtafpddpeffpnfaaDoor.QuoteTidies
open Go.ChangeShapes Go.WideShapes Go.ChangeAt Go.RowKit Go.Lib Go.Proofs.YtafpddpeffpnfaaDoor.Cv Go.Proofs.YtafpddpeffpnfaaDoor.Qu

theorem tidy_long (s : ByteArray) (w : World) (hH : Held w) (hs : 65536 < s.size) :
    Calls Tryd.prog 17 #[.string s] w fun e w' => e = .returned (.tuple #[.string ⟨#[]⟩, .int .i64 0, .int .i64 3]) ∧ Below w.heap.size w w' := by
  have ee : erP s = 3 := if_neg (by omega)
  have ea : atP s = 0 := if_neg (by omega)
  have hne : erP s ≠ 0 := by rw [ee]; decide
  have h := tidy_any s w hH (fun h => absurd h hne)
  unfold TidyPost tdT tdA tdE at h
  rw [if_neg hne, if_neg hne, if_neg hne, ee, ea] at h
  exact h

set_option maxHeartbeats 2000000 in
set_option maxRecDepth 1000000 in
theorem walk (w : World) (hH : Held w) (s : ByteArray) (hs : s.size ≤ maxLen) :
    Calls Tryd.prog 6 #[.string s] w fun e w' => e = .returned (.bool true) ∧ Below w.heap.size w w' := by
  have HH := Lib.hid hH
  clear hH
  by_cases hmid : 3000 < s.size ∧ s.size ≤ 65536
  · obtain ⟨hm1, hm2⟩ := hmid
    have d1 : decide (3000 < (s.size : Int)) = true := decide_eq_true (by omega)
    have d2 : decide ((s.size : Int) ≤ 65536) = true := decide_eq_true (by omega)
    go_enter Tryd.func6, Tryd.ntmps6
    go_wp2_with fail
    refine (awake_any _ HH.out).mono ?_
    rintro e w1 ⟨rfl, hb1⟩
    go_wp2
    go_ret
    exact ⟨rfl, hb1⟩
  by_cases hbig : 65536 < s.size
  · have d1 : decide (3000 < (s.size : Int)) = true := decide_eq_true (by omega)
    have d2 : decide ((s.size : Int) ≤ 65536) = false := decide_eq_false (by omega)
    have d3 : decide (65536 < (s.size : Int)) = true := decide_eq_true (by omega)
    have HT := Lib.hid (tidy_long s w HH.out hbig)
    clear hmid
    go_enter Tryd.func6, Tryd.ntmps6
    go_wp2_with fail
    refine HT.out.mono ?_
    rintro e w1 ⟨rfl, hb1⟩
    have H1 := Lib.hid (HH.out.below HH.out.1 hb1)
    have HB1 := Lib.hid hb1
    clear hb1
    go_wp2_with fail
    refine (awake_any _ H1.out).mono ?_
    rintro e w3 ⟨rfl, hb3⟩
    go_wp2
    go_ret
    exact ⟨rfl, HB1.out.trans (hb3.mono HB1.out.size)⟩
  have hsz : s.size ≤ 3000 := by omega
  have d1 : decide (3000 < (s.size : Int)) = false := decide_eq_false (by omega)
  have d3 : decide (65536 < (s.size : Int)) = false := decide_eq_false (by omega)
  have hF := tidy_any s w HH.out (fun _ => recs_ok hsz)
  have hR := fun W => refTidy_any s W hsz
  unfold TidyPost at hF hR
  generalize (⟨(tdT s).toArray⟩ : ByteArray) = T at hF hR
  generalize tdA s = At at hF hR
  generalize tdE s = E at hF hR
  have HF := Lib.hid hF
  have HR := Lib.hid hR
  clear hF hR hmid
  go_enter Tryd.func6, Tryd.ntmps6
  go_wp2_with fail
  refine HF.out.mono ?_
  rintro e w1 ⟨rfl, hb1⟩
  have H1 := Lib.hid (HH.out.below HH.out.1 hb1)
  have HB1 := Lib.hid hb1
  clear hb1
  go_wp2_with fail
  refine (HR.out _).mono ?_
  rintro e w2 ⟨rfl, hb2⟩
  have H2 := Lib.hid (H1.out.below H1.out.1 hb2)
  have HB2 := Lib.hid (HB1.out.trans (hb2.mono HB1.out.size))
  clear hb2
  go_wp2_with fail
  refine (awake_any _ H2.out).mono ?_
  rintro e w3 ⟨rfl, hb3⟩
  go_wp2
  go_ret
  exact ⟨rfl, HB2.out.trans (hb3.mono HB2.out.size)⟩

set_option maxRecDepth 100000 in
theorem lifted (os : Os) (started : os.Started) (H : Type) (enc : TypeId × Value → H) :
    ReturnsInHanded {} Tryd.checked os 6 .any (fun w args => (Rows.quoteTidiesSpec.pre enc Tryd.prog Tryd.f6 [] false w args ∧ laidMetH Tryd.prog laidL w) ∧ sizedMet enc Tryd.prog Tryd.f6 (OpenSpec.ofChange Rows.quoteTidiesSpec) false w args) (Rows.quoteTidiesSpec.post enc Tryd.prog Tryd.f6 false true false false) := by
  refine returns_laid started (by kernel_rfl) Tryd.func6 #[.string ⟨#[]⟩] (by kernel_rfl) (World.shaped_of_ZipB (by kernel_rfl) (by kernel_rfl)) (by rw [MakeChecks.laidMetH_plain _ _ _ (by kernel_rfl)]; exact laidMet_laidAll _ (by kernel_rfl) (by kernel_rfl)) (by kernel_rfl) (by kernel_rfl) rfl rfl (by kernel_rfl) ?_ ?_
  · intro ds hds
    rw [show Tryd.f6.params.toList.length = 1 from by kernel_rfl] at hds
    match ds, hds with
    | [d0], _ => rfl
  intro W base args ds p hval hA hH
  rw [Tryd.params6] at hA hval
  obtain ⟨v0, vs0, d0, ds0, p0, q0, hargs, rfl, rfl, h0, r0⟩ := ChangeShapes.trodAll_cons hA
  obtain ⟨rfl, rfl, rfl⟩ := ChangeShapes.trodAll_nil r0
  obtain rfl : args = #[v0] := by cases args; simp_all
  obtain ⟨s0, rfl, rfl, rfl, hs0⟩ := Go.ChangeMaps.open_string Tryd.underlying9 (hval 0 9 v0 rfl rfl) h0
  exact walk W hH s0 hs0

theorem holds : Rows.QuoteTidiesSaid :=
  OpenClaim.holds_of_wide 6 Tryd.f6 rfl rfl rfl rfl rfl rfl rfl ⟨rfl, rfl, rfl, rfl, rfl⟩ rfl rfl rfl rfl rfl (by kernel_rfl) Tryd.func6 (by kernel_rfl)
    (of_decide_eq_true (by kernel_rfl)) (by unfold Func.isWrapper; first | (rw [if_pos (by decide +kernel)]; kernel_rfl) | (rw [if_neg (by decide +kernel)]; exact ⟨rfl, rfl⟩))
    (fun os started H enc _ => lifted os started H enc)

theorem card : Rows.QuoteTidiesCardSaid :=
  Claim7.holds_tied_plain_at .later [] [.data, .pinned] true (true, "8b0ddd4391f593d9a8c81f0b604a71bf6594b19938d785f115202ba4ac532180") false
    holds (fun _ h => by cases h) (by kernel_rfl) (fun _ h => by cases h) quoteTidies_row_tie rfl ⟨rfl, rfl⟩ (by kernel_rfl) rfl
    (fun f fn hf hfn => by
      obtain rfl : f = 6 := Option.some.inj ((show Tryd.prog.funcNamed "parquetry/parquetrylaw08.QuoteTidies" = some 6 by kernel_rfl).symm.trans hf) |>.symm
      obtain rfl : fn = Tryd.f6 := (Option.some.inj (Tryd.func6.symm.trans hfn)).symm
      exact ⟨by kernel_rfl, fun j t ht => by
        rw [Tryd.params6] at ht
        have hm : t ∈ [9] := by simpa using Array.mem_of_getElem? ht
        have hall : ([9].all fun u => !Tryd.prog.wantsStandIn u) = true := by kernel_rfl
        exact (show Tryd.prog.wantsStandIn t = false by simpa using List.all_eq_true.1 hall t hm)⟩)
    (by kernel_rfl)
end Go.Proofs.YtafpddpeffpnfaaDoor.QuoteTidies
