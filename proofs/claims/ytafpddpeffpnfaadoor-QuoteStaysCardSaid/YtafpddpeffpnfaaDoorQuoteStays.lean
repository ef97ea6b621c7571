/-
  Proved here: for every text, QuoteStays returns true (what Tidy answered of a text of at most 3000 bytes it answers of that again, and it is parsed as the text that was handed in; a text that Tidy refuses Parse refuses at the same place), and the text stays. Conditions: the package variables that the row lists hold what the program's text lays (the card ties them).
-/
import Derived.Test.YtafpddpeffpnfaaDoorQuAwake
import Derived.Test.YtafpddpeffpnfaaDoorCvMore
import Derived.Test.YtafpddpeffpnfaaDoorCvLaid
import Derived.Test.YtafpddpeffpnfaaDoorTie
import Derived.Test.YtafpddpeffpnfaaDoorCards
set_option linter.unusedVariables false
namespace Go.Proofs.YtafpddpeffpnfaaDoor.QuoteStays
open Go.ChangeShapes Go.WideShapes Go.ChangeAt Go.RowKit Go.Lib Go.Proofs.YtafpddpeffpnfaaDoor.Cv Go.Proofs.YtafpddpeffpnfaaDoor.Qu

theorem prT_good {R : List (List Bs)} (hb : bad R = false) (hl : (textW R).length ≤ 65536) : prT R = textW R ∧ prE R = 0 := by
  unfold prT prE
  rw [hb, if_neg (by simp), if_neg (by omega), if_neg (by simp), if_neg (by omega)]
  exact ⟨rfl, rfl⟩
theorem tidy_spoilt {s : ByteArray} (h : erP s ≠ 0) (w : World) (hH : Held w) :
    Calls Tryd.prog 17 #[.string s] w fun e w' => e = .returned (.tuple #[.string ⟨#[]⟩, .int .i64 (atP s), .int .i64 (erP s)]) ∧ Below w.heap.size w w' := by
  have ht := tidy_any s w hH (fun h' => absurd h' h)
  unfold TidyPost tdT tdA tdE at ht
  rw [if_neg h, if_neg h, if_neg h] at ht
  exact ht
theorem tidy_good {s : ByteArray} (hs : erP s = 0) {R : List (List Bs)} (hR : recsP s = R) (hb : bad R = false) (hl : (textW R).length ≤ 65536) (hok : RecsOk R) {T : ByteArray} (hT : (⟨(textW R).toArray⟩ : ByteArray) = T) (w : World) (hH : Held w) :
    Calls Tryd.prog 17 #[.string s] w fun e w' => e = .returned (.tuple #[.string T, .int .i64 0, .int .i64 0]) ∧ Below w.heap.size w w' := by
  have ht := tidy_any s w hH (fun _ => by rw [hR]; exact hok)
  unfold TidyPost tdT tdA tdE at ht
  rw [if_pos hs, if_pos hs, if_pos hs, hR, (prT_good hb hl).1, (prT_good hb hl).2, hT] at ht
  exact ht
theorem parse_good {s : ByteArray} {R : List (List Bs)} {at_ er : Int} (hR : recsP s = R) (ha : atP s = at_) (he : erP s = er) (w : World) (hH : Held w) :
    Calls Tryd.prog 19 #[.string s] w fun e w' => ∃ A c, e = .returned (.tuple #[.slice A R.length c, .int .i64 at_, .int .i64 er]) ∧ RecsAt w' A R ∧ Below w.heap.size w w' := by
  have h := parse_any s w hH
  unfold ParsePost at h
  rw [hR, ha, he] at h
  exact h

set_option maxHeartbeats 2000000 in
set_option maxRecDepth 1000000 in
theorem walk (w : World) (hH : Held w) (s : ByteArray) (hs : s.size ≤ maxLen) :
    Calls Tryd.prog 8 #[.string s] w fun e w' => e = .returned (.bool true) ∧ Below w.heap.size w w' := by
  have HH := Lib.hid hH
  clear hH
  by_cases hbig : 3000 < s.size
  · have d1 : decide (3000 < (s.size : Int)) = true := decide_eq_true (by omega)
    go_enter Tryd.func8, Tryd.ntmps8
    go_wp2_with fail
    refine (awake_any _ HH.out).mono ?_
    rintro e w1 ⟨rfl, hb1⟩
    go_wp2
    go_ret
    exact ⟨rfl, hb1⟩
  have hsz : s.size ≤ 3000 := by omega
  have d1 : decide (3000 < (s.size : Int)) = false := decide_eq_false (by omega)
  have ea : atP s = pz (place 0 0 (tx s)) := if_pos (by omega)
  have ee : erP s = ez (place 0 0 (tx s)) := if_pos (by omega)
  cases hp : place 0 0 (tx s) with
  | some k =>
    rw [hp] at ea ee
    have ea' : atP s = (k : Int) := ea
    have ee' : erP s = 2 := ee
    have hne : erP s ≠ 0 := by rw [ee']; decide
    have hF := tidy_spoilt hne w HH.out
    rw [ea', ee'] at hF
    have HF := Lib.hid hF
    have HP := Lib.hid (fun W h => parse_good (s := s) rfl ea' ee' W h)
    clear hF ea ee ea' ee' hne hp hbig
    go_enter Tryd.func8, Tryd.ntmps8
    go_wp2_with fail
    refine HF.out.mono ?_
    rintro e w1 ⟨rfl, hb1⟩
    have H1 := Lib.hid (HH.out.below HH.out.1 hb1)
    have HB1 := Lib.hid hb1
    clear hb1
    go_wp2_with fail
    refine (HP.out w1 H1.out).mono ?_
    rintro e w2 ⟨A2, c2, rfl, hR2, hb2⟩
    have H2 := Lib.hid (H1.out.below H1.out.1 hb2)
    have HB2 := Lib.hid (HB1.out.trans (hb2.mono HB1.out.size))
    generalize (recsP s).length = n
    clear hb2 hR2
    go_wp2_with fail
    refine (awake_any _ H2.out).mono ?_
    rintro e w3 ⟨rfl, hb3⟩
    go_wp2
    go_ret
    exact ⟨rfl, HB2.out.trans (hb3.mono HB2.out.size)⟩
  | none =>
    rw [hp] at ea ee
    have ea' : atP s = 0 := ea
    have ee' : erP s = 0 := ee
    have hbad := recs_bad (by omega) ee'
    have hlen := recs_text hsz
    have hok := recs_ok hsz
    have hrow := recs_rows hsz
    have hnum := (recs_len hsz).1
    obtain ⟨R, hR⟩ : ∃ R, recsP s = R := ⟨_, rfl⟩
    rw [hR] at hbad hlen hok hrow hnum
    obtain ⟨T, hT⟩ : ∃ T, (⟨(textW R).toArray⟩ : ByteArray) = T := ⟨_, rfl⟩
    have htx : tx T = textW R := by rw [← hT]
    obtain ⟨b1, b2, b3⟩ := back hbad hlen T htx
    have HF := Lib.hid (tidy_good ee' hR hbad hlen hok hT w HH.out)
    have HP := Lib.hid (fun W h => parse_good hR ea' ee' W h)
    have HF2 := Lib.hid (fun W h => tidy_good b1 b3 hbad hlen hok hT W h)
    have HP2 := Lib.hid (fun W h => parse_good b3 b2 b1 W h)
    have HS := Lib.hid (fun A B c d W ha hb => same_of A B R R.length R.length c d W rfl rfl ha hb (by omega) hrow)
    have hT0 : T.size ≠ 0 := by
      rw [← tx_size, htx]
      intro e0
      have h0 := List.eq_nil_of_length_eq_zero e0
      obtain ⟨g0, g1⟩ := bad_false hbad
      cases R with
      | nil => exact g0 rfl
      | cons r R =>
        rw [textW_cons] at h0
        exact recW_ne r (List.append_eq_nil_iff.1 h0).1
    clear ea ee ea' ee' hbad hlen hok hrow hnum hR hT htx b1 b2 b3 hp hbig hT0
    go_enter Tryd.func8, Tryd.ntmps8
    go_wp2_with fail
    refine HF.out.mono ?_
    rintro e w1 ⟨rfl, hb1⟩
    have H1 := Lib.hid (HH.out.below HH.out.1 hb1)
    have HB1 := Lib.hid hb1
    clear hb1
    go_wp2_with fail
    refine (HP.out w1 H1.out).mono ?_
    rintro e w2 ⟨A2, c2, rfl, hR2, hb2⟩
    have H2 := Lib.hid (H1.out.below H1.out.1 hb2)
    have HB2 := Lib.hid (HB1.out.trans (hb2.mono HB1.out.size))
    have RR2 := Lib.hid hR2
    clear hb2 hR2
    go_wp2_with fail
    refine (HF2.out w2 H2.out).mono ?_
    rintro e w3 ⟨rfl, hb3⟩
    have H3 := Lib.hid (H2.out.below H2.out.1 hb3)
    have HB3 := Lib.hid (HB2.out.trans (hb3.mono HB2.out.size))
    have RR3 := Lib.hid (RR2.out.below hb3)
    clear hb3
    go_wp2_with fail
    refine (HP2.out w3 H3.out).mono ?_
    rintro e w4 ⟨A4, c4, rfl, hR4, hb4⟩
    have HB4 := Lib.hid (HB3.out.trans (hb4.mono HB3.out.size))
    have RR4 := Lib.hid (RR3.out.below hb4)
    have QQ4 := Lib.hid hR4
    clear hb4 hR4
    go_wp2_with fail
    refine (HS.out A2 A4 c2 c4 w4 RR4.out QQ4.out).mono ?_
    rintro e w5 ⟨rfl, hb5⟩
    have HB5 := Lib.hid (HB4.out.trans (hb5.mono HB4.out.size))
    have K5 := Lib.hid (HH.out.below HH.out.1 HB5.out)
    clear hb5
    go_wp2_with fail
    refine (awake_any _ K5.out).mono ?_
    rintro e w6 ⟨rfl, hb6⟩
    go_wp2
    go_ret
    exact ⟨rfl, HB5.out.trans (hb6.mono HB5.out.size)⟩

set_option maxRecDepth 100000 in
theorem lifted (os : Os) (started : os.Started) (H : Type) (enc : TypeId × Value → H) :
    ReturnsInHanded {} Tryd.checked os 8 .any (fun w args => (Rows.quoteStaysSpec.pre enc Tryd.prog Tryd.f8 [] false w args ∧ laidMetH Tryd.prog laidL w) ∧ sizedMet enc Tryd.prog Tryd.f8 (OpenSpec.ofChange Rows.quoteStaysSpec) false w args) (Rows.quoteStaysSpec.post enc Tryd.prog Tryd.f8 false true false false) := by
  refine returns_laid started (by kernel_rfl) Tryd.func8 #[.string ⟨#[]⟩] (by kernel_rfl) (World.shaped_of_ZipB (by kernel_rfl) (by kernel_rfl)) (by rw [MakeChecks.laidMetH_plain _ _ _ (by kernel_rfl)]; exact laidMet_laidAll _ (by kernel_rfl) (by kernel_rfl)) (by kernel_rfl) (by kernel_rfl) rfl rfl (by kernel_rfl) ?_ ?_
  · intro ds hds
    rw [show Tryd.f8.params.toList.length = 1 from by kernel_rfl] at hds
    match ds, hds with
    | [d0], _ => rfl
  intro W base args ds p hval hA hH
  rw [Tryd.params8] at hA hval
  obtain ⟨v0, vs0, d0, ds0, p0, q0, hargs, rfl, rfl, h0, r0⟩ := ChangeShapes.trodAll_cons hA
  obtain ⟨rfl, rfl, rfl⟩ := ChangeShapes.trodAll_nil r0
  obtain rfl : args = #[v0] := by cases args; simp_all
  obtain ⟨s0, rfl, rfl, rfl, hs0⟩ := Go.ChangeMaps.open_string Tryd.underlying9 (hval 0 9 v0 rfl rfl) h0
  exact walk W hH s0 hs0

theorem holds : Rows.QuoteStaysSaid :=
  OpenClaim.holds_of_wide 8 Tryd.f8 rfl rfl rfl rfl rfl rfl rfl ⟨rfl, rfl, rfl, rfl, rfl⟩ rfl rfl rfl rfl rfl (by kernel_rfl) Tryd.func8 (by kernel_rfl)
    (of_decide_eq_true (by kernel_rfl)) (by unfold Func.isWrapper; first | (rw [if_pos (by decide +kernel)]; kernel_rfl) | (rw [if_neg (by decide +kernel)]; exact ⟨rfl, rfl⟩))
    (fun os started H enc _ => lifted os started H enc)

theorem card : Rows.QuoteStaysCardSaid :=
  Claim7.holds_tied_plain_at .later [] [.data, .pinned] true (true, "8b0ddd4391f593d9a8c81f0b604a71bf6594b19938d785f115202ba4ac532180") false
    holds (fun _ h => by cases h) (by kernel_rfl) (fun _ h => by cases h) quoteStays_row_tie rfl ⟨rfl, rfl⟩ (by kernel_rfl) rfl
    (fun f fn hf hfn => by
      obtain rfl : f = 8 := Option.some.inj ((show Tryd.prog.funcNamed "parquetry/parquetrylaw08.QuoteStays" = some 8 by kernel_rfl).symm.trans hf) |>.symm
      obtain rfl : fn = Tryd.f8 := (Option.some.inj (Tryd.func8.symm.trans hfn)).symm
      exact ⟨by kernel_rfl, fun j t ht => by
        rw [Tryd.params8] at ht
        have hm : t ∈ [9] := by simpa using Array.mem_of_getElem? ht
        have hall : ([9].all fun u => !Tryd.prog.wantsStandIn u) = true := by kernel_rfl
        exact (show Tryd.prog.wantsStandIn t = false by simpa using List.all_eq_true.1 hall t hm)⟩)
    (by kernel_rfl)
end Go.Proofs.YtafpddpeffpnfaaDoor.QuoteStays
