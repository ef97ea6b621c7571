/-
  Proved here: for every records, QuotePrints returns true (the text of records of at most 100 records, fields, and 3000 bytes is the document's, or there is none for the document's reason; they stay). Conditions: the package variables that the row lists hold what the program's text lays (the card ties them).
-/
import Derived.Test.YtafpddpeffpnfaaDoorQuAwake
import Derived.Test.YtafpddpeffpnfaaDoorQuOwn
import Derived.Test.YtafpddpeffpnfaaDoorCvMore
import Derived.Test.YtafpddpeffpnfaaDoorOpRecs
import Derived.Test.YtafpddpeffpnfaaDoorTie
import Derived.Test.YtafpddpeffpnfaaDoorCards
set_option linter.unusedVariables false
namespace Go.Proofs.YtafpddpeffpnfaaDoor.QuotePrints
open Go.ChangeShapes Go.WideShapes Go.ChangeAt Go.RowKit Go.Lib Go.Proofs.YtafpddpeffpnfaaDoor.Cv Go.Proofs.YtafpddpeffpnfaaDoor.Qu

set_option maxHeartbeats 2000000 in
set_option maxRecDepth 1000000 in
theorem walk (w : World) (hH : Held w) (A : Option Addr) (R : List (List Bs)) (c : Nat) (hA : RecsAt w A R) (hl : R.length ≤ 140737488355328) (hr : ∀ r ∈ R, r.length ≤ 140737488355328) (hx : ∀ r ∈ R, ∀ x ∈ r, x.length ≤ 140737488355328) :
    Calls Tryd.prog 4 #[.slice A R.length c] w fun e w' => e = .returned (.bool true) ∧ Below w.heap.size w w' := by
  have HH := Lib.hid hH
  have HA := Lib.hid hA
  have HW := Lib.hid (wide_any A R R.length c rfl w hA hl hr hx)
  clear hH hA hl hr hx
  go_enter Tryd.func4, Tryd.ntmps4
  go_wp2_with fail
  refine HW.out.mono ?_
  rintro e w0 ⟨⟨b, rfl, hsm⟩, hw0⟩
  subst hw0
  cases b with
  | true =>
    go_wp2_with fail
    refine (awake_any _ HH.out).mono ?_
    rintro e w1 ⟨rfl, hb1⟩
    go_wp2
    go_ret
    exact ⟨rfl, hb1⟩
  | false =>
    have hS := hsm rfl
    have HS := Lib.hid hS
    have hnum := hS.num
    have HO := Lib.hid (own_any A R c w0 HA.out (by omega) hS.rows)
    have HP := Lib.hid (fun A' c' W hH hA => print_any A' R R.length c' rfl W hH hA HS.out.ok)
    have HQ := Lib.hid (fun W hA => refPrint_any A R R.length c rfl W hA HS.out.ok)
    have HSM := Lib.hid (fun A' c' W ha hb => same_of A' A R R.length R.length c' c W rfl rfl ha hb (by omega) HS.out.rows)
    clear hsm hS HW
    go_wp2_with fail
    refine HO.out.mono ?_
    rintro e w1 ⟨A1, c1, rfl, hR1, hb1⟩
    have K1 := Lib.hid (HH.out.below HH.out.1 hb1)
    have B1 := Lib.hid hb1
    have R1 := Lib.hid hR1
    have R0 := Lib.hid (HA.out.below hb1)
    clear hR1 hb1
    have hp := HP.out A1 c1 w1 K1.out R1.out
    have hq := HQ.out
    unfold PrintPost at hp hq
    generalize (⟨(prT R).toArray⟩ : ByteArray) = T at hp hq
    generalize prE R = E at hp hq
    have HP1 := Lib.hid hp
    have HQ1 := Lib.hid hq
    clear hp hq
    go_wp2_with fail
    refine HP1.out.mono ?_
    rintro e w2 ⟨rfl, hb2⟩
    have B2 := Lib.hid (B1.out.trans (hb2.mono B1.out.size))
    have R2 := Lib.hid (R1.out.below hb2)
    have R02 := Lib.hid (R0.out.below hb2)
    clear hb2
    go_wp2_with fail
    refine (HQ1.out w2 R02.out).mono ?_
    rintro e w3 ⟨rfl, hb3⟩
    have B3 := Lib.hid (B2.out.trans (hb3.mono B2.out.size))
    have R3 := Lib.hid (R2.out.below hb3)
    have R03 := Lib.hid (R02.out.below hb3)
    clear hb3
    go_wp2_with fail
    refine (HSM.out A1 c1 w3 R3.out R03.out).mono ?_
    rintro e w4 ⟨rfl, hb4⟩
    have B4 := Lib.hid (B3.out.trans (hb4.mono B3.out.size))
    clear hb4
    have K4 := Lib.hid (HH.out.below HH.out.1 B4.out)
    go_wp2_with fail
    refine (awake_any _ K4.out).mono ?_
    rintro e w5 ⟨rfl, hb5⟩
    go_wp2
    go_ret
    exact ⟨rfl, B4.out.trans (hb5.mono B4.out.size)⟩

set_option maxRecDepth 100000 in
theorem lifted (os : Os) (started : os.Started) (H : Type) (enc : TypeId × Value → H) :
    ReturnsInHanded {} Tryd.checked os 4 .any (fun w args => (Rows.quotePrintsSpec.pre enc Tryd.prog Tryd.f4 [] false w args ∧ laidMetH Tryd.prog laidL w) ∧ sizedMet enc Tryd.prog Tryd.f4 (OpenSpec.ofChange Rows.quotePrintsSpec) false w args) (Rows.quotePrintsSpec.post enc Tryd.prog Tryd.f4 false true false false) := by
  refine returns_laidw started (by kernel_rfl) Tryd.func4 #[.slice none 0 0] (by kernel_rfl) (World.shaped_of_ZipB (by kernel_rfl) (by kernel_rfl)) (by rw [MakeChecks.laidMetH_plain _ _ _ (by kernel_rfl)]; exact laidMet_laidAll _ (by kernel_rfl) (by kernel_rfl)) (by kernel_rfl) (by kernel_rfl) rfl rfl (by kernel_rfl) ?_ ?_
  · intro ds hds
    rw [show Tryd.f4.params.toList.length = 1 from by kernel_rfl] at hds
    match ds, hds with
    | [d0], _ => rfl
  intro W base args ds p hval hA hwe hH
  rw [Tryd.params4] at hA hval hwe
  obtain ⟨v0, vs0, d0, ds0, p0, q0, hargs, rfl, rfl, h0, r0⟩ := ChangeShapes.trodAll_cons hA
  obtain ⟨rfl, rfl, rfl⟩ := ChangeShapes.trodAll_nil r0
  obtain rfl : args = #[v0] := by cases args; simp_all
  obtain ⟨A0, R0, c0, rfl, hr0, -, hl0, hrl0, hxl0⟩ := open_recs (hval 0 25 v0 rfl rfl) h0 (hwe 0 _ _ rfl rfl)
  exact walk W hH A0 R0 c0 hr0 hl0 hrl0 hxl0

theorem holds : Rows.QuotePrintsSaid :=
  OpenClaim.holds_of_wide 4 Tryd.f4 rfl rfl rfl rfl rfl rfl rfl ⟨rfl, rfl, rfl, rfl, rfl⟩ rfl rfl rfl rfl rfl (by kernel_rfl) Tryd.func4 (by kernel_rfl)
    (of_decide_eq_true (by kernel_rfl)) (by unfold Func.isWrapper; first | (rw [if_pos (by decide +kernel)]; kernel_rfl) | (rw [if_neg (by decide +kernel)]; exact ⟨rfl, rfl⟩))
    (fun os started H enc _ => lifted os started H enc)

theorem card : Rows.QuotePrintsCardSaid :=
  Claim7.holds_tied_plain_at .later [] [.data, .pinned] true (true, "8b0ddd4391f593d9a8c81f0b604a71bf6594b19938d785f115202ba4ac532180") false
    holds (fun _ h => by cases h) (by kernel_rfl) (fun _ h => by cases h) quotePrints_row_tie rfl ⟨rfl, rfl⟩ (by kernel_rfl) rfl
    (fun f fn hf hfn => by
      obtain rfl : f = 4 := Option.some.inj ((show Tryd.prog.funcNamed "parquetry/parquetrylaw08.QuotePrints" = some 4 by kernel_rfl).symm.trans hf) |>.symm
      obtain rfl : fn = Tryd.f4 := (Option.some.inj (Tryd.func4.symm.trans hfn)).symm
      exact ⟨by kernel_rfl, fun j t ht => by
        rw [Tryd.params4] at ht
        have hm : t ∈ [25] := by simpa using Array.mem_of_getElem? ht
        have hall : ([25].all fun u => !Tryd.prog.wantsStandIn u) = true := by kernel_rfl
        exact (show Tryd.prog.wantsStandIn t = false by simpa using List.all_eq_true.1 hall t hm)⟩)
    (by kernel_rfl)
end Go.Proofs.YtafpddpeffpnfaaDoor.QuotePrints
