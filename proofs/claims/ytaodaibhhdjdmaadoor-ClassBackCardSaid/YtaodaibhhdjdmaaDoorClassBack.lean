/-
  Proved here: for every row of numbers and every text, ClassBack returns true (at most 300 classes that were printed are read as they were; what a text of at most 1000 bytes was read as is printed as that text), and both stay. Conditions: the package variables that the row lists hold what the program's text lays (the card ties them).
-/
import Derived.Test.YtaodaibhhdjdmaaDoorClLike
import Derived.Test.YtaodaibhhdjdmaaDoorRcBack
import Derived.Test.YtaodaibhhdjdmaaDoorClAwake
import Derived.Test.YtaodaibhhdjdmaaDoorLawInts
import Derived.Test.YtaodaibhhdjdmaaDoorClLaid
import Derived.Test.YtaodaibhhdjdmaaDoorTie
import Derived.Test.YtaodaibhhdjdmaaDoorCards
set_option linter.unusedVariables false
namespace Go.Proofs.YtaodaibhhdjdmaaDoor.ClassBack
open Go.ChangeShapes Go.WideShapes Go.ChangeAt Go.RowKit Go.Lib Go.Proofs.YtaodaibhhdjdmaaDoor.Cl


theorem read_reads (s : ByteArray) (w : World) (hH : Held w) (hs : s.size ≤ 1000000) :
    Calls Tryd.prog 19 #[.string s] w fun e w' => ∃ B d, e = .returned (.tuple #[.slice B (readZ s).length d, .bool (readOk s)]) ∧ IntsAt w' B (readZ s) ∧ Below w.heap.size w w' := by
  refine (read_any s w hH hs (Lib.countB_le Cl.blank (by decide) s.size s (Nat.le_refl _))).mono ?_
  rintro e w' ⟨v, rfl, hown, hb⟩
  obtain ⟨B, d, rfl, hi⟩ := intsAt_own hown
  exact ⟨B, d, rfl, hi, hb⟩

set_option maxHeartbeats 2000000 in
set_option maxRecDepth 100000 in
theorem walk (w : World) (hH : Held w) (A : Option Addr) (zs : List Int) (c : Nat) (hr : IntsAt w A zs) (hnil : A = none → zs = [] ∧ c = 0) (hs0 : zs.length ≤ 9223372036854775807) (hz : ∀ z ∈ zs, -9223372036854775808 ≤ z ∧ z ≤ 9223372036854775807) (s : ByteArray) (hs : s.size ≤ maxLen) :
    Calls Tryd.prog 7 #[.slice A zs.length c, .string s] w fun e w' => e = .returned (.bool true) ∧ Below w.heap.size w w' := by
  have HH := Lib.hid hH
  clear hH hz hnil
  by_cases hbig1 : 300 < zs.length
  · go_enter Tryd.func7, Tryd.ntmps7
    go_wp2_with fail
    refine (awake_any _ HH.out).mono ?_
    rintro e w3 ⟨rfl, hb3⟩
    go_wp2
    go_ret
    exact ⟨rfl, hb3⟩
  · by_cases hbig : 1000 < s.size
    · go_enter Tryd.func7, Tryd.ntmps7
      go_wp2_with fail
      refine (awake_any _ HH.out).mono ?_
      rintro e w3 ⟨rfl, hb3⟩
      go_wp2
      go_ret
      exact ⟨rfl, hb3⟩
    have CR := Lib.hid (fun w hH => read_reads s w hH (by omega))
    have R0 := Lib.hid hr
    have cP0 := print_any A zs c w hr HH.out (by omega)
    clear hr
    cases hok0 : okAll zs with
    | false =>
      rw [Rc.printV_no hok0] at cP0
      have CP0 := Lib.hid cP0
      clear cP0 hok0
      go_enter Tryd.func7, Tryd.ntmps7
      go_wp2_with fail
      refine CP0.out.mono ?_
      rintro e w1 ⟨rfl, hB⟩
      have HS := Lib.hid (HH.out.below hB)
      go_wp2_with fail
      refine (CR.out _ HS.out).mono ?_
      rintro e v1 ⟨A1, d1, rfl, hI1, hc1⟩
      have hC1 := hB.trans (hc1.mono hB.size)
      have I1 := Lib.hid hI1
      have HV := Lib.hid (HH.out.below hC1)
      clear hI1
      cases hok : readOk s with
      | false =>
        rw [Rc.read_not hok]
        go_wp2_with fail
        refine (awake_any _ HV.out).mono ?_
        rintro e w4 ⟨rfl, hb4⟩
        go_wp2
        go_ret
        exact ⟨rfl, hC1.trans (hb4.mono hC1.size)⟩
      | true =>
        have hpr := Lib.hid (Rc.print_read hok)
        have hsz := Rc.readZ_size s
        have cP := print_any A1 (readZ s) d1 v1 I1.out HV.out (by omega)
        rw [Rc.printV_yes hpr.out.1, hpr.out.2] at cP
        have CP := Lib.hid cP
        clear cP
        go_wp2_with fail
        refine CP.out.mono ?_
        rintro e w4 ⟨rfl, hb4⟩
        have hC4 := hC1.trans (hb4.mono hC1.size)
        have H4 := Lib.hid (HH.out.below hC4)
        go_wp2_with fail
        refine (awake_any _ H4.out).mono ?_
        rintro e w5 ⟨rfl, hb5⟩
        go_wp2
        go_ret
        exact ⟨rfl, hC4.trans (hb5.mono hC4.size)⟩
    | true =>
      rw [Rc.printV_yes hok0] at cP0
      have hrp := Rc.read_print hok0
      have hps := Rc.printS_size zs
      have cR0 := fun w hH => read_reads (printS zs) w hH (by omega)
      rw [hrp.1, hrp.2] at cR0
      generalize printS zs = t at *
      have CP0 := Lib.hid cP0
      have CR0 := Lib.hid cR0
      clear cP0 hok0 cR0 hrp
      go_enter Tryd.func7, Tryd.ntmps7
      go_wp2_with fail
      refine CP0.out.mono ?_
      rintro e w1 ⟨rfl, hb1⟩
      have H1 := Lib.hid (HH.out.below hb1)
      have R1 := Lib.hid (R0.out.below hb1)
      go_wp2_with fail
      refine (CR0.out _ H1.out).mono ?_
      rintro e w2 ⟨A2, d2, rfl, hI2, hb2⟩
      have R2 := Lib.hid (R1.out.below hb2)
      have I2 := Lib.hid hI2
      have hB2 := hb1.trans (hb2.mono hb1.size)
      clear hI2
      go_wp2_with fail
      refine (like_ints A2 A zs d2 c _ I2.out R2.out (by omega)).mono ?_
      rintro e w3 ⟨rfl, hb3⟩
      have hB := hB2.trans (hb3.mono hB2.size)
      have HS := Lib.hid (HH.out.below hB)
      go_wp2_with fail
      refine (CR.out _ HS.out).mono ?_
      rintro e v1 ⟨A1, d1, rfl, hI1, hc1⟩
      have hC1 := hB.trans (hc1.mono hB.size)
      have I1 := Lib.hid hI1
      have HV := Lib.hid (HH.out.below hC1)
      clear hI1
      cases hok : readOk s with
      | false =>
        rw [Rc.read_not hok]
        go_wp2_with fail
        refine (awake_any _ HV.out).mono ?_
        rintro e w4 ⟨rfl, hb4⟩
        go_wp2
        go_ret
        exact ⟨rfl, hC1.trans (hb4.mono hC1.size)⟩
      | true =>
        have hpr := Lib.hid (Rc.print_read hok)
        have hsz := Rc.readZ_size s
        have cP := print_any A1 (readZ s) d1 v1 I1.out HV.out (by omega)
        rw [Rc.printV_yes hpr.out.1, hpr.out.2] at cP
        have CP := Lib.hid cP
        clear cP
        go_wp2_with fail
        refine CP.out.mono ?_
        rintro e w4 ⟨rfl, hb4⟩
        have hC4 := hC1.trans (hb4.mono hC1.size)
        have H4 := Lib.hid (HH.out.below hC4)
        go_wp2_with fail
        refine (awake_any _ H4.out).mono ?_
        rintro e w5 ⟨rfl, hb5⟩
        go_wp2
        go_ret
        exact ⟨rfl, hC4.trans (hb5.mono hC4.size)⟩

set_option maxRecDepth 100000 in
theorem lifted (os : Os) (started : os.Started) (H : Type) (enc : TypeId × Value → H) :
    ReturnsInHanded {} Tryd.checked os 7 .any (fun w args => (Rows.classBackSpec.pre enc Tryd.prog Tryd.f7 [] false w args ∧ laidMetH Tryd.prog laidL w) ∧ sizedMet enc Tryd.prog Tryd.f7 (OpenSpec.ofChange Rows.classBackSpec) false w args) (Rows.classBackSpec.post enc Tryd.prog Tryd.f7 false true false false) := by
  refine returns_laid started (by kernel_rfl) Tryd.func7 #[.slice none 0 0, .string ⟨#[]⟩] (by kernel_rfl) (World.shaped_of_ZipB (by kernel_rfl) (by kernel_rfl)) (by rw [MakeChecks.laidMetH_plain _ _ _ (by kernel_rfl)]; exact laidMet_laidAll _ (by kernel_rfl) (by kernel_rfl)) (by kernel_rfl) (by kernel_rfl) rfl rfl (by kernel_rfl) ?_ ?_
  · intro ds hds
    rw [show Tryd.f7.params.toList.length = 2 from by kernel_rfl] at hds
    match ds, hds with
    | [d0, d1], _ => rfl
  intro W base args ds p hval hA hH
  rw [Tryd.params7] at hA hval
  obtain ⟨v0, vs0, d0, ds0, p0, q0, hargs, rfl, rfl, h0, r0⟩ := ChangeShapes.trodAll_cons hA
  obtain ⟨v1, vs1, d1, ds1, p1, q1, rfl, rfl, rfl, h1, r1⟩ := ChangeShapes.trodAll_cons r0
  obtain ⟨rfl, rfl, rfl⟩ := ChangeShapes.trodAll_nil r1
  obtain rfl : args = #[v0, v1] := by cases args; simp_all
  obtain ⟨A0, zs0, c0, rfl, hr0, hnil0, hl0, hz0⟩ := open_introw (hval 0 28 v0 rfl rfl) h0
  obtain ⟨s1, rfl, rfl, rfl, hs1⟩ := Go.ChangeMaps.open_string Tryd.underlying9 (hval 1 9 v1 rfl rfl) h1
  exact walk W hH A0 zs0 c0 hr0 hnil0 hl0 hz0 s1 hs1

theorem holds : Rows.ClassBackSaid :=
  OpenClaim.holds_of_wide 7 Tryd.f7 rfl rfl rfl rfl rfl rfl rfl ⟨rfl, rfl, rfl, rfl, rfl⟩ rfl rfl rfl rfl rfl (by kernel_rfl) Tryd.func7 (by kernel_rfl)
    (of_decide_eq_true (by kernel_rfl)) (by unfold Func.isWrapper; first | (rw [if_pos (by decide +kernel)]; kernel_rfl) | (rw [if_neg (by decide +kernel)]; exact ⟨rfl, rfl⟩))
    (fun os started H enc _ => lifted os started H enc)

theorem card : Rows.ClassBackCardSaid :=
  Claim7.holds_tied_plain_at .later [] [.data, .data, .pinned] true (true, "a1140fc0831c133a07e12b67bd1474e5056586aa66a5fa6a6cdd2235dd1ce2cf") false
    holds (fun _ h => by cases h) (by kernel_rfl) (fun _ h => by cases h) classBack_row_tie rfl ⟨rfl, rfl⟩ (by kernel_rfl) rfl
    (fun f fn hf hfn => by
      obtain rfl : f = 7 := Option.some.inj ((show Tryd.prog.funcNamed "parquetry/parquetrylaw02.ClassBack" = some 7 by kernel_rfl).symm.trans hf) |>.symm
      obtain rfl : fn = Tryd.f7 := (Option.some.inj (Tryd.func7.symm.trans hfn)).symm
      exact ⟨by kernel_rfl, fun j t ht => by
        rw [Tryd.params7] at ht
        have hm : t ∈ [28, 9] := by simpa using Array.mem_of_getElem? ht
        have hall : ([28, 9].all fun u => !Tryd.prog.wantsStandIn u) = true := by kernel_rfl
        exact (show Tryd.prog.wantsStandIn t = false by simpa using List.all_eq_true.1 hall t hm)⟩)
    (by kernel_rfl)
end Go.Proofs.YtaodaibhhdjdmaaDoor.ClassBack
