/-
  Proved here: for every text, ClassAll returns true (the classes of the runes of a text of at most 1000 bytes are the document's; the runes stay), and the text stays. Conditions: the package variables that the row lists hold what the program's text lays (the card ties them).
-/
import Derived.Test.YtaodaibhhdjdmaaDoorRcAll
import Derived.Test.YtaodaibhhdjdmaaDoorRcSame
import Derived.Test.YtaodaibhhdjdmaaDoorRfSame
import Derived.Test.YtaodaibhhdjdmaaDoorClAwake
import Derived.Test.YtaodaibhhdjdmaaDoorClLaid
import Derived.Test.YtaodaibhhdjdmaaDoorTie
import Derived.Test.YtaodaibhhdjdmaaDoorCards
set_option linter.unusedVariables false
namespace Go.Proofs.YtaodaibhhdjdmaaDoor.ClassAll
open Go.ChangeShapes Go.WideShapes Go.ChangeAt Go.RowKit Go.Lib Go.Proofs.YtaodaibhhdjdmaaDoor.Cl


open Go.Proofs.YtaodaibhhdjdmaaDoor.Rn (splitA RunesAt refsplit_reads same_yes splitA_len)
theorem all_reads (A : Option Addr) (l : List (Nat × Nat × Nat)) (c : Nat) (w : World) (hR : RunesAt w A l) (hn : l.length ≤ 1099511627776) :
    Calls Tryd.prog 14 #[.slice A l.length c] w fun e w' => ∃ B d, e = .returned (.slice B (clsL l).length d) ∧ IntsAt w' B (clsL l) ∧ Below w.heap.size w w' := by
  refine (all_any A l c w hR hn).mono ?_
  rintro e w' ⟨v, rfl, hown, hb⟩
  rw [← clsL_len] at hown
  obtain ⟨B, d, rfl, hi⟩ := intsAt_own hown
  exact ⟨B, d, rfl, hi, hb⟩
theorem refall_reads (A : Option Addr) (l : List (Nat × Nat × Nat)) (c : Nat) (w : World) (hR : RunesAt w A l) (hn : l.length ≤ 1099511627776) :
    Calls Tryd.prog 15 #[.slice A l.length c] w fun e w' => ∃ B d, e = .returned (.slice B (clsL l).length d) ∧ IntsAt w' B (clsL l) ∧ Below w.heap.size w w' := by
  refine (Rc.refall_any A l c w hR hn).mono ?_
  rintro e w' ⟨v, rfl, hown, hb⟩
  rw [← clsL_len] at hown
  obtain ⟨B, d, rfl, hi⟩ := intsAt_own hown
  exact ⟨B, d, rfl, hi, hb⟩

set_option maxHeartbeats 1000000 in
set_option maxRecDepth 100000 in
theorem walk (w : World) (hH : Held w) (s : ByteArray) (hs : s.size ≤ maxLen) :
    Calls Tryd.prog 4 #[.string s] w fun e w' => e = .returned (.bool true) ∧ Below w.heap.size w w' := by
  have HH := Lib.hid hH
  clear hH
  by_cases hbig : 1000 < s.size
  · go_enter Tryd.func4, Tryd.ntmps4
    go_wp2_with fail
    refine (awake_any _ HH.out).mono ?_
    rintro e w3 ⟨rfl, hb3⟩
    go_wp2
    go_ret
    exact ⟨rfl, hb3⟩
  · have hsl := splitA_len s.data.toList.length s.data.toList 0 (Nat.le_refl _)
    rw [← Lib.size_eq] at hsl
    obtain ⟨l, hl⟩ : ∃ l, splitA s.data.toList 0 = l := ⟨_, rfl⟩
    have hsp := fun w => refsplit_reads s w (by omega)
    rw [hl] at hsp hsl
    have HSP := Lib.hid hsp
    have hcl := clsL_len l
    have HCL := Lib.hid hcl
    clear hl hsp hcl
    go_enter Tryd.func4, Tryd.ntmps4
    go_wp2_with fail
    refine (HSP.out _).mono ?_
    rintro e w1 ⟨A1, c1, rfl, hR1, hb1⟩
    have R1 := Lib.hid hR1
    clear hR1
    go_wp2_with fail
    refine (all_reads A1 l c1 _ R1.out (by omega)).mono ?_
    rintro e w2 ⟨A2, c2, rfl, hI2, hb2⟩
    have hB2 := hb1.trans (hb2.mono hb1.size)
    have R1 := Lib.hid (R1.out.below hb2)
    have I2 := Lib.hid hI2
    clear hI2
    go_wp2_with fail
    refine (HSP.out _).mono ?_
    rintro e w3 ⟨A3, c3, rfl, hR3, hb3⟩
    have hB3 := hB2.trans (hb3.mono hB2.size)
    have R1 := Lib.hid (R1.out.below hb3)
    have I2 := Lib.hid (I2.out.below hb3)
    have R3 := Lib.hid hR3
    clear hR3
    go_wp2_with fail
    refine (refall_reads A3 l c3 _ R3.out (by omega)).mono ?_
    rintro e w4 ⟨A4, c4, rfl, hI4, hb4⟩
    have hB4 := hB3.trans (hb4.mono hB3.size)
    have R1 := Lib.hid (R1.out.below hb4)
    have I2 := Lib.hid (I2.out.below hb4)
    have I4 := Lib.hid hI4
    clear hI4
    go_wp2_with fail
    refine (Rc.same_ints A2 A4 (clsL l) c2 c4 _ I2.out I4.out (by rw [HCL.out]; omega)).mono ?_
    rintro e w5 ⟨rfl, hb5⟩
    have hB5 := hB4.trans (hb5.mono hB4.size)
    have R1 := Lib.hid (R1.out.below hb5)
    go_wp2_with fail
    refine (HSP.out _).mono ?_
    rintro e w6 ⟨A6, c6, rfl, hR6, hb6⟩
    have hB6 := hB5.trans (hb6.mono hB5.size)
    have R1 := Lib.hid (R1.out.below hb6)
    have R6 := Lib.hid hR6
    clear hR6
    go_wp2_with fail
    refine (same_yes A1 A6 l c1 c6 _ R1.out R6.out (by omega)).mono ?_
    rintro e w7 ⟨rfl, hb7⟩
    have hB7 := hB6.trans (hb7.mono hB6.size)
    have H7 := Lib.hid (HH.out.below hB7)
    go_wp2_with fail
    refine (awake_any _ H7.out).mono ?_
    rintro e w8 ⟨rfl, hb8⟩
    go_wp2
    go_ret
    exact ⟨rfl, hB7.trans (hb8.mono hB7.size)⟩

set_option maxRecDepth 100000 in
theorem lifted (os : Os) (started : os.Started) (H : Type) (enc : TypeId × Value → H) :
    ReturnsInHanded {} Tryd.checked os 4 .any (fun w args => (Rows.classAllSpec.pre enc Tryd.prog Tryd.f4 [] false w args ∧ laidMetH Tryd.prog laidL w) ∧ sizedMet enc Tryd.prog Tryd.f4 (OpenSpec.ofChange Rows.classAllSpec) false w args) (Rows.classAllSpec.post enc Tryd.prog Tryd.f4 false true false false) := by
  refine returns_laid started (by kernel_rfl) Tryd.func4 #[.string ⟨#[]⟩] (by kernel_rfl) (World.shaped_of_ZipB (by kernel_rfl) (by kernel_rfl)) (by rw [MakeChecks.laidMetH_plain _ _ _ (by kernel_rfl)]; exact laidMet_laidAll _ (by kernel_rfl) (by kernel_rfl)) (by kernel_rfl) (by kernel_rfl) rfl rfl (by kernel_rfl) ?_ ?_
  · intro ds hds
    rw [show Tryd.f4.params.toList.length = 1 from by kernel_rfl] at hds
    match ds, hds with
    | [d0], _ => rfl
  intro W base args ds p hval hA hH
  rw [Tryd.params4] at hA hval
  obtain ⟨v0, vs0, d0, ds0, p0, q0, hargs, rfl, rfl, h0, r0⟩ := ChangeShapes.trodAll_cons hA
  obtain ⟨rfl, rfl, rfl⟩ := ChangeShapes.trodAll_nil r0
  obtain rfl : args = #[v0] := by cases args; simp_all
  obtain ⟨s0, rfl, rfl, rfl, hs0⟩ := Go.ChangeMaps.open_string Tryd.underlying9 (hval 0 9 v0 rfl rfl) h0
  exact walk W hH s0 hs0

theorem holds : Rows.ClassAllSaid :=
  OpenClaim.holds_of_wide 4 Tryd.f4 rfl rfl rfl rfl rfl rfl rfl ⟨rfl, rfl, rfl, rfl, rfl⟩ rfl rfl rfl rfl rfl (by kernel_rfl) Tryd.func4 (by kernel_rfl)
    (of_decide_eq_true (by kernel_rfl)) (by unfold Func.isWrapper; first | (rw [if_pos (by decide +kernel)]; kernel_rfl) | (rw [if_neg (by decide +kernel)]; exact ⟨rfl, rfl⟩))
    (fun os started H enc _ => lifted os started H enc)

theorem card : Rows.ClassAllCardSaid :=
  Claim7.holds_tied_plain_at .later [] [.data, .data, .pinned] true (true, "a1140fc0831c133a07e12b67bd1474e5056586aa66a5fa6a6cdd2235dd1ce2cf") false
    holds (fun _ h => by cases h) (by kernel_rfl) (fun _ h => by cases h) classAll_row_tie rfl ⟨rfl, rfl⟩ (by kernel_rfl) rfl
    (fun f fn hf hfn => by
      obtain rfl : f = 4 := Option.some.inj ((show Tryd.prog.funcNamed "parquetry/parquetrylaw02.ClassAll" = some 4 by kernel_rfl).symm.trans hf) |>.symm
      obtain rfl : fn = Tryd.f4 := (Option.some.inj (Tryd.func4.symm.trans hfn)).symm
      exact ⟨by kernel_rfl, fun j t ht => by
        rw [Tryd.params4] at ht
        have hm : t ∈ [9] := by simpa using Array.mem_of_getElem? ht
        have hall : ([9].all fun u => !Tryd.prog.wantsStandIn u) = true := by kernel_rfl
        exact (show Tryd.prog.wantsStandIn t = false by simpa using List.all_eq_true.1 hall t hm)⟩)
    (by kernel_rfl)
end Go.Proofs.YtaodaibhhdjdmaaDoor.ClassAll
