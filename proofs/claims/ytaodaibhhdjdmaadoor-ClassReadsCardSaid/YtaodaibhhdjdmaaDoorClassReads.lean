/-
  Proved here: for every text, ClassReads returns true (which classes a text of at most 1000 bytes is, or that it is none's, is the document's), and the text stays. Conditions: the package variables that the row lists hold what the program's text lays (the card ties them).
-/
import Derived.Test.YtaodaibhhdjdmaaDoorRcRead
import Derived.Test.YtaodaibhhdjdmaaDoorRcBack
import Derived.Test.YtaodaibhhdjdmaaDoorRcSame
import Derived.Test.YtaodaibhhdjdmaaDoorClAwake
import Derived.Test.YtaodaibhhdjdmaaDoorClLaid
import Derived.Test.YtaodaibhhdjdmaaDoorTie
import Derived.Test.YtaodaibhhdjdmaaDoorCards
set_option linter.unusedVariables false
namespace Go.Proofs.YtaodaibhhdjdmaaDoor.ClassReads
open Go.ChangeShapes Go.WideShapes Go.ChangeAt Go.RowKit Go.Lib Go.Proofs.YtaodaibhhdjdmaaDoor.Cl


theorem read_reads (s : ByteArray) (w : World) (hH : Held w) (hs : s.size ≤ 1000000) :
    Calls Tryd.prog 19 #[.string s] w fun e w' => ∃ B d, e = .returned (.tuple #[.slice B (readZ s).length d, .bool (readOk s)]) ∧ IntsAt w' B (readZ s) ∧ Below w.heap.size w w' := by
  refine (read_any s w hH hs (Lib.countB_le Cl.blank (by decide) s.size s (Nat.le_refl _))).mono ?_
  rintro e w' ⟨v, rfl, hown, hb⟩
  obtain ⟨B, d, rfl, hi⟩ := intsAt_own hown
  exact ⟨B, d, rfl, hi, hb⟩

theorem refread_reads (s : ByteArray) (w : World) (hs : s.size ≤ 1000000) :
    Calls Tryd.prog 20 #[.string s] w fun e w' => ∃ B d, e = .returned (.tuple #[.slice B (readZ s).length d, .bool (readOk s)]) ∧ IntsAt w' B (readZ s) ∧ Below w.heap.size w w' := by
  refine (Rc.refread_any s w hs).mono ?_
  rintro e w' ⟨v, rfl, hown, hb⟩
  obtain ⟨B, d, rfl, hi⟩ := intsAt_own hown
  exact ⟨B, d, rfl, hi, hb⟩

set_option maxHeartbeats 1000000 in
set_option maxRecDepth 100000 in
theorem walk (w : World) (hH : Held w) (s : ByteArray) (hs : s.size ≤ maxLen) :
    Calls Tryd.prog 6 #[.string s] w fun e w' => e = .returned (.bool true) ∧ Below w.heap.size w w' := by
  have HH := Lib.hid hH
  clear hH
  by_cases hbig : 1000 < s.size
  · go_enter Tryd.func6, Tryd.ntmps6
    go_wp2_with fail
    refine (awake_any _ HH.out).mono ?_
    rintro e w3 ⟨rfl, hb3⟩
    go_wp2
    go_ret
    exact ⟨rfl, hb3⟩
  · have hsz := Rc.readZ_size s
    have c1 := fun w hH => read_reads s w hH (by omega)
    have c2 := fun w => refread_reads s w (by omega)
    generalize readZ s = zs at *
    generalize readOk s = b at *
    have C1 := Lib.hid c1
    have C2 := Lib.hid c2
    clear c1 c2
    go_enter Tryd.func6, Tryd.ntmps6
    go_wp2_with fail
    refine (C1.out _ HH.out).mono ?_
    rintro e w1 ⟨A1, d1, rfl, hI1, hb1⟩
    have I1 := Lib.hid hI1
    clear hI1
    go_wp2_with fail
    refine (C2.out _).mono ?_
    rintro e w2 ⟨A2, d2, rfl, hI2, hb2⟩
    have hB2 := hb1.trans (hb2.mono hb1.size)
    have I1 := Lib.hid (I1.out.below hb2)
    have I2 := Lib.hid hI2
    clear hI2
    go_wp2_with fail
    refine (Rc.same_ints A1 A2 zs d1 d2 _ I1.out I2.out (by omega)).mono ?_
    rintro e w3 ⟨rfl, hb3⟩
    have hB3 := hB2.trans (hb3.mono hB2.size)
    have H3 := Lib.hid (HH.out.below hB3)
    go_wp2_with fail
    refine (awake_any _ H3.out).mono ?_
    rintro e w4 ⟨rfl, hb4⟩
    go_wp2
    go_ret
    exact ⟨rfl, hB3.trans (hb4.mono hB3.size)⟩

set_option maxRecDepth 100000 in
theorem lifted (os : Os) (started : os.Started) (H : Type) (enc : TypeId × Value → H) :
    ReturnsInHanded {} Tryd.checked os 6 .any (fun w args => (Rows.classReadsSpec.pre enc Tryd.prog Tryd.f6 [] false w args ∧ laidMetH Tryd.prog laidL w) ∧ sizedMet enc Tryd.prog Tryd.f6 (OpenSpec.ofChange Rows.classReadsSpec) false w args) (Rows.classReadsSpec.post enc Tryd.prog Tryd.f6 false true false false) := by
  refine returns_laid started (by kernel_rfl) Tryd.func6 #[.string ⟨#[]⟩] (by kernel_rfl) (World.shaped_of_ZipB (by kernel_rfl) (by kernel_rfl)) (by rw [MakeChecks.laidMetH_plain _ _ _ (by kernel_rfl)]; exact laidMet_laidAll _ (by kernel_rfl) (by kernel_rfl)) (by kernel_rfl) (by kernel_rfl) rfl rfl (by kernel_rfl) ?_ ?_
  · intro ds hds
    rw [show Tryd.f6.params.toList.length = 1 from by kernel_rfl] at hds
    match ds, hds with
    | [d0], _ => rfl
  intro W base args ds p hval hA hH
  rw [Tryd.params6] at hA hval
  obtain ⟨v0, vs0, d0, ds0, p0, q0, hargs, rfl, rfl, h0, r0⟩ := ChangeShapes.trodAll_cons hA
  obtain ⟨rfl, rfl, rfl⟩ := ChangeShapes.trodAll_nil r0
  obtain rfl : args = #[v0] := by cases args; simp_all
  obtain ⟨s0, rfl, rfl, rfl, hs0⟩ := Go.ChangeMaps.open_string Tryd.underlying9 (hval 0 9 v0 rfl rfl) h0
  exact walk W hH s0 hs0

theorem holds : Rows.ClassReadsSaid :=
  OpenClaim.holds_of_wide 6 Tryd.f6 rfl rfl rfl rfl rfl rfl rfl ⟨rfl, rfl, rfl, rfl, rfl⟩ rfl rfl rfl rfl rfl (by kernel_rfl) Tryd.func6 (by kernel_rfl)
    (of_decide_eq_true (by kernel_rfl)) (by unfold Func.isWrapper; first | (rw [if_pos (by decide +kernel)]; kernel_rfl) | (rw [if_neg (by decide +kernel)]; exact ⟨rfl, rfl⟩))
    (fun os started H enc _ => lifted os started H enc)

theorem card : Rows.ClassReadsCardSaid :=
  Claim7.holds_tied_plain_at .later [] [.data, .data, .pinned] true (true, "a1140fc0831c133a07e12b67bd1474e5056586aa66a5fa6a6cdd2235dd1ce2cf") false
    holds (fun _ h => by cases h) (by kernel_rfl) (fun _ h => by cases h) classReads_row_tie rfl ⟨rfl, rfl⟩ (by kernel_rfl) rfl
    (fun f fn hf hfn => by
      obtain rfl : f = 6 := Option.some.inj ((show Tryd.prog.funcNamed "parquetry/parquetrylaw02.ClassReads" = some 6 by kernel_rfl).symm.trans hf) |>.symm
      obtain rfl : fn = Tryd.f6 := (Option.some.inj (Tryd.func6.symm.trans hfn)).symm
      exact ⟨by kernel_rfl, fun j t ht => by
        rw [Tryd.params6] at ht
        have hm : t ∈ [9] := by simpa using Array.mem_of_getElem? ht
        have hall : ([9].all fun u => !Tryd.prog.wantsStandIn u) = true := by kernel_rfl
        exact (show Tryd.prog.wantsStandIn t = false by simpa using List.all_eq_true.1 hall t hm)⟩)
    (by kernel_rfl)
end Go.Proofs.YtaodaibhhdjdmaaDoor.ClassReads
