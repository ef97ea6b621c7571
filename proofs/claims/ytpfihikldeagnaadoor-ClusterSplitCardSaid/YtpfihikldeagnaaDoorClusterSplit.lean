/-
  Proved here: for every text, ClusterSplit returns true (its clusters are the document's, and how wide they are together; of at most 1000 bytes), and the text stays. Conditions: the package variable that the row lists holds what the program's text lays (the card ties it).
-/
import Derived.Test.YtpfihikldeagnaaDoorKuLaid
import Derived.Test.YtpfihikldeagnaaDoorKrOf
import Derived.Test.YtpfihikldeagnaaDoorKrSame
import Derived.Test.YtpfihikldeagnaaDoorTie
import Derived.Test.YtpfihikldeagnaaDoorCards
set_option linter.unusedVariables false
namespace Go.Proofs.YtpfihikldeagnaaDoor.ClusterSplit
open Go.ChangeShapes Go.WideShapes Go.ChangeAt Go.RowKit Go.Lib Go.Proofs.YtpfihikldeagnaaDoor.Ku Go.Proofs.YtpfihikldeagnaaDoor.Arr

set_option maxHeartbeats 1000000 in
set_option maxRecDepth 100000 in
theorem rsplit_any (s : ByteArray) (w : World) (hs : s.size ≤ 100000) :
    Calls Tryd.prog 15 #[.string s] w fun e w' => ∃ v, e = .returned v ∧ w'.ownsRow w.heap.size 32 6 v (ofS s).length (cellsC (ofS s)) ∧ Below w.heap.size w w' := by
  have hln := Rn.splitA_len s.data.toList.length s.data.toList 0 (Nat.le_refl _)
  rw [← Lib.size_eq] at hln
  unfold ofS
  have HSP := Lib.hid (fun W => Rn.refsplit_reads s W (by omega))
  have hil := ints3_len (Rn.splitA s.data.toList 0)
  generalize Rn.splitA s.data.toList 0 = rs at *
  have HOF := Lib.hid (fun A c W hR => rof_any A (ints3 rs) c W hR (by omega))
  rw [hil] at HOF
  clear hil
  go_enter Tryd.func15, Tryd.ntmps15
  go_wp2_with fail
  refine (HSP.out _).mono ?_
  rintro e w1 ⟨A, c, rfl, hr, hb1⟩
  have HR := Lib.hid (ruAt_runes hr)
  have HB1 := Lib.hid hb1
  clear hr hb1
  go_wp2_with fail
  refine (HOF.out A c _ HR.out).mono ?_
  rintro e w2 ⟨v, rfl, hown, hb2⟩
  have HO := Lib.hid hown
  clear hown
  go_wp2
  go_ret
  exact ⟨_, rfl, Cl.ownsRow_mono HO.out HB1.out.size, HB1.out.trans (hb2.mono HB1.out.size)⟩

set_option maxHeartbeats 2000000 in
set_option maxRecDepth 100000 in
theorem walk (w : World) (hH : Held w) (s : ByteArray) (hs0 : s.size ≤ maxLen) :
    Calls Tryd.prog 4 #[.string s] w fun e w' => e = .returned (.bool true) ∧ Below w.heap.size w w' := by
  unfold maxLen at hs0
  have HH := Lib.hid hH
  clear hH
  by_cases hbig : 1000 < s.size
  · go_enter Tryd.func4, Tryd.ntmps4
    go_wp2_with (go_at_call 8; refine (awake_any _ HH.out).mono ?_; rintro e w' ⟨rfl, hb⟩)
    go_ret
    exact ⟨rfl, hb⟩
  · have HSP := Lib.hid (fun W h => split_any s W (by omega) h)
    have HRS := Lib.hid (fun W => rsplit_any s W (by omega))
    have hXl := ofS_len s
    generalize ofS s = X at *
    have HSA := Lib.hid (fun A B c d W ha hb => csame_yes A B X X.length c d W rfl ha hb (by omega))
    have HWI := Lib.hid (fun A c W hR => cwide_any A X X.length c W rfl hR (by omega))
    go_enter Tryd.func4, Tryd.ntmps4
    go_wp2_with fail
    refine (HSP.out _ HH.out).mono ?_
    rintro e w1 ⟨v, rfl, hown, hb1⟩
    obtain ⟨A, c, rfl, hC⟩ := cuAt_own hown
    have HC := Lib.hid hC
    have HB1 := Lib.hid hb1
    clear hown hC hb1 HSP
    go_wp2_with fail
    refine (HRS.out _).mono ?_
    rintro e w2 ⟨v, rfl, hown, hb2⟩
    obtain ⟨B, d, rfl, hD⟩ := cuAt_own hown
    have HC2 := Lib.hid (HC.out.below hb2)
    have HD := Lib.hid hD
    have HB2 := Lib.hid (HB1.out.trans (hb2.mono HB1.out.size))
    clear hown hD hb2 HRS HC HB1
    go_wp2_with fail
    go_loopw [5, 6] (fun s5 s6 wx => ∃ (k : Nat) (n : Int), k ≤ X.length ∧ s6 = .int .i64 k ∧ s5 = .int .i64 n ∧ n = wideS (X.take k) ∧ Below w2.heap.size w2 wx) (fun _ s6 _ => X.length - (RowKit.intOf s6).toNat)
    case atStart => exact ⟨0, 0, Nat.zero_le _, rfl, rfl, rfl, Below.refl _ _⟩
    case round =>
      obtain ⟨k, n, hk, rfl, rfl, hn, hbw⟩ := hrel
      by_cases hlt : k < X.length
      · obtain ⟨g, off, rfl, hg, c0, c1, c2, c3, c4, c5⟩ := (HD.out.below hbw).at_ hlt
        have hnx := wideS_next X k hlt
        rw [← hn] at hnx
        generalize X[k] = r at *
        obtain ⟨V, hV⟩ : ∃ V, IntKind.i64.wrap (n + r.w) = V := ⟨_, rfl⟩
        rw [hV] at hnx
        have HN := Lib.hid hnx
        have HB := Lib.hid hbw
        clear hnx hn hbw
        go_wp2
        go_roundw
        case rel => exact ⟨k + 1, V, by omega, by go_num, by rfl, HN.out.symm, HB.out⟩
        case measure => simp [RowKit.intOf]; omega
      · obtain rfl : k = X.length := by omega
        rw [List.take_length] at hn
        subst hn
        have HCX := Lib.hid (HC2.out.below hbw)
        have HDX := Lib.hid (HD.out.below hbw)
        have HBX := Lib.hid (HB2.out.trans (hbw.mono HB2.out.size))
        clear hbw
        generalize wideS X = W0 at *
        go_wp2_with fail
        refine (HSA.out _ _ _ _ _ HCX.out HDX.out).mono ?_
        rintro e w5 ⟨rfl, hb5⟩
        have HC5 := Lib.hid (HCX.out.below hb5)
        have HB5 := Lib.hid (HBX.out.trans (hb5.mono HBX.out.size))
        clear hb5
        go_wp2_with fail
        refine (HWI.out _ _ _ HC5.out).mono ?_
        rintro e w6 ⟨rfl, hb6⟩
        have HB6 := Lib.hid (HB5.out.trans (hb6.mono HB5.out.size))
        clear hb6
        go_wp2_with fail
        refine (awake_any _ (HH.out.below HB6.out)).mono ?_
        rintro e w7 ⟨rfl, hb7⟩
        go_wp2
        go_ret
        exact ⟨rfl, HB6.out.trans (hb7.mono HB6.out.size)⟩

set_option maxRecDepth 100000 in
theorem lifted (os : Os) (started : os.Started) (H : Type) (enc : TypeId × Value → H) :
    ReturnsInHanded {} Tryd.checked os 4 .any (fun w args => (Rows.clusterSplitSpec.pre enc Tryd.prog Tryd.f4 [] false w args ∧ laidMetH Tryd.prog laidL w) ∧ sizedMet enc Tryd.prog Tryd.f4 (OpenSpec.ofChange Rows.clusterSplitSpec) false w args) (Rows.clusterSplitSpec.post enc Tryd.prog Tryd.f4 false true false false) := by
  refine returns_laid started (by kernel_rfl) Tryd.func4 #[.string ⟨#[]⟩] (by kernel_rfl) (World.shaped_of_ZipB (by kernel_rfl) (by kernel_rfl)) (by rw [MakeChecks.laidMetH_plain _ _ _ (by kernel_rfl)]; exact laidMet_laidAll _ (by kernel_rfl) (by kernel_rfl)) (by kernel_rfl) (by kernel_rfl) rfl rfl (by kernel_rfl) ?_ ?_
  · intro ds hds
    rw [show Tryd.f4.params.toList.length = 1 from by kernel_rfl] at hds
    match ds, hds with
    | [d0], _ => rfl
  intro W base args ds p hval hA hH
  rw [Tryd.params4] at hA hval
  obtain ⟨v0, vs0, d0, ds0, p0, q0, hargs, rfl, rfl, h0, r0⟩ := ChangeShapes.trodAll_cons hA
  obtain ⟨rfl, rfl, rfl⟩ := ChangeShapes.trodAll_nil r0
  obtain rfl : args = #[v0] := by cases args; simp_all
  obtain ⟨s0, rfl, rfl, rfl, hs0⟩ := Go.ChangeMaps.open_string Tryd.underlying9 (hval 0 9 v0 rfl rfl) h0
  exact walk W hH s0 hs0

theorem holds : Rows.ClusterSplitSaid :=
  OpenClaim.holds_of_wide 4 Tryd.f4 rfl rfl rfl rfl rfl rfl rfl ⟨rfl, rfl, rfl, rfl, rfl⟩ rfl rfl rfl rfl rfl (by kernel_rfl) Tryd.func4 (by kernel_rfl)
    (of_decide_eq_true (by kernel_rfl)) (by unfold Func.isWrapper; first | (rw [if_pos (by decide +kernel)]; kernel_rfl) | (rw [if_neg (by decide +kernel)]; exact ⟨rfl, rfl⟩))
    (fun os started H enc _ => lifted os started H enc)

theorem card : Rows.ClusterSplitCardSaid :=
  Claim7.holds_tied_plain_at .later [] [.data] true (true, "6266be65454116c20761097c10453cce90d7e1924b2052746f8030f8566e73d3") false
    holds (fun _ h => by cases h) (by kernel_rfl) (fun _ h => by cases h) clusterSplit_row_tie rfl ⟨rfl, rfl⟩ (by kernel_rfl) rfl
    (fun f fn hf hfn => by
      obtain rfl : f = 4 := Option.some.inj ((show Tryd.prog.funcNamed "parquetry/parquetrylaw06.ClusterSplit" = some 4 by kernel_rfl).symm.trans hf) |>.symm
      obtain rfl : fn = Tryd.f4 := (Option.some.inj (Tryd.func4.symm.trans hfn)).symm
      exact ⟨by kernel_rfl, fun j t ht => by
        rw [Tryd.params4] at ht
        have hm : t ∈ [9] := by simpa using Array.mem_of_getElem? ht
        have hall : ([9].all fun u => !Tryd.prog.wantsStandIn u) = true := by kernel_rfl
        exact (show Tryd.prog.wantsStandIn t = false by simpa using List.all_eq_true.1 hall t hm)⟩)
    (by kernel_rfl)
end Go.Proofs.YtpfihikldeagnaaDoor.ClusterSplit
