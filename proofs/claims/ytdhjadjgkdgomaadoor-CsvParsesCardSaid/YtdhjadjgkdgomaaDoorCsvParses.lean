/-
  Proved here: for every text, CsvParses returns true (the records of a text of at most 4000 bytes, and how many there are, are the document's, or it is spoilt where the document says; a text of more than 65536 bytes is too long), and the text stays. Conditions: the package variables that the row lists hold what the program's text lays (the card ties them).
-/
import Derived.Test.YtdhjadjgkdgomaaDoorCvAwake
import Derived.Test.YtdhjadjgkdgomaaDoorCvRef
import Derived.Test.YtdhjadjgkdgomaaDoorCvFacts
import Derived.Test.YtdhjadjgkdgomaaDoorCvLaid
import Derived.Test.YtdhjadjgkdgomaaDoorTie
import Derived.Test.YtdhjadjgkdgomaaDoorCards
set_option linter.unusedVariables false
namespace Go.Proofs.YtdhjadjgkdgomaaDoor.CsvParses
open Go.ChangeShapes Go.WideShapes Go.ChangeAt Go.RowKit Go.Lib Go.Proofs.YtdhjadjgkdgomaaDoor.Cv

theorem sum_at (R : List (List Bs)) (i : Nat) (h : i < R.length) : sumLen (R.take (i + 1)) = sumLen (R.take i) + R[i].length := by
  rw [List.take_succ_eq_append_getElem h, sumLen_snoc]
theorem sum_app (X Y : List (List Bs)) : sumLen (X ++ Y) = sumLen X + sumLen Y := by simp [sumLen]
theorem sum_mono (R : List (List Bs)) (i : Nat) : sumLen (R.take i) ≤ sumLen R := by
  have h := sum_app (R.take i) (R.drop i)
  rw [List.take_append_drop] at h
  omega
theorem evs_len : ∀ (l : Bs) (q : Nat) (acc : Bs), (evs q acc l).length ≤ l.length + 1
  | [], q, acc => by rw [evs]; split <;> simp
  | b :: l, q, acc => by
    rw [evs]
    cases hs : stepQ q b.toNat with
    | none => simp
    | some q' =>
      simp only
      have h0 := evs_len l 0 []
      have h5 := evs_len l 5 []
      have h4 := evs_len l 4 acc
      have h6 := evs_len l q' (acc ++ [b])
      split
      · simp; omega
      · split
        · simp; omega
        · split
          · simp; omega
          · simp; omega

set_option maxHeartbeats 2000000 in
set_option maxRecDepth 1000000 in
theorem walk (w : World) (hH : Held w) (s : ByteArray) (hs : s.size ≤ maxLen) :
    Calls Tryd.prog 3 #[.string s] w fun e w' => e = .returned (.bool true) ∧ Below w.heap.size w w' := by
  have HH := Lib.hid hH
  clear hH
  by_cases hmid : 4000 < s.size ∧ s.size ≤ 65536
  · obtain ⟨hm1, hm2⟩ := hmid
    have d1 : decide (4000 < (s.size : Int)) = true := decide_eq_true (by omega)
    have d2 : decide ((s.size : Int) ≤ 65536) = true := decide_eq_true (by omega)
    go_enter Tryd.func3, Tryd.ntmps3
    go_wp2_with fail
    refine (awake_any _ HH.out).mono ?_
    rintro e w1 ⟨rfl, hb1⟩
    go_wp2
    go_ret
    exact ⟨rfl, hb1⟩
  have HP := Lib.hid (parse_any s w HH.out)
  have HC := Lib.hid (fun W => count_any s W)
  by_cases hbig : 65536 < s.size
  · have d1 : decide (4000 < (s.size : Int)) = true := decide_eq_true (by omega)
    have d2 : decide ((s.size : Int) ≤ 65536) = false := decide_eq_false (by omega)
    have er : recsP s = [] := if_neg (by omega)
    have ea : atP s = 0 := if_neg (by omega)
    have ee : erP s = 3 := if_neg (by omega)
    have ec : cntR s = 0 := if_neg (by omega)
    have ef : cntF s = 0 := if_neg (by omega)
    have HE := Lib.hid (And.intro er (And.intro ea (And.intro ee (And.intro ec ef))))
    clear er ea ee ec ef hmid
    go_enter Tryd.func3, Tryd.ntmps3
    go_wp2_with fail
    refine HP.out.mono ?_
    rintro e w1 ⟨A, c, rfl, hR, hb1⟩
    rw [HE.out.1, HE.out.2.1, HE.out.2.2.1]
    clear hR
    go_wp2_with fail
    refine (HC.out _).mono ?_
    rintro e w2 ⟨rfl, hb2⟩
    rw [HE.out.2.2.2.1, HE.out.2.2.2.2]
    have hB2 := hb1.trans (hb2.mono hb1.size)
    have H2 := Lib.hid (HH.out.below HH.out.1 hB2)
    go_wp2_with fail
    refine (awake_any _ H2.out).mono ?_
    rintro e w3 ⟨rfl, hb3⟩
    go_wp2
    go_ret
    exact ⟨rfl, hB2.trans (hb3.mono hB2.size)⟩
  have hsz : s.size ≤ 4000 := by omega
  have hs6 : s.size ≤ 65536 := by omega
  have d1 : decide (4000 < (s.size : Int)) = false := decide_eq_false (by omega)
  have HF := Lib.hid (fun W => refParse_any s W hs6)
  have ea : atP s = pz (place 0 0 (tx s)) := if_pos hs6
  have ee : erP s = ez (place 0 0 (tx s)) := if_pos hs6
  clear hmid hbig
  cases hp : place 0 0 (tx s) with
  | some k =>
    have er : recsP s = [] := if_neg (by rw [hp]; simp)
    have ec : cntR s = 0 := if_neg (by rw [hp]; simp)
    have ef : cntF s = 0 := if_neg (by rw [hp]; simp)
    have eR : refR s = [] := if_neg (by rw [hp]; simp)
    rw [hp] at ea ee
    have HE := Lib.hid (And.intro er (And.intro ea (And.intro ee (And.intro ec (And.intro ef (And.intro eR hp))))))
    clear er ea ee ec ef eR hp
    go_enter Tryd.func3, Tryd.ntmps3
    go_wp2_with fail
    refine HP.out.mono ?_
    rintro e w1 ⟨A, c, rfl, hR, hb1⟩
    rw [HE.out.1, HE.out.2.1, HE.out.2.2.1]
    clear hR
    go_wp2_with fail
    refine (HC.out _).mono ?_
    rintro e w2 ⟨rfl, hb2⟩
    rw [HE.out.2.2.2.1, HE.out.2.2.2.2.1]
    have hB2 := hb1.trans (hb2.mono hb1.size)
    go_wp2_with fail
    refine (HF.out _).mono ?_
    rintro e w3 ⟨A3, c3, rfl, hR3, hb3⟩
    rw [HE.out.2.2.2.2.2.1, HE.out.2.2.2.2.2.2]
    clear hR3
    have hB3 := hB2.trans (hb3.mono hB2.size)
    have H3 := Lib.hid (HH.out.below HH.out.1 hB3)
    simp only [pz, ez, refZ]
    have hk0 : (0 : Int) ≤ k := by omega
    go_wp2_with fail
    refine (awake_any _ H3.out).mono ?_
    rintro e w4 ⟨rfl, hb4⟩
    go_wp2
    go_ret
    exact ⟨rfl, hB3.trans (hb4.mono hB3.size)⟩
  | none =>
    have er : recsP s = (g0 (evs 0 [] (tx s))).1 := if_pos ⟨hs6, hp⟩
    have ec : cntR s = lasts (evs 0 [] (tx s)) := if_pos ⟨hs6, hp⟩
    have ef : cntF s = (evs 0 [] (tx s)).length := if_pos ⟨hs6, hp⟩
    have eR : refR s = (g0 (evs 0 [] (tx s))).1 := if_pos hp
    have hcounts := grp_counts (evs 0 [] (tx s)) ([], [])
    have hends := (ends (tx s) 0 0 [] ([], []) (by decide) hp (by decide)).1
    have hel := evs_len (tx s) 0 []
    rw [tx_size] at hel
    rw [hp] at ea ee
    obtain ⟨R, hR0⟩ : ∃ R, (g0 (evs 0 [] (tx s))).1 = R := ⟨_, rfl⟩
    have h1 : lasts (evs 0 [] (tx s)) = R.length := by
      rw [← hR0]
      have := hcounts.1
      simp at this
      exact this.symm
    have h2 : (evs 0 [] (tx s)).length = sumLen R := by
      rw [← hR0]
      have h := hcounts.2
      rw [hends] at h
      simp [sumLen] at h ⊢
      exact h.symm
    rw [hR0] at er eR
    rw [h1] at ec
    rw [h2] at ef hel
    have hlen : R.length ≤ 4001 := by
      have := lasts_le (evs 0 [] (tx s))
      rw [h1, h2] at this
      omega
    have hrow : ∀ r ∈ R, r.length ≤ 1000000 := by
      intro r hr
      obtain ⟨i, hi, rfl⟩ := List.getElem_of_mem hr
      have h3 := sum_at R i hi
      have h4 := sum_mono R (i + 1)
      omega
    have HE := Lib.hid (And.intro er (And.intro ea (And.intro ee (And.intro ec (And.intro ef (And.intro eR hp))))))
    have HRW := Lib.hid hrow
    clear er ea ee ec ef eR hp hcounts hends h1 h2 hR0 hrow
    go_enter Tryd.func3, Tryd.ntmps3
    go_wp2_with fail
    refine HP.out.mono ?_
    rintro e w1 ⟨A, c, rfl, hR, hb1⟩
    rw [HE.out.1] at hR
    rw [HE.out.1, HE.out.2.1, HE.out.2.2.1]
    have HR1 := Lib.hid hR
    clear hR
    go_wp2_with fail
    refine (HC.out _).mono ?_
    rintro e w2 ⟨rfl, hb2⟩
    rw [HE.out.2.2.2.1, HE.out.2.2.2.2.1]
    have hB2 := hb1.trans (hb2.mono hb1.size)
    have HR2 := Lib.hid (HR1.out.below hb2)
    go_wp2_with fail
    refine (HF.out _).mono ?_
    rintro e w3 ⟨A3, c3, rfl, hR3, hb3⟩
    rw [HE.out.2.2.2.2.2.1] at hR3
    rw [HE.out.2.2.2.2.2.1, HE.out.2.2.2.2.2.2]
    have HR3 := Lib.hid hR3
    have HR2 := Lib.hid (HR2.out.below hb3)
    have HB3 := Lib.hid (hB2.trans (hb3.mono hB2.size))
    clear hR3 hb1 hb2 hb3 hB2 HP HC HF HE
    simp only [pz, ez, refZ]
    go_wp2_with fail
    go_loopw [10, 11] (fun s10 s11 wx => wx = w3 ∧ ∃ i : Nat, i ≤ R.length ∧ s10 = .int .i64 (sumLen (R.take i)) ∧ s11 = .int .i64 i) (fun _ s11 _ => R.length - (RowKit.intOf s11).toNat)
    case atStart => exact ⟨rfl, 0, Nat.zero_le _, rfl, rfl⟩
    case round =>
      obtain ⟨rfl, i, hi, rfl, rfl⟩ := hrel
      by_cases hlt : i < R.length
      · obtain ⟨g, o, A1, c1, hA3, a1, v1⟩ := HR3.out.at_ hlt
        subst hA3
        have h3 := Lib.hid (sum_at R i hlt)
        have h4 := sum_mono R (i + 1)
        rw [h3.out] at h4
        have hx : ∃ x, R[i].length = x := ⟨_, rfl⟩
        obtain ⟨x, hx⟩ := hx
        obtain ⟨y, hy⟩ : ∃ y, sumLen (R.take i) = y := ⟨_, rfl⟩
        rw [hx] at a1 h4
        rw [hy] at h4
        rw [hy]
        have HXY := Lib.hid (And.intro hx hy)
        clear v1 hx hy
        go_wp2_with fail
        go_roundw
        case rel =>
          refine ⟨trivial, i + 1, by omega, ?_, by go_num⟩
          rw [h3.out, HXY.out.1, HXY.out.2]
          go_num
        case measure => simp [RowKit.intOf]; omega
      · obtain rfl : i = R.length := by omega
        have hS := Lib.hid (same_recs A A3 R c c3 wr HR2.out HR3.out (by omega) HRW.out)
        rw [List.take_length]
        go_wp2_with fail
        refine hS.out.mono ?_
        rintro e w4 ⟨rfl, hb4⟩
        have hB4 := HB3.out.trans (hb4.mono HB3.out.size)
        have H4 := Lib.hid (HH.out.below HH.out.1 hB4)
        go_wp2_with fail
        refine (awake_any _ H4.out).mono ?_
        rintro e w5 ⟨rfl, hb5⟩
        go_wp2
        go_ret
        exact ⟨rfl, hB4.trans (hb5.mono hB4.size)⟩

set_option maxRecDepth 100000 in
theorem lifted (os : Os) (started : os.Started) (H : Type) (enc : TypeId × Value → H) :
    ReturnsInHanded {} Tryd.checked os 3 .any (fun w args => (Rows.csvParsesSpec.pre enc Tryd.prog Tryd.f3 [] false w args ∧ laidMetH Tryd.prog laidL w) ∧ sizedMet enc Tryd.prog Tryd.f3 (OpenSpec.ofChange Rows.csvParsesSpec) false w args) (Rows.csvParsesSpec.post enc Tryd.prog Tryd.f3 false true false false) := by
  refine returns_laid started (by kernel_rfl) Tryd.func3 #[.string ⟨#[]⟩] (by kernel_rfl) (World.shaped_of_ZipB (by kernel_rfl) (by kernel_rfl)) (by rw [MakeChecks.laidMetH_plain _ _ _ (by kernel_rfl)]; exact laidMet_laidAll _ (by kernel_rfl) (by kernel_rfl)) (by kernel_rfl) (by kernel_rfl) rfl rfl (by kernel_rfl) ?_ ?_
  · intro ds hds
    rw [show Tryd.f3.params.toList.length = 1 from by kernel_rfl] at hds
    match ds, hds with
    | [d0], _ => rfl
  intro W base args ds p hval hA hH
  rw [Tryd.params3] at hA hval
  obtain ⟨v0, vs0, d0, ds0, p0, q0, hargs, rfl, rfl, h0, r0⟩ := ChangeShapes.trodAll_cons hA
  obtain ⟨rfl, rfl, rfl⟩ := ChangeShapes.trodAll_nil r0
  obtain rfl : args = #[v0] := by cases args; simp_all
  obtain ⟨s0, rfl, rfl, rfl, hs0⟩ := Go.ChangeMaps.open_string Tryd.underlying9 (hval 0 9 v0 rfl rfl) h0
  exact walk W hH s0 hs0

theorem holds : Rows.CsvParsesSaid :=
  OpenClaim.holds_of_wide 3 Tryd.f3 rfl rfl rfl rfl rfl rfl rfl ⟨rfl, rfl, rfl, rfl, rfl⟩ rfl rfl rfl rfl rfl (by kernel_rfl) Tryd.func3 (by kernel_rfl)
    (of_decide_eq_true (by kernel_rfl)) (by unfold Func.isWrapper; first | (rw [if_pos (by decide +kernel)]; kernel_rfl) | (rw [if_neg (by decide +kernel)]; exact ⟨rfl, rfl⟩))
    (fun os started H enc _ => lifted os started H enc)

theorem card : Rows.CsvParsesCardSaid :=
  Claim7.holds_tied_plain_at .later [] [.data, .pinned] true (true, "70d7b8067d62b9ef9073b90744f4a4782b950ab5ded6e2d3eeb41ea9a8151f78") false
    holds (fun _ h => by cases h) (by kernel_rfl) (fun _ h => by cases h) csvParses_row_tie rfl ⟨rfl, rfl⟩ (by kernel_rfl) rfl
    (fun f fn hf hfn => by
      obtain rfl : f = 3 := Option.some.inj ((show Tryd.prog.funcNamed "parquetry/parquetrylaw07.CsvParses" = some 3 by kernel_rfl).symm.trans hf) |>.symm
      obtain rfl : fn = Tryd.f3 := (Option.some.inj (Tryd.func3.symm.trans hfn)).symm
      exact ⟨by kernel_rfl, fun j t ht => by
        rw [Tryd.params3] at ht
        have hm : t ∈ [9] := by simpa using Array.mem_of_getElem? ht
        have hall : ([9].all fun u => !Tryd.prog.wantsStandIn u) = true := by kernel_rfl
        exact (show Tryd.prog.wantsStandIn t = false by simpa using List.all_eq_true.1 hall t hm)⟩)
    (by kernel_rfl)
end Go.Proofs.YtdhjadjgkdgomaaDoor.CsvParses
