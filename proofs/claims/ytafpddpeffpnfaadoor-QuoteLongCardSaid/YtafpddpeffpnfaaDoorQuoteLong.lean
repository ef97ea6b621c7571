/-
  Proved here: for every text, and whether there is one record more, QuoteLong returns true (as many records of one field, of one text of 20 to 1000 bytes without quotes, as make just 65536 bytes or less are written, one more is too many), and the text stays. Conditions: the package variables that the row lists hold what the program's text lays (the card ties them).
-/
import Derived.Test.YtafpddpeffpnfaaDoorQuAwake
import Derived.Test.YtafpddpeffpnfaaDoorQuRep
import Derived.Test.YtafpddpeffpnfaaDoorQuOwn
import Derived.Test.YtafpddpeffpnfaaDoorCvLike
import Derived.Test.YtafpddpeffpnfaaDoorCvNew
import Derived.Test.YtafpddpeffpnfaaDoorCvLaid
import Derived.Test.YtafpddpeffpnfaaDoorTie
import Derived.Test.YtafpddpeffpnfaaDoorCards
set_option linter.unusedVariables false
namespace Go.Proofs.YtafpddpeffpnfaaDoor.QuoteLong
open Go.ChangeShapes Go.WideShapes Go.ChangeAt Go.RowKit Go.Lib Go.Proofs.YtafpddpeffpnfaaDoor.Cv Go.Proofs.YtafpddpeffpnfaaDoor.Qu

set_option maxHeartbeats 2000000 in
set_option maxRecDepth 1000000 in
theorem walk (w : World) (hH : Held w) (s : ByteArray) (hs : s.size ≤ maxLen) (more : Bool) :
    Calls Tryd.prog 5 #[.string s, .bool more] w fun e w' => e = .returned (.bool true) ∧ Below w.heap.size w w' := by
  have HH := Lib.hid hH
  clear hH
  by_cases hsm : s.size < 20
  · have d1 : decide ((s.size : Int) < 20) = true := decide_eq_true (by omega)
    go_enter Tryd.func5, Tryd.ntmps5
    go_wp2_with fail
    refine (awake_any _ HH.out).mono ?_
    rintro e w1 ⟨rfl, hb1⟩
    go_wp2
    go_ret
    exact ⟨rfl, hb1⟩
  have d1 : decide ((s.size : Int) < 20) = false := decide_eq_false (by omega)
  by_cases hbig : 1000 < s.size
  · have d2 : decide (1000 < (s.size : Int)) = true := decide_eq_true (by omega)
    go_enter Tryd.func5, Tryd.ntmps5
    go_wp2_with fail
    refine (awake_any _ HH.out).mono ?_
    rintro e w1 ⟨rfl, hb1⟩
    go_wp2
    go_ret
    exact ⟨rfl, hb1⟩
  have d2 : decide (1000 < (s.size : Int)) = false := decide_eq_false (by omega)
  have hF := field_any s w HH.out (by omega)
  by_cases hfs : fldB s = s
  case neg =>
    have e0 : ((fldB s).toList == s.toList) = false := beq_no hfs
    generalize fldB s = T at hF e0
    have HF := Lib.hid hF
    clear hF hfs
    go_enter Tryd.func5, Tryd.ntmps5
    go_wp2_with fail
    refine HF.out.mono ?_
    rintro e w1 ⟨rfl, hb1⟩
    have H1 := Lib.hid (HH.out.below HH.out.1 hb1)
    have HB1 := Lib.hid hb1
    clear hb1
    go_wp2_with fail
    refine (awake_any _ H1.out).mono ?_
    rintro e w2 ⟨rfl, hb2⟩
    go_wp2
    go_ret
    exact ⟨rfl, HB1.out.trans (hb2.mono HB1.out.size)⟩
  have hfx : fieldW (tx s) = tx s := by
    have h := congrArg tx hfs
    exact h
  rw [hfs] at hF
  have HF := Lib.hid hF
  have hx1 := tx_size s
  obtain ⟨N, hN⟩ : ∃ N, 65536 / (s.size + 2) = N := ⟨_, rfl⟩
  have hN1 : N * (s.size + 2) ≤ 65536 := by rw [← hN]; exact Nat.div_mul_le_self _ _
  have hN2 : 65536 < (N + 1) * (s.size + 2) := by
    rw [← hN]
    have := Nat.lt_div_mul_add (a := 65536) (b := s.size + 2) (by omega)
    rw [Nat.succ_mul]
    exact this
  have hq : (65536 : Int).tdiv ((s.size : Int) + 2) = (N : Int) := by
    rw [← hN]
    exact Int.ofNat_tdiv 65536 (s.size + 2) |>.symm
  have hN3 : N ≤ 3276 := by
    have : N * 20 ≤ N * (s.size + 2) := Nat.mul_le_mul_left _ (by omega)
    omega
  have hN4 : 0 < N := by
    rcases Nat.eq_zero_or_pos N with h | h
    · subst h
      omega
    · exact h
  have hlx : (tx s).length ≤ 1000 := by omega
  have hi0 := Cl.info_parts infoRow
  obtain ⟨i1, hi', hz0', hz1', hz2'⟩ := hi0
  cases more with
  | true =>
    have HP := Lib.hid (fun A c W hH hA => print_over hfx hlx (by rw [hx1]; exact hN1) (by rw [hx1]; exact hN2) A c W hH hA)
    clear hF hfs hfx hx1 hN hN1 hN2
    go_enter Tryd.func5, Tryd.ntmps5
    go_wp2_with fail
    refine HF.out.mono ?_
    rintro e w1 ⟨rfl, hb1⟩
    have HB1 := Lib.hid hb1
    clear hb1
    go_wp2_with fail
    go_loopw [6, 7] (fun s6 s7 wx => ∃ (k : Nat) (A' : Option Addr) (c' : Nat), k ≤ (N + 1) ∧ s7 = .int .i64 k ∧ s6 = .slice A' k c' ∧ RI w.heap.size wx (.slice A' k c') (.slice none 0 0) (rep k (tx s)) [] ∧ Below w.heap.size w wx) (fun _ s7 _ => (N + 1) - (RowKit.intOf s7).toNat)
    case atStart => exact ⟨0, none, 0, Nat.zero_le _, rfl, rfl, RI.start HB1.out.size, HB1.out⟩
    case round =>
      obtain ⟨k, A', c', hk, rfl, rfl, hri, hbw⟩ := hrel
      have HRI := Lib.hid hri
      have HBW := Lib.hid hbw
      by_cases hlt : k < (N + 1)
      · have hw1 : (wr.alloc (.cells #[.string s] 9)).ownsRow wr.heap.size 9 1 (.slice (some ⟨wr.heap.size, 0, none⟩) 1 1) [tx s].length (rowC [tx s]) :=
          World.ownsRow_lit (base := wr.heap.size) (e := 9) (size := 1) wr #[.string s] 1 (Nat.le_refl _) (by decide) rfl
        obtain ⟨vals, hB4, hown4, hone4, hclose4⟩ := (RI.with HRI.out (below_one' wr (.cells #[.string s] 9)) hw1).close
        rw [rep_num] at hown4 hclose4
        have HOWN := Lib.hid hown4
        have HCL := Lib.hid hclose4
        clear hri hbw hw1 hown4 hclose4
        go_wp2_with (at_builtin; refine wpList_append_own _ rfl _ _ 25 rfl w.heap.size 33 i1 (.slice none 0 0) 1 24 Tryd.underlying25 hi' hz0' hz1' hz2' rfl (by decide) _ _ _ rfl (HOWN.out.alloc _) ⟨_, 0, none⟩ 1 1 [.slice (some ⟨wr.heap.size, 0, none⟩) 1 1] rfl rfl ?c1 ?c2 ?c3 ?c4 ?c5 ?_)
        case c1 =>
          have hcell := cell_one_new (wr.alloc (.cells #[.string s] 9)) (.slice (some ⟨wr.heap.size, 0, none⟩) 1 1) 33
          rw [size_alloc] at hcell
          exact hcell
        case c2 => intro u hu; simp only [List.mem_singleton] at hu; subst hu; rfl
        case c3 => unfold maxLen; omega
        case c4 => omega
        case c5 => have := HBW.out.size; simp; omega
        intro vs' w6 ho6 hg6 _
        obtain ⟨A6, k6, rfl, -, -⟩ := vAt_own ho6
        have hbB : Below (wr.alloc (.cells #[.string s] 9)).heap.size (wr.alloc (.cells #[.string s] 9)) ((wr.alloc (.cells #[.string s] 9)).alloc (.cells #[.slice (some ⟨wr.heap.size, 0, none⟩) 1 1] 33)) := (Below.refl _ _).alloc (Nat.le_refl _) _
        have hb6 : Below w.heap.size w w6 := ((HBW.out.alloc HBW.out.size _).alloc (by simp; have := HBW.out.size; omega) _).grown hg6 (by simp; have := HBW.out.size; omega) (fun k hk => (HOWN.out.lt k hk).1)
        have HRI6 := Lib.hid (HCL.out _ _ w6 hbB ho6 hg6)
        have HB6 := Lib.hid hb6
        clear ho6 hg6 hbB hb6
        go_wp2_with fail
        go_roundw
        case measure => simp [RowKit.intOf]; omega
        case rel =>
          refine ⟨k + 1, A6, k6, by omega, by go_num, rfl, ?_, HB6.out⟩
          rw [rep_snoc]
          exact HRI6.out
      · obtain rfl : k = N + 1 := by omega
        obtain ⟨A6, c6, e6, hrec⟩ := hri.reads
        injection e6 with e7 e8 e9
        subst e7
        have HREC := Lib.hid hrec
        have KR := Lib.hid (HH.out.below HH.out.1 hbw)
        clear hri hbw HRI hrec e8 e9
        go_wp2_with fail
        refine (HP.out A' c' wr KR.out HREC.out).mono ?_
        rintro e w2 ⟨rfl, hb2⟩
        have HB2 := Lib.hid (HBW.out.trans (hb2.mono HBW.out.size))
        have K2 := Lib.hid (KR.out.below KR.out.1 hb2)
        clear hb2
        go_wp2_with fail
        refine (awake_any _ K2.out).mono ?_
        rintro e w3 ⟨rfl, hb3⟩
        go_wp2
        go_ret
        exact ⟨rfl, HB2.out.trans (hb3.mono HB2.out.size)⟩
  | false =>
    obtain ⟨T, hTs, hpr⟩ := print_just hfx hlx hN4 (by rw [hx1]; exact hN1)
    rw [hx1] at hTs
    have HP := Lib.hid hpr
    obtain ⟨M, hM⟩ : ∃ M, N * (s.size + 2) = M := ⟨_, rfl⟩
    rw [hM] at hTs hN1
    have hmul : (N : Int) * ((s.size : Int) + 2) = (M : Int) := by rw [← hM]; push_cast; rfl
    have HTS := Lib.hid hTs
    clear hF hfs hfx hx1 hN hN2 hpr hM hTs
    go_enter Tryd.func5, Tryd.ntmps5
    go_wp2_with fail
    refine HF.out.mono ?_
    rintro e w1 ⟨rfl, hb1⟩
    have HB1 := Lib.hid hb1
    clear hb1
    go_wp2_with fail
    go_loopw [6, 7] (fun s6 s7 wx => ∃ (k : Nat) (A' : Option Addr) (c' : Nat), k ≤ N ∧ s7 = .int .i64 k ∧ s6 = .slice A' k c' ∧ RI w.heap.size wx (.slice A' k c') (.slice none 0 0) (rep k (tx s)) [] ∧ Below w.heap.size w wx) (fun _ s7 _ => N - (RowKit.intOf s7).toNat)
    case atStart => exact ⟨0, none, 0, Nat.zero_le _, rfl, rfl, RI.start HB1.out.size, HB1.out⟩
    case round =>
      obtain ⟨k, A', c', hk, rfl, rfl, hri, hbw⟩ := hrel
      have HRI := Lib.hid hri
      have HBW := Lib.hid hbw
      by_cases hlt : k < N
      · have hw1 : (wr.alloc (.cells #[.string s] 9)).ownsRow wr.heap.size 9 1 (.slice (some ⟨wr.heap.size, 0, none⟩) 1 1) [tx s].length (rowC [tx s]) :=
          World.ownsRow_lit (base := wr.heap.size) (e := 9) (size := 1) wr #[.string s] 1 (Nat.le_refl _) (by decide) rfl
        obtain ⟨vals, hB4, hown4, hone4, hclose4⟩ := (RI.with HRI.out (below_one' wr (.cells #[.string s] 9)) hw1).close
        rw [rep_num] at hown4 hclose4
        have HOWN := Lib.hid hown4
        have HCL := Lib.hid hclose4
        clear hri hbw hw1 hown4 hclose4
        go_wp2_with (at_builtin; refine wpList_append_own _ rfl _ _ 25 rfl w.heap.size 33 i1 (.slice none 0 0) 1 24 Tryd.underlying25 hi' hz0' hz1' hz2' rfl (by decide) _ _ _ rfl (HOWN.out.alloc _) ⟨_, 0, none⟩ 1 1 [.slice (some ⟨wr.heap.size, 0, none⟩) 1 1] rfl rfl ?c1 ?c2 ?c3 ?c4 ?c5 ?_)
        case c1 =>
          have hcell := cell_one_new (wr.alloc (.cells #[.string s] 9)) (.slice (some ⟨wr.heap.size, 0, none⟩) 1 1) 33
          rw [size_alloc] at hcell
          exact hcell
        case c2 => intro u hu; simp only [List.mem_singleton] at hu; subst hu; rfl
        case c3 => unfold maxLen; omega
        case c4 => omega
        case c5 => have := HBW.out.size; simp; omega
        intro vs' w6 ho6 hg6 _
        obtain ⟨A6, k6, rfl, -, -⟩ := vAt_own ho6
        have hbB : Below (wr.alloc (.cells #[.string s] 9)).heap.size (wr.alloc (.cells #[.string s] 9)) ((wr.alloc (.cells #[.string s] 9)).alloc (.cells #[.slice (some ⟨wr.heap.size, 0, none⟩) 1 1] 33)) := (Below.refl _ _).alloc (Nat.le_refl _) _
        have hb6 : Below w.heap.size w w6 := ((HBW.out.alloc HBW.out.size _).alloc (by simp; have := HBW.out.size; omega) _).grown hg6 (by simp; have := HBW.out.size; omega) (fun k hk => (HOWN.out.lt k hk).1)
        have HRI6 := Lib.hid (HCL.out _ _ w6 hbB ho6 hg6)
        have HB6 := Lib.hid hb6
        clear ho6 hg6 hbB hb6
        go_wp2_with fail
        go_roundw
        case measure => simp [RowKit.intOf]; omega
        case rel =>
          refine ⟨k + 1, A6, k6, by omega, by go_num, rfl, ?_, HB6.out⟩
          rw [rep_snoc]
          exact HRI6.out
      · obtain rfl : k = N := by omega
        obtain ⟨A6, c6, e6, hrec⟩ := hri.reads
        injection e6 with e7 e8 e9
        subst e7
        have HREC := Lib.hid hrec
        have KR := Lib.hid (HH.out.below HH.out.1 hbw)
        clear hri hbw HRI hrec e8 e9
        go_wp2_with fail
        refine (HP.out A' c' wr KR.out HREC.out).mono ?_
        rintro e w2 ⟨rfl, hb2⟩
        have HB2 := Lib.hid (HBW.out.trans (hb2.mono HBW.out.size))
        have K2 := Lib.hid (KR.out.below KR.out.1 hb2)
        have hTs := HTS.out
        clear hb2
        go_wp2_with fail
        refine (awake_any _ K2.out).mono ?_
        rintro e w3 ⟨rfl, hb3⟩
        go_wp2
        go_ret
        exact ⟨rfl, HB2.out.trans (hb3.mono HB2.out.size)⟩

set_option maxRecDepth 100000 in
theorem lifted (os : Os) (started : os.Started) (H : Type) (enc : TypeId × Value → H) :
    ReturnsInHanded {} Tryd.checked os 5 .any (fun w args => (Rows.quoteLongSpec.pre enc Tryd.prog Tryd.f5 [] false w args ∧ laidMetH Tryd.prog laidL w) ∧ sizedMet enc Tryd.prog Tryd.f5 (OpenSpec.ofChange Rows.quoteLongSpec) false w args) (Rows.quoteLongSpec.post enc Tryd.prog Tryd.f5 false true false false) := by
  refine returns_laid started (by kernel_rfl) Tryd.func5 #[.string ⟨#[]⟩, .bool false] (by kernel_rfl) (World.shaped_of_ZipB (by kernel_rfl) (by kernel_rfl)) (by rw [MakeChecks.laidMetH_plain _ _ _ (by kernel_rfl)]; exact laidMet_laidAll _ (by kernel_rfl) (by kernel_rfl)) (by kernel_rfl) (by kernel_rfl) rfl rfl (by kernel_rfl) ?_ ?_
  · intro ds hds
    rw [show Tryd.f5.params.toList.length = 2 from by kernel_rfl] at hds
    match ds, hds with
    | [d0, d1], _ => rfl
  intro W base args ds p hval hA hH
  rw [Tryd.params5] at hA hval
  obtain ⟨v0, vs0, d0, ds0, p0, q0, hargs, rfl, rfl, h0, r0⟩ := ChangeShapes.trodAll_cons hA
  obtain ⟨v1, vs1, d1, ds1, p1, q1, rfl, rfl, rfl, h1, r1⟩ := ChangeShapes.trodAll_cons r0
  obtain ⟨rfl, rfl, rfl⟩ := ChangeShapes.trodAll_nil r1
  obtain rfl : args = #[v0, v1] := by cases args; simp_all
  obtain ⟨s0, rfl, rfl, rfl, hs0⟩ := Go.ChangeMaps.open_string Tryd.underlying9 (hval 0 9 v0 rfl rfl) h0
  obtain ⟨x1, rfl, rfl, rfl⟩ := open_bool Tryd.underlying4 (hval 1 4 v1 rfl rfl) h1
  exact walk W hH s0 hs0 x1

theorem holds : Rows.QuoteLongSaid :=
  OpenClaim.holds_of_wide 5 Tryd.f5 rfl rfl rfl rfl rfl rfl rfl ⟨rfl, rfl, rfl, rfl, rfl⟩ rfl rfl rfl rfl rfl (by kernel_rfl) Tryd.func5 (by kernel_rfl)
    (of_decide_eq_true (by kernel_rfl)) (by unfold Func.isWrapper; first | (rw [if_pos (by decide +kernel)]; kernel_rfl) | (rw [if_neg (by decide +kernel)]; exact ⟨rfl, rfl⟩))
    (fun os started H enc _ => lifted os started H enc)

theorem card : Rows.QuoteLongCardSaid :=
  Claim7.holds_tied_plain_at .later [] [.data, .pinned] true (true, "8b0ddd4391f593d9a8c81f0b604a71bf6594b19938d785f115202ba4ac532180") false
    holds (fun _ h => by cases h) (by kernel_rfl) (fun _ h => by cases h) quoteLong_row_tie rfl ⟨rfl, rfl⟩ (by kernel_rfl) rfl
    (fun f fn hf hfn => by
      obtain rfl : f = 5 := Option.some.inj ((show Tryd.prog.funcNamed "parquetry/parquetrylaw08.QuoteLong" = some 5 by kernel_rfl).symm.trans hf) |>.symm
      obtain rfl : fn = Tryd.f5 := (Option.some.inj (Tryd.func5.symm.trans hfn)).symm
      exact ⟨by kernel_rfl, fun j t ht => by
        rw [Tryd.params5] at ht
        have hm : t ∈ [9, 4] := by simpa using Array.mem_of_getElem? ht
        have hall : ([9, 4].all fun u => !Tryd.prog.wantsStandIn u) = true := by kernel_rfl
        exact (show Tryd.prog.wantsStandIn t = false by simpa using List.all_eq_true.1 hall t hm)⟩)
    (by kernel_rfl)
end Go.Proofs.YtafpddpeffpnfaaDoor.QuoteLong
