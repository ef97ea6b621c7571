/-
  Proved here: for every two texts, CsvFirst returns true (a text of at most 2000 bytes that is spoilt at a place can go on ahead of that, with nothing, a quote, or LF behind it; whatever of at most 2000 bytes stands behind the byte at that place, it is spoilt there), and the texts stay. Conditions: the package variables that the row lists hold what the program's text lays (the card ties them).
-/
import Derived.Test.YtdhjadjgkdgomaaDoorCvMore
import Derived.Test.YtdhjadjgkdgomaaDoorCvLaid
import Derived.Test.YtdhjadjgkdgomaaDoorTie
import Derived.Test.YtdhjadjgkdgomaaDoorCards
set_option linter.unusedVariables false
namespace Go.Proofs.YtdhjadjgkdgomaaDoor.CsvFirst
open Go.ChangeShapes Go.WideShapes Go.ChangeAt Go.RowKit Go.Lib Go.Proofs.YtdhjadjgkdgomaaDoor.Cv Go.Proofs.YtdhjadjgkdgomaaDoor.Cl

theorem erP_true {t : ByteArray} (ht : t.size ≤ 65536) (h : place 0 0 (tx t) = none) : (erP t == 0) = true := by rw [beq_iff_eq]; exact (erP_zero ht).2 h
theorem tx_pre (s : ByteArray) (k : Nat) : tx (s.extract 0 k) = (tx s).take k := by
  unfold tx
  rw [Lib.extract_data]
  simp
theorem pre_size (s : ByteArray) (k : Nat) : (s.extract 0 k).size ≤ s.size := by
  rw [← tx_size, tx_pre, ← tx_size, List.length_take]
  omega
theorem app_size (a b : ByteArray) : (a ++ b).size = a.size + b.size := ByteArray.size_append
/-- What can go on ahead of the place. -/
theorem goes_on {s : ByteArray} {k : Nat} (hs : s.size ≤ 2000) (hp : place 0 0 (tx s) = some k) :
    k ≤ s.size ∧ ((erP (s.extract 0 k) == 0) = true ∨ (erP (s.extract 0 k ++ ⟨#[34]⟩) == 0) = true ∨ (erP (s.extract 0 k ++ ⟨#[10]⟩) == 0) = true) ∧
    (k < s.size → ∀ m : ByteArray, m.size ≤ 2000 → erP (s.extract 0 (k + 1) ++ m) = 2 ∧ atP (s.extract 0 (k + 1) ++ m) = k ∧ (recsP (s.extract 0 (k + 1) ++ m)).length = 0) := by
  obtain ⟨_, h2, h3, h4⟩ := place_first (tx s) 0 0 k (by decide) hp
  rw [Nat.sub_zero] at h3 h4
  rw [tx_size] at h2 h4
  have z0 := pre_size s k
  have z1 := pre_size s (k + 1)
  refine ⟨by omega, ?_, fun hlt m hm => ?_⟩
  · have q1 : (⟨#[34]⟩ : ByteArray).size = 1 := rfl
    have q2 : (⟨#[10]⟩ : ByteArray).size = 1 := rfl
    rcases h3 with h | h | h
    · exact .inl (erP_true (by omega) (by rw [tx_pre]; exact h))
    · exact .inr (.inl (erP_true (by rw [app_size]; omega) (by rw [tx_app, tx_pre]; exact h)))
    · exact .inr (.inr (erP_true (by rw [app_size]; omega) (by rw [tx_app, tx_pre]; exact h)))
  · have hpl : place 0 0 (tx (s.extract 0 (k + 1) ++ m)) = some k := by
      rw [tx_app, tx_pre]
      exact h4 (by omega) _
    have hz : (s.extract 0 (k + 1) ++ m).size ≤ 65536 := by rw [app_size]; omega
    refine ⟨?_, ?_, ?_⟩
    · have e : erP (s.extract 0 (k + 1) ++ m) = ez (place 0 0 (tx (s.extract 0 (k + 1) ++ m))) := if_pos hz
      rw [e, hpl]
      rfl
    · have e : atP (s.extract 0 (k + 1) ++ m) = pz (place 0 0 (tx (s.extract 0 (k + 1) ++ m))) := if_pos hz
      rw [e, hpl]
      rfl
    · have e : recsP (s.extract 0 (k + 1) ++ m) = [] := if_neg (by rw [hpl]; simp)
      rw [e]
      rfl

set_option maxHeartbeats 2000000 in
set_option maxRecDepth 1000000 in
theorem walk (w : World) (hH : Held w) (s : ByteArray) (hs : s.size ≤ maxLen) (more : ByteArray) (hm : more.size ≤ maxLen) :
    Calls Tryd.prog 4 #[.string s, .string more] w fun e w' => e = .returned (.bool true) ∧ Below w.heap.size w w' := by
  have HH := Lib.hid hH
  clear hH
  by_cases hbig1 : 2000 < s.size
  · have d1 : decide (2000 < (s.size : Int)) = true := decide_eq_true (by omega)
    go_enter Tryd.func4, Tryd.ntmps4
    go_wp2_with fail
    refine (awake_any _ HH.out).mono ?_
    rintro e w3 ⟨rfl, hb3⟩
    go_wp2
    go_ret
    exact ⟨rfl, hb3⟩
  have d1 : decide (2000 < (s.size : Int)) = false := decide_eq_false (by omega)
  by_cases hbig2 : 2000 < more.size
  · have d2 : decide (2000 < (more.size : Int)) = true := decide_eq_true (by omega)
    go_enter Tryd.func4, Tryd.ntmps4
    go_wp2_with fail
    refine (awake_any _ HH.out).mono ?_
    rintro e w3 ⟨rfl, hb3⟩
    go_wp2
    go_ret
    exact ⟨rfl, hb3⟩
  have d2 : decide (2000 < (more.size : Int)) = false := decide_eq_false (by omega)
  have hs2 : s.size ≤ 2000 := by omega
  have hm2 : more.size ≤ 2000 := by omega
  have HP := Lib.hid (fun s W h => parse_any s W h)
  have HPS := Lib.hid (fun s W h => parses_any s W h)
  cases hp : place 0 0 (tx s) with
  | none =>
    have er : erP s = 0 := (erP_zero (by omega)).2 hp
    have eR : recsP s = (g0 (evs 0 [] (tx s))).1 := if_pos ⟨by omega, hp⟩
    have hends := (ends (tx s) 0 0 [] ([], []) (by decide) hp (by decide)).2
    obtain ⟨n, hn⟩ : ∃ n, (recsP s).length = n := ⟨_, rfl⟩
    have hn0 : 0 < n := by
      rw [← hn, eR]
      exact List.length_pos_iff.2 hends
    have HE := Lib.hid er
    have HN := Lib.hid hn
    have d3 : decide (0 < (n : Int)) = true := decide_eq_true (by omega)
    have d4 : decide (0 < n) = true := decide_eq_true (by omega)
    clear er eR hends hn hp
    go_enter Tryd.func4, Tryd.ntmps4
    go_wp2_with fail
    refine (HP.out _ _ HH.out).mono ?_
    rintro e w1 ⟨A1, c1, rfl, hR1, hb1⟩
    have H1 := Lib.hid (HH.out.below HH.out.1 hb1)
    rw [HN.out, HE.out]
    generalize atP s = pa
    clear hR1
    go_wp2_with fail
    refine (awake_any _ H1.out).mono ?_
    rintro e w3 ⟨rfl, hb3⟩
    go_wp2
    go_ret
    exact ⟨rfl, hb1.trans (hb3.mono hb1.size)⟩
  | some k =>
    have er : erP s = 2 := by
      have e : erP s = ez (place 0 0 (tx s)) := if_pos (by omega)
      rw [e, hp]
      rfl
    have ea : atP s = k := by
      have e : atP s = pz (place 0 0 (tx s)) := if_pos (by omega)
      rw [e, hp]
      rfl
    obtain ⟨hk, hon, hst⟩ := goes_on hs2 hp
    have HE := Lib.hid (And.intro er ea)
    have HST := Lib.hid hst
    have d3 : decide ((k : Int) < 0) = false := decide_eq_false (by omega)
    have d4 : decide (s.size < k) = false := decide_eq_false (by omega)
    have d5 : decide ((s.size : Int) < (k : Int)) = false := decide_eq_false (by omega)
    have hz0 := pre_size s k
    obtain ⟨T, hT⟩ : ∃ T, s.extract 0 k = T := ⟨_, rfl⟩
    have hsl : ∀ W, (Instr.slice 9 (.string s) none (some (.int .i64 (k : Int))) none).run Tryd.prog W = .ok (.string T) W := fun W => by
      rw [run_slice_string_to_if W 9 s .i64 (k : Int) Tryd.underlying9, if_pos ⟨by omega, by omega⟩, show ((k : Int)).toNat = k from by omega, hT]
    rw [hT] at hz0 hon
    have hTs : T.size ≤ 2000 := by omega
    clear er ea hst hT hp hz0
    by_cases c0 : (erP T == 0) = true
    · have HC0 := Lib.hid c0
      clear c0 hon
      go_enter Tryd.func4, Tryd.ntmps4
      go_wp2_with fail
      refine (HP.out _ _ HH.out).mono ?_
      rintro e w1 ⟨A1, c1, rfl, hR1, hb1⟩
      have H1 := Lib.hid (HH.out.below HH.out.1 hb1)
      have HB1 := Lib.hid hb1
      rw [HE.out.1, HE.out.2]
      generalize (recsP s).length = n
      clear hR1 hb1
      go_wp2_with fail
      refine (HPS.out _ _ H1.out).mono ?_
      rintro e w2 ⟨rfl, hb2⟩
      have H2 := Lib.hid (H1.out.below H1.out.1 hb2)
      have HB2 := Lib.hid (HB1.out.trans (hb2.mono HB1.out.size))
      clear hb2 H1 HB1
      rw [HC0.out]
      by_cases hke : k = s.size
      · have e1 : ((k : Int) == (s.size : Int)) = true := by rw [beq_iff_eq]; omega
        have HC9 := Lib.hid (show (erP s == 0) = false by rw [HE.out.1]; rfl)
        go_wp2_with fail
        refine (HPS.out _ _ H2.out).mono ?_
        rintro e v1 ⟨rfl, hc1⟩
        have K1 := Lib.hid (H2.out.below H2.out.1 hc1)
        have C1 := Lib.hid (HB2.out.trans (hc1.mono HB2.out.size))
        clear hc1 H2 HB2
        rw [HC9.out]
        go_wp2_with fail
        refine (awake_any _ K1.out).mono ?_
        rintro e v2 ⟨rfl, hc2⟩
        go_wp2
        go_ret
        exact ⟨rfl, C1.out.trans (hc2.mono C1.out.size)⟩
      · have e1 : ((k : Int) == (s.size : Int)) = false := by rw [beq_eq_false_iff_ne]; omega
        have hlt : k < s.size := by omega
        have HS1 := Lib.hid (HST.out hlt more hm2)
        have HS2 := Lib.hid (HST.out hlt ⟨#[]⟩ (by decide))
        have hz1 := pre_size s (k + 1)
        obtain ⟨U, hU⟩ : ∃ U, s.extract 0 (k + 1) = U := ⟨_, rfl⟩
        have hsl2 : ∀ W, (Instr.slice 9 (.string s) none (some (.int .i64 ((k : Int) + 1))) none).run Tryd.prog W = .ok (.string U) W := fun W => by
          rw [run_slice_string_to_if W 9 s .i64 ((k : Int) + 1) Tryd.underlying9, if_pos ⟨by omega, by omega⟩, show ((k : Int) + 1).toNat = k + 1 from by omega, hU]
        rw [hU] at HS1 HS2 hz1
        have hUs : U.size ≤ 2000 := by omega
        have hUe : U ++ ⟨#[]⟩ = U := by
          apply ByteArray.ext
          simp [ByteArray.data_append]
        rw [hUe] at HS2
        clear hU hUe hz1 hke
        go_wp2_with fail
        refine (spoilt_any _ _ _ H2.out HS1.out.1 HS1.out.2.1 HS1.out.2.2).mono ?_
        rintro e v1 ⟨rfl, hc1⟩
        have K1 := Lib.hid (H2.out.below H2.out.1 hc1)
        have C1 := Lib.hid (HB2.out.trans (hc1.mono HB2.out.size))
        clear hc1 H2 HB2
        go_wp2_with fail
        refine (spoilt_any _ _ _ K1.out HS2.out.1 HS2.out.2.1 HS2.out.2.2).mono ?_
        rintro e v2 ⟨rfl, hc2⟩
        have K2 := Lib.hid (K1.out.below K1.out.1 hc2)
        have C2 := Lib.hid (C1.out.trans (hc2.mono C1.out.size))
        clear hc2 K1 C1
        go_wp2_with fail
        refine (awake_any _ K2.out).mono ?_
        rintro e v3 ⟨rfl, hc3⟩
        go_wp2
        go_ret
        exact ⟨rfl, C2.out.trans (hc3.mono C2.out.size)⟩
    · have c0' : (erP T == 0) = false := by simpa using c0
      have HC0 := Lib.hid c0'
      by_cases c1 : (erP (T ++ ⟨#[34]⟩) == 0) = true
      · have HC1 := Lib.hid c1
        clear c0 c0' c1 hon
        go_enter Tryd.func4, Tryd.ntmps4
        go_wp2_with fail
        refine (HP.out _ _ HH.out).mono ?_
        rintro e w1 ⟨A1, c1, rfl, hR1, hb1⟩
        have H1 := Lib.hid (HH.out.below HH.out.1 hb1)
        have HB1 := Lib.hid hb1
        rw [HE.out.1, HE.out.2]
        generalize (recsP s).length = n
        clear hR1 hb1
        go_wp2_with fail
        refine (HPS.out _ _ H1.out).mono ?_
        rintro e w2 ⟨rfl, hb2⟩
        have H2 := Lib.hid (H1.out.below H1.out.1 hb2)
        have HB2 := Lib.hid (HB1.out.trans (hb2.mono HB1.out.size))
        clear hb2 H1 HB1
        rw [HC0.out]
        go_wp2_with fail
        refine (HPS.out _ _ H2.out).mono ?_
        rintro e w3 ⟨rfl, hb3⟩
        have H3 := Lib.hid (H2.out.below H2.out.1 hb3)
        have HB3 := Lib.hid (HB2.out.trans (hb3.mono HB2.out.size))
        clear hb3 H2 HB2
        rw [HC1.out]
        by_cases hke : k = s.size
        · have e1 : ((k : Int) == (s.size : Int)) = true := by rw [beq_iff_eq]; omega
          have HC9 := Lib.hid (show (erP s == 0) = false by rw [HE.out.1]; rfl)
          go_wp2_with fail
          refine (HPS.out _ _ H3.out).mono ?_
          rintro e v1 ⟨rfl, hc1⟩
          have K1 := Lib.hid (H3.out.below H3.out.1 hc1)
          have C1 := Lib.hid (HB3.out.trans (hc1.mono HB3.out.size))
          clear hc1 H3 HB3
          rw [HC9.out]
          go_wp2_with fail
          refine (awake_any _ K1.out).mono ?_
          rintro e v2 ⟨rfl, hc2⟩
          go_wp2
          go_ret
          exact ⟨rfl, C1.out.trans (hc2.mono C1.out.size)⟩
        · have e1 : ((k : Int) == (s.size : Int)) = false := by rw [beq_eq_false_iff_ne]; omega
          have hlt : k < s.size := by omega
          have HS1 := Lib.hid (HST.out hlt more hm2)
          have HS2 := Lib.hid (HST.out hlt ⟨#[]⟩ (by decide))
          have hz1 := pre_size s (k + 1)
          obtain ⟨U, hU⟩ : ∃ U, s.extract 0 (k + 1) = U := ⟨_, rfl⟩
          have hsl2 : ∀ W, (Instr.slice 9 (.string s) none (some (.int .i64 ((k : Int) + 1))) none).run Tryd.prog W = .ok (.string U) W := fun W => by
            rw [run_slice_string_to_if W 9 s .i64 ((k : Int) + 1) Tryd.underlying9, if_pos ⟨by omega, by omega⟩, show ((k : Int) + 1).toNat = k + 1 from by omega, hU]
          rw [hU] at HS1 HS2 hz1
          have hUs : U.size ≤ 2000 := by omega
          have hUe : U ++ ⟨#[]⟩ = U := by
            apply ByteArray.ext
            simp [ByteArray.data_append]
          rw [hUe] at HS2
          clear hU hUe hz1 hke
          go_wp2_with fail
          refine (spoilt_any _ _ _ H3.out HS1.out.1 HS1.out.2.1 HS1.out.2.2).mono ?_
          rintro e v1 ⟨rfl, hc1⟩
          have K1 := Lib.hid (H3.out.below H3.out.1 hc1)
          have C1 := Lib.hid (HB3.out.trans (hc1.mono HB3.out.size))
          clear hc1 H3 HB3
          go_wp2_with fail
          refine (spoilt_any _ _ _ K1.out HS2.out.1 HS2.out.2.1 HS2.out.2.2).mono ?_
          rintro e v2 ⟨rfl, hc2⟩
          have K2 := Lib.hid (K1.out.below K1.out.1 hc2)
          have C2 := Lib.hid (C1.out.trans (hc2.mono C1.out.size))
          clear hc2 K1 C1
          go_wp2_with fail
          refine (awake_any _ K2.out).mono ?_
          rintro e v3 ⟨rfl, hc3⟩
          go_wp2
          go_ret
          exact ⟨rfl, C2.out.trans (hc3.mono C2.out.size)⟩
      · have c1' : (erP (T ++ ⟨#[34]⟩) == 0) = false := by simpa using c1
        have c2 : (erP (T ++ ⟨#[10]⟩) == 0) = true := by
          rcases hon with h | h | h
          · exact absurd h c0
          · exact absurd h c1
          · exact h
        have HC1 := Lib.hid c1'
        have HC2 := Lib.hid c2
        clear c0 c0' c1 c1' c2 hon
        go_enter Tryd.func4, Tryd.ntmps4
        go_wp2_with fail
        refine (HP.out _ _ HH.out).mono ?_
        rintro e w1 ⟨A1, c1, rfl, hR1, hb1⟩
        have H1 := Lib.hid (HH.out.below HH.out.1 hb1)
        have HB1 := Lib.hid hb1
        rw [HE.out.1, HE.out.2]
        generalize (recsP s).length = n
        clear hR1 hb1
        go_wp2_with fail
        refine (HPS.out _ _ H1.out).mono ?_
        rintro e w2 ⟨rfl, hb2⟩
        have H2 := Lib.hid (H1.out.below H1.out.1 hb2)
        have HB2 := Lib.hid (HB1.out.trans (hb2.mono HB1.out.size))
        clear hb2 H1 HB1
        rw [HC0.out]
        go_wp2_with fail
        refine (HPS.out _ _ H2.out).mono ?_
        rintro e w3 ⟨rfl, hb3⟩
        have H3 := Lib.hid (H2.out.below H2.out.1 hb3)
        have HB3 := Lib.hid (HB2.out.trans (hb3.mono HB2.out.size))
        clear hb3 H2 HB2
        rw [HC1.out]
        go_wp2_with fail
        refine (HPS.out _ _ H3.out).mono ?_
        rintro e w4 ⟨rfl, hb4⟩
        have H4 := Lib.hid (H3.out.below H3.out.1 hb4)
        have HB4 := Lib.hid (HB3.out.trans (hb4.mono HB3.out.size))
        clear hb4 H3 HB3
        rw [HC2.out]
        by_cases hke : k = s.size
        · have e1 : ((k : Int) == (s.size : Int)) = true := by rw [beq_iff_eq]; omega
          have HC9 := Lib.hid (show (erP s == 0) = false by rw [HE.out.1]; rfl)
          go_wp2_with fail
          refine (HPS.out _ _ H4.out).mono ?_
          rintro e v1 ⟨rfl, hc1⟩
          have K1 := Lib.hid (H4.out.below H4.out.1 hc1)
          have C1 := Lib.hid (HB4.out.trans (hc1.mono HB4.out.size))
          clear hc1 H4 HB4
          rw [HC9.out]
          go_wp2_with fail
          refine (awake_any _ K1.out).mono ?_
          rintro e v2 ⟨rfl, hc2⟩
          go_wp2
          go_ret
          exact ⟨rfl, C1.out.trans (hc2.mono C1.out.size)⟩
        · have e1 : ((k : Int) == (s.size : Int)) = false := by rw [beq_eq_false_iff_ne]; omega
          have hlt : k < s.size := by omega
          have HS1 := Lib.hid (HST.out hlt more hm2)
          have HS2 := Lib.hid (HST.out hlt ⟨#[]⟩ (by decide))
          have hz1 := pre_size s (k + 1)
          obtain ⟨U, hU⟩ : ∃ U, s.extract 0 (k + 1) = U := ⟨_, rfl⟩
          have hsl2 : ∀ W, (Instr.slice 9 (.string s) none (some (.int .i64 ((k : Int) + 1))) none).run Tryd.prog W = .ok (.string U) W := fun W => by
            rw [run_slice_string_to_if W 9 s .i64 ((k : Int) + 1) Tryd.underlying9, if_pos ⟨by omega, by omega⟩, show ((k : Int) + 1).toNat = k + 1 from by omega, hU]
          rw [hU] at HS1 HS2 hz1
          have hUs : U.size ≤ 2000 := by omega
          have hUe : U ++ ⟨#[]⟩ = U := by
            apply ByteArray.ext
            simp [ByteArray.data_append]
          rw [hUe] at HS2
          clear hU hUe hz1 hke
          go_wp2_with fail
          refine (spoilt_any _ _ _ H4.out HS1.out.1 HS1.out.2.1 HS1.out.2.2).mono ?_
          rintro e v1 ⟨rfl, hc1⟩
          have K1 := Lib.hid (H4.out.below H4.out.1 hc1)
          have C1 := Lib.hid (HB4.out.trans (hc1.mono HB4.out.size))
          clear hc1 H4 HB4
          go_wp2_with fail
          refine (spoilt_any _ _ _ K1.out HS2.out.1 HS2.out.2.1 HS2.out.2.2).mono ?_
          rintro e v2 ⟨rfl, hc2⟩
          have K2 := Lib.hid (K1.out.below K1.out.1 hc2)
          have C2 := Lib.hid (C1.out.trans (hc2.mono C1.out.size))
          clear hc2 K1 C1
          go_wp2_with fail
          refine (awake_any _ K2.out).mono ?_
          rintro e v3 ⟨rfl, hc3⟩
          go_wp2
          go_ret
          exact ⟨rfl, C2.out.trans (hc3.mono C2.out.size)⟩

set_option maxRecDepth 100000 in
theorem lifted (os : Os) (started : os.Started) (H : Type) (enc : TypeId × Value → H) :
    ReturnsInHanded {} Tryd.checked os 4 .any (fun w args => (Rows.csvFirstSpec.pre enc Tryd.prog Tryd.f4 [] false w args ∧ laidMetH Tryd.prog laidL w) ∧ sizedMet enc Tryd.prog Tryd.f4 (OpenSpec.ofChange Rows.csvFirstSpec) false w args) (Rows.csvFirstSpec.post enc Tryd.prog Tryd.f4 false true false false) := by
  refine returns_laid started (by kernel_rfl) Tryd.func4 #[.string ⟨#[]⟩, .string ⟨#[]⟩] (by kernel_rfl) (World.shaped_of_ZipB (by kernel_rfl) (by kernel_rfl)) (by rw [MakeChecks.laidMetH_plain _ _ _ (by kernel_rfl)]; exact laidMet_laidAll _ (by kernel_rfl) (by kernel_rfl)) (by kernel_rfl) (by kernel_rfl) rfl rfl (by kernel_rfl) ?_ ?_
  · intro ds hds
    rw [show Tryd.f4.params.toList.length = 2 from by kernel_rfl] at hds
    match ds, hds with
    | [d0, d1], _ => rfl
  intro W base args ds p hval hA hH
  rw [Tryd.params4] at hA hval
  obtain ⟨v0, vs0, d0, ds0, p0, q0, hargs, rfl, rfl, h0, r0⟩ := ChangeShapes.trodAll_cons hA
  obtain ⟨v1, vs1, d1, ds1, p1, q1, rfl, rfl, rfl, h1, r1⟩ := ChangeShapes.trodAll_cons r0
  obtain ⟨rfl, rfl, rfl⟩ := ChangeShapes.trodAll_nil r1
  obtain rfl : args = #[v0, v1] := by cases args; simp_all
  obtain ⟨s0, rfl, rfl, rfl, hs0⟩ := Go.ChangeMaps.open_string Tryd.underlying9 (hval 0 9 v0 rfl rfl) h0
  obtain ⟨s1, rfl, rfl, rfl, hs1⟩ := Go.ChangeMaps.open_string Tryd.underlying9 (hval 1 9 v1 rfl rfl) h1
  exact walk W hH s0 hs0 s1 hs1

theorem holds : Rows.CsvFirstSaid :=
  OpenClaim.holds_of_wide 4 Tryd.f4 rfl rfl rfl rfl rfl rfl rfl ⟨rfl, rfl, rfl, rfl, rfl⟩ rfl rfl rfl rfl rfl (by kernel_rfl) Tryd.func4 (by kernel_rfl)
    (of_decide_eq_true (by kernel_rfl)) (by unfold Func.isWrapper; first | (rw [if_pos (by decide +kernel)]; kernel_rfl) | (rw [if_neg (by decide +kernel)]; exact ⟨rfl, rfl⟩))
    (fun os started H enc _ => lifted os started H enc)

theorem card : Rows.CsvFirstCardSaid :=
  Claim7.holds_tied_plain_at .later [] [.data, .pinned] true (true, "70d7b8067d62b9ef9073b90744f4a4782b950ab5ded6e2d3eeb41ea9a8151f78") false
    holds (fun _ h => by cases h) (by kernel_rfl) (fun _ h => by cases h) csvFirst_row_tie rfl ⟨rfl, rfl⟩ (by kernel_rfl) rfl
    (fun f fn hf hfn => by
      obtain rfl : f = 4 := Option.some.inj ((show Tryd.prog.funcNamed "parquetry/parquetrylaw07.CsvFirst" = some 4 by kernel_rfl).symm.trans hf) |>.symm
      obtain rfl : fn = Tryd.f4 := (Option.some.inj (Tryd.func4.symm.trans hfn)).symm
      exact ⟨by kernel_rfl, fun j t ht => by
        rw [Tryd.params4] at ht
        have hm : t ∈ [9] := by simpa using Array.mem_of_getElem? ht
        have hall : ([9].all fun u => !Tryd.prog.wantsStandIn u) = true := by kernel_rfl
        exact (show Tryd.prog.wantsStandIn t = false by simpa using List.all_eq_true.1 hall t hm)⟩)
    (by kernel_rfl)
end Go.Proofs.YtdhjadjgkdgomaaDoor.CsvFirst
