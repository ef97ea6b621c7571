/-
  Proved here: what closed of the statements of layer 11 returns, for every row of numbers of at most 2^40. It leaves what was in memory.
-/
import Derived.Test.YtehndhkcmccpmaaLvOpens
import Derived.Test.YtehndhkcmccpmaaBaClPlain
set_option linter.unusedVariables false
namespace Go.Proofs.Ytehndhkcmccpmaa.Ba
open Go.RowKit Go.Lib Go.Proofs.Ytehndhkcmccpmaa.Cl

set_option maxHeartbeats 2000000 in
set_option maxRecDepth 100000 in
theorem closed_any (A : Option Addr) (l : List Int) (n m : Nat) (w : World) (hl : l.length = n) (hR : IntsAt w A l) (hn : n ≤ 1099511627776) :
    Calls Try.prog 14 #[.slice A n m] w fun e w' => e = .returned (.bool (closedL l 0)) ∧ w = w' := by
  obtain ⟨x, hx⟩ : ∃ x, closedL l 0 = x := ⟨_, rfl⟩
  rw [hx]
  have HX := Lib.hid (show closedL (l.drop 0) 0 = x from hx)
  have HR := Lib.hid hR
  have HL := Lib.hid hl
  clear hx hR hl
  go_enter Try.func14, Try.ntmps14
  go_wp2
  go_loop [3, 4] (fun s3 s4 => (∃ q d : Nat, s3 = .int .i64 d ∧ s4 = .int .i64 q ∧ q ≤ n ∧ d ≤ q ∧ closedL (l.drop q) d = x) ∨ (∃ q : Nat, s3 = .int .i64 (-1) ∧ s4 = .int .i64 q ∧ q ≤ n ∧ x = false)) (fun _ s4 => n - (RowKit.intOf s4).toNat)
  case atStart => exact .inl ⟨0, 0, rfl, rfl, Nat.zero_le _, Nat.le_refl _, HX.out⟩
  case round =>
    rcases hrel with ⟨q, d, rfl, rfl, hq, hd, hv⟩ | ⟨q, rfl, rfl, hq, hxf⟩
    rotate_left
    · subst hxf
      clear HX
      by_cases hlt : q < n
      · go_wp2
        go_ret
        exact ⟨rfl, rfl⟩
      · have hkl : decide (q < n) = false := decide_eq_false hlt
        go_wp2
        go_ret
        exact ⟨rfl, rfl⟩
    have HV := Lib.hid hv
    clear hv
    by_cases hlt : q < n
    · have hkl : q < l.length := by rw [HL.out]; exact hlt
      obtain ⟨b, off, rfl, hc0⟩ := HR.out.at_ hkl
      have HLI := Lib.hid (fun h => closedL_I (d := d) hkl h)
      have HLP := Lib.hid (fun d h => closedL_P (d := d) hkl h)
      have HLZ := Lib.hid (fun h => closedL_P0 hkl h)
      have HLN := Lib.hid (fun h h2 => closedL_N (d := d) hkl h h2)
      generalize l[q] = c at *
      cases hI : isI c with
      | true =>
        have HV2 := Lib.hid (show closedL (l.drop (q + 1)) (d + 1) = x by rw [← HV.out]; exact (HLI.out hI).symm)
        have hP2 : (c == 22) = false := by
          have := isI_not_isP hI
          simpa [isP] using this
        clear HLI HLP HLZ HLN HV
        go_wp2_with fail
        refine (opens_any _ _).mono ?_
        rintro e w1 ⟨rfl, rfl⟩
        rw [hI]
        go_wp2
        go_round
        case measure => simp [RowKit.intOf]; omega
        case rel => exact .inl ⟨q + 1, d + 1, by go_num, by go_num, by omega, by omega, HV2.out⟩
      | false =>
        by_cases hP : c = 22
        · subst hP
          rcases Nat.eq_zero_or_pos d with hd0 | hd0
          · subst hd0
            have hfin : x = false := by rw [← HV.out]; exact HLZ.out rfl
            subst hfin
            clear HLI HLP HLZ HLN HV
            go_wp2_with fail
            refine (opens_any _ _).mono ?_
            rintro e w1 ⟨rfl, rfl⟩
            rw [hI]
            go_wp2
            go_round
            case measure => simp [RowKit.intOf]; omega
            case rel => exact .inr ⟨q + 1, by first | go_num | rfl, by go_num, by omega, by first | rfl | trivial⟩
          · obtain ⟨d', rfl⟩ : ∃ d', d = d' + 1 := ⟨d - 1, by omega⟩
            have HV2 := Lib.hid (show closedL (l.drop (q + 1)) d' = x by rw [← HV.out]; exact (HLP.out d' rfl).symm)
            clear HLI HLP HLZ HLN HV hd0
            go_wp2_with fail
            refine (opens_any _ _).mono ?_
            rintro e w1 ⟨rfl, rfl⟩
            rw [hI]
            go_wp2
            go_round
            case measure => simp [RowKit.intOf]; omega
            case rel => exact .inl ⟨q + 1, d', by go_num, by go_num, by omega, by omega, HV2.out⟩
        · have hPf : isP c = false := by simpa [isP] using hP
          have hP2 : (c == 22) = false := by simpa using hP
          have HV2 := Lib.hid (show closedL (l.drop (q + 1)) d = x by rw [← HV.out]; exact (HLN.out hPf hI).symm)
          clear HLI HLP HLZ HLN HV hP hPf
          go_wp2_with fail
          refine (opens_any _ _).mono ?_
          rintro e w1 ⟨rfl, rfl⟩
          rw [hI]
          go_wp2
          go_round
          case measure => simp [RowKit.intOf]; omega
          case rel => exact .inl ⟨q + 1, d, by go_num, by go_num, by omega, by omega, HV2.out⟩
    · have hke : q = n := by omega
      subst hke
      have hv := HV.out
      rw [List.drop_eq_nil_of_le (by rw [HL.out]; exact Nat.le_refl _)] at hv
      have hv2 : x = (d == 0) := by rw [← hv]; rfl
      rcases Nat.eq_zero_or_pos d with hd0 | hd0
      · subst hd0
        have hx2 : x = true := hv2
        subst hx2
        clear hv hv2
        go_wp2
        go_ret
        exact ⟨rfl, rfl⟩
      · have hdz : ((d : Int) == 0) = false := by simp; omega
        have hx2 : x = false := by rw [hv2]; simp; omega
        subst hx2
        clear hv hv2
        go_wp2
        go_ret
        exact ⟨rfl, rfl⟩
end Go.Proofs.Ytehndhkcmccpmaa.Ba
