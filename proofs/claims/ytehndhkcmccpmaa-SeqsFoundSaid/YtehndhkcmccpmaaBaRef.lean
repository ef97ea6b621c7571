/-
  Proved here: what the document's own answers of layer 10 return for classes (Initiator, End), for every row of numbers of at most 2^40: what the plain functions are. They leave what was in memory.
-/
import Derived.Test.YtehndhkcmccpmaaBaPlain
import Derived.Test.YtehndhkcmccpmaaClInts
import Derived.IntWalk
set_option linter.unusedVariables false
namespace Go.Proofs.Ytehndhkcmccpmaa.Ba
open Go.RowKit Go.Lib Go.Proofs.Ytehndhkcmccpmaa.Cl

theorem isI_range (c : Int) : isI c = (decide (19 ≤ c) && decide (c ≤ 21)) := by
  have h : (isI c = true) = ((decide (19 ≤ c) && decide (c ≤ 21)) = true) := by
    simp only [isI, Bool.or_eq_true, Bool.and_eq_true, beq_iff_eq, decide_eq_true_eq, eq_iff_iff]
    omega
  cases h1 : isI c <;> cases h2 : (decide (19 ≤ c) && decide (c ≤ 21)) <;> simp_all

set_option maxHeartbeats 1000000 in
theorem init_any (c : Int) (w : World) :
    Calls Try.prog 42 #[.int .i64 c] w fun e w' => e = .returned (.bool (isI c)) ∧ w = w' := by
  rw [isI_range]
  by_cases h1 : 19 ≤ c
  · have d1 : decide (19 ≤ c) = true := decide_eq_true h1
    rw [d1]
    cases h2 : decide (c ≤ 21)
    all_goals
      go_enter Try.func42, Try.ntmps42
      go_wp2
      go_ret
      exact ⟨rfl, rfl⟩
  · have d1 : decide (19 ≤ c) = false := decide_eq_false h1
    rw [d1]
    go_enter Try.func42, Try.ntmps42
    go_wp2
    go_ret
    exact ⟨rfl, rfl⟩

set_option maxHeartbeats 2000000 in
set_option maxRecDepth 100000 in
theorem end_any (A : Option Addr) (l : List Int) (n m i : Nat) (w : World) (hl : l.length = n) (hR : IntsAt w A l) (hn : n ≤ 1099511627776) (hi : i < n) :
    Calls Try.prog 43 #[.slice A n m, .int .i64 i] w fun e w' => e = .returned (.int .i64 (endAt l i)) ∧ w = w' := by
  obtain ⟨x, hx⟩ : ∃ x, endAt l i = x := ⟨_, rfl⟩
  rw [hx]
  have HX := Lib.hid (show i + 1 + endL (l.drop (i + 1)) 0 = x from hx)
  have HR := Lib.hid hR
  have HL := Lib.hid hl
  clear hx hR hl
  go_enter Try.func43, Try.ntmps43
  go_wp2
  go_loop [5, 6] (fun s5 s6 => ∃ q d : Nat, s5 = .int .i64 d ∧ s6 = .int .i64 q ∧ q ≤ n ∧ d ≤ q ∧ q + endL (l.drop q) d = x) (fun _ s6 => n - (RowKit.intOf s6).toNat)
  case atStart => exact ⟨i + 1, 0, rfl, by go_num, by omega, Nat.zero_le _, HX.out⟩
  case round =>
    obtain ⟨q, d, rfl, rfl, hq, hd, hv⟩ := hrel
    have HV := Lib.hid hv
    clear hv
    by_cases hlt : q < n
    · have hkl : q < l.length := by rw [HL.out]; exact hlt
      obtain ⟨b, off, rfl, hc0⟩ := HR.out.at_ hkl
      have HLI := Lib.hid (fun h => endL_I l q d hkl h)
      have HLP := Lib.hid (fun d h => endL_P l q d hkl h)
      have HLZ := Lib.hid (fun h => endL_P0 l q hkl h)
      have HLN := Lib.hid (fun h h2 => endL_N l q d hkl h h2)
      generalize l[q] = c at *
      by_cases hP : c = 22
      · subst hP
        rcases Nat.eq_zero_or_pos d with hd0 | hd0
        · subst hd0
          have hfin : x = q := by rw [← HV.out]; exact HLZ.out rfl
          subst hfin
          clear HLI HLP HLZ HLN HV
          go_wp2
          go_ret
          exact ⟨rfl, rfl⟩
        · obtain ⟨d', rfl⟩ : ∃ d', d = d' + 1 := ⟨d - 1, by omega⟩
          have HV2 := Lib.hid (show q + 1 + endL (l.drop (q + 1)) d' = x by rw [← HV.out]; exact (HLP.out d' rfl).symm)
          have hdz : ((d' : Int) + 1 == 0) = false := by simp; omega
          clear HLI HLP HLZ HLN HV hd0
          go_wp2_with fail
          refine (init_any _ _).mono ?_
          rintro e w1 ⟨rfl, rfl⟩
          go_wp2
          go_round
          case measure => simp [RowKit.intOf]; omega
          case rel => exact ⟨q + 1, d', by go_num, by go_num, by omega, by omega, HV2.out⟩
      · have hPf : isP c = false := by simpa [isP] using hP
        have hP2 : (c == 22) = false := by simpa using hP
        cases hI : isI c with
        | true =>
          have HV2 := Lib.hid (show q + 1 + endL (l.drop (q + 1)) (d + 1) = x by rw [← HV.out]; exact (HLI.out hI).symm)
          clear HLI HLP HLZ HLN HV hP hPf
          go_wp2_with fail
          refine (init_any _ _).mono ?_
          rintro e w1 ⟨rfl, rfl⟩
          rw [hI]
          go_wp2
          go_round
          case measure => simp [RowKit.intOf]; omega
          case rel => exact ⟨q + 1, d + 1, by go_num, by go_num, by omega, by omega, HV2.out⟩
        | false =>
          have HV2 := Lib.hid (show q + 1 + endL (l.drop (q + 1)) d = x by rw [← HV.out]; exact (HLN.out hPf hI).symm)
          clear HLI HLP HLZ HLN HV hP hPf
          go_wp2_with fail
          refine (init_any _ _).mono ?_
          rintro e w1 ⟨rfl, rfl⟩
          rw [hI]
          go_wp2
          go_round
          case measure => simp [RowKit.intOf]; omega
          case rel => exact ⟨q + 1, d, by go_num, by go_num, by omega, by omega, HV2.out⟩
    · have hke : q = n := by omega
      subst hke
      have hv := HV.out
      rw [List.drop_eq_nil_of_le (by rw [HL.out]; exact Nat.le_refl _)] at hv
      have hv2 : x = q := by rw [← hv]; rfl
      subst hv2
      go_wp2
      go_ret
      exact ⟨rfl, rfl⟩
end Go.Proofs.Ytehndhkcmccpmaa.Ba
