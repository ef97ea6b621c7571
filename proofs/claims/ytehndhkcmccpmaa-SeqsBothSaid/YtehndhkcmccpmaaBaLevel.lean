/-
  Proved here: what base.Level returns, for every row of numbers of at most 2^40: the plain levL. It leaves what was in memory.
-/
import Derived.Test.YtehndhkcmccpmaaBaLevPlain
import Derived.Test.YtehndhkcmccpmaaBaLevFrame
import Derived.Test.YtehndhkcmccpmaaClInts
set_option linter.unusedVariables false
namespace Go.Proofs.Ytehndhkcmccpmaa.Ba
open Go Go.RowKit Go.Lib Go.Proofs.Ytehndhkcmccpmaa.Cl Go.Proofs.Ytehndhkcmccpmaa.Cv

/-- A scope with one label: the way to it, and each pass from it, walked once. -/
theorem wp_scope_again {P : Program} {c rest : Code} {a : Act} {w : World} {Q : Exit → Act → World → Prop} (l : Nat) (J : Act → World → Prop) (μ : Act → World → Nat) (hf : findLabel c l = some (Code.skip.seq rest))
    (first : (∀ a w, J a w → rest.wp P (Exit.jump l J Q) a w) → c.wp P (Exit.jump l J Q) a w)
    (pass : ∀ a w, J a w → rest.wp P (Exit.jump l (fun a' w' => J a' w' ∧ μ a' w' < μ a w) Q) a w) : (Code.scope c).wp P Q a w :=
  wp_scope_jumps l J μ hf (first fun a w h => wp_mono (pass a w h) (fun e a' w' he => by
    cases e <;> first | exact ⟨he.1, he.2.1⟩ | exact he)) (fun a w h => wp_seq (wp_skip (pass a w h)))

set_option maxHeartbeats 2000000 in
set_option maxRecDepth 100000 in
theorem level_any (A : Option Addr) (l : List Int) (n m : Nat) (w : World) (hl : l.length = n) (hR : IntsAt w A l) (hn : n ≤ 1099511627776) :
    Calls Try.prog 47 #[.slice A n m] w fun e w' => e = .returned (.tuple #[.int .i64 (levL l 0).1, .bool (levL l 0).2]) ∧ w = w' := by
  obtain ⟨x, hx⟩ : ∃ x, levL l 0 = x := ⟨_, rfl⟩
  rw [hx]
  have HX := Lib.hid (show levL (l.drop 0) 0 = x by rw [List.drop_zero]; exact hx)
  have HR := Lib.hid hR
  have HL := Lib.hid hl
  clear hx hR hl
  go_enter Try.func47, Try.ntmps47
  go_wp2
  refine wp_scope_again 0 (fun a' w' => ∃ k d : Nat, FitBaLev a' (.slice A n m) (.int .i64 k) (.int .i64 d) ∧ k ≤ n ∧ d ≤ k ∧ levL (l.drop k) d = x ∧ w = w') (fun a' _ => n - (RowKit.intOf (a'.tmps.getD 4 undef)).toNat) rfl ?_ ?_
  · intro hgo
    go_wp2
    go_step3
    rename_i hK
    refine hK _ _ (hgo _ _ ?_)
    exact ⟨0, 0, ⟨rfl, rfl, rfl, rfl, rfl⟩, Nat.zero_le _, Nat.le_refl _, HX.out, rfl⟩
  · rintro a' w' ⟨k, d, hfit, hk, hd, hlev, rfl⟩
    obtain ⟨g, rfl⟩ := hfit.opened
    clear hfit HX
    have HV := Lib.hid hlev
    clear hlev
    by_cases hlt : k < n
    · have hkl : k < l.length := by rw [HL.out]; exact hlt
      obtain ⟨b, off, rfl, hc0⟩ := HR.out.at_ hkl
      have HLI := Lib.hid (fun h => levL_I (d := d) hkl h)
      have HLP := Lib.hid (fun h => levL_P (d := d) hkl h)
      have HLN := Lib.hid (fun h h2 => levL_N (d := d) hkl h h2)
      rw [HV.out] at HLI HLP HLN
      generalize l[k] = c at *
      by_cases hIs : isI c = true
      · have hcs : c = 19 ∨ c = 20 ∨ c = 21 := by simpa [isI] using hIs
        have HV2 := Lib.hid (HLI.out hIs).symm
        clear HLI HLP HLN HV hIs
        rcases hcs with rfl | rfl | rfl
        all_goals
          go_wp2
          go_step3
          refine ⟨rfl, ⟨k + 1, d + 1, ⟨rfl, rfl, rfl, rfl, rfl⟩, by omega, by omega, HV2.out, rfl⟩, ?_⟩
          simp [RowKit.intOf]
          omega
      · have hIf : isI c = false := by simpa using hIs
        by_cases hPs : isP c = true
        · obtain rfl : c = 22 := by simpa [isP] using hPs
          have HV2 := Lib.hid (HLP.out hPs).symm
          clear HLI HLP HLN HV hIs hIf hPs
          rcases Nat.eq_zero_or_pos d with hd0 | hd0
          · subst hd0
            go_wp2
            go_step3
            refine ⟨rfl, ⟨k + 1, 0, ⟨rfl, rfl, rfl, rfl, rfl⟩, by omega, by omega, HV2.out, rfl⟩, ?_⟩
            simp [RowKit.intOf]
            omega
          · obtain ⟨d', rfl⟩ : ∃ d', d = d' + 1 := ⟨d - 1, by omega⟩
            clear hd0
            rcases Nat.eq_zero_or_pos d' with hz | hz
            · subst hz
              go_wp2
              go_step3
              refine ⟨rfl, ⟨k + 1, 0, ⟨rfl, rfl, rfl, rfl, rfl⟩, by omega, by omega, HV2.out, rfl⟩, ?_⟩
              simp [RowKit.intOf]
              omega
            · have hz2 : decide (0 < d') = true := decide_eq_true hz
              go_wp2
              go_step3
              refine ⟨rfl, ⟨k + 1, d', ⟨rfl, rfl, rfl, rfl, rfl⟩, by omega, by omega, HV2.out, rfl⟩, ?_⟩
              simp [RowKit.intOf]
              omega
        · have hPf : isP c = false := by simpa using hPs
          have hV := HLN.out hPf hIf
          have c1 : (c == 19) = false := by simp [isI] at hIf; simp; omega
          have c2 : (c == 20) = false := by simp [isI] at hIf; simp; omega
          have c3 : (c == 21) = false := by simp [isI] at hIf; simp; omega
          have c4 : (c == 22) = false := by simpa [isP] using hPf
          clear HLI HLP HLN HV hIs hPs hIf hPf
          by_cases hd0 : d = 0
          · subst hd0
            by_cases h0 : c = 0
            · subst h0
              have hv2 : x = (0, true) := hV
              subst hv2
              clear hV
              go_wp2
              simp only [Exit.jump]
              go_ret2
              exact ⟨rfl, rfl⟩
            · have c5 : (c == 0) = false := by simpa using h0
              rw [if_neg (fun h => h0 h.2)] at hV
              by_cases h1 : c = 1 ∨ c = 2
              · rw [if_pos ⟨rfl, h1⟩] at hV
                subst hV
                rcases h1 with rfl | rfl
                all_goals
                  go_wp2
                  simp only [Exit.jump]
                  go_ret2
                  exact ⟨rfl, rfl⟩
              · rw [if_neg (fun h => h1 h.2)] at hV
                have HV2 := Lib.hid hV.symm
                have c6 : (c == 1) = false := by simp; omega
                have c7 : (c == 2) = false := by simp; omega
                clear hV h0 h1
                go_wp2
                go_step3
                refine ⟨rfl, ⟨k + 1, 0, ⟨rfl, rfl, rfl, rfl, rfl⟩, by omega, by omega, HV2.out, rfl⟩, ?_⟩
                simp [RowKit.intOf]
                omega
          · rw [if_neg (fun h => hd0 h.1), if_neg (fun h => hd0 h.1)] at hV
            have HV2 := Lib.hid hV.symm
            have hdz : ((d : Int) == 0) = false := by simpa using hd0
            clear hV
            by_cases h0 : c = 0
            · subst h0
              go_wp2
              go_step3
              refine ⟨rfl, ⟨k + 1, d, ⟨rfl, rfl, rfl, rfl, rfl⟩, by omega, by omega, HV2.out, rfl⟩, ?_⟩
              simp [RowKit.intOf]
              omega
            · have c5 : (c == 0) = false := by simpa using h0
              by_cases h1 : c = 1
              · subst h1
                go_wp2
                go_step3
                refine ⟨rfl, ⟨k + 1, d, ⟨rfl, rfl, rfl, rfl, rfl⟩, by omega, by omega, HV2.out, rfl⟩, ?_⟩
                simp [RowKit.intOf]
                omega
              · have c6 : (c == 1) = false := by simpa using h1
                by_cases h2 : c = 2
                · subst h2
                  go_wp2
                  go_step3
                  refine ⟨rfl, ⟨k + 1, d, ⟨rfl, rfl, rfl, rfl, rfl⟩, by omega, by omega, HV2.out, rfl⟩, ?_⟩
                  simp [RowKit.intOf]
                  omega
                · have c7 : (c == 2) = false := by simpa using h2
                  clear h0 h1 h2
                  go_wp2
                  go_step3
                  refine ⟨rfl, ⟨k + 1, d, ⟨rfl, rfl, rfl, rfl, rfl⟩, by omega, by omega, HV2.out, rfl⟩, ?_⟩
                  simp [RowKit.intOf]
                  omega
    · have hke : k = n := by omega
      subst hke
      have hv := HV.out
      rw [List.drop_eq_nil_of_le (by rw [HL.out]; exact Nat.le_refl _)] at hv
      have hv2 : x = (0, false) := hv.symm
      subst hv2
      go_wp2
      simp only [Exit.jump]
      go_ret2
      exact ⟨rfl, rfl⟩
end Go.Proofs.Ytehndhkcmccpmaa.Ba
