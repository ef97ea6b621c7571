/-
  Proved here: what closed of the statements of layer 10 returns, for every row of numbers of at most 2^40; and that what stands between an initiator and a PDI, closed, changes nothing of the level around. It leaves what was in memory.
-/
import Derived.Test.YtifaimoaaiikpaaBaRef
set_option linter.unusedVariables false
namespace Go.Proofs.Ytifaimoaaiikpaa.Ba
open Go.RowKit Go.Lib Go.Proofs.Ytifaimoaaiikpaa.Cl

def closedL : List Int → Nat → Bool
  | [], d => d == 0
  | c :: l, d => if isI c then closedL l (d + 1) else if isP c then (match d with | 0 => false | d + 1 => closedL l d) else closedL l d
theorem closedL_I {l : List Int} {k d : Nat} (h : k < l.length) (hi : isI l[k] = true) : closedL (l.drop k) d = closedL (l.drop (k + 1)) (d + 1) := by
  rw [List.drop_eq_getElem_cons h]
  simp only [closedL]
  rw [if_pos hi]
theorem closedL_P {l : List Int} {k d : Nat} (h : k < l.length) (hp : isP l[k] = true) : closedL (l.drop k) (d + 1) = closedL (l.drop (k + 1)) d := by
  have hi : ¬ isI l[k] = true := fun h1 => by rw [isI_not_isP h1] at hp; cases hp
  rw [List.drop_eq_getElem_cons h]
  simp only [closedL]
  rw [if_neg hi, if_pos hp]
theorem closedL_P0 {l : List Int} {k : Nat} (h : k < l.length) (hp : isP l[k] = true) : closedL (l.drop k) 0 = false := by
  have hi : ¬ isI l[k] = true := fun h1 => by rw [isI_not_isP h1] at hp; cases hp
  rw [List.drop_eq_getElem_cons h]
  simp only [closedL]
  rw [if_neg hi, if_pos hp]
theorem closedL_N {l : List Int} {k d : Nat} (h : k < l.length) (hp : isP l[k] = false) (hi : isI l[k] = false) : closedL (l.drop k) d = closedL (l.drop (k + 1)) d := by
  rw [List.drop_eq_getElem_cons h]
  simp only [closedL]
  rw [if_neg (by rw [hi]; decide), if_neg (by rw [hp]; decide)]

/-- What stands in an isolate, closed, is passed over. -/
theorem levL_closed : ∀ (zs b : List Int) (d e : Nat), closedL zs e = true → levL (zs ++ b) (d + 1 + e) = levL b (d + 1)
  | [], b, d, e, h => by
    have : e = 0 := by simpa [closedL] using h
    subst this
    rfl
  | c :: zs, b, d, e, h => by
    simp only [closedL] at h
    simp only [List.cons_append, levL]
    by_cases hi : isI c = true
    · rw [if_pos hi] at h ⊢
      exact levL_closed zs b d (e + 1) h
    · rw [if_neg hi] at h ⊢
      by_cases hp : isP c = true
      · rw [if_pos hp] at h ⊢
        cases e with
        | zero => cases h
        | succ e => exact levL_closed zs b d e h
      · rw [if_neg hp] at h ⊢
        rw [if_neg (by omega), if_neg (by omega)]
        exact levL_closed zs b d e h
theorem levL_same (r r' : List Int) (h : ∀ d, levL r d = levL r' d) : ∀ (a : List Int) (d : Nat), levL (a ++ r) d = levL (a ++ r') d
  | [], d => h d
  | c :: a, d => by
    simp only [List.cons_append, levL]
    rw [levL_same r r' h a, levL_same r r' h a, levL_same r r' h a]
theorem levL_skips (a zs b : List Int) (z : Int) (hz : isI z = true) (hc : closedL zs 0 = true) : levL ((((a ++ [z]) ++ zs) ++ [22]) ++ b) 0 = levL (a ++ b) 0 := by
  have e : (((a ++ [z]) ++ zs) ++ [22]) ++ b = a ++ (z :: (zs ++ (22 :: b))) := by simp
  rw [e]
  refine levL_same _ _ (fun d => ?_) a 0
  have h1 : levL (z :: (zs ++ (22 :: b))) d = levL (zs ++ (22 :: b)) (d + 1) := by
    simp only [levL]
    rw [if_pos hz]
  rw [h1]
  have h2 := levL_closed zs (22 :: b) d 0 hc
  rw [Nat.add_zero] at h2
  rw [h2]
  rfl

set_option maxHeartbeats 2000000 in
set_option maxRecDepth 100000 in
theorem closed_any (A : Option Addr) (l : List Int) (n m : Nat) (w : World) (hl : l.length = n) (hR : IntsAt w A l) (hn : n ≤ 1099511627776) :
    Calls Try.prog 19 #[.slice A n m] w fun e w' => e = .returned (.bool (closedL l 0)) ∧ w = w' := by
  obtain ⟨x, hx⟩ : ∃ x, closedL l 0 = x := ⟨_, rfl⟩
  rw [hx]
  have HX := Lib.hid (show closedL (l.drop 0) 0 = x from hx)
  have HR := Lib.hid hR
  have HL := Lib.hid hl
  clear hx hR hl
  go_enter Try.func19, Try.ntmps19
  go_wp2
  go_loop [3, 4] (fun s3 s4 => ∃ q d : Nat, s3 = .int .i64 d ∧ s4 = .int .i64 q ∧ q ≤ n ∧ d ≤ q ∧ closedL (l.drop q) d = x) (fun _ s4 => n - (RowKit.intOf s4).toNat)
  case atStart => exact ⟨0, 0, rfl, rfl, Nat.zero_le _, Nat.le_refl _, HX.out⟩
  case round =>
    obtain ⟨q, d, rfl, rfl, hq, hd, hv⟩ := hrel
    have HV := Lib.hid hv
    clear hv
    by_cases hlt : q < n
    · have hkl : q < l.length := by rw [HL.out]; exact hlt
      obtain ⟨b, off, rfl, hc0⟩ := HR.out.at_ hkl
      have HLI := Lib.hid (fun h => closedL_I (d := d) hkl h)
      have HLP := Lib.hid (fun d h => closedL_P (d := d) hkl h)
      have HLZ := Lib.hid (fun h => closedL_P0 hkl h)
      have HLN := Lib.hid (fun h h2 => closedL_N (d := d) hkl h h2)
      generalize l[q] = c at *
      cases hI : isI c with
      | true =>
        have HV2 := Lib.hid (show closedL (l.drop (q + 1)) (d + 1) = x by rw [← HV.out]; exact (HLI.out hI).symm)
        have hP2 : (c == 22) = false := by
          have := isI_not_isP hI
          simpa [isP] using this
        clear HLI HLP HLZ HLN HV
        go_wp2_with fail
        refine (opens_any _ _).mono ?_
        rintro e w1 ⟨rfl, rfl⟩
        rw [hI]
        go_wp2
        go_round
        case measure => simp [RowKit.intOf]; omega
        case rel => exact ⟨q + 1, d + 1, by go_num, by go_num, by omega, by omega, HV2.out⟩
      | false =>
        by_cases hP : c = 22
        · subst hP
          rcases Nat.eq_zero_or_pos d with hd0 | hd0
          · subst hd0
            have hfin : x = false := by rw [← HV.out]; exact HLZ.out rfl
            subst hfin
            clear HLI HLP HLZ HLN HV
            go_wp2_with fail
            refine (opens_any _ _).mono ?_
            rintro e w1 ⟨rfl, rfl⟩
            rw [hI]
            go_wp2
            go_ret
            exact ⟨rfl, rfl⟩
          · obtain ⟨d', rfl⟩ : ∃ d', d = d' + 1 := ⟨d - 1, by omega⟩
            have HV2 := Lib.hid (show closedL (l.drop (q + 1)) d' = x by rw [← HV.out]; exact (HLP.out d' rfl).symm)
            clear HLI HLP HLZ HLN HV hd0
            go_wp2_with fail
            refine (opens_any _ _).mono ?_
            rintro e w1 ⟨rfl, rfl⟩
            rw [hI]
            go_wp2
            go_round
            case measure => simp [RowKit.intOf]; omega
            case rel => exact ⟨q + 1, d', by go_num, by go_num, by omega, by omega, HV2.out⟩
        · have hPf : isP c = false := by simpa [isP] using hP
          have hP2 : (c == 22) = false := by simpa using hP
          have HV2 := Lib.hid (show closedL (l.drop (q + 1)) d = x by rw [← HV.out]; exact (HLN.out hPf hI).symm)
          clear HLI HLP HLZ HLN HV hP hPf
          go_wp2_with fail
          refine (opens_any _ _).mono ?_
          rintro e w1 ⟨rfl, rfl⟩
          rw [hI]
          go_wp2
          go_round
          case measure => simp [RowKit.intOf]; omega
          case rel => exact ⟨q + 1, d, by go_num, by go_num, by omega, by omega, HV2.out⟩
    · have hke : q = n := by omega
      subst hke
      have hv := HV.out
      rw [List.drop_eq_nil_of_le (by rw [HL.out]; exact Nat.le_refl _)] at hv
      have hv2 : x = (d == 0) := by rw [← hv]; rfl
      rcases Nat.eq_zero_or_pos d with hd0 | hd0
      · subst hd0
        have hx2 : x = true := hv2
        subst hx2
        clear hv hv2
        go_wp2
        go_ret
        exact ⟨rfl, rfl⟩
      · have hdz : ((d : Int) == 0) = false := by simp; omega
        have hx2 : x = false := by rw [hv2]; simp; omega
        subst hx2
        clear hv hv2
        go_wp2
        go_ret
        exact ⟨rfl, rfl⟩
end Go.Proofs.Ytifaimoaaiikpaa.Ba
