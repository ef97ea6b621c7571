/-
  Proved here: what the document's own answer parquetryref10.Level returns, for every row of numbers of at most 2^40: the plain levL. It leaves what was in memory.
-/
import Derived.Test.YtehndhkcmccpmaaBaRef
import Derived.Test.YtehndhkcmccpmaaBaLevPlain
set_option linter.unusedVariables false
namespace Go.Proofs.Ytehndhkcmccpmaa.Ba
open Go.RowKit Go.Lib Go.Proofs.Ytehndhkcmccpmaa.Cl

/-- Whether an initiator stands at a place. -/
def isAt (l : List Int) (t : Nat) : Bool := match l[t]? with | none => false | some c => isI c
/-- Whether one of the first k places has an initiator that ends behind i. -/
def inB (l : List Int) (i k : Nat) : Bool := (List.range k).any fun t => isAt l t && decide (i < endAt l t)
theorem inB_succ (l : List Int) (i k : Nat) : inB l i (k + 1) = (inB l i k || (isAt l k && decide (i < endAt l k))) := by
  unfold inB
  rw [List.range_succ, List.any_append]
  simp
theorem isAt_eq {l : List Int} {t : Nat} (h : t < l.length) : isAt l t = isI l[t] := by simp [isAt, h]
theorem inB_end {l : List Int} {i : Nat} (hi : i < l.length) (hp : isP l[i] = false) : inB l i i = !(stk l i).isEmpty := by
  cases hs : stk l i with
  | nil =>
    unfold inB
    rw [List.any_eq_false.2]
    · rfl
    intro t ht
    have ht := List.mem_range.1 ht
    rw [isAt_eq (by omega)]
    intro h
    simp only [Bool.and_eq_true, decide_eq_true_eq] at h
    have := (stk_iff (l := l) (k := i) (by omega) ht (by omega) h.1).2 (by omega)
    rw [hs] at this
    cases this
  | cons t r =>
    unfold inB
    rw [List.any_eq_true.2]
    · rfl
    have hm : t ∈ stk l i := by rw [hs]; exact List.mem_cons_self ..
    obtain ⟨h1, h2, h3⟩ := stk_at l i (by omega) 0 t (by rw [hs]; rfl)
    have h4 : t < l.length := by omega
    rw [List.getElem?_eq_getElem h4] at h2
    have h2 : isI l[t] = true := by simpa using h2
    refine ⟨t, List.mem_range.2 h1, ?_⟩
    rw [isAt_eq h4, h2]
    have h5 := (stk_iff (l := l) (k := i) (by omega) h1 h4 h2).1 hm
    have h6 : endAt l t ≠ i := by
      intro e
      have := endAt_P l t (by omega)
      simp only [e] at this
      rw [hp] at this
      cases this
    simp
    omega
/-- The level, by what is open behind so many classes. -/
def levS (l : List Int) (k : Nat) : Int × Bool := levL (l.drop k) (stk l k).length
theorem levS_zero (l : List Int) : levS l 0 = levL l 0 := rfl
theorem levS_end (l : List Int) : levS l l.length = (0, false) := by
  unfold levS
  rw [List.drop_length]
  rfl
theorem levS_I {l : List Int} {k : Nat} (h : k < l.length) (hi : isI l[k] = true) : levS l k = levS l (k + 1) := by
  unfold levS
  rw [levL_I h hi, stk_I h hi, List.length_cons]
theorem levS_P {l : List Int} {k : Nat} (h : k < l.length) (hp : isP l[k] = true) : levS l k = levS l (k + 1) := by
  unfold levS
  rw [levL_P h hp, stk_P h hp, List.length_tail]
theorem levS_N {l : List Int} {k : Nat} (h : k < l.length) (hp : isP l[k] = false) (hi : isI l[k] = false) :
    levS l k = if inB l k k = false ∧ l[k] = 0 then (0, true) else if inB l k k = false ∧ (l[k] = 1 ∨ l[k] = 2) then (1, true) else levS l (k + 1) := by
  have hb := inB_end h hp
  unfold levS
  rw [levL_N h hp hi, stk_N h hp hi, hb]
  cases hs : stk l k with
  | nil => simp
  | cons t r => simp

set_option maxHeartbeats 2000000 in
set_option maxRecDepth 100000 in
theorem reflevel_any (A : Option Addr) (l : List Int) (n m : Nat) (w : World) (hl : l.length = n) (hR : IntsAt w A l) (hn : n ≤ 1099511627776) :
    Calls Try.prog 68 #[.slice A n m] w fun e w' => e = .returned (.tuple #[.int .i64 (levL l 0).1, .bool (levL l 0).2]) ∧ w = w' := by
  obtain ⟨x, hx⟩ : ∃ x, levL l 0 = x := ⟨_, rfl⟩
  rw [hx]
  have HX := Lib.hid (show levS l 0 = x from hx)
  have HR := Lib.hid hR
  have HL := Lib.hid hl
  have HE := Lib.hid (fun i hi => end_any A l n m i w hl hR hn hi)
  have HFIN := Lib.hid (show levS l n = (0, false) by rw [← hl]; exact levS_end l)
  clear hx hR hl
  go_enter Try.func68, Try.ntmps68
  go_wp2
  go_loop [4] (fun s4 => ∃ i : Nat, s4 = .int .i64 i ∧ i ≤ n ∧ levS l i = x) (fun s4 => n - (RowKit.intOf s4).toNat)
  case atStart => exact ⟨0, rfl, Nat.zero_le _, HX.out⟩
  case round =>
    obtain ⟨i, rfl, hi, hv⟩ := hrel
    have HV := Lib.hid hv
    clear hv
    by_cases hlt : i < n
    · have hkl : i < l.length := by rw [HL.out]; exact hlt
      obtain ⟨b, off, rfl, hc0⟩ := HR.out.at_ hkl
      have HLI := Lib.hid (fun h => (levS_I hkl h).symm.trans HV.out)
      have HLP := Lib.hid (fun h => (levS_P hkl h).symm.trans HV.out)
      have HLN := Lib.hid (fun h h2 => (levS_N hkl h h2).symm.trans HV.out)
      generalize l[i] = c at *
      clear HFIN
      go_wp2
      go_loop [5, 6] (fun s5 s6 => ∃ k : Nat, s5 = .bool (inB l i k) ∧ s6 = .int .i64 k ∧ k ≤ i) (fun _ s6 => i - (RowKit.intOf s6).toNat)
      case atStart => exact ⟨0, rfl, rfl, Nat.zero_le _⟩
      case round =>
        obtain ⟨k, rfl, rfl, hk⟩ := hrel
        by_cases hki : k < i
        · have hkl2 : k < l.length := by omega
          obtain ⟨b2, off2, hab, hc2⟩ := HR.out.at_ hkl2
          injection hab with hab
          injection hab with hab1 hab2
          subst hab1 hab2
          have HS := Lib.hid (inB_succ l i k)
          rw [isAt_eq hkl2] at HS
          have HE1 := Lib.hid (HE.out k (by omega))
          obtain ⟨y, hy⟩ : ∃ y, l[k] = y := ⟨_, rfl⟩
          obtain ⟨e, he⟩ : ∃ e, endAt l k = e := ⟨_, rfl⟩
          rw [hy] at hc2 HS
          rw [he] at HE1 HS
          clear hy he
          cases hB : inB l i k with
          | true =>
            rw [hB, Bool.true_or] at HS
            clear hB
            go_wp2
            go_round
            case measure => simp [RowKit.intOf]; omega
            case rel => exact ⟨k + 1, by rw [HS.out], by go_num, by omega⟩
          | false =>
            rw [hB, Bool.false_or] at HS
            clear hB
            cases hI : isI y with
            | false =>
              rw [hI, Bool.false_and] at HS
              go_wp2_with (first | (go_at_call 42; refine (init_any _ _).mono ?_; rintro e w' ⟨rfl, rfl⟩))
              go_round
              case measure => simp [RowKit.intOf]; omega
              case rel => exact ⟨k + 1, by rw [HS.out], by go_num, by omega⟩
            | true =>
              rw [hI, Bool.true_and] at HS
              by_cases hei : i < e
              · have he2 : decide (i < e) = true := decide_eq_true hei
                rw [he2] at HS
                go_wp2_with (first | (go_at_call 42; refine (init_any _ _).mono ?_; rintro e w' ⟨rfl, rfl⟩) | (go_at_call 43; refine (HE1.out).mono ?_; rintro e w' ⟨rfl, rfl⟩))
                go_round
                case measure => simp [RowKit.intOf]; omega
                case rel => exact ⟨k + 1, by rw [HS.out], by go_num, by omega⟩
              · have he2 : decide (i < e) = false := decide_eq_false hei
                rw [he2] at HS
                go_wp2_with (first | (go_at_call 42; refine (init_any _ _).mono ?_; rintro e w' ⟨rfl, rfl⟩) | (go_at_call 43; refine (HE1.out).mono ?_; rintro e w' ⟨rfl, rfl⟩))
                go_round
                case measure => simp [RowKit.intOf]; omega
                case rel => exact ⟨k + 1, by rw [HS.out], by go_num, by omega⟩
        · obtain rfl : k = i := by omega
          cases hI : isI c with
          | true =>
            have HV2 := Lib.hid (HLI.out hI)
            have hcs : c = 19 ∨ c = 20 ∨ c = 21 := by simpa [isI] using hI
            clear HLI HLP HLN HV hI
            generalize inB l k k = B
            cases B
            all_goals
              rcases hcs with rfl | rfl | rfl
              all_goals
                go_wp2
                go_round
                case measure => simp [RowKit.intOf]; omega
                case rel => exact ⟨k + 1, by go_num, by omega, HV2.out⟩
          | false =>
            by_cases hP : c = 22
            · subst hP
              have HV2 := Lib.hid (HLP.out rfl)
              clear HLI HLP HLN HV hI
              generalize inB l k k = B
              cases B
              all_goals
                go_wp2
                go_round
                case measure => simp [RowKit.intOf]; omega
                case rel => exact ⟨k + 1, by go_num, by omega, HV2.out⟩
            · have hPf : isP c = false := by simpa [isP] using hP
              have hV := HLN.out hPf hI
              clear HLI HLP HLN HV hI
              generalize inB l k k = B at *
              cases B with
              | true =>
                rw [if_neg (fun h => by cases h.1), if_neg (fun h => by cases h.1)] at hV
                have HV2 := Lib.hid hV
                clear hV
                go_wp2
                go_round
                case measure => simp [RowKit.intOf]; omega
                case rel => exact ⟨k + 1, by go_num, by omega, HV2.out⟩
              | false =>
                by_cases h0 : c = 0
                · subst h0
                  have hv2 : x = (0, true) := hV.symm
                  subst hv2
                  clear hV
                  go_wp2
                  go_ret2
                  exact ⟨rfl, rfl⟩
                · have c5 : (c == 0) = false := by simpa using h0
                  rw [if_neg (fun h => h0 h.2)] at hV
                  by_cases h1 : c = 1
                  · subst h1
                    have hv2 : x = (1, true) := hV.symm
                    subst hv2
                    clear hV
                    go_wp2
                    go_ret2
                    exact ⟨rfl, rfl⟩
                  · have c6 : (c == 1) = false := by simpa using h1
                    by_cases h2 : c = 2
                    · subst h2
                      have hv2 : x = (1, true) := hV.symm
                      subst hv2
                      clear hV
                      go_wp2
                      go_ret2
                      exact ⟨rfl, rfl⟩
                    · have c7 : (c == 2) = false := by simpa using h2
                      rw [if_neg (fun h => by rcases h.2 with h | h; exact h1 h; exact h2 h)] at hV
                      have HV2 := Lib.hid hV
                      clear hV h0 h1 h2
                      go_wp2
                      go_round
                      case measure => simp [RowKit.intOf]; omega
                      case rel => exact ⟨k + 1, by go_num, by omega, HV2.out⟩
    · have hke : i = n := by omega
      subst hke
      have hv2 : x = (0, false) := by rw [← HV.out]; exact HFIN.out
      subst hv2
      go_wp2
      go_ret2
      exact ⟨rfl, rfl⟩
end Go.Proofs.Ytehndhkcmccpmaa.Ba
