/-
  Proved here: what level.directed returns, for every row of numbers of at most 2^40 and the row of its matches, at an initiator: by dirE. It leaves what was in memory.
-/
import Derived.Test.YtehndhkcmccpmaaLvPlain
import Derived.Test.YtehndhkcmccpmaaBaMatch
import Derived.Test.YtehndhkcmccpmaaBaLevel
set_option linter.unusedVariables false
namespace Go.Proofs.Ytehndhkcmccpmaa.Lv
open Go Go.RowKit Go.Lib Go.Proofs.Ytehndhkcmccpmaa.Cl Go.Proofs.Ytehndhkcmccpmaa.Ba

theorem ints_drop {w : World} {b off : Nat} {spot : _} {zs : List Int} (h : IntsAt w (some ⟨b, off, spot⟩) zs) (p : Nat) : IntsAt w (some ((⟨b, off, spot⟩ : Addr).add p)) (zs.drop p) := by
  rcases h with rfl | ⟨b', off', he, hlt, hc⟩
  · exact .inl (by simp)
  · injection he with he
    injection he with e1 e2 e3
    subst e1 e2 e3
    have hadd : (⟨b, off, none⟩ : Addr).add p = ⟨b, off + p, none⟩ := by unfold Addr.add; split <;> simp_all
    refine .inr ⟨b, off + p, by rw [hadd], hlt, fun j z hz => ?_⟩
    rw [List.getElem?_drop] at hz
    rw [Nat.add_assoc]
    exact hc (p + j) z hz
theorem ints_take {w : World} {A : Option Addr} {zs : List Int} (h : IntsAt w A zs) (p : Nat) : IntsAt w A (zs.take p) := by
  rcases h with rfl | ⟨b, off, rfl, hlt, hc⟩
  · exact .inl (by simp)
  · refine .inr ⟨b, off, rfl, hlt, fun j z hz => ?_⟩
    rw [List.getElem?_take] at hz
    split at hz
    · exact hc j z hz
    · cases hz
theorem ints_one_at {w : World} {A : Option Addr} {zs : List Int} (h : IntsAt w A zs) {k : Nat} (hk : k < zs.length) {b off : Nat} {spot : _} (hA : A = some ⟨b, off, spot⟩) : IntsAt w (some ((⟨b, off, spot⟩ : Addr).add k)) [zs[k]] := by
  subst hA
  have h2 := ints_take (ints_drop h k) 1
  rw [List.drop_eq_getElem_cons hk] at h2
  exact h2
theorem levE_N {l : List Int} {k : Nat} (h : k < l.length) (hp : isP l[k] = false) (hi : isI l[k] = false) : levE (l.drop k) 0 = if l[k] = 0 then (0, true) else if l[k] = 1 ∨ l[k] = 2 then (1, true) else levE (l.drop (k + 1)) 0 := by
  rw [List.drop_eq_getElem_cons h]
  simp only [levE]
  rw [if_neg (by rw [hi]; decide), if_neg (by rw [hp]; decide)]
  simp
theorem levE_I {l : List Int} {k : Nat} (h : k < l.length) (hi : isI l[k] = true) : levE (l.drop k) 0 = levE (l.drop (endAt l k + 1)) 0 := by
  rw [List.drop_eq_getElem_cons h]
  simp only [levE]
  rw [if_pos hi, levE_skip, List.drop_drop]
  congr 2
/-- Where the one behind an isolate ends. -/
theorem end_I {l : List Int} {k e : Nat} (h : k < l.length) (hi : isI l[k] = true) (he : k + endL (l.drop k) 0 = e) (hlt : endAt l k < l.length) : endAt l k + 1 + endL (l.drop (endAt l k + 1)) 0 = e := by
  rw [endL_I l k 0 h hi, endL_succ _ _ (by rw [List.length_drop]; unfold endAt at hlt; omega), List.drop_drop] at he
  unfold endAt
  have e1 : k + 1 + (endL (l.drop (k + 1)) 0 + 1) = k + 1 + endL (l.drop (k + 1)) 0 + 1 := by omega
  rw [e1] at he
  omega
theorem lev_one (c : Int) (hi : isI c = false) (hp : isP c = false) : levL [c] 0 = if c = 0 then (0, true) else if c = 1 ∨ c = 2 then (1, true) else (0, false) := by
  simp only [levL]
  rw [if_neg (by rw [hi]; decide), if_neg (by rw [hp]; decide)]
  simp

set_option maxHeartbeats 2000000 in
set_option maxRecDepth 100000 in
theorem directed_any (A Am : Option Addr) (l : List Int) (n m mm f : Nat) (w : World) (hl : l.length = n) (hR : IntsAt w A l) (hM : IntsAt w Am (matchL l)) (hn : n ≤ 1099511627776) (hnm : n ≤ m) (hf : f < n) (hI : ∀ h : f < l.length, isI l[f] = true) :
    Calls Try.prog 26 #[.slice A n m, .slice Am n mm, .int .i64 f] w fun x w' => x = .returned (.int .i64 (if dirE (l.drop (f + 1)) = 1 then 20 else 19)) ∧ w = w' := by
  have hfl : f < l.length := by omega
  have hIf := hI hfl
  have hml := matchL_len l
  obtain ⟨bm, om, rfl, -⟩ := hM.at_ (k := f) (by omega)
  have HMC := Lib.hid (show ∀ i (h : i < l.length), w.cell? ⟨bm, om + i, none⟩ = some (.int .i64 (mtK l l.length i)) from fun i h => by
    obtain ⟨b', o', he, hc⟩ := hM.at_ (k := i) (by omega)
    injection he with he
    injection he with e1 e2
    subst e1 e2
    rw [matchL_at l i h] at hc
    exact hc)
  obtain ⟨e, he⟩ : ∃ e, endAt l f = e := ⟨_, rfl⟩
  obtain ⟨x, hx⟩ : ∃ x, levE (l.drop (f + 1)) 0 = x := ⟨_, rfl⟩
  have hres : (if dirE (l.drop (f + 1)) = 1 then (20 : Int) else 19) = if x.1 = 1 then 20 else 19 := by
    unfold dirE
    rw [hx]
    split <;> simp_all
  rw [hres]
  have hce := HMC.out f hfl
  rw [mt_I hfl hIf, he] at hce
  have hen := endAt_le l f hfl
  rw [he] at hen
  have HST := Lib.hid (show f + 1 + endL (l.drop (f + 1)) 0 = e from he)
  have HX := Lib.hid hx
  have HR := Lib.hid hR
  have HL := Lib.hid hl
  clear hres hx he hR hM hI hIf hml
  go_enter Try.func26, Try.ntmps26
  go_wp2_with fail
  go_loop [7] (fun s7 => ∃ k : Nat, s7 = .int .i64 k ∧ k ≤ n + 1 ∧ levE (l.drop k) 0 = x ∧ (k + endL (l.drop k) 0 = e ∨ (e < k ∧ x = (0, false)))) (fun s7 => n + 2 - (RowKit.intOf s7).toNat)
  case atStart => exact ⟨f + 1, by go_num, by omega, HX.out, .inl HST.out⟩
  case round =>
    obtain ⟨k, rfl, hk, hv, hJ⟩ := hrel
    have HV := Lib.hid hv
    have HJ := Lib.hid hJ
    clear hv hJ HST HX
    by_cases hlt : k < e
    · have hkl : k < l.length := by omega
      have hend : k + endL (l.drop k) 0 = e := by
        rcases HJ.out with h | h
        · exact h
        · omega
      have hck := HMC.out k hkl
      obtain ⟨b, off, rfl, hc0⟩ := HR.out.at_ hkl
      have HEND := Lib.hid hend
      clear HJ hend
      cases hi : isI l[k] with
      | true =>
        rw [mt_I hkl hi] at hck
        have hgt := endAt_gt l k
        have hle := endAt_le l k hkl
        have HN := Lib.hid (show levE (l.drop (endAt l k + 1)) 0 = x by rw [← levE_I hkl hi]; exact HV.out)
        have HE := Lib.hid (fun h => end_I hkl hi HEND.out h)
        have kg : decide ((k : Int) < (endAt l k : Int)) = true := by simp; omega
        have kg2 : decide (k < endAt l k) = true := by simp; omega
        have kl : decide (k < e) = true := by simpa using hlt
        clear HV HEND hi hc0
        generalize endAt l k = q at *
        go_wp2
        go_round
        case measure => simp [RowKit.intOf]; omega
        case rel =>
          refine ⟨q + 1, by go_num, by omega, HN.out, ?_⟩
          by_cases hq : q < l.length
          · exact .inl (HE.out hq)
          · refine .inr ⟨by omega, ?_⟩
            rw [← HN.out, List.drop_eq_nil_of_le (by omega)]
            rfl
      | false =>
        have hp : isP l[k] = false := by
          cases hp : isP l[k] with
          | false => rfl
          | true =>
            have := endL_P0 l k hkl hp
            have := HEND.out
            omega
        rw [mt_N hkl hp hi] at hck
        have hone := ints_one_at HR.out hkl rfl
        rw [show (⟨b, off, none⟩ : Addr).add k = ⟨b, off + k, none⟩ from by unfold Addr.add; split <;> simp_all] at hone
        have HS := Lib.hid (level_any _ [l[k]] 1 (m - k) w rfl hone (by omega))
        clear hone
        have HLO := Lib.hid (lev_one l[k] hi hp)
        have HV2 := Lib.hid (show _ = x from (levE_N hkl hp hi).symm.trans HV.out)
        have HE := Lib.hid (show k + 1 + endL (l.drop (k + 1)) 0 = e by rw [← endL_N l k 0 hkl hp hi]; exact HEND.out)
        have kl : decide (k < e) = true := by simpa using hlt
        have kg : decide ((k : Int) < -1) = false := by simp
        have hmk : ¬ m = k := by omega
        clear HV HEND hi hp
        generalize l[k] = c at *
        by_cases c0 : c = 0
        · subst c0
          have hx : x = (0, true) := by rw [← HV2.out, if_pos rfl]
          subst hx
          rw [show levL [(0 : Int)] 0 = (0, true) from by rw [HLO.out, if_pos rfl]] at HS
          clear HV2 HLO HE
          go_wp2_with fail
          refine HS.out.mono ?_
          rintro y w1 ⟨rfl, rfl⟩
          go_wp2
          go_ret
          exact ⟨rfl, rfl⟩
        · by_cases c1 : c = 1 ∨ c = 2
          · have hx : x = (1, true) := by rw [← HV2.out, if_neg c0, if_pos c1]
            subst hx
            rw [show levL [c] 0 = (1, true) from by rw [HLO.out, if_neg c0, if_pos c1]] at HS
            clear HV2 HLO HE c0 c1
            go_wp2_with fail
            refine HS.out.mono ?_
            rintro y w1 ⟨rfl, rfl⟩
            go_wp2
            go_ret
            exact ⟨rfl, rfl⟩
          · have HV3 := HV2.out
            rw [if_neg c0, if_neg c1] at HV3
            rw [show levL [c] 0 = (0, false) from by rw [HLO.out, if_neg c0, if_neg c1]] at HS
            have HV4 := Lib.hid HV3
            clear HV2 HV3 HLO c0 c1
            go_wp2_with fail
            refine HS.out.mono ?_
            rintro y w1 ⟨rfl, rfl⟩
            go_wp2
            go_round
            case measure => simp [RowKit.intOf]; omega
            case rel => exact ⟨k + 1, by go_num, by omega, HV4.out, .inl HE.out⟩
    · have hx : x = (0, false) := by
        rcases HJ.out with h | h
        · have h0 : endL (l.drop k) 0 = 0 := by omega
          rw [← HV.out, levE_ended _ h0]
        · exact h.2
      subst hx
      have kl : decide (k < e) = false := by simp; omega
      clear HV HJ
      go_wp2
      go_ret
      exact ⟨rfl, rfl⟩
end Go.Proofs.Ytehndhkcmccpmaa.Lv
