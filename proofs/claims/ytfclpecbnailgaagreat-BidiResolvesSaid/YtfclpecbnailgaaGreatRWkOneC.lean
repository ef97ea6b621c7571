/-
 Proved here: what the document's one returns for rules 5, 6, 7, for a row of ints and a place in it. It changes nothing.
-/
import Derived.Test.YtfclpecbnailgaaGreatR30
set_option linter.unusedVariables false
set_option linter.unusedSimpArgs false
namespace Go.Proofs.YtfclpecbnailgaaGreat.Wk
open Go Go.RowKit Go.Lib Go.Proofs.YtfclpecbnailgaaGreat.Cl
set_option maxHeartbeats 4000000 in
set_option maxRecDepth 100000 in
theorem one5_any (A : Option Addr) (L pre post : List Int) (x : Int) (n c a : Nat) (s : Int) (w : World) (hR : IntsAt w A L) (hl : L.length = n) (hn : n ≤ 1099511627776) (hL : L = pre ++ x :: post) (ha : pre.length = a) :
  Calls Tryz.prog 71 #[.int .i64 5, .slice A n c, .int .i64 a, .int .i64 s] w fun e w' => e = .returned (.int .i64 (one5 s pre x post)) ∧ w' = w := by
 obtain ⟨b, off, rfl, hcx⟩ := ints_mid hR hL ha
 have hna : n = a + 1 + post.length := by rw [← hl, hL, ← ha]; simp; omega
 have HNUM := Lib.hid (number_any (some ⟨b, off, none⟩) L pre post x n c a w hR hl hn hL ha)
 have HR := Lib.hid hR
 have HL := Lib.hid hL
 have HA := Lib.hid ha
 clear hR hL ha hl
 rcases List.eq_nil_or_concat pre with rfl | ⟨p, y, rfl⟩
 ·obtain rfl : a = 0 := HA.out.symm
  rw [Nat.add_zero] at hcx
  cases post with
  | nil =>
   obtain rfl : n = 0 + 1 := by simpa using hna
   clear hna
   go_enter Tryz.func71, Tryz.ntmps71
   by_cases hx5 : x = 5
   ·subst hx5
    go_wp2_with fail
    refine HNUM.out.mono ?_
    rintro e w2 ⟨rfl, rfl⟩
    obtain ⟨v, hv⟩ : ∃ v, (backN [] || aheadN []) = v := ⟨_, rfl⟩
    have HVV := Lib.hid (show (backN [] = true ∨ aheadN [] = true) ↔ v = true from by rw [← hv]; simp)
    rw [hv]
    clear hv
    cases v with
    | true =>
     have HV := Lib.hid (show one5 s [] 5 [] = 3 from by
      have f0 := HVV.out
      simp [one5, lastA_snoc, nx, iso, f0])
     go_wp2
     go_ret
     exact ⟨by first | (rw [HV.out]; rfl) | rw [HV.out], rfl⟩
    | false =>
     have HV := Lib.hid (show one5 s [] 5 [] = 5 from by
      have f0 := HVV.out
      simp [one5, lastA_snoc, nx, iso, f0])
     go_wp2
     go_ret
     exact ⟨by first | (rw [HV.out]; rfl) | rw [HV.out], rfl⟩
   ·have qhx5 : (x == 5) = false := by simpa using hx5
    have Nx5 := Lib.hid hx5
    clear hx5
    have HV := Lib.hid (show one5 s [] x [] = x from by
     have f0 := Nx5.out
     simp [one5, lastA_snoc, nx, iso, f0])
    go_wp2
    go_ret
    exact ⟨by first | (rw [HV.out]; rfl) | rw [HV.out], rfl⟩
  | cons z q =>
   obtain ⟨b', off', hbo, hcz⟩ := ints_mid (d := ([] : List Int) ++ [x]) (x := z) (r := q) (k := 0 + 1) HR.out (by rw [HL.out]; simp) (by simp)
   injection hbo with hbo
   injection hbo with hb1 hb2
   subst hb1 hb2
   have hlt : 0 + 1 < n := by simp at hna; omega
   clear hna
   go_enter Tryz.func71, Tryz.ntmps71
   by_cases hx5 : x = 5
   ·subst hx5
    go_wp2_with fail
    refine HNUM.out.mono ?_
    rintro e w2 ⟨rfl, rfl⟩
    obtain ⟨v, hv⟩ : ∃ v, (backN [] || aheadN (z :: q)) = v := ⟨_, rfl⟩
    have HVV := Lib.hid (show (backN [] = true ∨ aheadN (z :: q) = true) ↔ v = true from by rw [← hv]; simp)
    rw [hv]
    clear hv
    cases v with
    | true =>
     have HV := Lib.hid (show one5 s [] 5 (z :: q) = 3 from by
      have f0 := HVV.out
      simp [one5, lastA_snoc, nx, iso, f0])
     go_wp2
     go_ret
     exact ⟨by first | (rw [HV.out]; rfl) | rw [HV.out], rfl⟩
    | false =>
     have HV := Lib.hid (show one5 s [] 5 (z :: q) = 5 from by
      have f0 := HVV.out
      simp [one5, lastA_snoc, nx, iso, f0])
     go_wp2
     go_ret
     exact ⟨by first | (rw [HV.out]; rfl) | rw [HV.out], rfl⟩
   ·have qhx5 : (x == 5) = false := by simpa using hx5
    have Nx5 := Lib.hid hx5
    clear hx5
    have HV := Lib.hid (show one5 s [] x (z :: q) = x from by
     have f0 := Nx5.out
     simp [one5, lastA_snoc, nx, iso, f0])
    go_wp2
    go_ret
    exact ⟨by first | (rw [HV.out]; rfl) | rw [HV.out], rfl⟩
 ·rw [List.concat_eq_append] at *
  obtain ⟨j, hj⟩ : ∃ j, p.length = j := ⟨_, rfl⟩
  obtain rfl : a = j + 1 := by have := HA.out; simp [hj] at this; omega
  obtain ⟨b', off', hbo, hcy⟩ := ints_mid (d := p) (x := y) (r := x :: post) (k := j) HR.out (by rw [HL.out]; simp) hj
  injection hbo with hbo
  injection hbo with hb1 hb2
  subst hb1 hb2
  have e1 : IntKind.i64.wrap (((j + 1 : Nat) : Int) - 1) = (j : Int) := by rw [show ((j + 1 : Nat) : Int) - 1 = (j : Int) from by omega]; exact IntWalk.i64_in _ (by omega)
  have e2 : IntKind.i64.wrap ((j : Int) + 1 - 1) = (j : Int) := by rw [show (j : Int) + 1 - 1 = (j : Int) from by omega]; exact IntWalk.i64_in _ (by omega)
  have HJ := Lib.hid hj
  clear hj
  cases post with
  | nil =>
   obtain rfl : n = j + 1 + 1 := by simpa using hna
   clear hna
   have e3 : IntKind.i64.wrap (((j + 1 : Nat) : Int) + 1) = ((j + 1 : Nat) : Int) + 1 := IntWalk.i64_in _ (by omega)
   have e4 : IntKind.i64.wrap ((j : Int) + 1 + 1) = (j : Int) + 1 + 1 := IntWalk.i64_in _ (by omega)
   go_enter Tryz.func71, Tryz.ntmps71
   by_cases hx5 : x = 5
   ·subst hx5
    go_wp2_with fail
    refine HNUM.out.mono ?_
    rintro e w2 ⟨rfl, rfl⟩
    obtain ⟨v, hv⟩ : ∃ v, (backN (p ++ [y]) || aheadN []) = v := ⟨_, rfl⟩
    have HVV := Lib.hid (show (backN (p ++ [y]) = true ∨ aheadN [] = true) ↔ v = true from by rw [← hv]; simp)
    rw [hv]
    clear hv
    cases v with
    | true =>
     have HV := Lib.hid (show one5 s (p ++ [y]) 5 [] = 3 from by
      have f0 := HVV.out
      simp [one5, lastA_snoc, nx, iso, f0])
     go_wp2
     go_ret
     exact ⟨by first | (rw [HV.out]; rfl) | rw [HV.out], rfl⟩
    | false =>
     have HV := Lib.hid (show one5 s (p ++ [y]) 5 [] = 5 from by
      have f0 := HVV.out
      simp [one5, lastA_snoc, nx, iso, f0])
     go_wp2
     go_ret
     exact ⟨by first | (rw [HV.out]; rfl) | rw [HV.out], rfl⟩
   ·have qhx5 : (x == 5) = false := by simpa using hx5
    have Nx5 := Lib.hid hx5
    clear hx5
    have HV := Lib.hid (show one5 s (p ++ [y]) x [] = x from by
     have f0 := Nx5.out
     simp [one5, lastA_snoc, nx, iso, f0])
    go_wp2
    go_ret
    exact ⟨by first | (rw [HV.out]; rfl) | rw [HV.out], rfl⟩
  | cons z q =>
   obtain ⟨b', off', hbo, hcz⟩ := ints_mid (d := (p ++ [y]) ++ [x]) (x := z) (r := q) (k := j + 1 + 1) HR.out (by rw [HL.out]; simp) (by simp; exact HJ.out)
   injection hbo with hbo
   injection hbo with hb1 hb2
   subst hb1 hb2
   have hlt : j + 1 + 1 < n := by simp at hna; omega
   clear hna
   have e3 : IntKind.i64.wrap (((j + 1 : Nat) : Int) + 1) = ((j + 1 : Nat) : Int) + 1 := IntWalk.i64_in _ (by omega)
   have e4 : IntKind.i64.wrap ((j : Int) + 1 + 1) = (j : Int) + 1 + 1 := IntWalk.i64_in _ (by omega)
   go_enter Tryz.func71, Tryz.ntmps71
   by_cases hx5 : x = 5
   ·subst hx5
    go_wp2_with fail
    refine HNUM.out.mono ?_
    rintro e w2 ⟨rfl, rfl⟩
    obtain ⟨v, hv⟩ : ∃ v, (backN (p ++ [y]) || aheadN (z :: q)) = v := ⟨_, rfl⟩
    have HVV := Lib.hid (show (backN (p ++ [y]) = true ∨ aheadN (z :: q) = true) ↔ v = true from by rw [← hv]; simp)
    rw [hv]
    clear hv
    cases v with
    | true =>
     have HV := Lib.hid (show one5 s (p ++ [y]) 5 (z :: q) = 3 from by
      have f0 := HVV.out
      simp [one5, lastA_snoc, nx, iso, f0])
     go_wp2
     go_ret
     exact ⟨by first | (rw [HV.out]; rfl) | rw [HV.out], rfl⟩
    | false =>
     have HV := Lib.hid (show one5 s (p ++ [y]) 5 (z :: q) = 5 from by
      have f0 := HVV.out
      simp [one5, lastA_snoc, nx, iso, f0])
     go_wp2
     go_ret
     exact ⟨by first | (rw [HV.out]; rfl) | rw [HV.out], rfl⟩
   ·have qhx5 : (x == 5) = false := by simpa using hx5
    have Nx5 := Lib.hid hx5
    clear hx5
    have HV := Lib.hid (show one5 s (p ++ [y]) x (z :: q) = x from by
     have f0 := Nx5.out
     simp [one5, lastA_snoc, nx, iso, f0])
    go_wp2
    go_ret
    exact ⟨by first | (rw [HV.out]; rfl) | rw [HV.out], rfl⟩
set_option maxHeartbeats 4000000 in
set_option maxRecDepth 100000 in
theorem one6_any (A : Option Addr) (L pre post : List Int) (x : Int) (n c a : Nat) (s : Int) (w : World) (hR : IntsAt w A L) (hl : L.length = n) (hn : n ≤ 1099511627776) (hL : L = pre ++ x :: post) (ha : pre.length = a) :
  Calls Tryz.prog 71 #[.int .i64 6, .slice A n c, .int .i64 a, .int .i64 s] w fun e w' => e = .returned (.int .i64 (one6 s pre x post)) ∧ w' = w := by
 obtain ⟨b, off, rfl, hcx⟩ := ints_mid hR hL ha
 have hna : n = a + 1 + post.length := by rw [← hl, hL, ← ha]; simp; omega
 have HR := Lib.hid hR
 have HL := Lib.hid hL
 have HA := Lib.hid ha
 clear hR hL ha hl
 rcases List.eq_nil_or_concat pre with rfl | ⟨p, y, rfl⟩
 ·obtain rfl : a = 0 := HA.out.symm
  rw [Nat.add_zero] at hcx
  cases post with
  | nil =>
   obtain rfl : n = 0 + 1 := by simpa using hna
   clear hna
   go_enter Tryz.func71, Tryz.ntmps71
   by_cases hx4 : x = 4
   ·subst hx4
    have HV := Lib.hid (show one6 s [] 4 [] = 13 from by
     simp [one6, lastA_snoc, nx, iso])
    go_wp2
    go_ret
    exact ⟨by first | (rw [HV.out]; rfl) | rw [HV.out], rfl⟩
   ·have qhx4 : (x == 4) = false := by simpa using hx4
    have Nx4 := Lib.hid hx4
    clear hx4
    by_cases hx5 : x = 5
    ·subst hx5
     have HV := Lib.hid (show one6 s [] 5 [] = 13 from by
      have f0 := Nx4.out
      simp [one6, lastA_snoc, nx, iso, f0])
     go_wp2
     go_ret
     exact ⟨by first | (rw [HV.out]; rfl) | rw [HV.out], rfl⟩
    ·have qhx5 : (x == 5) = false := by simpa using hx5
     have Nx5 := Lib.hid hx5
     clear hx5
     by_cases hx7 : x = 7
     ·subst hx7
      have HV := Lib.hid (show one6 s [] 7 [] = 13 from by
       have f0 := Nx4.out
       have f1 := Nx5.out
       simp [one6, lastA_snoc, nx, iso, f0, f1])
      go_wp2
      go_ret
      exact ⟨by first | (rw [HV.out]; rfl) | rw [HV.out], rfl⟩
     ·have qhx7 : (x == 7) = false := by simpa using hx7
      have Nx7 := Lib.hid hx7
      clear hx7
      have HV := Lib.hid (show one6 s [] x [] = x from by
       have f0 := Nx4.out
       have f1 := Nx5.out
       have f2 := Nx7.out
       simp [one6, lastA_snoc, nx, iso, f0, f1, f2])
      go_wp2
      go_ret
      exact ⟨by first | (rw [HV.out]; rfl) | rw [HV.out], rfl⟩
  | cons z q =>
   obtain ⟨b', off', hbo, hcz⟩ := ints_mid (d := ([] : List Int) ++ [x]) (x := z) (r := q) (k := 0 + 1) HR.out (by rw [HL.out]; simp) (by simp)
   injection hbo with hbo
   injection hbo with hb1 hb2
   subst hb1 hb2
   have hlt : 0 + 1 < n := by simp at hna; omega
   clear hna
   go_enter Tryz.func71, Tryz.ntmps71
   by_cases hx4 : x = 4
   ·subst hx4
    have HV := Lib.hid (show one6 s [] 4 (z :: q) = 13 from by
     simp [one6, lastA_snoc, nx, iso])
    go_wp2
    go_ret
    exact ⟨by first | (rw [HV.out]; rfl) | rw [HV.out], rfl⟩
   ·have qhx4 : (x == 4) = false := by simpa using hx4
    have Nx4 := Lib.hid hx4
    clear hx4
    by_cases hx5 : x = 5
    ·subst hx5
     have HV := Lib.hid (show one6 s [] 5 (z :: q) = 13 from by
      have f0 := Nx4.out
      simp [one6, lastA_snoc, nx, iso, f0])
     go_wp2
     go_ret
     exact ⟨by first | (rw [HV.out]; rfl) | rw [HV.out], rfl⟩
    ·have qhx5 : (x == 5) = false := by simpa using hx5
     have Nx5 := Lib.hid hx5
     clear hx5
     by_cases hx7 : x = 7
     ·subst hx7
      have HV := Lib.hid (show one6 s [] 7 (z :: q) = 13 from by
       have f0 := Nx4.out
       have f1 := Nx5.out
       simp [one6, lastA_snoc, nx, iso, f0, f1])
      go_wp2
      go_ret
      exact ⟨by first | (rw [HV.out]; rfl) | rw [HV.out], rfl⟩
     ·have qhx7 : (x == 7) = false := by simpa using hx7
      have Nx7 := Lib.hid hx7
      clear hx7
      have HV := Lib.hid (show one6 s [] x (z :: q) = x from by
       have f0 := Nx4.out
       have f1 := Nx5.out
       have f2 := Nx7.out
       simp [one6, lastA_snoc, nx, iso, f0, f1, f2])
      go_wp2
      go_ret
      exact ⟨by first | (rw [HV.out]; rfl) | rw [HV.out], rfl⟩
 ·rw [List.concat_eq_append] at *
  obtain ⟨j, hj⟩ : ∃ j, p.length = j := ⟨_, rfl⟩
  obtain rfl : a = j + 1 := by have := HA.out; simp [hj] at this; omega
  obtain ⟨b', off', hbo, hcy⟩ := ints_mid (d := p) (x := y) (r := x :: post) (k := j) HR.out (by rw [HL.out]; simp) hj
  injection hbo with hbo
  injection hbo with hb1 hb2
  subst hb1 hb2
  have e1 : IntKind.i64.wrap (((j + 1 : Nat) : Int) - 1) = (j : Int) := by rw [show ((j + 1 : Nat) : Int) - 1 = (j : Int) from by omega]; exact IntWalk.i64_in _ (by omega)
  have e2 : IntKind.i64.wrap ((j : Int) + 1 - 1) = (j : Int) := by rw [show (j : Int) + 1 - 1 = (j : Int) from by omega]; exact IntWalk.i64_in _ (by omega)
  have HJ := Lib.hid hj
  clear hj
  cases post with
  | nil =>
   obtain rfl : n = j + 1 + 1 := by simpa using hna
   clear hna
   have e3 : IntKind.i64.wrap (((j + 1 : Nat) : Int) + 1) = ((j + 1 : Nat) : Int) + 1 := IntWalk.i64_in _ (by omega)
   have e4 : IntKind.i64.wrap ((j : Int) + 1 + 1) = (j : Int) + 1 + 1 := IntWalk.i64_in _ (by omega)
   go_enter Tryz.func71, Tryz.ntmps71
   by_cases hx4 : x = 4
   ·subst hx4
    have HV := Lib.hid (show one6 s (p ++ [y]) 4 [] = 13 from by
     simp [one6, lastA_snoc, nx, iso])
    go_wp2
    go_ret
    exact ⟨by first | (rw [HV.out]; rfl) | rw [HV.out], rfl⟩
   ·have qhx4 : (x == 4) = false := by simpa using hx4
    have Nx4 := Lib.hid hx4
    clear hx4
    by_cases hx5 : x = 5
    ·subst hx5
     have HV := Lib.hid (show one6 s (p ++ [y]) 5 [] = 13 from by
      have f0 := Nx4.out
      simp [one6, lastA_snoc, nx, iso, f0])
     go_wp2
     go_ret
     exact ⟨by first | (rw [HV.out]; rfl) | rw [HV.out], rfl⟩
    ·have qhx5 : (x == 5) = false := by simpa using hx5
     have Nx5 := Lib.hid hx5
     clear hx5
     by_cases hx7 : x = 7
     ·subst hx7
      have HV := Lib.hid (show one6 s (p ++ [y]) 7 [] = 13 from by
       have f0 := Nx4.out
       have f1 := Nx5.out
       simp [one6, lastA_snoc, nx, iso, f0, f1])
      go_wp2
      go_ret
      exact ⟨by first | (rw [HV.out]; rfl) | rw [HV.out], rfl⟩
     ·have qhx7 : (x == 7) = false := by simpa using hx7
      have Nx7 := Lib.hid hx7
      clear hx7
      have HV := Lib.hid (show one6 s (p ++ [y]) x [] = x from by
       have f0 := Nx4.out
       have f1 := Nx5.out
       have f2 := Nx7.out
       simp [one6, lastA_snoc, nx, iso, f0, f1, f2])
      go_wp2
      go_ret
      exact ⟨by first | (rw [HV.out]; rfl) | rw [HV.out], rfl⟩
  | cons z q =>
   obtain ⟨b', off', hbo, hcz⟩ := ints_mid (d := (p ++ [y]) ++ [x]) (x := z) (r := q) (k := j + 1 + 1) HR.out (by rw [HL.out]; simp) (by simp; exact HJ.out)
   injection hbo with hbo
   injection hbo with hb1 hb2
   subst hb1 hb2
   have hlt : j + 1 + 1 < n := by simp at hna; omega
   clear hna
   have e3 : IntKind.i64.wrap (((j + 1 : Nat) : Int) + 1) = ((j + 1 : Nat) : Int) + 1 := IntWalk.i64_in _ (by omega)
   have e4 : IntKind.i64.wrap ((j : Int) + 1 + 1) = (j : Int) + 1 + 1 := IntWalk.i64_in _ (by omega)
   go_enter Tryz.func71, Tryz.ntmps71
   by_cases hx4 : x = 4
   ·subst hx4
    have HV := Lib.hid (show one6 s (p ++ [y]) 4 (z :: q) = 13 from by
     simp [one6, lastA_snoc, nx, iso])
    go_wp2
    go_ret
    exact ⟨by first | (rw [HV.out]; rfl) | rw [HV.out], rfl⟩
   ·have qhx4 : (x == 4) = false := by simpa using hx4
    have Nx4 := Lib.hid hx4
    clear hx4
    by_cases hx5 : x = 5
    ·subst hx5
     have HV := Lib.hid (show one6 s (p ++ [y]) 5 (z :: q) = 13 from by
      have f0 := Nx4.out
      simp [one6, lastA_snoc, nx, iso, f0])
     go_wp2
     go_ret
     exact ⟨by first | (rw [HV.out]; rfl) | rw [HV.out], rfl⟩
    ·have qhx5 : (x == 5) = false := by simpa using hx5
     have Nx5 := Lib.hid hx5
     clear hx5
     by_cases hx7 : x = 7
     ·subst hx7
      have HV := Lib.hid (show one6 s (p ++ [y]) 7 (z :: q) = 13 from by
       have f0 := Nx4.out
       have f1 := Nx5.out
       simp [one6, lastA_snoc, nx, iso, f0, f1])
      go_wp2
      go_ret
      exact ⟨by first | (rw [HV.out]; rfl) | rw [HV.out], rfl⟩
     ·have qhx7 : (x == 7) = false := by simpa using hx7
      have Nx7 := Lib.hid hx7
      clear hx7
      have HV := Lib.hid (show one6 s (p ++ [y]) x (z :: q) = x from by
       have f0 := Nx4.out
       have f1 := Nx5.out
       have f2 := Nx7.out
       simp [one6, lastA_snoc, nx, iso, f0, f1, f2])
      go_wp2
      go_ret
      exact ⟨by first | (rw [HV.out]; rfl) | rw [HV.out], rfl⟩
set_option maxHeartbeats 4000000 in
set_option maxRecDepth 100000 in
theorem one7_any (A : Option Addr) (L pre post : List Int) (x : Int) (n c a : Nat) (s : Int) (w : World) (hR : IntsAt w A L) (hl : L.length = n) (hn : n ≤ 1099511627776) (hL : L = pre ++ x :: post) (ha : pre.length = a) :
  Calls Tryz.prog 71 #[.int .i64 7, .slice A n c, .int .i64 a, .int .i64 s] w fun e w' => e = .returned (.int .i64 (one7 s pre x post)) ∧ w' = w := by
 obtain ⟨b, off, rfl, hcx⟩ := ints_mid hR hL ha
 have hna : n = a + 1 + post.length := by rw [← hl, hL, ← ha]; simp; omega
 have HLET := Lib.hid (letter_any (some ⟨b, off, none⟩) L pre (x :: post) n c a s w hR hl hn hL ha)
 have HR := Lib.hid hR
 have HL := Lib.hid hL
 have HA := Lib.hid ha
 clear hR hL ha hl
 rcases List.eq_nil_or_concat pre with rfl | ⟨p, y, rfl⟩
 ·obtain rfl : a = 0 := HA.out.symm
  rw [Nat.add_zero] at hcx
  cases post with
  | nil =>
   obtain rfl : n = 0 + 1 := by simpa using hna
   clear hna
   go_enter Tryz.func71, Tryz.ntmps71
   by_cases hx3 : x = 3
   ·subst hx3
    go_wp2_with fail
    refine HLET.out.mono ?_
    rintro e w2 ⟨rfl, rfl⟩
    obtain ⟨v, hv⟩ : ∃ v, letA s [] = v := ⟨_, rfl⟩
    have HVV := Lib.hid hv
    rw [hv]
    clear hv
    by_cases hv0 : v = 0
    ·subst hv0
     have HV := Lib.hid (show one7 s [] 3 [] = 0 from by
      have f0 := HVV.out
      simp [one7, lastA_snoc, nx, iso, f0])
     go_wp2
     go_ret
     exact ⟨by first | (rw [HV.out]; rfl) | rw [HV.out], rfl⟩
    ·have qhv0 : (v == 0) = false := by simpa using hv0
     have Nv0 := Lib.hid hv0
     clear hv0
     have HV := Lib.hid (show one7 s [] 3 [] = 3 from by
      have f0 := HVV.out
      have f1 := Nv0.out
      simp [one7, lastA_snoc, nx, iso, f0, f1])
     go_wp2
     go_ret
     exact ⟨by first | (rw [HV.out]; rfl) | rw [HV.out], rfl⟩
   ·have qhx3 : (x == 3) = false := by simpa using hx3
    have Nx3 := Lib.hid hx3
    clear hx3
    have HV := Lib.hid (show one7 s [] x [] = x from by
     have f0 := Nx3.out
     simp [one7, lastA_snoc, nx, iso, f0])
    go_wp2
    go_ret
    exact ⟨by first | (rw [HV.out]; rfl) | rw [HV.out], rfl⟩
  | cons z q =>
   obtain ⟨b', off', hbo, hcz⟩ := ints_mid (d := ([] : List Int) ++ [x]) (x := z) (r := q) (k := 0 + 1) HR.out (by rw [HL.out]; simp) (by simp)
   injection hbo with hbo
   injection hbo with hb1 hb2
   subst hb1 hb2
   have hlt : 0 + 1 < n := by simp at hna; omega
   clear hna
   go_enter Tryz.func71, Tryz.ntmps71
   by_cases hx3 : x = 3
   ·subst hx3
    go_wp2_with fail
    refine HLET.out.mono ?_
    rintro e w2 ⟨rfl, rfl⟩
    obtain ⟨v, hv⟩ : ∃ v, letA s [] = v := ⟨_, rfl⟩
    have HVV := Lib.hid hv
    rw [hv]
    clear hv
    by_cases hv0 : v = 0
    ·subst hv0
     have HV := Lib.hid (show one7 s [] 3 (z :: q) = 0 from by
      have f0 := HVV.out
      simp [one7, lastA_snoc, nx, iso, f0])
     go_wp2
     go_ret
     exact ⟨by first | (rw [HV.out]; rfl) | rw [HV.out], rfl⟩
    ·have qhv0 : (v == 0) = false := by simpa using hv0
     have Nv0 := Lib.hid hv0
     clear hv0
     have HV := Lib.hid (show one7 s [] 3 (z :: q) = 3 from by
      have f0 := HVV.out
      have f1 := Nv0.out
      simp [one7, lastA_snoc, nx, iso, f0, f1])
     go_wp2
     go_ret
     exact ⟨by first | (rw [HV.out]; rfl) | rw [HV.out], rfl⟩
   ·have qhx3 : (x == 3) = false := by simpa using hx3
    have Nx3 := Lib.hid hx3
    clear hx3
    have HV := Lib.hid (show one7 s [] x (z :: q) = x from by
     have f0 := Nx3.out
     simp [one7, lastA_snoc, nx, iso, f0])
    go_wp2
    go_ret
    exact ⟨by first | (rw [HV.out]; rfl) | rw [HV.out], rfl⟩
 ·rw [List.concat_eq_append] at *
  obtain ⟨j, hj⟩ : ∃ j, p.length = j := ⟨_, rfl⟩
  obtain rfl : a = j + 1 := by have := HA.out; simp [hj] at this; omega
  obtain ⟨b', off', hbo, hcy⟩ := ints_mid (d := p) (x := y) (r := x :: post) (k := j) HR.out (by rw [HL.out]; simp) hj
  injection hbo with hbo
  injection hbo with hb1 hb2
  subst hb1 hb2
  have e1 : IntKind.i64.wrap (((j + 1 : Nat) : Int) - 1) = (j : Int) := by rw [show ((j + 1 : Nat) : Int) - 1 = (j : Int) from by omega]; exact IntWalk.i64_in _ (by omega)
  have e2 : IntKind.i64.wrap ((j : Int) + 1 - 1) = (j : Int) := by rw [show (j : Int) + 1 - 1 = (j : Int) from by omega]; exact IntWalk.i64_in _ (by omega)
  have HJ := Lib.hid hj
  clear hj
  cases post with
  | nil =>
   obtain rfl : n = j + 1 + 1 := by simpa using hna
   clear hna
   have e3 : IntKind.i64.wrap (((j + 1 : Nat) : Int) + 1) = ((j + 1 : Nat) : Int) + 1 := IntWalk.i64_in _ (by omega)
   have e4 : IntKind.i64.wrap ((j : Int) + 1 + 1) = (j : Int) + 1 + 1 := IntWalk.i64_in _ (by omega)
   go_enter Tryz.func71, Tryz.ntmps71
   by_cases hx3 : x = 3
   ·subst hx3
    go_wp2_with fail
    refine HLET.out.mono ?_
    rintro e w2 ⟨rfl, rfl⟩
    obtain ⟨v, hv⟩ : ∃ v, letA s (p ++ [y]) = v := ⟨_, rfl⟩
    have HVV := Lib.hid hv
    rw [hv]
    clear hv
    by_cases hv0 : v = 0
    ·subst hv0
     have HV := Lib.hid (show one7 s (p ++ [y]) 3 [] = 0 from by
      have f0 := HVV.out
      simp [one7, lastA_snoc, nx, iso, f0])
     go_wp2
     go_ret
     exact ⟨by first | (rw [HV.out]; rfl) | rw [HV.out], rfl⟩
    ·have qhv0 : (v == 0) = false := by simpa using hv0
     have Nv0 := Lib.hid hv0
     clear hv0
     have HV := Lib.hid (show one7 s (p ++ [y]) 3 [] = 3 from by
      have f0 := HVV.out
      have f1 := Nv0.out
      simp [one7, lastA_snoc, nx, iso, f0, f1])
     go_wp2
     go_ret
     exact ⟨by first | (rw [HV.out]; rfl) | rw [HV.out], rfl⟩
   ·have qhx3 : (x == 3) = false := by simpa using hx3
    have Nx3 := Lib.hid hx3
    clear hx3
    have HV := Lib.hid (show one7 s (p ++ [y]) x [] = x from by
     have f0 := Nx3.out
     simp [one7, lastA_snoc, nx, iso, f0])
    go_wp2
    go_ret
    exact ⟨by first | (rw [HV.out]; rfl) | rw [HV.out], rfl⟩
  | cons z q =>
   obtain ⟨b', off', hbo, hcz⟩ := ints_mid (d := (p ++ [y]) ++ [x]) (x := z) (r := q) (k := j + 1 + 1) HR.out (by rw [HL.out]; simp) (by simp; exact HJ.out)
   injection hbo with hbo
   injection hbo with hb1 hb2
   subst hb1 hb2
   have hlt : j + 1 + 1 < n := by simp at hna; omega
   clear hna
   have e3 : IntKind.i64.wrap (((j + 1 : Nat) : Int) + 1) = ((j + 1 : Nat) : Int) + 1 := IntWalk.i64_in _ (by omega)
   have e4 : IntKind.i64.wrap ((j : Int) + 1 + 1) = (j : Int) + 1 + 1 := IntWalk.i64_in _ (by omega)
   go_enter Tryz.func71, Tryz.ntmps71
   by_cases hx3 : x = 3
   ·subst hx3
    go_wp2_with fail
    refine HLET.out.mono ?_
    rintro e w2 ⟨rfl, rfl⟩
    obtain ⟨v, hv⟩ : ∃ v, letA s (p ++ [y]) = v := ⟨_, rfl⟩
    have HVV := Lib.hid hv
    rw [hv]
    clear hv
    by_cases hv0 : v = 0
    ·subst hv0
     have HV := Lib.hid (show one7 s (p ++ [y]) 3 (z :: q) = 0 from by
      have f0 := HVV.out
      simp [one7, lastA_snoc, nx, iso, f0])
     go_wp2
     go_ret
     exact ⟨by first | (rw [HV.out]; rfl) | rw [HV.out], rfl⟩
    ·have qhv0 : (v == 0) = false := by simpa using hv0
     have Nv0 := Lib.hid hv0
     clear hv0
     have HV := Lib.hid (show one7 s (p ++ [y]) 3 (z :: q) = 3 from by
      have f0 := HVV.out
      have f1 := Nv0.out
      simp [one7, lastA_snoc, nx, iso, f0, f1])
     go_wp2
     go_ret
     exact ⟨by first | (rw [HV.out]; rfl) | rw [HV.out], rfl⟩
   ·have qhx3 : (x == 3) = false := by simpa using hx3
    have Nx3 := Lib.hid hx3
    clear hx3
    have HV := Lib.hid (show one7 s (p ++ [y]) x (z :: q) = x from by
     have f0 := Nx3.out
     simp [one7, lastA_snoc, nx, iso, f0])
    go_wp2
    go_ret
    exact ⟨by first | (rw [HV.out]; rfl) | rw [HV.out], rfl⟩
end Go.Proofs.YtfclpecbnailgaaGreat.Wk
