/-
 Proved here: what the document's one returns for rule 4, for a row of ints and a place in it. It changes nothing.
-/
import Derived.Test.YtfclpecbnailgaaGreatR30
set_option linter.unusedVariables false
set_option linter.unusedSimpArgs false
namespace Go.Proofs.YtfclpecbnailgaaGreat.Wk
open Go Go.RowKit Go.Lib Go.Proofs.YtfclpecbnailgaaGreat.Cl
set_option maxHeartbeats 4000000 in
set_option maxRecDepth 100000 in
theorem one4_any (A : Option Addr) (L pre post : List Int) (x : Int) (n c a : Nat) (s : Int) (w : World) (hR : IntsAt w A L) (hl : L.length = n) (hn : n ≤ 1099511627776) (hL : L = pre ++ x :: post) (ha : pre.length = a) :
  Calls Tryz.prog 71 #[.int .i64 4, .slice A n c, .int .i64 a, .int .i64 s] w fun e w' => e = .returned (.int .i64 (one4 s pre x post)) ∧ w' = w := by
 obtain ⟨b, off, rfl, hcx⟩ := ints_mid hR hL ha
 have hna : n = a + 1 + post.length := by rw [← hl, hL, ← ha]; simp; omega
 have HR := Lib.hid hR
 have HL := Lib.hid hL
 have HA := Lib.hid ha
 clear hR hL ha hl
 rcases List.eq_nil_or_concat pre with rfl | ⟨p, y, rfl⟩
 ·obtain rfl : a = 0 := HA.out.symm
  rw [Nat.add_zero] at hcx
  cases post with
  | nil =>
   obtain rfl : n = 0 + 1 := by simpa using hna
   clear hna
   go_enter Tryz.func71, Tryz.ntmps71
   by_cases hx4 : x = 4
   ·subst hx4
    have HV := Lib.hid (show one4 s [] 4 [] = 4 from by
     simp [one4, lastA_snoc, nx, iso, (show lastA [] = -1 from rfl)])
    go_wp2
    go_ret
    exact ⟨by first | (rw [HV.out]; rfl) | rw [HV.out], rfl⟩
   ·have qhx4 : (x == 4) = false := by simpa using hx4
    have Nx4 := Lib.hid hx4
    clear hx4
    by_cases hx7 : x = 7
    ·subst hx7
     have HV := Lib.hid (show one4 s [] 7 [] = 7 from by
      have f0 := Nx4.out
      simp [one4, lastA_snoc, nx, iso, f0, (show lastA [] = -1 from rfl)])
     go_wp2
     go_ret
     exact ⟨by first | (rw [HV.out]; rfl) | rw [HV.out], rfl⟩
    ·have qhx7 : (x == 7) = false := by simpa using hx7
     have Nx7 := Lib.hid hx7
     clear hx7
     have HV := Lib.hid (show one4 s [] x [] = x from by
      have f0 := Nx4.out
      have f1 := Nx7.out
      simp [one4, lastA_snoc, nx, iso, f0, f1, (show lastA [] = -1 from rfl)])
     go_wp2
     go_ret
     exact ⟨by first | (rw [HV.out]; rfl) | rw [HV.out], rfl⟩
  | cons z q =>
   obtain ⟨b', off', hbo, hcz⟩ := ints_mid (d := ([] : List Int) ++ [x]) (x := z) (r := q) (k := 0 + 1) HR.out (by rw [HL.out]; simp) (by simp)
   injection hbo with hbo
   injection hbo with hb1 hb2
   subst hb1 hb2
   have hlt : 0 + 1 < n := by simp at hna; omega
   clear hna
   go_enter Tryz.func71, Tryz.ntmps71
   by_cases hx4 : x = 4
   ·subst hx4
    have HV := Lib.hid (show one4 s [] 4 (z :: q) = 4 from by
     simp [one4, lastA_snoc, nx, iso, (show lastA [] = -1 from rfl)])
    go_wp2
    go_ret
    exact ⟨by first | (rw [HV.out]; rfl) | rw [HV.out], rfl⟩
   ·have qhx4 : (x == 4) = false := by simpa using hx4
    have Nx4 := Lib.hid hx4
    clear hx4
    by_cases hx7 : x = 7
    ·subst hx7
     by_cases hzm1 : z = -1
     ·subst hzm1
      have HV := Lib.hid (show one4 s [] 7 ((-1) :: q) = 7 from by
       have f0 := Nx4.out
       simp [one4, lastA_snoc, nx, iso, f0, (show lastA [] = -1 from rfl)])
      go_wp2
      go_ret
      exact ⟨by first | (rw [HV.out]; rfl) | rw [HV.out], rfl⟩
     ·have qhzm1 : (z == -1) = false := by simpa using hzm1
      have rhzm1 : ((-1 : Int) == z) = false := by simpa using Ne.symm hzm1
      have Nzm1 := Lib.hid hzm1
      clear hzm1
      have HV := Lib.hid (show one4 s [] 7 (z :: q) = 7 from by
       have f0 := Nx4.out
       have f1 := Nzm1.out
       simp [one4, lastA_snoc, nx, iso, f0, f1, (show lastA [] = -1 from rfl)])
      go_wp2
      go_ret
      exact ⟨by first | (rw [HV.out]; rfl) | rw [HV.out], rfl⟩
    ·have qhx7 : (x == 7) = false := by simpa using hx7
     have Nx7 := Lib.hid hx7
     clear hx7
     have HV := Lib.hid (show one4 s [] x (z :: q) = x from by
      have f0 := Nx4.out
      have f1 := Nx7.out
      simp [one4, lastA_snoc, nx, iso, f0, f1, (show lastA [] = -1 from rfl)])
     go_wp2
     go_ret
     exact ⟨by first | (rw [HV.out]; rfl) | rw [HV.out], rfl⟩
 ·rw [List.concat_eq_append] at *
  obtain ⟨j, hj⟩ : ∃ j, p.length = j := ⟨_, rfl⟩
  obtain rfl : a = j + 1 := by have := HA.out; simp [hj] at this; omega
  obtain ⟨b', off', hbo, hcy⟩ := ints_mid (d := p) (x := y) (r := x :: post) (k := j) HR.out (by rw [HL.out]; simp) hj
  injection hbo with hbo
  injection hbo with hb1 hb2
  subst hb1 hb2
  have e1 : IntKind.i64.wrap (((j + 1 : Nat) : Int) - 1) = (j : Int) := by rw [show ((j + 1 : Nat) : Int) - 1 = (j : Int) from by omega]; exact IntWalk.i64_in _ (by omega)
  have e2 : IntKind.i64.wrap ((j : Int) + 1 - 1) = (j : Int) := by rw [show (j : Int) + 1 - 1 = (j : Int) from by omega]; exact IntWalk.i64_in _ (by omega)
  have HJ := Lib.hid hj
  clear hj
  cases post with
  | nil =>
   obtain rfl : n = j + 1 + 1 := by simpa using hna
   clear hna
   have e3 : IntKind.i64.wrap (((j + 1 : Nat) : Int) + 1) = ((j + 1 : Nat) : Int) + 1 := IntWalk.i64_in _ (by omega)
   have e4 : IntKind.i64.wrap ((j : Int) + 1 + 1) = (j : Int) + 1 + 1 := IntWalk.i64_in _ (by omega)
   go_enter Tryz.func71, Tryz.ntmps71
   by_cases hx4 : x = 4
   ·subst hx4
    by_cases hy3 : y = 3
    ·subst hy3
     have HV := Lib.hid (show one4 s (p ++ [3]) 4 [] = 4 from by
      simp [one4, lastA_snoc, nx, iso, (show lastA [] = -1 from rfl)])
     go_wp2
     go_ret
     exact ⟨by first | (rw [HV.out]; rfl) | rw [HV.out], rfl⟩
    ·have qhy3 : (y == 3) = false := by simpa using hy3
     have Ny3 := Lib.hid hy3
     clear hy3
     have HV := Lib.hid (show one4 s (p ++ [y]) 4 [] = 4 from by
      have f0 := Ny3.out
      simp [one4, lastA_snoc, nx, iso, f0, (show lastA [] = -1 from rfl)])
     go_wp2
     go_ret
     exact ⟨by first | (rw [HV.out]; rfl) | rw [HV.out], rfl⟩
   ·have qhx4 : (x == 4) = false := by simpa using hx4
    have Nx4 := Lib.hid hx4
    clear hx4
    by_cases hx7 : x = 7
    ·subst hx7
     by_cases hym1 : y = -1
     ·subst hym1
      have HV := Lib.hid (show one4 s (p ++ [(-1)]) 7 [] = 7 from by
       have f0 := Nx4.out
       simp [one4, lastA_snoc, nx, iso, f0, (show lastA [] = -1 from rfl)])
      go_wp2
      go_ret
      exact ⟨by first | (rw [HV.out]; rfl) | rw [HV.out], rfl⟩
     ·have qhym1 : (y == -1) = false := by simpa using hym1
      have rhym1 : ((-1 : Int) == y) = false := by simpa using Ne.symm hym1
      have Nym1 := Lib.hid hym1
      clear hym1
      have HV := Lib.hid (show one4 s (p ++ [y]) 7 [] = 7 from by
       have f0 := Nx4.out
       have f1 := Nym1.out
       simp [one4, lastA_snoc, nx, iso, f0, f1, (show lastA [] = -1 from rfl)])
      go_wp2
      go_ret
      exact ⟨by first | (rw [HV.out]; rfl) | rw [HV.out], rfl⟩
    ·have qhx7 : (x == 7) = false := by simpa using hx7
     have Nx7 := Lib.hid hx7
     clear hx7
     have HV := Lib.hid (show one4 s (p ++ [y]) x [] = x from by
      have f0 := Nx4.out
      have f1 := Nx7.out
      simp [one4, lastA_snoc, nx, iso, f0, f1, (show lastA [] = -1 from rfl)])
     go_wp2
     go_ret
     exact ⟨by first | (rw [HV.out]; rfl) | rw [HV.out], rfl⟩
  | cons z q =>
   obtain ⟨b', off', hbo, hcz⟩ := ints_mid (d := (p ++ [y]) ++ [x]) (x := z) (r := q) (k := j + 1 + 1) HR.out (by rw [HL.out]; simp) (by simp; exact HJ.out)
   injection hbo with hbo
   injection hbo with hb1 hb2
   subst hb1 hb2
   have hlt : j + 1 + 1 < n := by simp at hna; omega
   clear hna
   have e3 : IntKind.i64.wrap (((j + 1 : Nat) : Int) + 1) = ((j + 1 : Nat) : Int) + 1 := IntWalk.i64_in _ (by omega)
   have e4 : IntKind.i64.wrap ((j : Int) + 1 + 1) = (j : Int) + 1 + 1 := IntWalk.i64_in _ (by omega)
   go_enter Tryz.func71, Tryz.ntmps71
   by_cases hx4 : x = 4
   ·subst hx4
    by_cases hy3 : y = 3
    ·subst hy3
     by_cases hz3 : z = 3
     ·subst hz3
      have HV := Lib.hid (show one4 s (p ++ [3]) 4 (3 :: q) = 3 from by
       simp [one4, lastA_snoc, nx, iso, (show lastA [] = -1 from rfl)])
      go_wp2
      go_ret
      exact ⟨by first | (rw [HV.out]; rfl) | rw [HV.out], rfl⟩
     ·have qhz3 : (z == 3) = false := by simpa using hz3
      have Nz3 := Lib.hid hz3
      clear hz3
      have HV := Lib.hid (show one4 s (p ++ [3]) 4 (z :: q) = 4 from by
       have f0 := Nz3.out
       simp [one4, lastA_snoc, nx, iso, f0, (show lastA [] = -1 from rfl)])
      go_wp2
      go_ret
      exact ⟨by first | (rw [HV.out]; rfl) | rw [HV.out], rfl⟩
    ·have qhy3 : (y == 3) = false := by simpa using hy3
     have Ny3 := Lib.hid hy3
     clear hy3
     have HV := Lib.hid (show one4 s (p ++ [y]) 4 (z :: q) = 4 from by
      have f0 := Ny3.out
      simp [one4, lastA_snoc, nx, iso, f0, (show lastA [] = -1 from rfl)])
     go_wp2
     go_ret
     exact ⟨by first | (rw [HV.out]; rfl) | rw [HV.out], rfl⟩
   ·have qhx4 : (x == 4) = false := by simpa using hx4
    have Nx4 := Lib.hid hx4
    clear hx4
    by_cases hx7 : x = 7
    ·subst hx7
     by_cases hyz : y = z
     ·subst hyz
      by_cases hy3 : y = 3
      ·subst hy3
       have HV := Lib.hid (show one4 s (p ++ [3]) 7 (3 :: q) = 3 from by
        have f0 := Nx4.out
        simp [one4, lastA_snoc, nx, iso, f0, (show lastA [] = -1 from rfl)])
       go_wp2
       go_ret
       exact ⟨by first | (rw [HV.out]; rfl) | rw [HV.out], rfl⟩
      ·have qhy3 : (y == 3) = false := by simpa using hy3
       have Ny3 := Lib.hid hy3
       clear hy3
       by_cases hy6 : y = 6
       ·subst hy6
        have HV := Lib.hid (show one4 s (p ++ [6]) 7 (6 :: q) = 6 from by
         have f0 := Nx4.out
         have f1 := Ny3.out
         simp [one4, lastA_snoc, nx, iso, f0, f1, (show lastA [] = -1 from rfl)])
        go_wp2
        go_ret
        exact ⟨by first | (rw [HV.out]; rfl) | rw [HV.out], rfl⟩
       ·have qhy6 : (y == 6) = false := by simpa using hy6
        have Ny6 := Lib.hid hy6
        clear hy6
        have HV := Lib.hid (show one4 s (p ++ [y]) 7 (y :: q) = 7 from by
         have f0 := Nx4.out
         have f1 := Ny3.out
         have f2 := Ny6.out
         simp [one4, lastA_snoc, nx, iso, f0, f1, f2, (show lastA [] = -1 from rfl)])
        go_wp2
        go_ret
        exact ⟨by first | (rw [HV.out]; rfl) | rw [HV.out], rfl⟩
     ·have qyz : (y == z) = false := by simpa using hyz
      have Nyz := Lib.hid hyz
      have Nzy := Lib.hid (Ne.symm hyz)
      clear hyz
      have HV := Lib.hid (show one4 s (p ++ [y]) 7 (z :: q) = 7 from by
       have f0 := Nx4.out
       have f1 := Nyz.out
       have f2 := Nzy.out
       simp [one4, lastA_snoc, nx, iso, f0, f1, f2, (show lastA [] = -1 from rfl)])
      go_wp2
      go_ret
      exact ⟨by first | (rw [HV.out]; rfl) | rw [HV.out], rfl⟩
    ·have qhx7 : (x == 7) = false := by simpa using hx7
     have Nx7 := Lib.hid hx7
     clear hx7
     have HV := Lib.hid (show one4 s (p ++ [y]) x (z :: q) = x from by
      have f0 := Nx4.out
      have f1 := Nx7.out
      simp [one4, lastA_snoc, nx, iso, f0, f1, (show lastA [] = -1 from rfl)])
     go_wp2
     go_ret
     exact ⟨by first | (rw [HV.out]; rfl) | rw [HV.out], rfl⟩
end Go.Proofs.YtfclpecbnailgaaGreat.Wk
