/-
 Proved here: what the document's one returns for rules 1, 2, 3, for a row of ints and a place in it. It changes nothing.
-/
import Derived.Test.YtfclpecbnailgaaGreatR30
set_option linter.unusedVariables false
set_option linter.unusedSimpArgs false
namespace Go.Proofs.YtfclpecbnailgaaGreat.Wk
open Go Go.RowKit Go.Lib Go.Proofs.YtfclpecbnailgaaGreat.Cl
set_option maxHeartbeats 4000000 in
set_option maxRecDepth 100000 in
theorem one1_any (A : Option Addr) (L pre post : List Int) (x : Int) (n c a : Nat) (s : Int) (w : World) (hR : IntsAt w A L) (hl : L.length = n) (hn : n ≤ 1099511627776) (hL : L = pre ++ x :: post) (ha : pre.length = a) :
  Calls Tryz.prog 71 #[.int .i64 1, .slice A n c, .int .i64 a, .int .i64 s] w fun e w' => e = .returned (.int .i64 (one1 s pre x post)) ∧ w' = w := by
 obtain ⟨b, off, rfl, hcx⟩ := ints_mid hR hL ha
 have hna : n = a + 1 + post.length := by rw [← hl, hL, ← ha]; simp; omega
 have HR := Lib.hid hR
 have HL := Lib.hid hL
 have HA := Lib.hid ha
 clear hR hL ha hl
 rcases List.eq_nil_or_concat pre with rfl | ⟨p, y, rfl⟩
 ·obtain rfl : a = 0 := HA.out.symm
  rw [Nat.add_zero] at hcx
  cases post with
  | nil =>
   obtain rfl : n = 0 + 1 := by simpa using hna
   clear hna
   go_enter Tryz.func71, Tryz.ntmps71
   by_cases hx8 : x = 8
   ·subst hx8
    have HV := Lib.hid (show one1 s [] 8 [] = s from by
     simp [one1, lastA_snoc, nx, iso])
    go_wp2
    go_ret
    exact ⟨by first | (rw [HV.out]; rfl) | rw [HV.out], rfl⟩
   ·have qhx8 : (x == 8) = false := by simpa using hx8
    have Nx8 := Lib.hid hx8
    clear hx8
    have HV := Lib.hid (show one1 s [] x [] = x from by
     have f0 := Nx8.out
     simp [one1, lastA_snoc, nx, iso, f0])
    go_wp2
    go_ret
    exact ⟨by first | (rw [HV.out]; rfl) | rw [HV.out], rfl⟩
  | cons z q =>
   obtain ⟨b', off', hbo, hcz⟩ := ints_mid (d := ([] : List Int) ++ [x]) (x := z) (r := q) (k := 0 + 1) HR.out (by rw [HL.out]; simp) (by simp)
   injection hbo with hbo
   injection hbo with hb1 hb2
   subst hb1 hb2
   have hlt : 0 + 1 < n := by simp at hna; omega
   clear hna
   go_enter Tryz.func71, Tryz.ntmps71
   by_cases hx8 : x = 8
   ·subst hx8
    have HV := Lib.hid (show one1 s [] 8 (z :: q) = s from by
     simp [one1, lastA_snoc, nx, iso])
    go_wp2
    go_ret
    exact ⟨by first | (rw [HV.out]; rfl) | rw [HV.out], rfl⟩
   ·have qhx8 : (x == 8) = false := by simpa using hx8
    have Nx8 := Lib.hid hx8
    clear hx8
    have HV := Lib.hid (show one1 s [] x (z :: q) = x from by
     have f0 := Nx8.out
     simp [one1, lastA_snoc, nx, iso, f0])
    go_wp2
    go_ret
    exact ⟨by first | (rw [HV.out]; rfl) | rw [HV.out], rfl⟩
 ·rw [List.concat_eq_append] at *
  obtain ⟨j, hj⟩ : ∃ j, p.length = j := ⟨_, rfl⟩
  obtain rfl : a = j + 1 := by have := HA.out; simp [hj] at this; omega
  obtain ⟨b', off', hbo, hcy⟩ := ints_mid (d := p) (x := y) (r := x :: post) (k := j) HR.out (by rw [HL.out]; simp) hj
  injection hbo with hbo
  injection hbo with hb1 hb2
  subst hb1 hb2
  have e1 : IntKind.i64.wrap (((j + 1 : Nat) : Int) - 1) = (j : Int) := by rw [show ((j + 1 : Nat) : Int) - 1 = (j : Int) from by omega]; exact IntWalk.i64_in _ (by omega)
  have e2 : IntKind.i64.wrap ((j : Int) + 1 - 1) = (j : Int) := by rw [show (j : Int) + 1 - 1 = (j : Int) from by omega]; exact IntWalk.i64_in _ (by omega)
  have HJ := Lib.hid hj
  clear hj
  cases post with
  | nil =>
   obtain rfl : n = j + 1 + 1 := by simpa using hna
   clear hna
   have e3 : IntKind.i64.wrap (((j + 1 : Nat) : Int) + 1) = ((j + 1 : Nat) : Int) + 1 := IntWalk.i64_in _ (by omega)
   have e4 : IntKind.i64.wrap ((j : Int) + 1 + 1) = (j : Int) + 1 + 1 := IntWalk.i64_in _ (by omega)
   go_enter Tryz.func71, Tryz.ntmps71
   by_cases hx8 : x = 8
   ·subst hx8
    by_cases hy19 : y = 19
    ·subst hy19
     have HV := Lib.hid (show one1 s (p ++ [19]) 8 [] = 13 from by
      simp [one1, lastA_snoc, nx, iso])
     go_wp2
     go_ret
     exact ⟨by first | (rw [HV.out]; rfl) | rw [HV.out], rfl⟩
    ·have qhy19 : (y == 19) = false := by simpa using hy19
     have Ny19 := Lib.hid hy19
     clear hy19
     by_cases hy20 : y = 20
     ·subst hy20
      have HV := Lib.hid (show one1 s (p ++ [20]) 8 [] = 13 from by
       have f0 := Ny19.out
       simp [one1, lastA_snoc, nx, iso, f0])
      go_wp2
      go_ret
      exact ⟨by first | (rw [HV.out]; rfl) | rw [HV.out], rfl⟩
     ·have qhy20 : (y == 20) = false := by simpa using hy20
      have Ny20 := Lib.hid hy20
      clear hy20
      by_cases hy21 : y = 21
      ·subst hy21
       have HV := Lib.hid (show one1 s (p ++ [21]) 8 [] = 13 from by
        have f0 := Ny19.out
        have f1 := Ny20.out
        simp [one1, lastA_snoc, nx, iso, f0, f1])
       go_wp2
       go_ret
       exact ⟨by first | (rw [HV.out]; rfl) | rw [HV.out], rfl⟩
      ·have qhy21 : (y == 21) = false := by simpa using hy21
       have Ny21 := Lib.hid hy21
       clear hy21
       by_cases hy22 : y = 22
       ·subst hy22
        have HV := Lib.hid (show one1 s (p ++ [22]) 8 [] = 13 from by
         have f0 := Ny19.out
         have f1 := Ny20.out
         have f2 := Ny21.out
         simp [one1, lastA_snoc, nx, iso, f0, f1, f2])
        go_wp2
        go_ret
        exact ⟨by first | (rw [HV.out]; rfl) | rw [HV.out], rfl⟩
       ·have qhy22 : (y == 22) = false := by simpa using hy22
        have Ny22 := Lib.hid hy22
        clear hy22
        have HV := Lib.hid (show one1 s (p ++ [y]) 8 [] = y from by
         have f0 := Ny19.out
         have f1 := Ny20.out
         have f2 := Ny21.out
         have f3 := Ny22.out
         simp [one1, lastA_snoc, nx, iso, f0, f1, f2, f3])
        go_wp2
        go_ret
        exact ⟨by first | (rw [HV.out]; rfl) | rw [HV.out], rfl⟩
   ·have qhx8 : (x == 8) = false := by simpa using hx8
    have Nx8 := Lib.hid hx8
    clear hx8
    have HV := Lib.hid (show one1 s (p ++ [y]) x [] = x from by
     have f0 := Nx8.out
     simp [one1, lastA_snoc, nx, iso, f0])
    go_wp2
    go_ret
    exact ⟨by first | (rw [HV.out]; rfl) | rw [HV.out], rfl⟩
  | cons z q =>
   obtain ⟨b', off', hbo, hcz⟩ := ints_mid (d := (p ++ [y]) ++ [x]) (x := z) (r := q) (k := j + 1 + 1) HR.out (by rw [HL.out]; simp) (by simp; exact HJ.out)
   injection hbo with hbo
   injection hbo with hb1 hb2
   subst hb1 hb2
   have hlt : j + 1 + 1 < n := by simp at hna; omega
   clear hna
   have e3 : IntKind.i64.wrap (((j + 1 : Nat) : Int) + 1) = ((j + 1 : Nat) : Int) + 1 := IntWalk.i64_in _ (by omega)
   have e4 : IntKind.i64.wrap ((j : Int) + 1 + 1) = (j : Int) + 1 + 1 := IntWalk.i64_in _ (by omega)
   go_enter Tryz.func71, Tryz.ntmps71
   by_cases hx8 : x = 8
   ·subst hx8
    by_cases hy19 : y = 19
    ·subst hy19
     have HV := Lib.hid (show one1 s (p ++ [19]) 8 (z :: q) = 13 from by
      simp [one1, lastA_snoc, nx, iso])
     go_wp2
     go_ret
     exact ⟨by first | (rw [HV.out]; rfl) | rw [HV.out], rfl⟩
    ·have qhy19 : (y == 19) = false := by simpa using hy19
     have Ny19 := Lib.hid hy19
     clear hy19
     by_cases hy20 : y = 20
     ·subst hy20
      have HV := Lib.hid (show one1 s (p ++ [20]) 8 (z :: q) = 13 from by
       have f0 := Ny19.out
       simp [one1, lastA_snoc, nx, iso, f0])
      go_wp2
      go_ret
      exact ⟨by first | (rw [HV.out]; rfl) | rw [HV.out], rfl⟩
     ·have qhy20 : (y == 20) = false := by simpa using hy20
      have Ny20 := Lib.hid hy20
      clear hy20
      by_cases hy21 : y = 21
      ·subst hy21
       have HV := Lib.hid (show one1 s (p ++ [21]) 8 (z :: q) = 13 from by
        have f0 := Ny19.out
        have f1 := Ny20.out
        simp [one1, lastA_snoc, nx, iso, f0, f1])
       go_wp2
       go_ret
       exact ⟨by first | (rw [HV.out]; rfl) | rw [HV.out], rfl⟩
      ·have qhy21 : (y == 21) = false := by simpa using hy21
       have Ny21 := Lib.hid hy21
       clear hy21
       by_cases hy22 : y = 22
       ·subst hy22
        have HV := Lib.hid (show one1 s (p ++ [22]) 8 (z :: q) = 13 from by
         have f0 := Ny19.out
         have f1 := Ny20.out
         have f2 := Ny21.out
         simp [one1, lastA_snoc, nx, iso, f0, f1, f2])
        go_wp2
        go_ret
        exact ⟨by first | (rw [HV.out]; rfl) | rw [HV.out], rfl⟩
       ·have qhy22 : (y == 22) = false := by simpa using hy22
        have Ny22 := Lib.hid hy22
        clear hy22
        have HV := Lib.hid (show one1 s (p ++ [y]) 8 (z :: q) = y from by
         have f0 := Ny19.out
         have f1 := Ny20.out
         have f2 := Ny21.out
         have f3 := Ny22.out
         simp [one1, lastA_snoc, nx, iso, f0, f1, f2, f3])
        go_wp2
        go_ret
        exact ⟨by first | (rw [HV.out]; rfl) | rw [HV.out], rfl⟩
   ·have qhx8 : (x == 8) = false := by simpa using hx8
    have Nx8 := Lib.hid hx8
    clear hx8
    have HV := Lib.hid (show one1 s (p ++ [y]) x (z :: q) = x from by
     have f0 := Nx8.out
     simp [one1, lastA_snoc, nx, iso, f0])
    go_wp2
    go_ret
    exact ⟨by first | (rw [HV.out]; rfl) | rw [HV.out], rfl⟩
set_option maxHeartbeats 4000000 in
set_option maxRecDepth 100000 in
theorem one2_any (A : Option Addr) (L pre post : List Int) (x : Int) (n c a : Nat) (s : Int) (w : World) (hR : IntsAt w A L) (hl : L.length = n) (hn : n ≤ 1099511627776) (hL : L = pre ++ x :: post) (ha : pre.length = a) :
  Calls Tryz.prog 71 #[.int .i64 2, .slice A n c, .int .i64 a, .int .i64 s] w fun e w' => e = .returned (.int .i64 (one2 s pre x post)) ∧ w' = w := by
 obtain ⟨b, off, rfl, hcx⟩ := ints_mid hR hL ha
 have hna : n = a + 1 + post.length := by rw [← hl, hL, ← ha]; simp; omega
 have HLET := Lib.hid (letter_any (some ⟨b, off, none⟩) L pre (x :: post) n c a s w hR hl hn hL ha)
 have HR := Lib.hid hR
 have HL := Lib.hid hL
 have HA := Lib.hid ha
 clear hR hL ha hl
 rcases List.eq_nil_or_concat pre with rfl | ⟨p, y, rfl⟩
 ·obtain rfl : a = 0 := HA.out.symm
  rw [Nat.add_zero] at hcx
  cases post with
  | nil =>
   obtain rfl : n = 0 + 1 := by simpa using hna
   clear hna
   go_enter Tryz.func71, Tryz.ntmps71
   by_cases hx3 : x = 3
   ·subst hx3
    go_wp2_with fail
    refine HLET.out.mono ?_
    rintro e w2 ⟨rfl, rfl⟩
    obtain ⟨v, hv⟩ : ∃ v, letA s [] = v := ⟨_, rfl⟩
    have HVV := Lib.hid hv
    rw [hv]
    clear hv
    by_cases hv2 : v = 2
    ·subst hv2
     have HV := Lib.hid (show one2 s [] 3 [] = 6 from by
      have f0 := HVV.out
      simp [one2, lastA_snoc, nx, iso, f0])
     go_wp2
     go_ret
     exact ⟨by first | (rw [HV.out]; rfl) | rw [HV.out], rfl⟩
    ·have qhv2 : (v == 2) = false := by simpa using hv2
     have Nv2 := Lib.hid hv2
     clear hv2
     have HV := Lib.hid (show one2 s [] 3 [] = 3 from by
      have f0 := HVV.out
      have f1 := Nv2.out
      simp [one2, lastA_snoc, nx, iso, f0, f1])
     go_wp2
     go_ret
     exact ⟨by first | (rw [HV.out]; rfl) | rw [HV.out], rfl⟩
   ·have qhx3 : (x == 3) = false := by simpa using hx3
    have Nx3 := Lib.hid hx3
    clear hx3
    have HV := Lib.hid (show one2 s [] x [] = x from by
     have f0 := Nx3.out
     simp [one2, lastA_snoc, nx, iso, f0])
    go_wp2
    go_ret
    exact ⟨by first | (rw [HV.out]; rfl) | rw [HV.out], rfl⟩
  | cons z q =>
   obtain ⟨b', off', hbo, hcz⟩ := ints_mid (d := ([] : List Int) ++ [x]) (x := z) (r := q) (k := 0 + 1) HR.out (by rw [HL.out]; simp) (by simp)
   injection hbo with hbo
   injection hbo with hb1 hb2
   subst hb1 hb2
   have hlt : 0 + 1 < n := by simp at hna; omega
   clear hna
   go_enter Tryz.func71, Tryz.ntmps71
   by_cases hx3 : x = 3
   ·subst hx3
    go_wp2_with fail
    refine HLET.out.mono ?_
    rintro e w2 ⟨rfl, rfl⟩
    obtain ⟨v, hv⟩ : ∃ v, letA s [] = v := ⟨_, rfl⟩
    have HVV := Lib.hid hv
    rw [hv]
    clear hv
    by_cases hv2 : v = 2
    ·subst hv2
     have HV := Lib.hid (show one2 s [] 3 (z :: q) = 6 from by
      have f0 := HVV.out
      simp [one2, lastA_snoc, nx, iso, f0])
     go_wp2
     go_ret
     exact ⟨by first | (rw [HV.out]; rfl) | rw [HV.out], rfl⟩
    ·have qhv2 : (v == 2) = false := by simpa using hv2
     have Nv2 := Lib.hid hv2
     clear hv2
     have HV := Lib.hid (show one2 s [] 3 (z :: q) = 3 from by
      have f0 := HVV.out
      have f1 := Nv2.out
      simp [one2, lastA_snoc, nx, iso, f0, f1])
     go_wp2
     go_ret
     exact ⟨by first | (rw [HV.out]; rfl) | rw [HV.out], rfl⟩
   ·have qhx3 : (x == 3) = false := by simpa using hx3
    have Nx3 := Lib.hid hx3
    clear hx3
    have HV := Lib.hid (show one2 s [] x (z :: q) = x from by
     have f0 := Nx3.out
     simp [one2, lastA_snoc, nx, iso, f0])
    go_wp2
    go_ret
    exact ⟨by first | (rw [HV.out]; rfl) | rw [HV.out], rfl⟩
 ·rw [List.concat_eq_append] at *
  obtain ⟨j, hj⟩ : ∃ j, p.length = j := ⟨_, rfl⟩
  obtain rfl : a = j + 1 := by have := HA.out; simp [hj] at this; omega
  obtain ⟨b', off', hbo, hcy⟩ := ints_mid (d := p) (x := y) (r := x :: post) (k := j) HR.out (by rw [HL.out]; simp) hj
  injection hbo with hbo
  injection hbo with hb1 hb2
  subst hb1 hb2
  have e1 : IntKind.i64.wrap (((j + 1 : Nat) : Int) - 1) = (j : Int) := by rw [show ((j + 1 : Nat) : Int) - 1 = (j : Int) from by omega]; exact IntWalk.i64_in _ (by omega)
  have e2 : IntKind.i64.wrap ((j : Int) + 1 - 1) = (j : Int) := by rw [show (j : Int) + 1 - 1 = (j : Int) from by omega]; exact IntWalk.i64_in _ (by omega)
  have HJ := Lib.hid hj
  clear hj
  cases post with
  | nil =>
   obtain rfl : n = j + 1 + 1 := by simpa using hna
   clear hna
   have e3 : IntKind.i64.wrap (((j + 1 : Nat) : Int) + 1) = ((j + 1 : Nat) : Int) + 1 := IntWalk.i64_in _ (by omega)
   have e4 : IntKind.i64.wrap ((j : Int) + 1 + 1) = (j : Int) + 1 + 1 := IntWalk.i64_in _ (by omega)
   go_enter Tryz.func71, Tryz.ntmps71
   by_cases hx3 : x = 3
   ·subst hx3
    go_wp2_with fail
    refine HLET.out.mono ?_
    rintro e w2 ⟨rfl, rfl⟩
    obtain ⟨v, hv⟩ : ∃ v, letA s (p ++ [y]) = v := ⟨_, rfl⟩
    have HVV := Lib.hid hv
    rw [hv]
    clear hv
    by_cases hv2 : v = 2
    ·subst hv2
     have HV := Lib.hid (show one2 s (p ++ [y]) 3 [] = 6 from by
      have f0 := HVV.out
      simp [one2, lastA_snoc, nx, iso, f0])
     go_wp2
     go_ret
     exact ⟨by first | (rw [HV.out]; rfl) | rw [HV.out], rfl⟩
    ·have qhv2 : (v == 2) = false := by simpa using hv2
     have Nv2 := Lib.hid hv2
     clear hv2
     have HV := Lib.hid (show one2 s (p ++ [y]) 3 [] = 3 from by
      have f0 := HVV.out
      have f1 := Nv2.out
      simp [one2, lastA_snoc, nx, iso, f0, f1])
     go_wp2
     go_ret
     exact ⟨by first | (rw [HV.out]; rfl) | rw [HV.out], rfl⟩
   ·have qhx3 : (x == 3) = false := by simpa using hx3
    have Nx3 := Lib.hid hx3
    clear hx3
    have HV := Lib.hid (show one2 s (p ++ [y]) x [] = x from by
     have f0 := Nx3.out
     simp [one2, lastA_snoc, nx, iso, f0])
    go_wp2
    go_ret
    exact ⟨by first | (rw [HV.out]; rfl) | rw [HV.out], rfl⟩
  | cons z q =>
   obtain ⟨b', off', hbo, hcz⟩ := ints_mid (d := (p ++ [y]) ++ [x]) (x := z) (r := q) (k := j + 1 + 1) HR.out (by rw [HL.out]; simp) (by simp; exact HJ.out)
   injection hbo with hbo
   injection hbo with hb1 hb2
   subst hb1 hb2
   have hlt : j + 1 + 1 < n := by simp at hna; omega
   clear hna
   have e3 : IntKind.i64.wrap (((j + 1 : Nat) : Int) + 1) = ((j + 1 : Nat) : Int) + 1 := IntWalk.i64_in _ (by omega)
   have e4 : IntKind.i64.wrap ((j : Int) + 1 + 1) = (j : Int) + 1 + 1 := IntWalk.i64_in _ (by omega)
   go_enter Tryz.func71, Tryz.ntmps71
   by_cases hx3 : x = 3
   ·subst hx3
    go_wp2_with fail
    refine HLET.out.mono ?_
    rintro e w2 ⟨rfl, rfl⟩
    obtain ⟨v, hv⟩ : ∃ v, letA s (p ++ [y]) = v := ⟨_, rfl⟩
    have HVV := Lib.hid hv
    rw [hv]
    clear hv
    by_cases hv2 : v = 2
    ·subst hv2
     have HV := Lib.hid (show one2 s (p ++ [y]) 3 (z :: q) = 6 from by
      have f0 := HVV.out
      simp [one2, lastA_snoc, nx, iso, f0])
     go_wp2
     go_ret
     exact ⟨by first | (rw [HV.out]; rfl) | rw [HV.out], rfl⟩
    ·have qhv2 : (v == 2) = false := by simpa using hv2
     have Nv2 := Lib.hid hv2
     clear hv2
     have HV := Lib.hid (show one2 s (p ++ [y]) 3 (z :: q) = 3 from by
      have f0 := HVV.out
      have f1 := Nv2.out
      simp [one2, lastA_snoc, nx, iso, f0, f1])
     go_wp2
     go_ret
     exact ⟨by first | (rw [HV.out]; rfl) | rw [HV.out], rfl⟩
   ·have qhx3 : (x == 3) = false := by simpa using hx3
    have Nx3 := Lib.hid hx3
    clear hx3
    have HV := Lib.hid (show one2 s (p ++ [y]) x (z :: q) = x from by
     have f0 := Nx3.out
     simp [one2, lastA_snoc, nx, iso, f0])
    go_wp2
    go_ret
    exact ⟨by first | (rw [HV.out]; rfl) | rw [HV.out], rfl⟩
set_option maxHeartbeats 4000000 in
set_option maxRecDepth 100000 in
theorem one3_any (A : Option Addr) (L pre post : List Int) (x : Int) (n c a : Nat) (s : Int) (w : World) (hR : IntsAt w A L) (hl : L.length = n) (hn : n ≤ 1099511627776) (hL : L = pre ++ x :: post) (ha : pre.length = a) :
  Calls Tryz.prog 71 #[.int .i64 3, .slice A n c, .int .i64 a, .int .i64 s] w fun e w' => e = .returned (.int .i64 (one3 s pre x post)) ∧ w' = w := by
 obtain ⟨b, off, rfl, hcx⟩ := ints_mid hR hL ha
 have hna : n = a + 1 + post.length := by rw [← hl, hL, ← ha]; simp; omega
 have HR := Lib.hid hR
 have HL := Lib.hid hL
 have HA := Lib.hid ha
 clear hR hL ha hl
 rcases List.eq_nil_or_concat pre with rfl | ⟨p, y, rfl⟩
 ·obtain rfl : a = 0 := HA.out.symm
  rw [Nat.add_zero] at hcx
  cases post with
  | nil =>
   obtain rfl : n = 0 + 1 := by simpa using hna
   clear hna
   go_enter Tryz.func71, Tryz.ntmps71
   by_cases hx2 : x = 2
   ·subst hx2
    have HV := Lib.hid (show one3 s [] 2 [] = 1 from by
     simp [one3, lastA_snoc, nx, iso])
    go_wp2
    go_ret
    exact ⟨by first | (rw [HV.out]; rfl) | rw [HV.out], rfl⟩
   ·have qhx2 : (x == 2) = false := by simpa using hx2
    have Nx2 := Lib.hid hx2
    clear hx2
    have HV := Lib.hid (show one3 s [] x [] = x from by
     have f0 := Nx2.out
     simp [one3, lastA_snoc, nx, iso, f0])
    go_wp2
    go_ret
    exact ⟨by first | (rw [HV.out]; rfl) | rw [HV.out], rfl⟩
  | cons z q =>
   obtain ⟨b', off', hbo, hcz⟩ := ints_mid (d := ([] : List Int) ++ [x]) (x := z) (r := q) (k := 0 + 1) HR.out (by rw [HL.out]; simp) (by simp)
   injection hbo with hbo
   injection hbo with hb1 hb2
   subst hb1 hb2
   have hlt : 0 + 1 < n := by simp at hna; omega
   clear hna
   go_enter Tryz.func71, Tryz.ntmps71
   by_cases hx2 : x = 2
   ·subst hx2
    have HV := Lib.hid (show one3 s [] 2 (z :: q) = 1 from by
     simp [one3, lastA_snoc, nx, iso])
    go_wp2
    go_ret
    exact ⟨by first | (rw [HV.out]; rfl) | rw [HV.out], rfl⟩
   ·have qhx2 : (x == 2) = false := by simpa using hx2
    have Nx2 := Lib.hid hx2
    clear hx2
    have HV := Lib.hid (show one3 s [] x (z :: q) = x from by
     have f0 := Nx2.out
     simp [one3, lastA_snoc, nx, iso, f0])
    go_wp2
    go_ret
    exact ⟨by first | (rw [HV.out]; rfl) | rw [HV.out], rfl⟩
 ·rw [List.concat_eq_append] at *
  obtain ⟨j, hj⟩ : ∃ j, p.length = j := ⟨_, rfl⟩
  obtain rfl : a = j + 1 := by have := HA.out; simp [hj] at this; omega
  obtain ⟨b', off', hbo, hcy⟩ := ints_mid (d := p) (x := y) (r := x :: post) (k := j) HR.out (by rw [HL.out]; simp) hj
  injection hbo with hbo
  injection hbo with hb1 hb2
  subst hb1 hb2
  have e1 : IntKind.i64.wrap (((j + 1 : Nat) : Int) - 1) = (j : Int) := by rw [show ((j + 1 : Nat) : Int) - 1 = (j : Int) from by omega]; exact IntWalk.i64_in _ (by omega)
  have e2 : IntKind.i64.wrap ((j : Int) + 1 - 1) = (j : Int) := by rw [show (j : Int) + 1 - 1 = (j : Int) from by omega]; exact IntWalk.i64_in _ (by omega)
  have HJ := Lib.hid hj
  clear hj
  cases post with
  | nil =>
   obtain rfl : n = j + 1 + 1 := by simpa using hna
   clear hna
   have e3 : IntKind.i64.wrap (((j + 1 : Nat) : Int) + 1) = ((j + 1 : Nat) : Int) + 1 := IntWalk.i64_in _ (by omega)
   have e4 : IntKind.i64.wrap ((j : Int) + 1 + 1) = (j : Int) + 1 + 1 := IntWalk.i64_in _ (by omega)
   go_enter Tryz.func71, Tryz.ntmps71
   by_cases hx2 : x = 2
   ·subst hx2
    have HV := Lib.hid (show one3 s (p ++ [y]) 2 [] = 1 from by
     simp [one3, lastA_snoc, nx, iso])
    go_wp2
    go_ret
    exact ⟨by first | (rw [HV.out]; rfl) | rw [HV.out], rfl⟩
   ·have qhx2 : (x == 2) = false := by simpa using hx2
    have Nx2 := Lib.hid hx2
    clear hx2
    have HV := Lib.hid (show one3 s (p ++ [y]) x [] = x from by
     have f0 := Nx2.out
     simp [one3, lastA_snoc, nx, iso, f0])
    go_wp2
    go_ret
    exact ⟨by first | (rw [HV.out]; rfl) | rw [HV.out], rfl⟩
  | cons z q =>
   obtain ⟨b', off', hbo, hcz⟩ := ints_mid (d := (p ++ [y]) ++ [x]) (x := z) (r := q) (k := j + 1 + 1) HR.out (by rw [HL.out]; simp) (by simp; exact HJ.out)
   injection hbo with hbo
   injection hbo with hb1 hb2
   subst hb1 hb2
   have hlt : j + 1 + 1 < n := by simp at hna; omega
   clear hna
   have e3 : IntKind.i64.wrap (((j + 1 : Nat) : Int) + 1) = ((j + 1 : Nat) : Int) + 1 := IntWalk.i64_in _ (by omega)
   have e4 : IntKind.i64.wrap ((j : Int) + 1 + 1) = (j : Int) + 1 + 1 := IntWalk.i64_in _ (by omega)
   go_enter Tryz.func71, Tryz.ntmps71
   by_cases hx2 : x = 2
   ·subst hx2
    have HV := Lib.hid (show one3 s (p ++ [y]) 2 (z :: q) = 1 from by
     simp [one3, lastA_snoc, nx, iso])
    go_wp2
    go_ret
    exact ⟨by first | (rw [HV.out]; rfl) | rw [HV.out], rfl⟩
   ·have qhx2 : (x == 2) = false := by simpa using hx2
    have Nx2 := Lib.hid hx2
    clear hx2
    have HV := Lib.hid (show one3 s (p ++ [y]) x (z :: q) = x from by
     have f0 := Nx2.out
     simp [one3, lastA_snoc, nx, iso, f0])
    go_wp2
    go_ret
    exact ⟨by first | (rw [HV.out]; rfl) | rw [HV.out], rfl⟩
end Go.Proofs.YtfclpecbnailgaaGreat.Wk
