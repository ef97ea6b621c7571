/-
  Several texts in one, each with its own remark: WkRefP, WkLetter.
-/
import Derived.LoopTactic
import Derived.IntWalk
import Derived.Test.YtfclpecbnailgaaGreatR1
import Derived.Test.YtfclpecbnailgaaGreatR2

/-
 The document's answer for numbers, signs and marks, plainly: what one place becomes by a rule, of what stands ahead as it has become and what stands behind as it is; done for all places and all seven rules it is the plain weak. No program in it.
-/
set_option linter.unusedVariables false
namespace Go.Proofs.YtfclpecbnailgaaGreat.Wk
/-- The letter ahead. -/
def letA (s : Int) (pre : List Int) : Int := pre.foldl (fun a c => if let3 c then c else a) s
theorem letA_snoc (s : Int) (pre : List Int) (d : Int) : letA s (pre ++ [d]) = if let3 d then d else letA s pre := by simp [letA]
def lastA (pre : List Int) : Int := pre.getLast?.getD (-1)
theorem lastA_snoc (pre : List Int) (d : Int) : lastA (pre ++ [d]) = d := by simp [lastA]
/-- An EN stands ahead of the run of ET that ends here; behind the one that begins here. -/
def backN (pre : List Int) : Bool := (pre.reverse.dropWhile (fun x => decide (x = 5))).head? == some 3
def aheadN (r : List Int) : Bool := (r.dropWhile (fun x => decide (x = 5))).head? == some 3
theorem backN_snoc (pre : List Int) (d : Int) : backN (pre ++ [d]) = if d = 5 then backN pre else decide (d = 3) := by
 unfold backN
 rw [List.reverse_append, List.reverse_singleton, List.singleton_append, List.dropWhile_cons]
 by_cases h : d = 5
 ·simp [h]
 ·simp only [h, decide_false, Bool.false_eq_true, if_false, List.head?_cons]
  by_cases h3 : d = 3 <;> simp [h3]
theorem backN_nil : backN [] = false := rfl
theorem aheadN_cons (d : Int) (r : List Int) : aheadN (d :: r) = if d = 5 then aheadN r else decide (d = 3) := by
 unfold aheadN
 rw [List.dropWhile_cons]
 by_cases h : d = 5
 ·simp [h]
 ·simp only [h, decide_false, Bool.false_eq_true, if_false, List.head?_cons]
  by_cases h3 : d = 3 <;> simp [h3]
theorem aheadN_nil : aheadN [] = false := rfl
def one1 (s : Int) (pre : List Int) (c : Int) (r : List Int) : Int := if c = 8 then (if pre = [] then s else nx (lastA pre)) else c
def one2 (s : Int) (pre : List Int) (c : Int) (r : List Int) : Int := if c = 3 ∧ letA s pre = 2 then 6 else c
def one3 (s : Int) (pre : List Int) (c : Int) (r : List Int) : Int := if c = 2 then 1 else c
def one4 (s : Int) (pre : List Int) (c : Int) (r : List Int) : Int := if c = 4 ∧ lastA pre = 3 ∧ r.head? = some 3 then 3 else if c = 7 ∧ r.head? = some (lastA pre) ∧ (lastA pre = 3 ∨ lastA pre = 6) then lastA pre else c
def one5 (s : Int) (pre : List Int) (c : Int) (r : List Int) : Int := if c = 5 ∧ (backN pre = true ∨ aheadN r = true) then 3 else c
def one6 (s : Int) (pre : List Int) (c : Int) (r : List Int) : Int := if c = 4 ∨ c = 5 ∨ c = 7 then 13 else c
def one7 (s : Int) (pre : List Int) (c : Int) (r : List Int) : Int := if c = 3 ∧ letA s pre = 0 then 0 else c
/-- The rules by their numbers. -/
def oneP : Nat → Int → List Int → Int → List Int → Int
 | 1 => one1
 | 2 => one2
 | 3 => one3
 | 4 => one4
 | 5 => one5
 | 6 => one6
 | 7 => one7
 | _ => fun _ _ c _ => c
/-- Place by place. -/
def scanP (G : List Int → Int → List Int → Int) : List Int → List Int → List Int
 | pre, [] => pre
 | pre, c :: r => scanP G (pre ++ [G pre c r]) r
theorem scan1 (s : Int) : ∀ (l pre : List Int), scanP (one1 s) pre l = pre ++ marks (if pre = [] then s else nx (lastA pre)) l
 | [], pre => by simp [scanP, marks]
 | c :: r, pre => by
  rw [scanP, scan1 s r, if_neg (by simp), lastA_snoc, marks]
  unfold one1
  by_cases h : c = 8
  ·rw [if_pos h, if_pos h]
   simp
  ·rw [if_neg h, if_neg h]
   simp
theorem scan2 (s : Int) : ∀ (l pre : List Int), scanP (one2 s) pre l = pre ++ nums 2 6 (letA s pre) l
 | [], pre => by simp [scanP, nums]
 | c :: r, pre => by
  rw [scanP, scan2 s r, letA_snoc, nums]
  unfold one2
  by_cases h : c = 3 ∧ letA s pre = 2
  ·rw [if_pos h, if_pos h, if_neg (by decide), if_neg (by rw [h.1]; decide)]
   simp
  ·rw [if_neg h, if_neg h]
   by_cases hl : let3 c = true
   ·rw [if_pos hl, if_pos hl]; simp
   ·rw [if_neg hl, if_neg hl]; simp
theorem scan7 (s : Int) : ∀ (l pre : List Int), scanP (one7 s) pre l = pre ++ nums 0 0 (letA s pre) l
 | [], pre => by simp [scanP, nums]
 | c :: r, pre => by
  rw [scanP, scan7 s r, letA_snoc, nums]
  unfold one7
  by_cases h : c = 3 ∧ letA s pre = 0
  ·rw [if_pos h, if_pos h, if_pos (by decide), if_neg (by rw [h.1]; decide), h.2]
   simp
  ·rw [if_neg h, if_neg h]
   by_cases hl : let3 c = true
   ·rw [if_pos hl, if_pos hl]; simp
   ·rw [if_neg hl, if_neg hl]; simp
theorem scan3 (s : Int) : ∀ (l pre : List Int), scanP (one3 s) pre l = pre ++ bec 1 [2] l
 | [], pre => by simp [scanP, bec]
 | c :: r, pre => by
  rw [scanP, scan3 s r]
  unfold one3 bec
  by_cases h : c = 2 <;> simp [h]
theorem scan6 (s : Int) : ∀ (l pre : List Int), scanP (one6 s) pre l = pre ++ bec 13 [4, 5, 7] l
 | [], pre => by simp [scanP, bec]
 | c :: r, pre => by
  rw [scanP, scan6 s r]
  unfold one6 bec
  by_cases h : c = 4 ∨ c = 5 ∨ c = 7 <;> simp [h]
def F4 (a : Int) : List Int → List Int
 | [] => []
 | c :: r => if c = 4 ∧ a = 3 ∧ r.head? = some 3 then 3 :: F4 3 r else if c = 7 ∧ r.head? = some a ∧ (a = 3 ∨ a = 6) then a :: F4 a r else c :: F4 c r
theorem scan4F (s : Int) : ∀ (l pre : List Int), scanP (one4 s) pre l = pre ++ F4 (lastA pre) l
 | [], pre => by simp [scanP, F4]
 | c :: r, pre => by
  rw [scanP, scan4F s r, lastA_snoc, F4]
  unfold one4
  split
  ·simp
  ·split <;> simp
theorem btw_head (a : Int) (r : List Int) : (btw 3 [4, 7] a r).head? = some 6 ↔ r.head? = some 6 := by
 cases r with
 | nil => simp [btw]
 | cons c r =>
  rw [btw]
  split
  ·rename_i h
   have := h.2.2
   simp at this
   simp
   omega
  ·simp
theorem F4_btw : ∀ (l : List Int) (a3 a6 : Int), (a6 = a3 ∨ (a3 = 7 ∧ a6 = 6)) → btw 6 [7] a6 (btw 3 [4, 7] a3 l) = F4 a6 l
 | [], _, _, _ => by simp [btw, F4]
 | c :: r, a3, a6, h => by
  rw [btw, F4]
  have hm : c ∈ [(4 : Int), 7] ↔ c = 4 ∨ c = 7 := by simp
  by_cases h1 : a3 = 3 ∧ r.head? = some 3 ∧ c ∈ [(4 : Int), 7]
  ·rw [if_pos h1]
   have h6 : a6 = 3 := by omega
   rw [btw, if_neg (fun g => by have := g.2.2; simp at this)]
   rcases hm.1 h1.2.2 with e | e
   ·rw [if_pos ⟨e, h6, h1.2.1⟩, F4_btw r 3 3 (.inl rfl)]
   ·rw [if_neg (by omega), if_pos ⟨e, by rw [h6]; exact h1.2.1, .inl h6⟩, h6, F4_btw r 3 3 (.inl rfl)]
  ·rw [if_neg h1, btw]
   have hn4 : ¬ (c = 4 ∧ a6 = 3 ∧ r.head? = some 3) := fun g => h1 ⟨by omega, g.2.2, hm.2 (.inl g.1)⟩
   rw [if_neg hn4]
   by_cases h2 : a6 = 6 ∧ (btw 3 [4, 7] c r).head? = some 6 ∧ c ∈ [(7 : Int)]
   ·have hc : c = 7 := by simpa using h2.2.2
    rw [if_pos h2, if_pos ⟨hc, by rw [h2.1]; exact (btw_head _ _).1 h2.2.1, .inr h2.1⟩, h2.1, F4_btw r c 6 (.inr ⟨hc, rfl⟩)]
   ·have hn7 : ¬ (c = 7 ∧ r.head? = some a6 ∧ (a6 = 3 ∨ a6 = 6)) := by
     rintro ⟨e, hh, h3 | h6⟩
     ·exact h1 ⟨by omega, by rw [hh, h3], hm.2 (.inr e)⟩
     ·exact h2 ⟨h6, (btw_head _ _).2 (by rw [hh, h6]), by simp [e]⟩
    rw [if_neg h2, if_neg hn7, F4_btw r c c (.inl rfl)]
theorem scan4 (s : Int) (l : List Int) : scanP (one4 s) [] l = btw 6 [7] (-1) (btw 3 [4, 7] (-1) l) := by
 rw [scan4F, F4_btw l (-1) (-1) (.inl rfl)]
 rfl
def F5 (a : Int) : List Int → List Int
 | [] => []
 | c :: r => if c = 5 ∧ (a = 3 ∨ aheadN r = true) then 3 :: F5 3 r else c :: F5 c r
theorem scan5F (s : Int) : ∀ (l pre : List Int), (lastA pre = 5 → backN pre = false ∧ aheadN l = false) → scanP (one5 s) pre l = pre ++ F5 (lastA pre) l
 | [], pre, _ => by simp [scanP, F5]
 | c :: r, pre, hi => by
  have hb : c = 5 → ((backN pre = true ∨ aheadN r = true) ↔ (lastA pre = 3 ∨ aheadN r = true)) := by
   intro hc
   rcases List.eq_nil_or_concat pre with rfl | ⟨p, x, rfl⟩
   ·simp [backN_nil, lastA]
   ·rw [List.concat_eq_append] at *
    rw [lastA_snoc] at *
    by_cases hx : x = 5
    ·obtain ⟨h1, h2⟩ := hi hx
     rw [aheadN_cons, if_pos hc] at h2
     subst hx
     simp [h1, h2]
    ·rw [backN_snoc, if_neg hx]
     simp
  rw [scanP, F5]
  by_cases h : c = 5 ∧ (backN pre = true ∨ aheadN r = true)
  ·have e : one5 s pre c r = 3 := by unfold one5; rw [if_pos h]
   rw [e, if_pos ⟨h.1, (hb h.1).1 h.2⟩, scan5F s r _ (by rw [lastA_snoc]; omega), lastA_snoc]
   simp
  ·have e : one5 s pre c r = c := by unfold one5; rw [if_neg h]
   rw [e, if_neg (fun g => h ⟨g.1, (hb g.1).2 g.2⟩), scan5F s r _ (by
    rw [lastA_snoc]
    intro hc
    have hn : ¬ (backN pre = true ∨ aheadN r = true) := fun g => h ⟨hc, g⟩
    rw [backN_snoc, if_pos hc]
    simpa using hn), lastA_snoc]
   simp
theorem F5_ne (r : List Int) (hr : aheadN r = true) : F5 3 r = F5 5 r := by
 cases r with
 | nil => rfl
 | cons c r =>
  rw [aheadN_cons] at hr
  by_cases h : c = 5
  ·rw [if_pos h] at hr
   rw [F5, F5, if_pos ⟨h, .inl rfl⟩, if_pos ⟨h, .inr hr⟩]
  ·rw [F5, F5, if_neg (fun g => h g.1), if_neg (fun g => h g.1)]
theorem F5_head (r : List Int) : (F5 5 r).head? = some 3 ↔ aheadN r = true := by
 cases r with
 | nil => simp [F5, aheadN_nil]
 | cons c r =>
  rw [F5, aheadN_cons]
  by_cases h : c = 5
  ·by_cases hr : aheadN r = true
   ·rw [if_pos ⟨h, .inr hr⟩, if_pos h]; simp [hr]
   ·rw [if_neg (fun g => by rcases g.2 with g | g; omega; exact hr g), if_pos h]; simp [hr]; omega
  ·rw [if_neg (fun g => h g.1), if_neg h]; simp
theorem F5_sah : ∀ (l : List Int) (a : Int), sah (sbeh a l) = F5 a l
 | [], a => rfl
 | c :: r, a => by
  rw [sbeh, F5]
  by_cases h : c = 5 ∧ a = 3
  ·rw [if_pos h, if_pos ⟨h.1, .inl h.2⟩, sah, if_neg (by omega), F5_sah r 3]
  ·rw [if_neg h, sah, F5_sah r c]
   by_cases hc : c = 5
   ·subst hc
    have ha : a ≠ 3 := fun e => h ⟨rfl, e⟩
    by_cases hr : aheadN r = true
    ·rw [if_pos ⟨rfl, (F5_head r).2 hr⟩, if_pos ⟨rfl, .inr hr⟩, F5_ne r hr]
    ·rw [if_neg (fun g => hr ((F5_head r).1 g.2)), if_neg (fun g => by rcases g.2 with g | g; exact ha g; exact hr g)]
   ·rw [if_neg (fun g => hc g.1), if_neg (fun g => hc g.1)]
theorem scan5 (s : Int) (l : List Int) : scanP (one5 s) [] l = sah (sbeh (-1) l) := by
 rw [scan5F s l [] (by simp [lastA]), F5_sah]
 rfl
/-- The document's answer. -/
def refUp (s : Int) (l : List Int) : Nat → List Int
 | 0 => l
 | k + 1 => scanP (oneP (k + 1) s) [] (refUp s l k)
theorem refUp_weak (s : Int) (l : List Int) : refUp s l 7 = weak s l := by
 show scanP (one7 s) [] (scanP (one6 s) [] (scanP (one5 s) [] (scanP (one4 s) [] (scanP (one3 s) [] (scanP (one2 s) [] (scanP (one1 s) [] l)))))) = weak s l
 rw [scan7, scan6, scan5, scan4, scan3, scan2, scan1]
 rfl
end Go.Proofs.YtfclpecbnailgaaGreat.Wk

/-
 Proved here: what the document's letter and number return, for a row of ints: the letter ahead of a place, whether an EN stands next to the run of ET that has a place. They change nothing.
-/
set_option linter.unusedVariables false
namespace Go.Proofs.YtfclpecbnailgaaGreat.Wk
open Go Go.RowKit Go.Lib Go.Proofs.YtfclpecbnailgaaGreat.Cl
theorem ints_mid {w : World} {A : Option Addr} {L d r : List Int} {x : Int} {k : Nat} (h : IntsAt w A L) (hL : L = d ++ x :: r) (hk : d.length = k) :
  ∃ b off, A = some ⟨b, off, none⟩ ∧ w.cell? ⟨b, off + k, none⟩ = some (.int .i64 x) := by
 subst hL hk
 obtain ⟨b, off, e, hc⟩ := h.at_ (k := d.length) (by simp)
 exact ⟨b, off, e, by rw [hc]; simp⟩
set_option maxHeartbeats 2000000 in
set_option maxRecDepth 100000 in
theorem letter_any (A : Option Addr) (L pre post : List Int) (n c a : Nat) (s : Int) (w : World) (hR : IntsAt w A L) (hl : L.length = n) (hn : n ≤ 1099511627776) (hL : L = pre ++ post) (ha : pre.length = a) :
  Calls Tryz.prog 114 #[.slice A n c, .int .i64 a, .int .i64 s] w fun e w' => e = .returned (.int .i64 (letA s pre)) ∧ w' = w := by
 have HR := Lib.hid hR
 have HA := Lib.hid ha
 have HL := Lib.hid hL
 have han : a ≤ n := by rw [← ha, ← hl, hL]; simp
 clear hR hl hL ha
 have e0 : IntKind.i64.wrap ((a : Int) - 1) = (a : Int) - 1 := IntWalk.i64_in _ (by omega)
 go_enter Tryz.func114, Tryz.ntmps114
 go_wp2_with fail
 clear e0
 go_loopw [7] (fun s7 wx => ∃ (p q : List Int) (k : Nat), p.length = k ∧ k ≤ a ∧ pre = p ++ q ∧ s7 = .int .i64 ((k : Int) - 1) ∧ wx = w ∧ letA s pre = letA s p) (fun s7 _ => (RowKit.intOf s7 + 1).toNat)
 case atStart => exact ⟨pre, [], a, HA.out, Nat.le_refl _, by simp, rfl, rfl, rfl⟩
 case round =>
  obtain ⟨p, q, k, hk, hka, hpq, rfl, rfl, hle⟩ := hrel
  have HLE := Lib.hid hle
  rcases List.eq_nil_or_concat p with rfl | ⟨p, x, rfl⟩
  ·simp only [List.length_nil] at hk
   subst hk
   clear hle hpq
   go_wp2
   go_ret
   exact ⟨by rw [HLE.out]; rfl, rfl⟩
  ·rw [List.concat_eq_append] at *
   obtain ⟨j, hj⟩ : ∃ j, p.length = j := ⟨_, rfl⟩
   have HJ := Lib.hid hj
   obtain rfl : k = j + 1 := by simp [hj] at hk; omega
   obtain ⟨b, off, rfl, hc⟩ := ints_mid (d := p) (x := x) (r := q ++ post) (k := j) HR.out (by rw [HL.out, hpq]; simp) hj
   have HPQ := Lib.hid (show pre = p ++ ([x] ++ q) from by rw [hpq]; simp)
   rw [letA_snoc] at hle
   have HL2 := Lib.hid hle
   have hjn : j < n := by omega
   clear hle hk hj hpq HLE
   have e1 : ((j + 1 : Nat) : Int) - 1 = (j : Int) := by omega
   rw [e1]
   clear e1
   have e3 : IntKind.i64.wrap ((j : Int) - 1) = (j : Int) - 1 := IntWalk.i64_in _ (by omega)
   by_cases h0 : x = 0
   ·subst h0
    go_wp2
    go_ret
    exact ⟨by rw [HL2.out]; rfl, rfl⟩
   by_cases h1 : x = 1
   ·subst h1
    go_wp2
    go_ret
    exact ⟨by rw [HL2.out]; rfl, rfl⟩
   by_cases h2 : x = 2
   ·subst h2
    go_wp2
    go_ret
    exact ⟨by rw [HL2.out]; rfl, rfl⟩
   have q0 : (x == 0) = false := by simpa using h0
   have q1 : (x == 1) = false := by simpa using h1
   have q2 : (x == 2) = false := by simpa using h2
   have HL3 := Lib.hid (show letA s pre = letA s p from by rw [HL2.out, if_neg (by simp [let3, h0, h1, h2])])
   clear h0 h1 h2
   go_wp2
   go_roundw
   case rel => exact ⟨p, [x] ++ q, j, HJ.out, by omega, HPQ.out, by go_num, by first | rfl | trivial, HL3.out⟩
   case measure => (simp [RowKit.intOf]; try omega)
set_option maxHeartbeats 4000000 in
set_option maxRecDepth 100000 in
theorem number_any (A : Option Addr) (L pre post : List Int) (x : Int) (n c a : Nat) (w : World) (hR : IntsAt w A L) (hl : L.length = n) (hn : n ≤ 1099511627776) (hL : L = pre ++ x :: post) (ha : pre.length = a) :
  Calls Tryz.prog 115 #[.slice A n c, .int .i64 a] w fun e w' => e = .returned (.bool (backN pre || aheadN post)) ∧ w' = w := by
 have HR := Lib.hid hR
 have HA := Lib.hid ha
 have HL := Lib.hid hL
 have HLL := Lib.hid hl
 have han : a < n := by rw [← ha, ← hl, hL]; simp
 clear hR hl hL ha
 go_enter Tryz.func115, Tryz.ntmps115
 go_wp2_with fail
 go_loopw [5] (fun s5 wx => ∃ (p q : List Int) (k : Nat), p.length = k ∧ k ≤ a ∧ pre = p ++ q ∧ s5 = .int .i64 k ∧ wx = w ∧ backN pre = backN p) (fun s5 _ => (RowKit.intOf s5).toNat)
 case atStart => exact ⟨pre, [], a, HA.out, Nat.le_refl _, by simp, rfl, rfl, rfl⟩
 case round =>
  obtain ⟨p, q, k, hk, hka, hpq, rfl, rfl, hle⟩ := hrel
  have HBK := Lib.hid hle
  clear hle
  rcases List.eq_nil_or_concat p with rfl | ⟨p, y, rfl⟩
  ·simp only [List.length_nil] at hk
   subst hk
   clear hpq
   rw [show ((0 : Nat) : Int) = 0 from rfl]
   go_wp2_with fail
   go_loopw [6] (fun s6 wx => ∃ (q1 q2 : List Int) (t : Nat), a + q1.length = t ∧ post = q1 ++ q2 ∧ s6 = .int .i64 t ∧ wx = wr ∧ aheadN post = aheadN q2) (fun s6 _ => n - (RowKit.intOf s6).toNat)
   case atStart => exact ⟨[], post, a, rfl, rfl, rfl, rfl, rfl⟩
   case round =>
    obtain ⟨q1, q2, t, ht, hpost, rfl, rfl, hah⟩ := hrel
    have HT := Lib.hid ht
    have HPO := Lib.hid hpost
    have HAH := Lib.hid hah
    have hnt : t + 1 + q2.length = n := by have := HLL.out; rw [HL.out, hpost] at this; simp [HA.out] at this; omega
    have e5 : IntKind.i64.wrap ((t : Int) + 1) = (t : Int) + 1 := IntWalk.i64_in _ (by omega)
    clear ht hah
    cases q2 with
    | nil =>
     obtain rfl : n = t + 1 := by simp at hnt; omega
     clear hpost hnt
     go_wp2
     go_ret
     exact ⟨by rw [HBK.out, HAH.out, backN_nil, aheadN_nil]; rfl, rfl⟩
    | cons z q2 =>
     obtain ⟨b, off, rfl, hcz⟩ := ints_mid (d := pre ++ [x] ++ q1) (x := z) (r := q2) (k := t + 1) HR.out (by rw [HL.out, hpost]; simp) (by simp [HA.out]; have := HT.out; omega)
     have hlt : t + 1 < n := by simp at hnt; omega
     clear hnt hpost
     by_cases hz : z = 5
     ·subst hz
      have HAH2 := Lib.hid (show aheadN post = aheadN q2 from by rw [HAH.out, aheadN_cons, if_pos rfl])
      go_wp2
      go_roundw
      case rel => first | exact ⟨q1 ++ [5], q2, t + 1, by simp; have := HT.out; omega, by rw [HPO.out]; simp, by go_num, by first | rfl | trivial, HAH2.out⟩ | exact ⟨q1 ++ [5], q2, by rw [HPO.out]; simp, by simp; have := HT.out; omega, HAH2.out⟩
      case measure => (simp [RowKit.intOf]; try omega)
     ·have qz : (z == 5) = false := by simpa using hz
      have HAH2 := Lib.hid (show aheadN post = decide (z = 3) from by rw [HAH.out, aheadN_cons, if_neg hz])
      clear hz
      by_cases hz3 : z = 3
      ·subst hz3
       go_wp2
       go_ret
       exact ⟨by rw [HBK.out, HAH2.out]; simp, rfl⟩
      ·have qz3 : (z == 3) = false := by simpa using hz3
       have HZ3 := Lib.hid hz3
       clear hz3
       go_wp2
       go_ret
       exact ⟨by rw [HBK.out, HAH2.out, backN_nil, decide_eq_false HZ3.out]; rfl, rfl⟩
  ·rw [List.concat_eq_append] at *
   obtain ⟨j, hj⟩ : ∃ j, p.length = j := ⟨_, rfl⟩
   have HJ := Lib.hid hj
   obtain rfl : k = j + 1 := by simp [hj] at hk; omega
   obtain ⟨b, off, rfl, hcy⟩ := ints_mid (d := p) (x := y) (r := q ++ x :: post) (k := j) HR.out (by rw [HL.out, hpq]; simp) hj
   have HPQ := Lib.hid (show pre = p ++ ([y] ++ q) from by rw [hpq]; simp)
   have e1 : IntKind.i64.wrap (((j + 1 : Nat) : Int) - 1) = (j : Int) := by rw [show ((j + 1 : Nat) : Int) - 1 = (j : Int) from by omega]; exact IntWalk.i64_in _ (by omega)
   have e2 : IntKind.i64.wrap ((j : Int) + 1 - 1) = (j : Int) := by rw [show (j : Int) + 1 - 1 = (j : Int) from by omega]; exact IntWalk.i64_in _ (by omega)
   have hjn : j + 1 < n := by omega
   clear hk hj hpq
   by_cases hy : y = 5
   ·subst hy
    have HB2 := Lib.hid (show backN pre = backN p from by rw [HBK.out, backN_snoc, if_pos rfl])
    go_wp2
    go_roundw
    case rel => exact ⟨p, [5] ++ q, j, HJ.out, by omega, HPQ.out, by go_num, by first | rfl | trivial, HB2.out⟩
    case measure => (simp [RowKit.intOf]; try omega)
   ·have qy : (y == 5) = false := by simpa using hy
    have HY := Lib.hid hy
    clear hy
    go_wp2_with fail
    go_loopw [6] (fun s6 wx => ∃ (q1 q2 : List Int) (t : Nat), a + q1.length = t ∧ post = q1 ++ q2 ∧ s6 = .int .i64 t ∧ wx = wr ∧ aheadN post = aheadN q2) (fun s6 _ => n - (RowKit.intOf s6).toNat)
    case atStart => exact ⟨[], post, a, rfl, rfl, rfl, rfl, rfl⟩
    case round =>
     obtain ⟨q1, q2, t, ht, hpost, rfl, rfl, hah⟩ := hrel
     have HT := Lib.hid ht
     have HPO := Lib.hid hpost
     have HAH := Lib.hid hah
     have hnt : t + 1 + q2.length = n := by have := HLL.out; rw [HL.out, hpost] at this; simp [HA.out] at this; omega
     have e5 : IntKind.i64.wrap ((t : Int) + 1) = (t : Int) + 1 := IntWalk.i64_in _ (by omega)
     clear ht hah
     cases q2 with
     | nil =>
      obtain rfl : n = t + 1 := by simp at hnt; omega
      clear hpost hnt
      have HBK2 := Lib.hid (show backN pre = decide (y = 3) from by rw [HBK.out, backN_snoc, if_neg HY.out])
      by_cases hy3 : y = 3
      ·subst hy3
       go_wp2
       go_ret
       exact ⟨by rw [HBK2.out]; rfl, rfl⟩
      ·have qy3 : (y == 3) = false := by simpa using hy3
       have HY3 := Lib.hid hy3
       clear hy3
       go_wp2
       go_ret
       exact ⟨by rw [HBK2.out, HAH.out, aheadN_nil, decide_eq_false HY3.out]; rfl, rfl⟩
     | cons z q2 =>
      obtain ⟨b', off', hbo, hcz⟩ := ints_mid (d := pre ++ [x] ++ q1) (x := z) (r := q2) (k := t + 1) HR.out (by rw [HL.out, hpost]; simp) (by simp [HA.out]; have := HT.out; omega)
      injection hbo with hbo
      injection hbo with hb1 hb2
      subst hb1 hb2
      have hlt : t + 1 < n := by simp at hnt; omega
      clear hnt hpost
      by_cases hz : z = 5
      ·subst hz
       have HAH2 := Lib.hid (show aheadN post = aheadN q2 from by rw [HAH.out, aheadN_cons, if_pos rfl])
       go_wp2
       go_roundw
       case rel => first | exact ⟨q1 ++ [5], q2, t + 1, by simp; have := HT.out; omega, by rw [HPO.out]; simp, by go_num, by first | rfl | trivial, HAH2.out⟩ | exact ⟨q1 ++ [5], q2, by rw [HPO.out]; simp, by simp; have := HT.out; omega, HAH2.out⟩
       case measure => (simp [RowKit.intOf]; try omega)
      ·have qz : (z == 5) = false := by simpa using hz
       have HAH2 := Lib.hid (show aheadN post = decide (z = 3) from by rw [HAH.out, aheadN_cons, if_neg hz])
       clear hz
       have HBK2 := Lib.hid (show backN pre = decide (y = 3) from by rw [HBK.out, backN_snoc, if_neg HY.out])
       by_cases hy3 : y = 3
       ·subst hy3
        go_wp2
        go_ret
        exact ⟨by rw [HBK2.out]; rfl, rfl⟩
       ·have qy3 : (y == 3) = false := by simpa using hy3
        have HY3 := Lib.hid hy3
        clear hy3
        by_cases hz3 : z = 3
        ·subst hz3
         go_wp2
         go_ret
         exact ⟨by rw [HBK2.out, HAH2.out]; simp, rfl⟩
        ·have qz3 : (z == 3) = false := by simpa using hz3
         have HZ3 := Lib.hid hz3
         clear hz3
         go_wp2
         go_ret
         exact ⟨by rw [HBK2.out, HAH2.out, decide_eq_false HY3.out, decide_eq_false HZ3.out]; rfl, rfl⟩
end Go.Proofs.YtfclpecbnailgaaGreat.Wk
