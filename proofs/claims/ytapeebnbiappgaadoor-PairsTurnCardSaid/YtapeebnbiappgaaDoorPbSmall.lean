/-
  Proved here: what the small functions of pairs return (a class's letter, the other direction, a level's direction, whether a class has a letter), and slices.IndexFunc, slices.ContainsFunc at a row of ints for any closure of one captured variable that changes nothing that was there. They leave what was in memory.
-/
import Derived.Test.YtapeebnbiappgaaDoorPrSettle
import Derived.Test.YtapeebnbiappgaaDoorAddInts
import Derived.Deep.QuietTactic
import Derived.BigQuiet
import Derived.LoopTactic
import Derived.IntWalk
set_option linter.unusedVariables false
namespace Go.Proofs.YtapeebnbiappgaaDoor.Pb
open Go Go.RowKit Go.Lib Go.Proofs.YtapeebnbiappgaaDoor.Cl Go.Proofs.YtapeebnbiappgaaDoor.Pr

theorem below_drewN {B : Nat} {a w : World} (h : Below B a w) (n : Nat) : Below B a (w.drewN n) := ⟨h.os, h.tape, h.output, h.size, h.block⟩
theorem any_take {α : Type} {p : α → Bool} {l : List α} {k : Nat} (h : k < l.length) : (l.take (k + 1)).any p = ((l.take k).any p || p l[k]) := by
  rw [List.take_add_one, List.getElem?_eq_getElem h, Option.toList_some, List.any_append]
  simp
theorem any_at {α : Type} {p : α → Bool} {l : List α} {k : Nat} (h : k < l.length) (hp : p l[k] = true) : l.any p = true := List.any_eq_true.2 ⟨_, List.getElem_mem h, hp⟩

set_option maxHeartbeats 1000000 in
theorem letter_any (c : Int) (w : World) : Calls Tryd.prog 71 #[.int .i64 c] w fun e w' => e = .returned (.int .i64 (letZ c)) ∧ w' = w := by
  unfold letZ
  by_cases h0 : c = 0
  · subst h0
    go_enter Tryd.func71, Tryd.ntmps71
    go_wp2
    go_ret
    exact ⟨rfl, rfl⟩
  · rw [if_neg h0]
    have d0 : (c == 0) = false := by simpa using h0
    by_cases h1 : c = 1
    · subst h1
      go_enter Tryd.func71, Tryd.ntmps71
      go_wp2
      go_ret
      exact ⟨rfl, rfl⟩
    · have d1 : (c == 1) = false := by simpa using h1
      by_cases h3 : c = 3
      · subst h3
        go_enter Tryd.func71, Tryd.ntmps71
        go_wp2
        go_ret
        exact ⟨rfl, rfl⟩
      · have d3 : (c == 3) = false := by simpa using h3
        by_cases h6 : c = 6
        · subst h6
          go_enter Tryd.func71, Tryd.ntmps71
          go_wp2
          go_ret
          exact ⟨rfl, rfl⟩
        · have d6 : (c == 6) = false := by simpa using h6
          rw [if_neg (by omega)]
          clear h0 h1 h3 h6
          go_enter Tryd.func71, Tryd.ntmps71
          go_wp2
          go_ret
          exact ⟨rfl, rfl⟩

theorem opposite_any (c : Int) (w : World) (h : c = 0 ∨ c = 1) : Calls Tryd.prog 47 #[.int .i64 c] w fun e w' => e = .returned (.int .i64 (1 - c)) ∧ w' = w := by
  rcases h with rfl | rfl
  · go_enter Tryd.func47, Tryd.ntmps47
    go_wp2
    go_ret
    exact ⟨rfl, rfl⟩
  · go_enter Tryd.func47, Tryd.ntmps47
    go_wp2
    go_ret
    exact ⟨rfl, rfl⟩

theorem wayZ_tmod (x : Int) : wayZ x = if x.tmod 2 = 0 then 0 else 1 := by
  unfold wayZ
  have h : x % 2 = 0 ↔ x.tmod 2 = 0 := by rw [← Int.dvd_iff_emod_eq_zero, ← Int.dvd_iff_tmod_eq_zero]
  by_cases e : x % 2 = 0
  · rw [if_pos e, if_pos (h.1 e)]
  · rw [if_neg e, if_neg (fun g => e (h.2 g))]
theorem direction_any (x : Int) (w : World) : Calls Tryd.prog 29 #[.int .i64 x] w fun e w' => e = .returned (.int .i64 (wayZ x)) ∧ w' = w := by
  rw [wayZ_tmod]
  cases hb : (x.tmod 2 == 0) with
  | true =>
    rw [if_pos (by simpa using hb)]
    go_enter Tryd.func29, Tryd.ntmps29
    go_wp2
    go_ret
    exact ⟨rfl, rfl⟩
  | false =>
    rw [if_neg (by simpa using hb)]
    go_enter Tryd.func29, Tryd.ntmps29
    go_wp2
    go_ret
    exact ⟨rfl, rfl⟩

set_option maxHeartbeats 1000000 in
theorem isLetter_any (c x : Int) (b : Nat) (w : World) (hc : w.cell? ⟨b, 0, none⟩ = some (.int .i64 x)) :
    Calls Tryd.prog 70 #[.int .i64 c, .pointer (some ⟨b, 0, none⟩)] w fun e w' => e = .returned (.bool (decide (letZ c = x))) ∧ Below w.heap.size w w' := by
  have e : decide (letZ c = x) = (letZ c == x) := by rw [Bool.eq_iff_iff]; simp
  rw [e]
  clear e
  have HL := Lib.hid (fun (W : World) => letter_any c W)
  generalize letZ c = y at *
  go_enter Tryd.func70, Tryd.ntmps70
  go_wp2_with fail
  go_quiet ((go_at_call 71; exact Calls.quiet_of_same (HL.out _)))
  go_wp2_with fail
  go_ret
  exact ⟨rfl, below_drewN (Below.refl _ _) _⟩

def IdxPost (b : Bool) (w : World) (e : Ending) (w' : World) : Prop := ∃ z : Int, e = .returned (.int .i64 z) ∧ decide (0 ≤ z) = b ∧ Below w.heap.size w w'

set_option maxHeartbeats 1000000 in
set_option maxRecDepth 100000 in
theorem index_func (f : FuncId) (hf : ∀ args w, (callFunc f args).run Tryd.prog w = .ok (.enter f args) w) (p1 : Value) (p : Int → Bool) (A : Option Addr) (zs : List Int) (n c : Nat) (w : World) (hA : IntsAt w A zs) (hl : zs.length = n) (hn : n ≤ 1099511627776)
    (call : ∀ z W, Below w.heap.size w W → Calls Tryd.prog f #[.int .i64 z, p1] W fun e W' => e = .returned (.bool (p z)) ∧ Below W.heap.size W W') :
    Calls Tryd.prog 82 #[.slice A n c, .func (.func f) #[] #[p1]] w (IdxPost (zs.any p) w) := by
  have HA := Lib.hid hA
  have HC := Lib.hid call
  have HL := Lib.hid hl
  obtain ⟨b, hb⟩ : ∃ b, zs.any p = b := ⟨_, rfl⟩
  have HB := Lib.hid hb
  rw [hb]
  clear hA call hb hl
  go_enter Tryd.func82, Tryd.ntmps82
  go_wp2_with fail
  go_loopw [8] (fun s8 wx => ∃ k : Nat, k ≤ n ∧ s8 = .int .i64 k ∧ (zs.take k).any p = false ∧ Below w.heap.size w wx) (fun s8 _ => n - (RowKit.intOf s8).toNat)
  case atStart => exact ⟨0, Nat.zero_le _, rfl, rfl, Below.refl _ _⟩
  case round =>
    obtain ⟨k, hk, rfl, hno, hbw⟩ := hrel
    have HNO := Lib.hid hno
    have HBW := Lib.hid hbw
    clear hno
    by_cases hlt : k < n
    · have hkz : k < zs.length := by rw [HL.out]; exact hlt
      obtain ⟨g, off, rfl, hc⟩ := (HA.out.below hbw).at_ hkz
      have hs := any_take (p := p) hkz
      have hat := any_at (p := p) hkz
      obtain ⟨r, hr⟩ : ∃ r, zs[k] = r := ⟨_, rfl⟩
      rw [hr] at hc hs hat
      rw [HNO.out, Bool.false_or] at hs
      have HS := Lib.hid hs
      have HT := Lib.hid hat
      have HK := Lib.hid (HC.out r wr hbw)
      clear hr hs hat hbw hkz
      go_wp2_with fail
      refine HK.out.mono ?_
      rintro e w1 ⟨rfl, hb1⟩
      have HB1 := Lib.hid (HBW.out.trans (hb1.mono HBW.out.size))
      clear hb1
      cases hp : p r with
      | true =>
        have hb2 : b = true := by rw [← HB.out]; exact HT.out hp
        subst hb2
        clear hp
        go_wp2_with fail
        go_ret
        exact ⟨k, rfl, by simp, HB1.out⟩
      | false =>
        rw [hp] at HS
        clear hp
        go_wp2_with fail
        go_roundw
        case rel => exact ⟨k + 1, by omega, by go_num, HS.out, HB1.out⟩
        case measure => simp [RowKit.intOf]; omega
    · have e : zs.take k = zs := List.take_of_length_le (by rw [HL.out]; omega)
      have hb2 : b = false := by rw [← HB.out, ← e]; exact HNO.out
      subst hb2
      clear e hbw
      go_wp2_with fail
      go_ret
      exact ⟨-1, rfl, by decide, HBW.out⟩

set_option maxHeartbeats 1000000 in
set_option maxRecDepth 100000 in
theorem has_func (f : FuncId) (hf : ∀ args w, (callFunc f args).run Tryd.prog w = .ok (.enter f args) w) (p1 : Value) (p : Int → Bool) (A : Option Addr) (zs : List Int) (n c : Nat) (w : World) (hA : IntsAt w A zs) (hl : zs.length = n) (hn : n ≤ 1099511627776)
    (call : ∀ z W, Below w.heap.size w W → Calls Tryd.prog f #[.int .i64 z, p1] W fun e W' => e = .returned (.bool (p z)) ∧ Below W.heap.size W W') :
    Calls Tryd.prog 69 #[.slice A n c, .func (.func f) #[] #[p1]] w fun e w' => e = .returned (.bool (zs.any p)) ∧ Below w.heap.size w w' := by
  have HI := Lib.hid (index_func f hf p1 p A zs n c w hA hl hn call)
  obtain ⟨b, hb⟩ : ∃ b, zs.any p = b := ⟨_, rfl⟩
  rw [hb] at HI ⊢
  clear hA call hb
  go_enter Tryd.func69, Tryd.ntmps69
  go_wp2_with fail
  refine HI.out.mono ?_
  rintro e w1 ⟨z, rfl, hz, hbw⟩
  have HZ := Lib.hid hz
  clear hz
  go_wp2
  go_ret
  rw [← HZ.out]
  exact ⟨rfl, hbw⟩
end Go.Proofs.YtapeebnbiappgaaDoor.Pb
