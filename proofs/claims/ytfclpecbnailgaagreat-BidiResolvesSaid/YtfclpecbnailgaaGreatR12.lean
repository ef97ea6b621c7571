/-
  Several texts in one, each with its own remark: PbSet, PbSmall, PbSeq, PbOut, PbBec.
-/
import Derived.Deep.QuietTactic
import Derived.BigQuiet
import Derived.LoopTactic
import Derived.IntWalk
import Derived.Shelf.Abstract
import Derived.Deep.WholeRow
import Derived.Laws.Rows
import Derived.Test.YtfclpecbnailgaaGreatR9
import Derived.Test.YtfclpecbnailgaaGreatR2

/-
 One bracket of a pair, and the marks right behind it, set, plainly; place by place. No program in it.
-/
set_option linter.unusedVariables false
namespace Go.Proofs.YtfclpecbnailgaaGreat.Pr
/-- A bracket, and the marks behind it, set. -/
def setOne (own : List Int) (a : Nat) (x : Int) (l : List Int) : List Int := l.mapIdx fun k y => if (decide (k = a) || marksZ own a k) = true then x else y
theorem setZ_two (own : List Int) (p : Nat × Nat) (c : Int) (l : List Int) : setZ own p c l = setOne own p.2 c (setOne own p.1 c l) := by
 apply List.ext_getElem?
 intro i
 unfold setZ setOne mayZ
 rw [List.getElem?_mapIdx, List.getElem?_mapIdx, List.getElem?_mapIdx]
 cases l[i]? with
 | none => rfl
 | some y =>
  simp only [Option.map_some]
  congr 1
  by_cases h1 : i = p.1 <;> by_cases h2 : i = p.2 <;> cases h3 : marksZ own p.1 i <;> cases h4 : marksZ own p.2 i <;> simp [h1, h2] <;> simp_all
/-- A run of places, set. -/
def setRun (a t : Nat) (x : Int) (l : List Int) : List Int := l.mapIdx fun k y => if a ≤ k ∧ k < t then x else y
theorem setRun_len (a t : Nat) (x : Int) (l : List Int) : (setRun a t x l).length = l.length := by simp [setRun]
theorem setRun_first (a : Nat) (x : Int) (l : List Int) : setRun a (a + 1) x l = l.set a x := by
 apply List.ext_getElem?
 intro i
 unfold setRun
 rw [List.getElem?_mapIdx, List.getElem?_set]
 by_cases h : a = i
 ·subst h
  rw [if_pos rfl]
  by_cases hl : a < l.length
  ·rw [if_pos hl, List.getElem?_eq_getElem hl, Option.map_some, if_pos (by omega)]
  ·rw [if_neg hl, List.getElem?_eq_none (by omega)]
   rfl
 ·rw [if_neg h]
  cases l[i]? with
  | none => rfl
  | some y => rw [Option.map_some, if_neg (by omega)]
theorem setRun_step {a t : Nat} (hat : a ≤ t) (x : Int) (l : List Int) : setRun a (t + 1) x l = (setRun a t x l).set t x := by
 apply List.ext_getElem?
 intro i
 rw [List.getElem?_set, setRun_len]
 unfold setRun
 rw [List.getElem?_mapIdx, List.getElem?_mapIdx]
 by_cases h : t = i
 ·subst h
  rw [if_pos rfl]
  by_cases hl : t < l.length
  ·rw [if_pos hl, List.getElem?_eq_getElem hl, Option.map_some, if_pos (by omega)]
  ·rw [if_neg hl, List.getElem?_eq_none (by omega)]
   rfl
 ·rw [if_neg h]
  cases l[i]? with
  | none => rfl
  | some y =>
   rw [Option.map_some, Option.map_some]
   congr 1
   by_cases h2 : a ≤ i ∧ i < t
   ·rw [if_pos h2, if_pos (by omega)]
   ·rw [if_neg h2, if_neg (by omega)]
theorem setRun_end {own l : List Int} {a t : Nat} (x : Int) (hl : l.length = own.length) (hat : a < t) (hm : ∀ i, a < i → i < t → own[i]? = some 8) (hs : own.length ≤ t ∨ ∃ c, own[t]? = some c ∧ c ≠ 8) : setRun a t x l = setOne own a x l := by
 apply List.ext_getElem?
 intro i
 unfold setRun setOne
 rw [List.getElem?_mapIdx, List.getElem?_mapIdx]
 by_cases hi : i < l.length
 ·rw [List.getElem?_eq_getElem hi, Option.map_some, Option.map_some]
  congr 1
  have hio : i < own.length := by omega
  have e : (a ≤ i ∧ i < t) ↔ (decide (i = a) || marksZ own a i) = true := by
   rw [Bool.or_eq_true, decide_eq_true_eq, marksZ_iff hio]
   constructor
   ·rintro ⟨h1, h2⟩
    by_cases e : i = a
    ·exact .inl e
    ·exact .inr ⟨by omega, fun j h3 h4 => hm j h3 (by omega)⟩
   ·rintro (h | ⟨h1, h2⟩)
    ·omega
    ·refine ⟨by omega, ?_⟩
     rcases hs with hs | ⟨c, hc, h8⟩
     ·omega
     ·by_cases hti : t ≤ i
      ·have := h2 t hat hti
       rw [hc] at this
       injection this with this
       exact absurd this h8
      ·omega
  by_cases h : a ≤ i ∧ i < t
  ·rw [if_pos h, if_pos (e.1 h)]
  ·rw [if_neg h, if_neg (fun g => h (e.2 g))]
 ·rw [List.getElem?_eq_none (by omega)]
  rfl
theorem applyZ_two (own : List Int) (way s : Int) (l : List Int) (p : Nat × Nat) {z : Int} (hz : becZ l p way s = z) (h : 0 ≤ z) : applyZ own way s l p = setOne own p.2 z (setOne own p.1 z l) := by
 unfold applyZ
 rw [hz, if_neg (by omega), setZ_two]
theorem applyZ_no (own : List Int) (way s : Int) (l : List Int) (p : Nat × Nat) (h : becZ l p way s < 0) : applyZ own way s l p = l := by
 unfold applyZ
 rw [if_pos h]
end Go.Proofs.YtfclpecbnailgaaGreat.Pr

/-
 Proved here: what the small functions of pairs return (a class's letter, the other direction, a level's direction, whether a class has a letter), and slices.IndexFunc, slices.ContainsFunc at a row of ints for any closure of one captured variable that changes nothing that was there. They leave what was in memory.
-/
set_option linter.unusedVariables false
namespace Go.Proofs.YtfclpecbnailgaaGreat.Pb
open Go Go.RowKit Go.Lib Go.Proofs.YtfclpecbnailgaaGreat.Cl Go.Proofs.YtfclpecbnailgaaGreat.Pr
theorem below_drewN {B : Nat} {a w : World} (h : Below B a w) (n : Nat) : Below B a (w.drewN n) := ⟨h.os, h.tape, h.output, h.size, h.block⟩
theorem any_take {α : Type} {p : α → Bool} {l : List α} {k : Nat} (h : k < l.length) : (l.take (k + 1)).any p = ((l.take k).any p || p l[k]) := by
 rw [List.take_add_one, List.getElem?_eq_getElem h, Option.toList_some, List.any_append]
 simp
theorem any_at {α : Type} {p : α → Bool} {l : List α} {k : Nat} (h : k < l.length) (hp : p l[k] = true) : l.any p = true := List.any_eq_true.2 ⟨_, List.getElem_mem h, hp⟩
set_option maxHeartbeats 1000000 in
theorem letter_any (c : Int) (w : World) : Calls Tryz.prog 167 #[.int .i64 c] w fun e w' => e = .returned (.int .i64 (letZ c)) ∧ w' = w := by
 unfold letZ
 by_cases h0 : c = 0
 ·subst h0
  go_enter Tryz.func167, Tryz.ntmps167
  go_wp2
  go_ret
  exact ⟨rfl, rfl⟩
 ·rw [if_neg h0]
  have d0 : (c == 0) = false := by simpa using h0
  by_cases h1 : c = 1
  ·subst h1
   go_enter Tryz.func167, Tryz.ntmps167
   go_wp2
   go_ret
   exact ⟨rfl, rfl⟩
  ·have d1 : (c == 1) = false := by simpa using h1
   by_cases h3 : c = 3
   ·subst h3
    go_enter Tryz.func167, Tryz.ntmps167
    go_wp2
    go_ret
    exact ⟨rfl, rfl⟩
   ·have d3 : (c == 3) = false := by simpa using h3
    by_cases h6 : c = 6
    ·subst h6
     go_enter Tryz.func167, Tryz.ntmps167
     go_wp2
     go_ret
     exact ⟨rfl, rfl⟩
    ·have d6 : (c == 6) = false := by simpa using h6
     rw [if_neg (by omega)]
     clear h0 h1 h3 h6
     go_enter Tryz.func167, Tryz.ntmps167
     go_wp2
     go_ret
     exact ⟨rfl, rfl⟩
theorem opposite_any (c : Int) (w : World) (h : c = 0 ∨ c = 1) : Calls Tryz.prog 145 #[.int .i64 c] w fun e w' => e = .returned (.int .i64 (1 - c)) ∧ w' = w := by
 rcases h with rfl | rfl
 ·go_enter Tryz.func145, Tryz.ntmps145
  go_wp2
  go_ret
  exact ⟨rfl, rfl⟩
 ·go_enter Tryz.func145, Tryz.ntmps145
  go_wp2
  go_ret
  exact ⟨rfl, rfl⟩
theorem wayZ_tmod (x : Int) : wayZ x = if x.tmod 2 = 0 then 0 else 1 := by
 unfold wayZ
 have h : x % 2 = 0 ↔ x.tmod 2 = 0 := by rw [← Int.dvd_iff_emod_eq_zero, ← Int.dvd_iff_tmod_eq_zero]
 by_cases e : x % 2 = 0
 ·rw [if_pos e, if_pos (h.1 e)]
 ·rw [if_neg e, if_neg (fun g => e (h.2 g))]
theorem direction_any (x : Int) (w : World) : Calls Tryz.prog 99 #[.int .i64 x] w fun e w' => e = .returned (.int .i64 (wayZ x)) ∧ w' = w := by
 rw [wayZ_tmod]
 cases hb : (x.tmod 2 == 0) with
 | true =>
  rw [if_pos (by simpa using hb)]
  go_enter Tryz.func99, Tryz.ntmps99
  go_wp2
  go_ret
  exact ⟨rfl, rfl⟩
 | false =>
  rw [if_neg (by simpa using hb)]
  go_enter Tryz.func99, Tryz.ntmps99
  go_wp2
  go_ret
  exact ⟨rfl, rfl⟩
set_option maxHeartbeats 1000000 in
theorem isLetter_any (c x : Int) (b : Nat) (w : World) (hc : w.cell? ⟨b, 0, none⟩ = some (.int .i64 x)) :
  Calls Tryz.prog 166 #[.int .i64 c, .pointer (some ⟨b, 0, none⟩)] w fun e w' => e = .returned (.bool (decide (letZ c = x))) ∧ Below w.heap.size w w' := by
 have e : decide (letZ c = x) = (letZ c == x) := by rw [Bool.eq_iff_iff]; simp
 rw [e]
 clear e
 have HL := Lib.hid (fun (W : World) => letter_any c W)
 generalize letZ c = y at *
 go_enter Tryz.func166, Tryz.ntmps166
 go_wp2_with fail
 go_quiet ((go_at_call 167; exact Calls.quiet_of_same (HL.out _)))
 go_wp2_with fail
 go_ret
 exact ⟨rfl, below_drewN (Below.refl _ _) _⟩
def IdxPost (b : Bool) (w : World) (e : Ending) (w' : World) : Prop := ∃ z : Int, e = .returned (.int .i64 z) ∧ decide (0 ≤ z) = b ∧ Below w.heap.size w w'
set_option maxHeartbeats 1000000 in
set_option maxRecDepth 100000 in
theorem index_func (f : FuncId) (hf : ∀ args w, (callFunc f args).run Tryz.prog w = .ok (.enter f args) w) (p1 : Value) (p : Int → Bool) (A : Option Addr) (zs : List Int) (n c : Nat) (w : World) (hA : IntsAt w A zs) (hl : zs.length = n) (hn : n ≤ 1099511627776)
  (call : ∀ z W, Below w.heap.size w W → Calls Tryz.prog f #[.int .i64 z, p1] W fun e W' => e = .returned (.bool (p z)) ∧ Below W.heap.size W W') :
  Calls Tryz.prog 179 #[.slice A n c, .func (.func f) #[] #[p1]] w (IdxPost (zs.any p) w) := by
 have HA := Lib.hid hA
 have HC := Lib.hid call
 have HL := Lib.hid hl
 obtain ⟨b, hb⟩ : ∃ b, zs.any p = b := ⟨_, rfl⟩
 have HB := Lib.hid hb
 rw [hb]
 clear hA call hb hl
 go_enter Tryz.func179, Tryz.ntmps179
 go_wp2_with fail
 go_loopw [8] (fun s8 wx => ∃ k : Nat, k ≤ n ∧ s8 = .int .i64 k ∧ (zs.take k).any p = false ∧ Below w.heap.size w wx) (fun s8 _ => n - (RowKit.intOf s8).toNat)
 case atStart => exact ⟨0, Nat.zero_le _, rfl, rfl, Below.refl _ _⟩
 case round =>
  obtain ⟨k, hk, rfl, hno, hbw⟩ := hrel
  have HNO := Lib.hid hno
  have HBW := Lib.hid hbw
  clear hno
  by_cases hlt : k < n
  ·have hkz : k < zs.length := by rw [HL.out]; exact hlt
   obtain ⟨g, off, rfl, hc⟩ := (HA.out.below hbw).at_ hkz
   have hs := any_take (p := p) hkz
   have hat := any_at (p := p) hkz
   obtain ⟨r, hr⟩ : ∃ r, zs[k] = r := ⟨_, rfl⟩
   rw [hr] at hc hs hat
   rw [HNO.out, Bool.false_or] at hs
   have HS := Lib.hid hs
   have HT := Lib.hid hat
   have HK := Lib.hid (HC.out r wr hbw)
   clear hr hs hat hbw hkz
   go_wp2_with fail
   refine HK.out.mono ?_
   rintro e w1 ⟨rfl, hb1⟩
   have HB1 := Lib.hid (HBW.out.trans (hb1.mono HBW.out.size))
   clear hb1
   cases hp : p r with
   | true =>
    have hb2 : b = true := by rw [← HB.out]; exact HT.out hp
    subst hb2
    clear hp
    go_wp2_with fail
    go_ret
    exact ⟨k, rfl, by simp, HB1.out⟩
   | false =>
    rw [hp] at HS
    clear hp
    go_wp2_with fail
    go_roundw
    case rel => exact ⟨k + 1, by omega, by go_num, HS.out, HB1.out⟩
    case measure => simp [RowKit.intOf]; omega
  ·have e : zs.take k = zs := List.take_of_length_le (by rw [HL.out]; omega)
   have hb2 : b = false := by rw [← HB.out, ← e]; exact HNO.out
   subst hb2
   clear e hbw
   go_wp2_with fail
   go_ret
   exact ⟨-1, rfl, by decide, HBW.out⟩
set_option maxHeartbeats 1000000 in
set_option maxRecDepth 100000 in
theorem has_func (f : FuncId) (hf : ∀ args w, (callFunc f args).run Tryz.prog w = .ok (.enter f args) w) (p1 : Value) (p : Int → Bool) (A : Option Addr) (zs : List Int) (n c : Nat) (w : World) (hA : IntsAt w A zs) (hl : zs.length = n) (hn : n ≤ 1099511627776)
  (call : ∀ z W, Below w.heap.size w W → Calls Tryz.prog f #[.int .i64 z, p1] W fun e W' => e = .returned (.bool (p z)) ∧ Below W.heap.size W W') :
  Calls Tryz.prog 165 #[.slice A n c, .func (.func f) #[] #[p1]] w fun e w' => e = .returned (.bool (zs.any p)) ∧ Below w.heap.size w w' := by
 have HI := Lib.hid (index_func f hf p1 p A zs n c w hA hl hn call)
 obtain ⟨b, hb⟩ : ∃ b, zs.any p = b := ⟨_, rfl⟩
 rw [hb] at HI ⊢
 clear hA call hb
 go_enter Tryz.func165, Tryz.ntmps165
 go_wp2_with fail
 refine HI.out.mono ?_
 rintro e w1 ⟨z, rfl, hz, hbw⟩
 have HZ := Lib.hid hz
 clear hz
 go_wp2
 go_ret
 rw [← HZ.out]
 exact ⟨rfl, hbw⟩
end Go.Proofs.YtfclpecbnailgaaGreat.Pb

/-
 Proved here: what pairs' sequence.between, sequence.ahead return, by the classes as they are. They leave what was in memory.
-/
set_option linter.unusedVariables false
namespace Go.Proofs.YtfclpecbnailgaaGreat.Pb
open Go Go.RowKit Go.Lib Go.Shelf Go.Proofs.YtfclpecbnailgaaGreat.Cl Go.Proofs.YtfclpecbnailgaaGreat.Pr
theorem ints_cut' {w : World} {A : Option Addr} {zs : List Int} {g off : Nat} (hA : A = some ⟨g, off, none⟩) (h : IntsAt w A zs) (a m : Nat) (ha : a + m ≤ zs.length) : IntsAt w (some ⟨g, off + a, none⟩) ((zs.drop a).take m) := by
 subst hA
 rcases h with rfl | ⟨b, o, e, hb, hc⟩
 ·exact .inl (by simp)
 ·injection e with e
  injection e with e1 e2 e3
  subst e1 e2
  refine .inr ⟨_, _, rfl, hb, fun j z hz => ?_⟩
  have hj : j < m := by
   have := (List.getElem?_eq_some_iff.1 hz).1
   rw [List.length_take] at this
   omega
  rw [List.getElem?_take_of_lt hj, List.getElem?_drop] at hz
  have := hc (a + j) z hz
  rwa [show off + (a + j) = off + a + j from by omega] at this
theorem below3 (w : World) (o1 o2 o3 : Obj) : Below w.heap.size w (((w.alloc o1).alloc o2).alloc o3) :=
 (below_made w o1).trans ((below_made _ o2).mono (below_made w o1).size) |>.trans ((below_made _ o3).mono ((below_made w o1).trans ((below_made _ o2).mono (below_made w o1).size)).size)
theorem new_int {W : World} {B : Nat} (x : Int) (hB : W.heap.size = B) : (W.alloc (.cells #[.int .i64 x] 3)).cell? ⟨B, 0, none⟩ = some (.int .i64 x) := by
 subst hB
 exact cell_of_row _ _ 0 _ _ _ (heap_alloc_last _ _)
theorem enters_letter : ∀ args w, (callFunc 166 args).run Tryz.prog w = .ok (.enter 166 args) w := enters_of Tryz.func166 (by kernel_rfl) rfl
theorem has_letter (A : Option Addr) (ys : List Int) (n k b : Nat) (x : Int) (V : World) (hA : IntsAt V A ys) (hl : ys.length = n) (hn : n ≤ 1099511627776) (hb : V.cell? ⟨b, 0, none⟩ = some (.int .i64 x)) :
  Calls Tryz.prog 165 #[.slice A n k, .func (.func 166) #[] #[.pointer (some ⟨b, 0, none⟩)]] V fun e w' => e = .returned (.bool (ys.any fun c => decide (letZ c = x))) ∧ Below V.heap.size V w' := by
 have hblt := World.block_lt_of_cell? V _ hb
 exact has_func 166 enters_letter (.pointer (some ⟨b, 0, none⟩)) (fun c => decide (letZ c = x)) A ys n k V hA hl hn (fun z W hW => isLetter_any z x b W ((hW.cell (p := ⟨b, 0, none⟩) hblt).trans hb))
set_option maxHeartbeats 200000 in
set_option maxRecDepth 100000 in
theorem between_any (A A2 : Option Addr) (zs : List Int) (n c m c2 i j : Nat) (s d x : Int) (w : World) (hA : IntsAt w A zs) (hl : zs.length = n) (hn : n ≤ 1099511627776) (hc : n ≤ c) (hij : i < j) (hj : j < n) :
  Calls Tryz.prog 146 #[.agg #[.slice A n c, .slice A2 m c2, .int .i64 s, .int .i64 d], .agg #[.int .i64 i, .int .i64 j], .int .i64 x] w fun e w' => e = .returned (.bool (hasZ ((zs.take j).drop (i + 1)) x)) ∧ Below w.heap.size w w' := by
 obtain ⟨g, off, rfl, -⟩ := hA.at_ (k := 0) (by omega)
 have hcut := ints_cut' rfl hA (i + 1) (j - (i + 1)) (by omega)
 rw [← List.drop_take] at hcut
 have hlen : ((zs.take j).drop (i + 1)).length = j - (i + 1) := by rw [List.length_drop, List.length_take]; omega
 unfold hasZ
 generalize (zs.take j).drop (i + 1) = ys at *
 have hb3 := below3 w (.cells #[.slice (some ⟨g, off, none⟩) n c, .slice A2 m c2, .int .i64 s, .int .i64 d] 123) (.cells #[.int .i64 i, .int .i64 j] 95) (.cells #[.int .i64 x] 3)
 have HB3 := Lib.hid hb3
 have HF := Lib.hid (fun (V : World) (hV : Below w.heap.size w V) (b : Nat) (k : Nat) (hb : V.cell? ⟨b, 0, none⟩ = some (.int .i64 x)) => has_letter (some ⟨g, off + (i + 1), none⟩) ys (j - (i + 1)) k b x V (hcut.below hV) hlen (by omega) hb)
 clear hA hcut hb3
 go_enter Tryz.func146, Tryz.ntmps146
 go_wp2_with fail
 refine (HF.out _ HB3.out _ _ (new_int (B := w.heap.size + 1 + 1) x (by rw [World.size_alloc, World.size_alloc]))).mono ?_
 rintro e w2 ⟨rfl, hb2⟩
 go_wp2
 go_ret
 exact ⟨rfl, HB3.out.trans (hb2.mono HB3.out.size)⟩
set_option maxHeartbeats 200000 in
set_option maxRecDepth 100000 in
theorem ahead_any (A A2 : Option Addr) (zs : List Int) (n c m c2 i : Nat) (s d : Int) (w : World) (hA : IntsAt w A zs) (hl : zs.length = n) (hn : n ≤ 1099511627776) (hi : i < n) :
  Calls Tryz.prog 147 #[.agg #[.slice A n c, .slice A2 m c2, .int .i64 s, .int .i64 d], .int .i64 i] w fun e w' => e = .returned (.int .i64 (aheadZ (zs.take i) s)) ∧ Below w.heap.size w w' := by
 have hb1 : Below w.heap.size w (w.alloc (.cells #[.slice A n c, .slice A2 m c2, .int .i64 s, .int .i64 d] 123)) := (Below.refl _ w).alloc (Nat.le_refl _) _
 have HB1 := Lib.hid hb1
 have HA := Lib.hid (hA.below hb1)
 have HL := Lib.hid hl
 have HLET := Lib.hid (fun (c : Int) (W : World) => letter_any c W)
 obtain ⟨r, hr⟩ : ∃ r, aheadZ (zs.take i) s = r := ⟨_, rfl⟩
 have HR := Lib.hid hr
 rw [hr]
 have e0 : IntKind.i64.wrap ((i : Int) - 1) = (i : Int) - 1 := IntWalk.i64_in _ (by omega)
 clear hA hb1 hr hl
 go_enter Tryz.func147, Tryz.ntmps147
 go_wp2_with fail
 go_loopw [1] (fun s1 wx => ∃ k : Nat, k ≤ i ∧ s1 = .int .i64 ((k : Int) - 1) ∧ wx = w.alloc (.cells #[.slice A n c, .slice A2 m c2, .int .i64 s, .int .i64 d] 123) ∧ aheadZ (zs.take k) s = r) (fun s1 _ => (RowKit.intOf s1 + 1).toNat)
 case atStart => exact ⟨i, Nat.le_refl _, rfl, rfl, HR.out⟩
 case round =>
  obtain ⟨k, hk, rfl, rfl, ha⟩ := hrel
  have HK := Lib.hid ha
  clear ha
  cases k with
  | zero =>
   obtain rfl : s = r := HK.out
   go_wp2_with fail
   go_ret
   exact ⟨rfl, HB1.out⟩
  | succ k =>
   have hkz : k < zs.length := by rw [HL.out]; omega
   obtain ⟨g, off, hA, hc⟩ := HA.out.at_ hkz
   subst hA
   have HSN := Lib.hid (show aheadZ (zs.take (k + 1)) s = if 0 ≤ letZ zs[k] then letZ zs[k] else aheadZ (zs.take k) s from by rw [List.take_succ_eq_append_getElem hkz, aheadZ_snoc])
   obtain ⟨x, hx⟩ : ∃ x, zs[k] = x := ⟨_, rfl⟩
   rw [hx] at hc HSN
   rw [HK.out] at HSN
   have e1 : (((k + 1 : Nat) : Int) - 1) = (k : Int) := by omega
   have hcas := letZ_cases x
   have HLX := Lib.hid (fun (W : World) => letter_any x W)
   rw [e1]
   have h0 : (0 : Int) ≤ (k : Int) := by omega
   have h1 : (k : Int) < (n : Int) := by omega
   have e2 : IntKind.i64.wrap ((k : Int) - 1) = (k : Int) - 1 := IntWalk.i64_in _ (by omega)
   clear hx e1 hkz
   by_cases hy : letZ x = -1
   ·have HKN := Lib.hid (show aheadZ (zs.take k) s = r from by rw [HSN.out, if_neg (by omega)])
    have hb : (letZ x != -1) = false := by simp [hy]
    clear hy hcas HSN
    generalize letZ x = y at *
    go_wp2_with fail
    refine (HLX.out _).mono ?_
    rintro e w2 ⟨rfl, rfl⟩
    go_wp2
    go_roundw
    case rel => exact ⟨k, by omega, by go_num, by first | rfl | trivial, HKN.out⟩
    case measure => simp [RowKit.intOf]
   ·have HKN := Lib.hid (show r = letZ x from by rw [HSN.out, if_pos (by omega)])
    have hb : (letZ x != -1) = true := by simp [hy]
    clear hy hcas HSN
    generalize letZ x = y at *
    go_wp2_with fail
    refine (HLX.out _).mono ?_
    rintro e w2 ⟨rfl, rfl⟩
    go_wp2
    go_ret
    rw [HKN.out]
    exact ⟨rfl, HB1.out⟩
end Go.Proofs.YtfclpecbnailgaaGreat.Pb

/-
 Proved here: what pairs' sequence.outcome returns, by the classes as they are: the plain becZ. It leaves what was in memory.
-/
set_option linter.unusedVariables false
namespace Go.Proofs.YtfclpecbnailgaaGreat.Pb
open Go Go.RowKit Go.Lib Go.Shelf Go.Proofs.YtfclpecbnailgaaGreat.Cl Go.Proofs.YtfclpecbnailgaaGreat.Pr
theorem below2 (w : World) (o1 o2 : Obj) : Below w.heap.size w ((w.alloc o1).alloc o2) :=
 (below_made w o1).trans ((below_made _ o2).mono (below_made w o1).size)
theorem six {w V : World} {a b : Nat} {v0 v1 v2 v3 u0 u1 : Value} {t1 t2 : TypeId} (h1 : w.heap[a]? = some (.cells #[v0, v1, v2, v3] t1 (0, 0))) (h2 : w.heap[b]? = some (.cells #[u0, u1] t2 (0, 0))) (ha : a < w.heap.size) (hb : b < w.heap.size) (h : Below w.heap.size w V) :
  V.cell? ⟨a, 0, none⟩ = some v0 ∧ V.cell? ⟨a, 1, none⟩ = some v1 ∧ V.cell? ⟨a, 2, none⟩ = some v2 ∧ V.cell? ⟨a, 3, none⟩ = some v3 ∧ V.cell? ⟨b, 0, none⟩ = some u0 ∧ V.cell? ⟨b, 1, none⟩ = some u1 := by
 have g1 := (h.block _ ha).trans h1
 have g2 := (h.block _ hb).trans h2
 exact ⟨cell_of_row V a 0 _ _ _ g1, cell_of_row V a 1 _ _ _ g1, cell_of_row V a 2 _ _ _ g1, cell_of_row V a 3 _ _ _ g1, cell_of_row V b 0 _ _ _ g2, cell_of_row V b 1 _ _ _ g2⟩
set_option maxHeartbeats 2000000 in
set_option maxRecDepth 100000 in
theorem outcome_any (A A2 : Option Addr) (zs : List Int) (n c m c2 i j : Nat) (s d : Int) (w : World) (hd : d = 0 ∨ d = 1) (hA : IntsAt w A zs) (hl : zs.length = n) (hn : n ≤ 1099511627776) (hc : n ≤ c) (hij : i < j) (hj : j < n) :
  Calls Tryz.prog 101 #[.agg #[.slice A n c, .slice A2 m c2, .int .i64 s, .int .i64 d], .agg #[.int .i64 i, .int .i64 j]] w fun e w' => e = .returned (.int .i64 (becZ zs (i, j) d s)) ∧ Below w.heap.size w w' := by
 have hb2 := below2 w (.cells #[.slice A n c, .slice A2 m c2, .int .i64 s, .int .i64 d] 123) (.cells #[.int .i64 i, .int .i64 j] 95)
 have hc1 : ((w.alloc (.cells #[.slice A n c, .slice A2 m c2, .int .i64 s, .int .i64 d] 123)).alloc (.cells #[.int .i64 i, .int .i64 j] 95)).heap[w.heap.size]? = some (.cells #[.slice A n c, .slice A2 m c2, .int .i64 s, .int .i64 d] 123 (0, 0)) := by
  rw [(below_made _ _).block _ (by rw [World.size_alloc]; omega)]
  exact heap_alloc_last _ _
 have hc2 : ((w.alloc (.cells #[.slice A n c, .slice A2 m c2, .int .i64 s, .int .i64 d] 123)).alloc (.cells #[.int .i64 i, .int .i64 j] 95)).heap[w.heap.size + 1]? = some (.cells #[.int .i64 i, .int .i64 j] 95 (0, 0)) := by
  have := heap_alloc_last (w.alloc (.cells #[.slice A n c, .slice A2 m c2, .int .i64 s, .int .i64 d] 123)) (.cells #[.int .i64 i, .int .i64 j] 95)
  rwa [World.size_alloc] at this
 have hsz : ((w.alloc (.cells #[.slice A n c, .slice A2 m c2, .int .i64 s, .int .i64 d] 123)).alloc (.cells #[.int .i64 i, .int .i64 j] 95)).heap.size = w.heap.size + 2 := by rw [World.size_alloc, World.size_alloc]
 have HOP := Lib.hid (fun (W : World) => opposite_any d W hd)
 have HBT := Lib.hid (fun (x : Int) (W : World) (hW : Below w.heap.size w W) => between_any A A2 zs n c m c2 i j s d x W (hA.below hW) hl hn hc hij hj)
 have HAH := Lib.hid (fun (W : World) (hW : Below w.heap.size w W) => ahead_any A A2 zs n c m c2 i s d W (hA.below hW) hl hn (by omega))
 have HZ := Lib.hid (show becZ zs (i, j) d s = if hasZ ((zs.take j).drop (i + 1)) d = true then d else if hasZ ((zs.take j).drop (i + 1)) (1 - d) = true then (if aheadZ (zs.take i) s = 1 - d then 1 - d else d) else -1 from rfl)
 obtain ⟨r, hr⟩ : ∃ r, becZ zs (i, j) d s = r := ⟨_, rfl⟩
 rw [hr] at HZ ⊢
 clear hA hr
 go_enter Tryz.func101, Tryz.ntmps101
 go_wp2_with fail
 have HB := Lib.hid hb2
 have HS := Lib.hid hsz
 have HX1 := Lib.hid hc1
 have HX2 := Lib.hid hc2
 clear hb2 hsz hc1 hc2
 generalize (w.alloc (.cells #[.slice A n c, .slice A2 m c2, .int .i64 s, .int .i64 d] 123)).alloc (.cells #[.int .i64 i, .int .i64 j] 95) = w2 at *
 have HC := Lib.hid (fun (V : World) (h : Below w2.heap.size w2 V) => six HX1.out HX2.out (by rw [HS.out]; omega) (by rw [HS.out]; omega) h)
 clear HX1 HX2
 obtain ⟨c0, c1, c2', c3, e0, e1⟩ := HC.out w2 (Below.refl _ _)
 refine (HOP.out _).mono ?_
 rintro e w' ⟨rfl, rfl⟩
 go_wp2_with fail
 refine (HBT.out d _ HB.out).mono ?_
 rintro e w3 ⟨rfl, hb3⟩
 clear c0 c1 c2' c3 e0 e1
 obtain ⟨c0, c1, c2', c3, e0, e1⟩ := HC.out w3 hb3
 have HB3 := Lib.hid hb3
 have HT3 := Lib.hid (HB.out.trans (hb3.mono HB.out.size))
 clear hb3
 cases h1 : hasZ ((zs.take j).drop (i + 1)) d with
 | true =>
  have HR := Lib.hid (show r = d from by rw [HZ.out, if_pos h1])
  clear h1 HZ
  go_wp2_with fail
  go_ret
  rw [HR.out]
  exact ⟨rfl, HT3.out⟩
 | false =>
  rw [if_neg (by rw [h1]; decide)] at HZ
  clear h1
  go_wp2_with fail
  refine (HBT.out (1 - d) _ HT3.out).mono ?_
  rintro e w4 ⟨rfl, hb4⟩
  clear c0 c1 c2' c3 e0 e1
  have HB4 := Lib.hid (HB3.out.trans (hb4.mono HB3.out.size))
  have HT4 := Lib.hid (HB.out.trans (HB4.out.mono HB.out.size))
  clear hb4
  obtain ⟨c0, c1, c2', c3, e0, e1⟩ := HC.out w4 HB4.out
  cases h2 : hasZ ((zs.take j).drop (i + 1)) (1 - d) with
  | false =>
   have HR := Lib.hid (show r = -1 from by rw [HZ.out, if_neg (by rw [h2]; decide)])
   clear h2 HZ
   go_wp2_with fail
   go_ret
   rw [HR.out]
   exact ⟨rfl, HT4.out⟩
  | true =>
   rw [if_pos h2] at HZ
   clear h2
   go_wp2_with fail
   refine (HAH.out _ HT4.out).mono ?_
   rintro e w5 ⟨rfl, hb5⟩
   clear c0 c1 c2' c3 e0 e1
   have HB5 := Lib.hid (HB4.out.trans (hb5.mono HB4.out.size))
   have HT5 := Lib.hid (HB.out.trans (HB5.out.mono HB.out.size))
   clear hb5
   obtain ⟨c0, c1, c2', c3, e0, e1⟩ := HC.out w5 HB5.out
   by_cases h3 : aheadZ (zs.take i) s = 1 - d
   ·have HR := Lib.hid (show r = 1 - d from by rw [HZ.out, if_pos h3])
    have hb : (aheadZ (zs.take i) s == 1 - d) = true := by simpa using h3
    clear h3 HZ
    generalize aheadZ (zs.take i) s = y at *
    go_wp2_with fail
    go_ret
    rw [HR.out]
    exact ⟨rfl, HT5.out⟩
   ·have HR := Lib.hid (show r = d from by rw [HZ.out, if_neg h3])
    have hb : (aheadZ (zs.take i) s == 1 - d) = false := by simpa using h3
    clear h3 HZ
    generalize aheadZ (zs.take i) s = y at *
    go_wp2_with fail
    go_ret
    rw [HR.out]
    exact ⟨rfl, HT5.out⟩
end Go.Proofs.YtfclpecbnailgaaGreat.Pb

/-
 Proved here: what pairs' sequence.become makes of the classes that it is handed: the bracket, and the marks right behind it, are set; nothing else of memory changes.
-/
set_option linter.unusedVariables false
namespace Go.Proofs.YtfclpecbnailgaaGreat.Pb
open Go Go.RowKit Go.Lib Go.Shelf Go.Proofs.YtfclpecbnailgaaGreat.Cl Go.Proofs.YtfclpecbnailgaaGreat.Pr Go.Proofs.YtfclpecbnailgaaGreat.Wk
theorem row_idx {bs : Nat} {A : Option Addr} {n c : Nat} {w wx : World} {L : List Int} (h : Row bs A n c w L wx) {k : Nat} (hk : k < n) :
  ∃ g, A = some ⟨g, 0, none⟩ ∧ wx.frozen? ⟨g, k, none⟩ = false ∧ n ≤ c ∧ (∃ x, wx.cell? ⟨g, k, none⟩ = some (.int .i64 x) ∧ L[k]? = some x) ∧ ∀ z : Int, Row bs A n c w (L.set k z) (wx.setCell ⟨g, k, none⟩ (.int .i64 z)) := by
 have hkl : k < L.length := by rw [h.len]; exact hk
 obtain ⟨g, hA, hc, hf, -, hnc, hput⟩ := h.at_ (d := L.take k) (r := L.drop (k + 1)) (x := L[k]) (k := k) (by rw [← List.drop_eq_getElem_cons hkl, List.take_append_drop]) (by rw [List.length_take]; omega)
 refine ⟨g, hA, hf, hnc, ⟨_, hc, List.getElem?_eq_getElem hkl⟩, fun z => ?_⟩
 rw [List.set_eq_take_append_cons_drop, if_pos hkl]
 exact hput z
theorem row_of {bs : Nat} {A : Option Addr} {n c : Nat} {w w1 wx : World} {L : List Int} (hb : Below w.heap.size w w1) (h : Row bs A n c w1 L wx) : Row bs A n c w L wx := ⟨h.own, grown_trans (grown_below _ hb) h.gr⟩
set_option maxHeartbeats 2000000 in
set_option maxRecDepth 100000 in
theorem become_any (bs : Nat) (A A2 : Option Addr) (L own : List Int) (n c c2 a : Nat) (x s d : Int) (w : World) (hrow : w.ownsRow bs 3 1 (.slice A n c) n (icl L)) (hn : n ≤ 1099511627776) (hown : IntsAt w A2 own) (hol : own.length = n) (hne : ∀ p q, A2 = some ⟨p, q, none⟩ → some p ≠ (Value.slice A n c).ownBlock) (ha : a < n) :
  Calls Tryz.prog 102 #[.agg #[.slice A n c, .slice A2 n c2, .int .i64 s, .int .i64 d], .int .i64 a, .int .i64 x] w fun e w' => e = .returned (.tuple #[]) ∧ Row bs A n c w (setOne own a x L) w' := by
 obtain ⟨p, q, rfl, -⟩ := hown.at_ (k := 0) (by omega)
 have hb1 := below_made w (.cells #[.slice A n c, .slice (some ⟨p, q, none⟩) n c2, .int .i64 s, .int .i64 d] 123)
 have hx1 := heap_alloc_last w (.cells #[.slice A n c, .slice (some ⟨p, q, none⟩) n c2, .int .i64 s, .int .i64 d] 123)
 have hr1 := (Row.start hrow).alloc (.cells #[.slice A n c, .slice (some ⟨p, q, none⟩) n c2, .int .i64 s, .int .i64 d] 123)
 have hr2 : Row bs A n c _ L _ := Row.start hr1.own
 have hLl := hr1.len
 have ho1 := hown.below hb1
 have hnb : some w.heap.size ≠ (Value.slice A n c).ownBlock := fun e => by
  have := (hrow.lt w.heap.size (by rw [e])).2
  omega
 have hnp := hne p q rfl
 clear hown hne hr1 hrow
 go_enter Tryz.func102, Tryz.ntmps102
 have HB1 := Lib.hid hb1
 obtain ⟨w1, hw1⟩ : ∃ w1, w.alloc (.cells #[.slice A n c, .slice (some ⟨p, q, none⟩) n c2, .int .i64 s, .int .i64 d] 123) = w1 := ⟨_, rfl⟩
 rw [hw1] at hx1 hr2 ho1 hb1 HB1
 obtain ⟨g, rfl, hfr, hnc, ⟨y, hcy, -⟩, hput⟩ := row_idx hr2 ha
 have HF := Lib.hid (fun (V : World) (M : List Int) (h : Row bs (some ⟨g, 0, none⟩) n c w1 M V) => show V.cell? ⟨w.heap.size, 0, none⟩ = some (.slice (some ⟨g, 0, none⟩) n c) ∧ V.cell? ⟨w.heap.size, 1, none⟩ = some (.slice (some ⟨p, q, none⟩) n c2) from
  ⟨h.cell (cell_of_row w1 w.heap.size 0 _ _ _ hx1) hnb, h.cell (cell_of_row w1 w.heap.size 1 _ _ _ hx1) hnb⟩)
 have HO := Lib.hid (fun (V : World) (M : List Int) (h : Row bs (some ⟨g, 0, none⟩) n c w1 M V) => h.ints ho1 hnp)
 obtain ⟨f0, f1⟩ := HF.out w1 L hr2
 have HP := Lib.hid (hput x)
 have HLL := Lib.hid hLl
 have HOL := Lib.hid hol
 have hpos : (0 : Int) ≤ (a : Int) := by omega
 have hlt : (a : Int) < (n : Int) := by omega
 have e1 : IntKind.i64.wrap ((a : Int) + 1) = (a : Int) + 1 := IntWalk.i64_in _ (by omega)
 clear hput hr2 ho1 hx1 hnp hnb hb1 hLl hol
 have HS1 := Lib.hid (setRun_first a x L)
 go_wp2_with fail
 clear f0 f1 hfr hcy
 rw [← HS1.out] at HP
 go_loopw [1] (fun s1 wy => ∃ t : Nat, a < t ∧ t ≤ n ∧ s1 = .int .i64 t ∧ Row bs (some ⟨g, 0, none⟩) n c w1 (setRun a t x L) wy ∧ ∀ i, a < i → i < t → own[i]? = some 8) (fun s1 _ => n - (RowKit.intOf s1).toNat)
 case atStart => exact ⟨a + 1, by omega, by omega, by go_num, HP.out, fun i h1 h2 => by omega⟩
 case round =>
  obtain ⟨t, hat, htn, rfl, hr, hm⟩ := hrel
  have HR := Lib.hid hr
  have HM := Lib.hid hm
  obtain ⟨f0, f1⟩ := HF.out wr _ hr
  have ht0 : (0 : Int) ≤ (t : Int) := by omega
  have e2 : IntKind.i64.wrap ((t : Int) + 1) = (t : Int) + 1 := IntWalk.i64_in _ (by omega)
  clear hm
  by_cases htl : t < n
  ·have hto : t < own.length := by rw [HOL.out]; exact htl
   obtain ⟨p', q', e, hcz⟩ := (HO.out wr _ hr).at_ hto
   obtain ⟨rfl, rfl⟩ : p = p' ∧ q = q' := by injection e with e; injection e with e1 e2; exact ⟨e1, e2⟩
   have htl' : (t : Int) < (n : Int) := by omega
   have hdl : decide ((t : Int) < (n : Int)) = true := decide_eq_true htl'
   have HZ := Lib.hid (List.getElem?_eq_getElem hto)
   generalize own[t] = z at *
   by_cases h8 : z = 8
   ·subst h8
    obtain ⟨g', eg, hfr, -, ⟨y, hcy, -⟩, hput⟩ := row_idx hr htl
    obtain rfl : g = g' := by injection eg with e; injection e
    have HP := Lib.hid (hput x)
    have HS := Lib.hid (setRun_step (Nat.le_of_lt hat) x L)
    rw [← HS.out] at HP
    clear hput hr hto htl eg e
    go_wp2_with fail
    go_roundw
    case rel => exact ⟨t + 1, by omega, by omega, by go_num, HP.out, fun i h1 h2 => by
     by_cases e : i = t
     ·rw [e]; exact HZ.out
     ·exact HM.out i h1 (by omega)⟩
    case measure => simp [RowKit.intOf]; omega
   ·have hz8 : (z == 8) = false := by simpa using h8
    have HE := Lib.hid (setRun_end x (by rw [HLL.out, HOL.out]) hat HM.out (.inr ⟨z, HZ.out, h8⟩))
    clear hr hto htl e h8
    go_wp2_with fail
    go_end0
    rw [← HE.out]
    exact ⟨rfl, row_of HB1.out HR.out⟩
  ·obtain rfl : t = n := by omega
   have HE := Lib.hid (setRun_end x (by rw [HLL.out, HOL.out]) hat HM.out (.inl (by rw [HOL.out]; exact Nat.le_refl _)))
   have hdl : decide ((t : Int) < (t : Int)) = false := decide_eq_false (by omega)
   clear hr htl
   go_wp2_with fail
   go_end0
   rw [← HE.out]
   exact ⟨rfl, row_of HB1.out HR.out⟩
end Go.Proofs.YtfclpecbnailgaaGreat.Pb
