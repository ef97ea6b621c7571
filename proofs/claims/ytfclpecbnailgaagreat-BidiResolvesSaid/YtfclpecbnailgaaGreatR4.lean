/-
  Several texts in one, each with its own remark: LvOpen, LvPut, BaMatch, CvKit, BaLevFrame, BaLevel, LvDir.
-/
import Derived.WalkSmall
import Derived.OneCell
import Derived.IntWalk
import Derived.OwnWalk
import Derived.Scope
import Derived.ScopeJumps
import Derived.Carry
import Derived.ProofKit
import Derived.OpenShut
import Derived.Below
import Derived.Lib.Hide
import Derived.WalkKit
import Derived.Shelf.Abstract
import Derived.WalkMore
import Derived.Test.YtfclpecbnailgaaGreatR3
import Derived.Test.YtfclpecbnailgaaGreatR0
import Derived.Test.YtfclpecbnailgaaGreatR2
import Derived.Test.YtfclpecbnailgaaGreatRows

/-
 Proved here: what level.Removed, (*level.opened).tell return and open does to what is open in memory. Condition: what is open is as it may be; counts of at most 2^40.
-/
set_option linter.unusedVariables false
namespace Go.Proofs.YtfclpecbnailgaaGreat.Lv
open Go Go.RowKit Go.Lib Go.Proofs.YtfclpecbnailgaaGreat.Cl
set_option maxHeartbeats 1000000 in
theorem removed_any (c : Int) (w : World) :
  Calls Tryz.prog 119 #[.int .i64 c] w fun x w' => x = .returned (.bool (remB c)) ∧ w = w' := by
 unfold remB
 cases h1 : (c == 16) <;> cases h2 : (c == 14) <;> cases h3 : (c == 17) <;> cases h4 : (c == 15) <;> cases h5 : (c == 18) <;> cases h6 : (c == 9)
 all_goals
  go_enter Tryz.func119, Tryz.ntmps119
  go_wp2
  go_ret
  exact ⟨rfl, rfl⟩
theorem outS_rem {b : Nat} {s : St} {c : Int} (h : remB c = true) : outS b s c = (-1, c) := by
 unfold outS
 rw [if_pos h]
theorem outS_B {b : Nat} {s : St} (h : remB 10 = false) : outS b s 10 = ((b : Int), 10) := by
 unfold outS
 rw [if_neg (by rw [h]; decide), if_pos rfl]
theorem outS_self {b : Nat} {s : St} {c : Int} (h : remB c = false) (ht : c ≠ 10) (ho : (top s.es).ov = -1) : outS b s c = (((top s.es).lev : Int), c) := by
 unfold outS
 rw [if_neg (by rw [h]; decide), if_neg ht, if_pos ho]
theorem outS_over {b : Nat} {s : St} {c : Int} (h : remB c = false) (ht : c ≠ 10) (ho : (top s.es).ov ≠ -1) : outS b s c = (((top s.es).lev : Int), (top s.es).ov) := by
 unfold outS
 rw [if_neg (by rw [h]; decide), if_neg ht, if_neg ho]
theorem tell_new (w : World) (cs : Array Value) (t : TypeId) : (w.alloc (.cells cs t)).heap[w.heap.size]? = some (.cells cs t (0, 0)) := heap_alloc_last w _
set_option maxHeartbeats 1000000 in
set_option maxRecDepth 100000 in
theorem tell_any (c : Int) (b B : Nat) (s : St) (w : World) (hb : b ≤ 1) (hc : Chain b s.es) (hO : OpAt w B s) :
  Calls Tryz.prog 93 #[.pointer (some ⟨B, 0, none⟩), .int .i64 c] w fun x w' => x = .returned (.tuple #[.int .i64 (outS b s c).1, .int .i64 (outS b s c).2]) ∧ Below w.heap.size w w' := by
 have hs := hc.small hb
 have hf := esC_first b hc
 have hB := hO.lt
 obtain ⟨es, li, ld, op⟩ := s
 simp only at *
 cases es with
 | nil => exact hc.elim
 | cons e r =>
  simp only [List.length_cons] at hs
  have HL := Lib.hid (last_any B e r li ld op w hO (by omega))
  obtain ⟨g, cc, h1, h2⟩ := hO
  have hg := (h2.lt g rfl)
  obtain ⟨⟨-, -, c2, -⟩, -⟩ := four h1
  have k0 := (h2.cellAt 0 (by simp)).trans hf
  simp only [List.length_cons] at c2
  obtain ⟨lev, ov, iso⟩ := e
  simp only at HL
  generalize r.length = n at *
  clear h1 h2 hf hc
  cases hR : remB c with
  | true =>
   rw [outS_rem hR]
   have HR := Lib.hid (fun W => removed_any c W)
   rw [hR] at HR
   clear hR
   go_enter Tryz.func93, Tryz.ntmps93
   go_wp2_with fail
   refine HL.out.mono ?_
   rintro x w1 ⟨rfl, hb1⟩
   have hnew := tell_new w1 #[.int .i64 lev, .int .i64 ov, .bool iso] 140
   go_wp2_with fail
   refine (HR.out _).mono ?_
   rintro x w2 ⟨rfl, rfl⟩
   go_wp2
   go_ret2
   exact ⟨rfl, hb1.alloc hb1.size _⟩
  | false =>
   have hRR := hR
   have HR := Lib.hid (fun W => removed_any c W)
   rw [hR] at HR
   clear hR
   by_cases hten : c = 10
   ·subst hten
    rw [outS_B hRR]
    clear hRR
    go_enter Tryz.func93, Tryz.ntmps93
    go_wp2_with fail
    refine HL.out.mono ?_
    rintro x w1 ⟨rfl, hb1⟩
    obtain ⟨o, ho⟩ : ∃ o, (Obj.cells #[.int .i64 lev, .int .i64 ov, .bool iso] 140 (0, 0)) = o := ⟨_, rfl⟩
    have q2 := (cell_alloc w1 o 2 (Nat.lt_of_lt_of_le hB hb1.size)).trans ((hb1.cell (p := ⟨B, 2, none⟩) hB).trans c2)
    have r0 := (cell_alloc w1 o 0 (Nat.lt_of_lt_of_le hg.2 hb1.size)).trans ((hb1.cell (p := ⟨g, 0, none⟩) hg.2).trans k0)
    subst ho
    go_wp2_with fail
    refine (HR.out _).mono ?_
    rintro x w2 ⟨rfl, rfl⟩
    go_wp2
    go_ret2
    exact ⟨rfl, hb1.alloc hb1.size _⟩
   ·have kt : (c == 10) = false := by simpa using hten
    by_cases hov : ov = -1
    ·have ho := outS_self (b := b) (s := ⟨⟨lev, ov, iso⟩ :: r, li, ld, op⟩) hRR hten hov
     rw [ho]
     simp only [top, List.headD_cons]
     subst hov
     clear ho c2 k0 hten hRR
     go_enter Tryz.func93, Tryz.ntmps93
     go_wp2_with fail
     refine HL.out.mono ?_
     rintro x w1 ⟨rfl, hb1⟩
     have hnew := tell_new w1 #[.int .i64 lev, .int .i64 (-1), .bool iso] 140
     obtain ⟨⟨n0, n1, n2⟩, -⟩ := three hnew
     have HB1 := Lib.hid hb1
     clear hnew hb1
     go_wp2_with fail
     refine (HR.out _).mono ?_
     rintro x w2 ⟨rfl, rfl⟩
     go_wp2
     go_ret2
     exact ⟨rfl, HB1.out.alloc HB1.out.size _⟩
    ·have ho := outS_over (b := b) (s := ⟨⟨lev, ov, iso⟩ :: r, li, ld, op⟩) hRR hten hov
     rw [ho]
     simp only [top, List.headD_cons]
     have ko : (ov == -1) = false := by simpa using hov
     clear ho c2 k0 hten hRR hov
     go_enter Tryz.func93, Tryz.ntmps93
     go_wp2_with fail
     refine HL.out.mono ?_
     rintro x w1 ⟨rfl, hb1⟩
     have hnew := tell_new w1 #[.int .i64 lev, .int .i64 ov, .bool iso] 140
     obtain ⟨⟨n0, n1, n2⟩, -⟩ := three hnew
     have HB1 := Lib.hid hb1
     clear hnew hb1
     go_wp2_with fail
     refine (HR.out _).mono ?_
     rintro x w2 ⟨rfl, rfl⟩
     go_wp2_with fail
     go_region
     all_goals
      go_wp2_with fail
      go_ret2
      exact ⟨rfl, (HB1.out.alloc HB1.out.size _).drew⟩
end Go.Proofs.YtfclpecbnailgaaGreat.Lv

/-
 Proved here: what (*level.opened).open does to what is open in memory, what level.paragraph makes. Condition: what is open is as it may be; counts of at most 2^40.
-/
set_option linter.unusedVariables false
namespace Go.Proofs.YtfclpecbnailgaaGreat.Lv
open Go Go.RowKit Go.Lib Go.Proofs.YtfclpecbnailgaaGreat.Cl
theorem openS_any {c : Int} (h : c ≠ 21) (l l' : List Int) (s : St) : openS c l s = openS c l' s := by
 unfold openS
 simp only [if_neg h]
theorem openS_fsi (l : List Int) (s : St) : openS 21 l s = openS (if dirE l = 1 then 20 else 19) [] s := by
 have h := dirE_le l
 unfold openS
 rw [if_neg (by decide), if_neg (by decide), if_neg (by decide), if_neg (by decide), if_neg (by decide), if_neg (by decide), if_pos rfl]
 by_cases h1 : dirE l = 1
 ·rw [if_pos h1, if_neg (by decide), if_neg (by decide), if_neg (by decide), if_neg (by decide), if_pos rfl, h1]
 ·rw [if_neg h1, if_neg (by decide), if_neg (by decide), if_neg (by decide), if_neg (by decide), if_neg (by decide), if_pos rfl]
  have : dirE l = 0 := by omega
  rw [this]
set_option maxHeartbeats 1000000 in
set_option maxRecDepth 100000 in
theorem open_any (c : Int) (hc : c ≠ 21) (b B : Nat) (s : St) (w : World) (hb : b ≤ 1) (hk : Ok b s) (hO : OpAt w B s) (h1 : s.li ≤ 1099511627776) (h2 : s.ld ≤ 1099511627776) (h3 : s.op ≤ 1099511627776) :
  Calls Tryz.prog 95 #[.pointer (some ⟨B, 0, none⟩), .int .i64 c] w fun x w' => x = .returned (.tuple #[]) ∧ OpAt w' B (openS c [] s) ∧ Below (B - 1) w w' := by
 have hmost := hk.chain.most hb
 have hsmall := hk.chain.small hb
 have hpos := hk.chain.pos
 have hB := hO.lt
 have HE := Lib.hid (fun o v W (h : OpAt W B s) => embed_any B o v s W h hmost (by omega) h1 h2)
 have HI := Lib.hid (fun o W (h : OpAt W B s) => isolate_any B o s W h hmost (by omega) h1 h2 h3)
 have HO := Lib.hid hO
 have HOD : Hid (Calls Tryz.prog 131 #[.pointer (some ⟨B, 0, none⟩)] w fun x w' => x = .returned (.int .i64 (nxt 1 (top s.es).lev)) ∧ Below w.heap.size w w') := Lib.hid (by
  obtain ⟨es, li, ld, op⟩ := s
  cases es with
  | nil => simp at hpos
  | cons e r => exact odd_any B e r li ld op w hO (by simp at hsmall; omega) hmost)
 have HEV : Hid (Calls Tryz.prog 132 #[.pointer (some ⟨B, 0, none⟩)] w fun x w' => x = .returned (.int .i64 (nxt 0 (top s.es).lev)) ∧ Below w.heap.size w w') := Lib.hid (by
  obtain ⟨es, li, ld, op⟩ := s
  cases es with
  | nil => simp at hpos
  | cons e r => exact even_any B e r li ld op w hO (by simp at hsmall; omega) hmost)
 clear hk hO hmost hsmall hpos h1 h2 h3
 unfold openS
 by_cases e16 : c = 16
 ·rw [if_pos e16]
  subst e16
  clear hc
  go_enter Tryz.func95, Tryz.ntmps95
  go_wp2_with fail
  refine HOD.out.mono ?_
  rintro x w1 ⟨rfl, hb1⟩
  have ho1 := HO.out.below hb1
  have HB1 := Lib.hid (hb1.mono (B' := B - 1) (by omega))
  have HC := Lib.hid (HE.out 1 (-1) w1 ho1)
  clear ho1 hb1
  go_wp2_with fail
  refine HC.out.mono ?_
  rintro x w2 ⟨rfl, ho2, hb2⟩
  go_wp2
  go_end0
  exact ⟨rfl, ho2, HB1.out.trans hb2⟩
 rw [if_neg e16]
 have k16 : (c == 16) = false := by simpa using e16
 by_cases e14 : c = 14
 ·rw [if_pos e14]
  subst e14
  clear hc
  go_enter Tryz.func95, Tryz.ntmps95
  go_wp2_with fail
  refine HEV.out.mono ?_
  rintro x w1 ⟨rfl, hb1⟩
  have ho1 := HO.out.below hb1
  have HB1 := Lib.hid (hb1.mono (B' := B - 1) (by omega))
  have HC := Lib.hid (HE.out 0 (-1) w1 ho1)
  clear ho1 hb1
  go_wp2_with fail
  refine HC.out.mono ?_
  rintro x w2 ⟨rfl, ho2, hb2⟩
  go_wp2
  go_end0
  exact ⟨rfl, ho2, HB1.out.trans hb2⟩
 rw [if_neg e14]
 have k14 : (c == 14) = false := by simpa using e14
 by_cases e17 : c = 17
 ·rw [if_pos e17]
  subst e17
  clear hc
  go_enter Tryz.func95, Tryz.ntmps95
  go_wp2_with fail
  refine HOD.out.mono ?_
  rintro x w1 ⟨rfl, hb1⟩
  have ho1 := HO.out.below hb1
  have HB1 := Lib.hid (hb1.mono (B' := B - 1) (by omega))
  have HC := Lib.hid (HE.out 1 1 w1 ho1)
  clear ho1 hb1
  go_wp2_with fail
  refine HC.out.mono ?_
  rintro x w2 ⟨rfl, ho2, hb2⟩
  go_wp2
  go_end0
  exact ⟨rfl, ho2, HB1.out.trans hb2⟩
 rw [if_neg e17]
 have k17 : (c == 17) = false := by simpa using e17
 by_cases e15 : c = 15
 ·rw [if_pos e15]
  subst e15
  clear hc
  go_enter Tryz.func95, Tryz.ntmps95
  go_wp2_with fail
  refine HEV.out.mono ?_
  rintro x w1 ⟨rfl, hb1⟩
  have ho1 := HO.out.below hb1
  have HB1 := Lib.hid (hb1.mono (B' := B - 1) (by omega))
  have HC := Lib.hid (HE.out 0 0 w1 ho1)
  clear ho1 hb1
  go_wp2_with fail
  refine HC.out.mono ?_
  rintro x w2 ⟨rfl, ho2, hb2⟩
  go_wp2
  go_end0
  exact ⟨rfl, ho2, HB1.out.trans hb2⟩
 rw [if_neg e15]
 have k15 : (c == 15) = false := by simpa using e15
 by_cases e20 : c = 20
 ·rw [if_pos e20]
  subst e20
  clear hc
  go_enter Tryz.func95, Tryz.ntmps95
  go_wp2_with fail
  refine HOD.out.mono ?_
  rintro x w1 ⟨rfl, hb1⟩
  have ho1 := HO.out.below hb1
  have HB1 := Lib.hid (hb1.mono (B' := B - 1) (by omega))
  have HC := Lib.hid (HI.out 1 w1 ho1)
  clear ho1 hb1
  go_wp2_with fail
  refine HC.out.mono ?_
  rintro x w2 ⟨rfl, ho2, hb2⟩
  go_wp2
  go_end0
  exact ⟨rfl, ho2, HB1.out.trans hb2⟩
 rw [if_neg e20]
 have k20 : (c == 20) = false := by simpa using e20
 by_cases e19 : c = 19
 ·rw [if_pos e19]
  subst e19
  clear hc
  go_enter Tryz.func95, Tryz.ntmps95
  go_wp2_with fail
  refine HEV.out.mono ?_
  rintro x w1 ⟨rfl, hb1⟩
  have ho1 := HO.out.below hb1
  have HB1 := Lib.hid (hb1.mono (B' := B - 1) (by omega))
  have HC := Lib.hid (HI.out 0 w1 ho1)
  clear ho1 hb1
  go_wp2_with fail
  refine HC.out.mono ?_
  rintro x w2 ⟨rfl, ho2, hb2⟩
  go_wp2
  go_end0
  exact ⟨rfl, ho2, HB1.out.trans hb2⟩
 rw [if_neg e19]
 have k19 : (c == 19) = false := by simpa using e19
 rw [if_neg hc]
 go_enter Tryz.func95, Tryz.ntmps95
 go_wp2
 go_end0
 exact ⟨rfl, HO.out, Below.refl _ _⟩
set_option maxHeartbeats 1000000 in
set_option maxRecDepth 100000 in
theorem paragraph_any (b : Nat) (w : World) :
  Calls Tryz.prog 91 #[.int .i64 b] w fun x w' => x = .returned (.pointer (some ⟨w.heap.size + 1, 0, none⟩)) ∧ OpAt w' (w.heap.size + 1) (startS b) ∧ Below w.heap.size w w' := by
 go_enter Tryz.func91, Tryz.ntmps91
 go_wp2_with fail
 go_ret
 obtain ⟨o1, ho1⟩ : ∃ o, (Obj.cells #[.int .i64 b, .int .i64 (-1), .bool false] 140 (0, 0)) = o := ⟨_, rfl⟩
 have h1 := heap_alloc_last w o1
 have hs : (w.alloc o1).heap.size = w.heap.size + 1 := by simp
 refine ⟨rfl, ⟨w.heap.size, 1, ?_, ?_⟩, ((Below.refl _ _).alloc (Nat.le_refl _) _).alloc (by simp) _⟩
 ·have h2 := heap_alloc_last (w.alloc (.cells #[.int .i64 b, .int .i64 (-1), .bool false] 140 (0, 0))) (.cells #[.int .i64 0, .int .i64 0, .slice (some ⟨w.heap.size, 0, none⟩) 1 1, .int .i64 0] 145 (0, 0))
  rw [show (w.alloc (.cells #[.int .i64 b, .int .i64 (-1), .bool false] 140 (0, 0))).heap.size = w.heap.size + 1 from by simp] at h2
  exact h2
 ·refine ⟨rfl, .inr ⟨w.heap.size, 1, #[.int .i64 b, .int .i64 (-1), .bool false], rfl, by simp, (Below.heap_alloc _ _ _ (by simp)).trans (heap_alloc_last _ _), Nat.le_refl _, by unfold maxLen; omega, rfl, rfl⟩⟩
end Go.Proofs.YtfclpecbnailgaaGreat.Lv

/-
 Proved here: what base.Match returns, for every row of numbers of at most 2^40: a new row, by the plain matchL. It leaves what was in memory.
-/
set_option linter.unusedVariables false
namespace Go.Proofs.YtfclpecbnailgaaGreat.Ba
open Go.RowKit Go.Lib Go.Proofs.YtfclpecbnailgaaGreat.Cl
/-- A row of ints by a function of the place. -/
def rowF (n : Nat) (F : Nat → Int) : List Value := (List.range n).map fun i => .int .i64 (F i)
def upd (F : Nat → Int) (k : Nat) (z : Int) : Nat → Int := fun i => if i = k then z else F i
theorem rowF_len (n : Nat) (F : Nat → Int) : (rowF n F).length = n := by simp [rowF]
theorem rowF_at (n : Nat) (F : Nat → Int) (k : Nat) (hk : k < n) : (rowF n F)[k]? = some (.int .i64 (F k)) := by simp [rowF, hk]
theorem rowF_set (n : Nat) (F : Nat → Int) (k : Nat) (z : Int) : (rowF n F).set k (.int .i64 z) = rowF n (upd F k z) := by
 apply List.ext_getElem?
 intro j
 by_cases hj : j < n
 ·rw [rowF_at _ _ _ hj, List.getElem?_set]
  by_cases e : k = j
  ·subst e
   simp [rowF_len, hj, upd]
  ·rw [if_neg e, rowF_at _ _ _ hj]
   simp only [upd]
   rw [if_neg (fun h => e h.symm)]
 ·rw [List.getElem?_eq_none (by rw [List.length_set, rowF_len]; omega), List.getElem?_eq_none (by rw [rowF_len]; omega)]
theorem rowF_ext {n : Nat} {F G : Nat → Int} (h : ∀ i, i < n → F i = G i) : rowF n F = rowF n G := by
 unfold rowF
 apply List.map_congr_left
 intro i hi
 rw [h i (List.mem_range.1 hi)]
theorem rowF_zero (n : Nat) : rowF n (fun _ => 0) = List.replicate n (.int .i64 0) := by
 apply List.ext_getElem?
 intro j
 by_cases hj : j < n
 ·simp [rowF, hj]
 ·simp [rowF, hj]
/-- What the row holds behind so many classes. -/
def FK (l : List Int) (k : Nat) : Nat → Int := fun i => if i < k then mtK l k i else 0
theorem FK_zero (l : List Int) (n : Nat) : rowF n (FK l 0) = List.replicate n (.int .i64 0) := by
 rw [← rowF_zero]
 exact rowF_ext fun i _ => by simp [FK]
theorem FK_all (l : List Int) : rowF l.length (FK l l.length) = (matchL l).map (.int .i64) := by
 unfold rowF matchL
 rw [List.map_map]
 apply List.map_congr_left
 intro i hi
 simp only [FK, Function.comp]
 rw [if_pos (List.mem_range.1 hi)]
theorem FK_other {l : List Int} {k i : Nat} (hik : i ≠ k) (h : ∀ hl : i < l.length, isI l[i] = true → endAt l i ≠ k) : FK l (k + 1) i = FK l k i := by
 unfold FK
 by_cases hi : i < k
 ·rw [if_pos hi, if_pos (by omega), mtK_step h]
 ·rw [if_neg hi, if_neg (by omega)]
theorem FK_I {l : List Int} {k : Nat} (hk : k < l.length) (hi : isI l[k] = true) : rowF l.length (upd (upd (FK l k) k (-1)) k l.length) = rowF l.length (FK l (k + 1)) := by
 refine rowF_ext fun i hin => ?_
 simp only [upd]
 by_cases e : i = k
 ·subst e
  rw [if_pos rfl]
  unfold FK
  have := endAt_gt l i
  rw [if_pos (by omega), mtK_I hk hi (by omega)]
 ·rw [if_neg e, if_neg e, FK_other e]
  intro hl hil he
  obtain ⟨r, hs⟩ := ends_only hk hl hil he
  have hp := endAt_P l i (by omega)
  simp only [he] at hp
  rw [isI_not_isP hi] at hp
  cases hp
theorem FK_N {l : List Int} {k : Nat} (hk : k < l.length) (hp : isP l[k] = false) (hi : isI l[k] = false) : rowF l.length (upd (FK l k) k (-1)) = rowF l.length (FK l (k + 1)) := by
 refine rowF_ext fun i hin => ?_
 simp only [upd]
 by_cases e : i = k
 ·subst e
  rw [if_pos rfl]
  unfold FK
  rw [if_pos (by omega), mt_N hk hp hi]
 ·rw [if_neg e, FK_other e]
  intro hl hil he
  have hp' := endAt_P l i (by omega)
  simp only [he] at hp'
  rw [hp] at hp'
  cases hp'
theorem FK_P0 {l : List Int} {k : Nat} (hk : k < l.length) (hp : isP l[k] = true) (hs : stk l k = []) : rowF l.length (upd (FK l k) k (-1)) = rowF l.length (FK l (k + 1)) := by
 refine rowF_ext fun i hin => ?_
 simp only [upd]
 by_cases e : i = k
 ·subst e
  rw [if_pos rfl]
  unfold FK
  rw [if_pos (by omega), mt_P hk hp, hs]
 ·rw [if_neg e, FK_other e]
  intro hl hil he
  obtain ⟨r, hr⟩ := ends_only hk hl hil he
  rw [hs] at hr
  cases hr
theorem FK_P {l : List Int} {k t : Nat} {r : List Nat} (hk : k < l.length) (hp : isP l[k] = true) (hs : stk l k = t :: r) : rowF l.length (upd (upd (upd (FK l k) k (-1)) k t) t k) = rowF l.length (FK l (k + 1)) := by
 obtain ⟨h1, h2, h3⟩ := ends_top hk hp hs
 refine rowF_ext fun i hin => ?_
 simp only [upd]
 by_cases e : i = t
 ·subst e
  rw [if_pos rfl]
  unfold FK
  rw [List.getElem?_eq_getElem hin] at h3
  rw [if_pos (by omega), mtK_Ilt hin (by simpa using h3) (by omega), h1]
 ·rw [if_neg e]
  by_cases e2 : i = k
  ·subst e2
   rw [if_pos rfl]
   unfold FK
   rw [if_pos (by omega), mt_P hk hp, hs]
  ·rw [if_neg e2, if_neg e2, FK_other e2]
   intro hl hil he
   obtain ⟨r', hr⟩ := ends_only hk hl hil he
   rw [hs] at hr
   injection hr with hr _
   exact e hr.symm
/-- The cells of the stack. -/
def stkC (s : List Nat) : List Value := s.reverse.map fun (t : Nat) => Value.int .i64 (t : Int)
theorem stkC_len (s : List Nat) : (stkC s).length = s.length := by simp [stkC]
theorem stkC_cons (t : Nat) (r : List Nat) : stkC (t :: r) = stkC r ++ [.int .i64 (t : Int)] := by simp [stkC]
theorem own_form {w : World} {base : Nat} {e : TypeId} {size : Nat} {v : Value} {n : Nat} {xs : List Value} (h : w.ownsRow base e size v n xs) : ∃ A c, v = .slice A n c := by
 rcases h.2 with ⟨rfl, rfl⟩ | ⟨g, cap, cur, rfl, _⟩
 ·exact ⟨_, _, rfl⟩
 ·exact ⟨_, _, rfl⟩
theorem cell_one_new' {w : World} {B : Nat} {v : Value} {t : TypeId} (h : w.heap.size = B) : ∀ j u, [v][j]? = some u → (w.alloc (.cells #[v] t)).cell? ((⟨B, 0, none⟩ : Addr).add j) = some u := by
 subst h
 exact cell_one_new _ _ _
theorem ints_single (z : Int) : ∀ u ∈ [Value.int .i64 z], u.oneCell' = true := by
 intro u hu
 simp only [List.mem_singleton] at hu
 subst hu
 rfl
set_option maxHeartbeats 2000000 in
set_option maxRecDepth 100000 in
theorem match_any (A : Option Addr) (l : List Int) (n c : Nat) (w : World) (hl : l.length = n) (hR : IntsAt w A l) (hn : n ≤ 1099511627776) :
  Calls Tryz.prog 90 #[.slice A n c] w fun e w' => ∃ g, e = .returned (.slice (some ⟨g, 0, none⟩) n n) ∧ w'.ownsRow w.heap.size 3 1 (.slice (some ⟨g, 0, none⟩) n n) n ((matchL l).map (.int .i64)) ∧ Below w.heap.size w w' := by
 obtain ⟨i0, hi, hz0, hzs, hzb⟩ := Cl.info_parts Cl.infoInt
 have HR := Lib.hid hR
 have HL := Lib.hid hl
 have HI := Lib.hid hi
 have HQ0 := Lib.hid hz0
 have HQ1 := Lib.hid hzs
 have HQ2 := Lib.hid hzb
 have HALL := Lib.hid (show rowF n (FK l n) = (matchL l).map (.int .i64) by rw [← hl]; exact FK_all l)
 have HNONE := Lib.hid (FK_zero l n)
 clear hR hl hi hz0 hzs hzb
 go_enter Tryz.func90, Tryz.ntmps90
 go_wp2_with (refine wpList_make_full _ rfl _ _ 25 rfl w.heap.size 3 i0 (.int .i64 0) 1 Tryz.underlying25 HI.out HQ0.out HQ1.out .i64 .i64 _ _ n rfl rfl rfl rfl ?c1 ?c2 ?c3 ?_)
 case c1 => rw [HQ2.out]; omega
 case c2 => unfold maxLen; omega
 case c3 => exact Nat.le_refl _
 intro w4 hown hgrow
 have hown1 : w4.ownsRow w.heap.size 3 1 (.slice (some ⟨w.heap.size, 0, none⟩) n n) n (rowF n (FK l 0)) := by
  have h := hown
  rw [toList_madeCells_one] at h
  rw [HNONE.out]
  exact h
 have hb4 : Below w.heap.size w w4 := (Below.refl _ _).grown hgrow (Nat.le_refl _) (fun k h => by cases h)
 have hg4 : w.heap.size < w4.heap.size := (hown1.lt _ rfl).2
 have HO := Lib.hid hown1
 have HB4 := Lib.hid hb4
 clear hown hgrow hown1 hb4
 generalize hg : w.heap.size = g at *
 have HG0 := Lib.hid hg
 clear hg
 go_wp2_with fail
 go_loopw [4, 12] (fun s4 s12 wx => ∃ k : Nat, k ≤ n ∧ s12 = .int .i64 k ∧ Below g w wx ∧ g < wx.heap.size ∧ wx.ownsRow g 3 1 (.slice (some ⟨g, 0, none⟩) n n) n (rowF n (FK l k)) ∧ wx.ownsRow (g + 1) 3 1 s4 (stk l k).length (stkC (stk l k))) (fun _ s12 _ => n - (RowKit.intOf s12).toNat)
 case atStart => exact ⟨0, Nat.zero_le _, rfl, HB4.out, hg4, HO.out, World.ownsRow_nil _ _ _ _⟩
 case round =>
  obtain ⟨k, hk, rfl, hb, hgx, hown, hstk⟩ := hrel
  have HB := Lib.hid hb
  have HW := Lib.hid hown
  have HS := Lib.hid hstk
  clear hb hown hstk HO HB4
  by_cases hlt : k < n
  ·have hkl : k < l.length := by rw [HL.out]; exact hlt
   obtain ⟨b, off, rfl, hc0⟩ := HR.out.at_ hkl
   have hbg : b < g := by
    have := World.block_lt_of_cell? w _ hc0
    rw [HG0.out] at this
    exact this
   have hlen := stk_len l k
   have hc1 : (wr.setCell ⟨g, k, none⟩ (.int .i64 (-1))).cell? ⟨b, off + k, none⟩ = some (.int .i64 l[k]) := by
    rw [World.cell?_of_block (w := wr) (Below.heap_setCell _ _ _ _ (by simp; omega)), HB.out.cell hbg]
    exact hc0
   have hcell := (HW.out.cellAt k (by omega)).trans (rowF_at n _ k hlt)
   have hfrz := HW.out.frozenAt k
   have hown1 := (HW.out.stored k (.int .i64 (-1))).1
   rw [rowF_set] at hown1
   have HW1 := Lib.hid hown1
   have HS1 := Lib.hid (ownsRow_setCell_below HS.out (a := ⟨g, k, none⟩) (by simp) (.int .i64 (-1)))
   have hcell1 := (hown1.cellAt k (by omega)).trans (rowF_at n _ k hlt)
   have hfrz1 := hown1.frozenAt k
   obtain ⟨SA, sc, rfl⟩ := own_form HS.out
   clear hc0 hown1
   have hNI := fun h1 h2 => FK_N (l := l) hkl h1 h2
   have hII := fun h1 => FK_I (l := l) hkl h1
   have hP0 := fun h1 h2 => FK_P0 (l := l) hkl h1 h2
   have hPP := fun h1 t r h2 => FK_P (l := l) (t := t) (r := r) hkl h1 h2
   have hsI := fun h1 => stk_I (l := l) hkl h1
   have hsP := fun h1 => stk_P (l := l) hkl h1
   have hsN := fun h1 h2 => stk_N (l := l) hkl h1 h2
   have hsm := fun t r h1 h2 => ends_top (l := l) (t := t) (r := r) hkl h1 h2
   rw [HL.out] at hNI hII hP0 hPP
   have HNI := Lib.hid hNI
   have HII := Lib.hid hII
   have HP0 := Lib.hid hP0
   have HPP := Lib.hid hPP
   have HSI := Lib.hid hsI
   have HSP := Lib.hid hsP
   have HSN := Lib.hid hsN
   have HSM := Lib.hid hsm
   clear hNI hII hP0 hPP hsI hsP hsN hsm
   generalize hcc : l[k] = c at *
   have HCC := Lib.hid hcc
   clear hcc
   by_cases hIs : isI c = true
   ·have hcs : c = 19 ∨ c = 20 ∨ c = 21 := by simpa [isI] using hIs
    have hII := HII.out hIs
    have hsI := HSI.out hIs
    have HII' := Lib.hid hII
    have HSI' := Lib.hid hsI
    clear hII hsI HII HSI HNI HP0 HPP HSP HSN HSM hIs
    have HW2 := Lib.hid (HW1.out.stored k (.int .i64 n)).1
    have HS2 := Lib.hid (ownsRow_setCell_below HS1.out (a := ⟨g, k, none⟩) (by simp) (.int .i64 n))
    rcases hcs with rfl | rfl | rfl
    all_goals
     go_wp2_with (at_builtin; refine wpList_append_own _ rfl _ _ 25 rfl (g + 1) 3 i0 (.int .i64 0) 1 8 Tryz.underlying25 HI.out HQ0.out HQ1.out HQ2.out rfl (by decide) _ _ _ rfl (HS2.out.alloc _) ⟨wr.heap.size, 0, none⟩ 1 1 [.int .i64 (k : Int)] rfl rfl (cell_one_new' (by simp)) (ints_single _) (by unfold maxLen; omega) (by omega) (by simp; omega) ?_)
     intro v' w5 hown' hgrow _
     have HG := Lib.hid hgrow
     have HO' := Lib.hid hown'
     clear hgrow hown'
     go_wp2
     go_roundw
     case measure => simp [RowKit.intOf]; omega
     case rel =>
      have hlt2 := HS2.out.lt
      have hbb := ((((HB.out.setCell (p := ⟨g, k, none⟩) (Nat.le_refl _) (.int .i64 (-1))).setCell (p := ⟨g, k, none⟩) (Nat.le_refl _) (.int .i64 n)).alloc (by simp; omega) _).grown HG.out (by simp; omega) (fun x hx => by have := (hlt2 x hx).1; omega))
      refine ⟨k + 1, by omega, by go_num, hbb, ?_, ?_, ?_⟩
      ·have := HG.out.size; simp at this; omega
      ·have h0 := (HW2.out.alloc _).kept HG.out (Or.inr (fun e => by have := (hlt2 g e.symm).1; omega))
       rw [rowF_set, HII'.out] at h0
       exact h0
      ·rw [HSI'.out, stkC_cons]
       exact HO'.out
   ·have hIf : isI c = false := by simpa using hIs
    by_cases hPs : isP c = true
    ·obtain rfl : c = 22 := by simpa [isP] using hPs
     cases hs : stk l k with
     | nil =>
      have hP0 := HP0.out hPs hs
      have hsP := HSP.out hPs
      rw [hs] at hsP
      have HP0' := Lib.hid hP0
      have HSP' := Lib.hid hsP
      have h0 := HS1.out
      rw [hs] at h0
      have HS0 := Lib.hid h0
      clear hP0 hsP HII HSI HNI HP0 HPP HSP HSN HSM hIs hPs hIf h0 hlen HS HS1
      rw [List.length_nil]
      clear hs
      go_wp2
      go_roundw
      case measure => simp [RowKit.intOf]; omega
      case rel =>
       refine ⟨k + 1, by omega, by go_num, HB.out.setCell (p := ⟨g, k, none⟩) (Nat.le_refl _) _, by simp; omega, ?_, ?_⟩
       ·rw [← HP0'.out]
        exact HW1.out
       ·rw [HSP'.out]
        exact HS0.out
     | cons t r =>
      obtain ⟨he, htk, hti⟩ := HSM.out t r hPs hs
      have hPP := HPP.out hPs t r hs
      have hsP := HSP.out hPs
      rw [hs] at hsP
      have HPP' := Lib.hid hPP
      have HSP' := Lib.hid hsP
      have h0 := HS1.out
      rw [hs] at h0 hlen
      simp only [List.length_cons] at hlen
      rw [stkC_cons, List.length_cons] at h0
      obtain ⟨sg, sd, hse, hsg, hsl⟩ := h0.form (by omega)
      rw [List.length_cons]
      injection hse with e1 e2 e3
      subst e1 e3
      have hne : sg ≠ g := by omega
      have htop := (h0.cellAt r.length (by omega)).trans (by rw [List.getElem?_append_right (by rw [stkC_len]; exact Nat.le_refl _), stkC_len, Nat.sub_self]; rfl : _ = some (Value.int .i64 (t : Int)))
      have htop2 : ((wr.setCell ⟨g, k, none⟩ (.int .i64 (-1))).setCell ⟨g, k, none⟩ (.int .i64 t)).cell? ⟨sg, r.length, none⟩ = some (.int .i64 (t : Int)) := by
       rw [World.cell?_of_block (w := wr.setCell ⟨g, k, none⟩ (.int .i64 (-1))) (Below.heap_setCell _ _ _ _ (by simpa using hne))]
       exact htop
      have hw2 := (HW1.out.stored k (.int .i64 t)).1
      rw [rowF_set] at hw2
      have hcell2 := (hw2.cellAt t (by omega)).trans (rowF_at n _ t (by omega))
      have hfrz2 := hw2.frozenAt t
      have hw3 := (hw2.stored t (.int .i64 k)).1
      rw [rowF_set, HPP'.out] at hw3
      have HW3 := Lib.hid hw3
      have HS3 := Lib.hid (ownsRow_pop (by rw [stkC_len]; omega) (ownsRow_setCell_below (ownsRow_setCell_below h0 (a := ⟨g, k, none⟩) (by simp) (.int .i64 t)) (a := ⟨g, t, none⟩) (by simp) (.int .i64 k)))
      have hcap : r.length + 1 ≤ sc := by
       rcases h0.2 with ⟨h1, _⟩ | ⟨g1, c1, cur, hv, _, _, hle, _⟩
       ·cases h1
       ·cases hv; omega
      clear hPP hsP HII HSI HNI HP0 HPP HSP HSN HSM hIs hPs hIf h0 HS HS1 hw2 hw3 hs he
      go_wp2
      go_roundw
      case measure => simp [RowKit.intOf]; omega
      case rel =>
       refine ⟨k + 1, by omega, by go_num, ((HB.out.setCell (p := ⟨g, k, none⟩) (Nat.le_refl _) _).setCell (p := ⟨g, k, none⟩) (Nat.le_refl _) _).setCell (p := ⟨g, t, none⟩) (Nat.le_refl _) _, by simp; omega, ?_, ?_⟩
       ·exact HW3.out
       ·rw [HSP'.out]
        exact HS3.out
    ·have hPf : isP c = false := by simpa using hPs
     have hNI := HNI.out hPf hIf
     have hsN := HSN.out hPf hIf
     have HNI' := Lib.hid hNI
     have HSN' := Lib.hid hsN
     have c1 : (c == 19) = false := by simp [isI] at hIf; simp; omega
     have c2 : (c == 20) = false := by simp [isI] at hIf; simp; omega
     have c3 : (c == 21) = false := by simp [isI] at hIf; simp; omega
     have c4 : (c == 22) = false := by simpa [isP] using hPf
     clear hNI hsN HII HSI HNI HP0 HPP HSP HSN HSM hIs hPs hIf hPf
     go_wp2
     go_roundw
     case measure => simp [RowKit.intOf]; omega
     case rel =>
      refine ⟨k + 1, by omega, by go_num, HB.out.setCell (p := ⟨g, k, none⟩) (Nat.le_refl _) _, by simp; omega, ?_, ?_⟩
      ·rw [← HNI'.out]
       exact HW1.out
      ·rw [HSN'.out]
       exact HS1.out
  ·obtain rfl : k = n := by omega
   go_wp2
   go_ret
   have h0 := HW.out
   rw [HALL.out] at h0
   exact ⟨g, rfl, by rw [HG0.out]; exact h0, by rw [HG0.out]; exact HB.out⟩
end Go.Proofs.YtfclpecbnailgaaGreat.Ba

/-
 A scope in which the run jumps to several labels: what holds at each, and a measure that every pass from a label lowers. No program in it.
-/
set_option linter.unusedVariables false
namespace Go.Proofs.YtfclpecbnailgaaGreat.Cv
open Go Go.RowKit
/-- By a goto to a label: J of it; else as Q. -/
def jumps (J : Nat → Act → World → Prop) (Q : Exit → Act → World → Prop) : Exit → Act → World → Prop
 | .goto l, a, w => J l a w
 | e, a, w => Q e a w
section
variable {P : Program} {a : Act} {w : World} {Q : Exit → Act → World → Prop}
theorem wp_scope_many {c : Code} (J : Nat → Act → World → Prop) (μ : Nat → Act → World → Nat)
  (first : c.wp P (jumps J Q) a w)
  (pass : ∀ l a w, J l a w → ∃ rest, findLabel c l = some rest ∧ rest.wp P (jumps (fun l' a' w' => J l' a' w' ∧ μ l' a' w' < μ l a w) Q) a w) : (Code.scope c).wp P Q a w := by
 intro b k cs
 have hg : ∀ l rest, findLabel c l = some rest → gotoIn l (.inScope c :: k) = some (.code rest :: .inScope c :: k) := fun l rest h => by simp [gotoIn, h]
 have key : ∀ n l a w rest, μ l a w = n → J l a w → findLabel c l = some rest → ∃ e a' w', Q e a' w' ∧ Arrives P (lone (b.at a (.code rest :: .inScope c :: k)) cs w) b k cs e a' w' := by
  intro n
  induction n using Nat.strongRecOn with
  | _ n ih =>
   intro l a w rest hn hJ hfl
   obtain ⟨rest', hf, hp⟩ := pass l a w hJ
   rw [hfl] at hf
   injection hf with hf
   subst hf
   obtain ⟨e, a₁, w₁, hq, harr⟩ := hp b (.inScope c :: k) cs
   cases e with
   | normal => exact ⟨.normal, a₁, w₁, hq, Steps.trans harr (.one step_inScope)⟩
   | exit id => exact ⟨.exit id, a₁, w₁, hq, fun k' hk => harr k' (by simp [exitTo, hk])⟩
   | goto l' =>
    obtain ⟨hJ', hlt⟩ := hq
    obtain ⟨rest₂, hf₂, _⟩ := pass l' a₁ w₁ hJ'
    obtain ⟨e₂, a₂, w₂, hq₂, harr₂⟩ := ih _ (by omega) l' a₁ w₁ rest₂ rfl hJ' hf₂
    exact ⟨e₂, a₂, w₂, hq₂, .of_steps (harr _ (hg l' rest₂ hf₂)) harr₂⟩
   | ret => exact ⟨_, a₁, w₁, hq, harr⟩
   | panic ch => exact ⟨_, a₁, w₁, hq, harr⟩
   | outgrown => exact ⟨_, a₁, w₁, hq, harr⟩
 obtain ⟨e, a₁, w₁, hq, harr⟩ := first b (.inScope c :: k) cs
 cases e with
 | normal => exact ⟨.normal, a₁, w₁, hq, .head step_scope (Steps.trans harr (.one step_inScope))⟩
 | exit id => exact ⟨.exit id, a₁, w₁, hq, fun k' hk => .head step_scope (harr k' (by simp [exitTo, hk]))⟩
 | goto l' =>
  obtain ⟨rest₂, hf₂, _⟩ := pass l' a₁ w₁ hq
  obtain ⟨e₂, a₂, w₂, hq₂, harr₂⟩ := key _ l' a₁ w₁ rest₂ rfl hq hf₂
  exact ⟨e₂, a₂, w₂, hq₂, .of_steps (.head step_scope (harr _ (hg l' rest₂ hf₂))) harr₂⟩
 | ret => exact ⟨_, a₁, w₁, hq, .of_steps (.one step_scope) harr⟩
 | panic ch => exact ⟨_, a₁, w₁, hq, .of_steps (.one step_scope) harr⟩
 | outgrown => exact ⟨_, a₁, w₁, hq, .of_steps (.one step_scope) harr⟩
end
end Go.Proofs.YtfclpecbnailgaaGreat.Cv

/-
 The frame of base.Level at its label: which slots are known there; the others are a row of values.
-/
set_option linter.unusedVariables false
namespace Go.Proofs.YtfclpecbnailgaaGreat.Ba
open Go Go.RowKit
structure FitBaLev (t : Act) (s a o : Value) : Prop where
 size : t.tmps.size = 36
 defers : t.defers = []
 s0 : t.tmps.getD 0 undef = s
 s4 : t.tmps.getD 4 undef = a
 s5 : t.tmps.getD 5 undef = o
theorem list_range_BaLev (l : List Value) : l = (List.range l.length).map fun i => l.getD i undef := by
 apply List.ext_getElem
 ·simp
 ·intro i h1 h2
  simp [h1]
theorem FitBaLev.opened {t : Act} {s a o : Value} (h : FitBaLev t s a o) : ∃ g : Nat → Value, t = ⟨#[s, g 1, g 2, g 3, a, o, g 6, g 7, g 8, g 9, g 10, g 11, g 12, g 13, g 14, g 15, g 16, g 17, g 18, g 19, g 20, g 21, g 22, g 23, g 24, g 25, g 26, g 27, g 28, g 29, g 30, g 31, g 32, g 33, g 34, g 35], []⟩ := by
 obtain ⟨hs, hd, h0, h4, h5⟩ := h
 obtain ⟨⟨l⟩, d⟩ := t
 simp only at hd hs
 subst hd
 have hl : l.length = 36 := hs
 have e := list_range_BaLev l
 rw [hl] at e
 have e0 : l.getD 0 undef = s := by rw [← h0]; simp [Array.getD, List.getD, hl]
 have e4 : l.getD 4 undef = a := by rw [← h4]; simp [Array.getD, List.getD, hl]
 have e5 : l.getD 5 undef = o := by rw [← h5]; simp [Array.getD, List.getD, hl]
 generalize hg : (fun i => l.getD i undef) = g at e
 have c0 : g 0 = s := by rw [← hg]; exact e0
 have c4 : g 4 = a := by rw [← hg]; exact e4
 have c5 : g 5 = o := by rw [← hg]; exact e5
 refine ⟨g, ?_⟩
 rw [e, ← c0, ← c4, ← c5]
 rfl
end Go.Proofs.YtfclpecbnailgaaGreat.Ba

/-
 Proved here: what base.Level returns, for every row of numbers of at most 2^40: the plain levL. It leaves what was in memory.
-/
set_option linter.unusedVariables false
namespace Go.Proofs.YtfclpecbnailgaaGreat.Ba
open Go Go.RowKit Go.Lib Go.Proofs.YtfclpecbnailgaaGreat.Cl Go.Proofs.YtfclpecbnailgaaGreat.Cv
/-- A scope with one label: the way to it, and each pass from it, walked once. -/
theorem wp_scope_again {P : Program} {c rest : Code} {a : Act} {w : World} {Q : Exit → Act → World → Prop} (l : Nat) (J : Act → World → Prop) (μ : Act → World → Nat) (hf : findLabel c l = some (Code.skip.seq rest))
  (first : (∀ a w, J a w → rest.wp P (Exit.jump l J Q) a w) → c.wp P (Exit.jump l J Q) a w)
  (pass : ∀ a w, J a w → rest.wp P (Exit.jump l (fun a' w' => J a' w' ∧ μ a' w' < μ a w) Q) a w) : (Code.scope c).wp P Q a w :=
 wp_scope_jumps l J μ hf (first fun a w h => wp_mono (pass a w h) (fun e a' w' he => by
  cases e <;> first | exact ⟨he.1, he.2.1⟩ | exact he)) (fun a w h => wp_seq (wp_skip (pass a w h)))
set_option maxHeartbeats 2000000 in
set_option maxRecDepth 100000 in
theorem level_any (A : Option Addr) (l : List Int) (n m : Nat) (w : World) (hl : l.length = n) (hR : IntsAt w A l) (hn : n ≤ 1099511627776) :
  Calls Tryz.prog 129 #[.slice A n m] w fun e w' => e = .returned (.tuple #[.int .i64 (levL l 0).1, .bool (levL l 0).2]) ∧ w = w' := by
 obtain ⟨x, hx⟩ : ∃ x, levL l 0 = x := ⟨_, rfl⟩
 rw [hx]
 have HX := Lib.hid (show levL (l.drop 0) 0 = x by rw [List.drop_zero]; exact hx)
 have HR := Lib.hid hR
 have HL := Lib.hid hl
 clear hx hR hl
 go_enter Tryz.func129, Tryz.ntmps129
 go_wp2
 refine wp_scope_again 0 (fun a' w' => ∃ k d : Nat, FitBaLev a' (.slice A n m) (.int .i64 k) (.int .i64 d) ∧ k ≤ n ∧ d ≤ k ∧ levL (l.drop k) d = x ∧ w = w') (fun a' _ => n - (RowKit.intOf (a'.tmps.getD 4 undef)).toNat) rfl ?_ ?_
 ·intro hgo
  go_wp2
  go_step3
  rename_i hK
  refine hK _ _ (hgo _ _ ?_)
  exact ⟨0, 0, ⟨rfl, rfl, rfl, rfl, rfl⟩, Nat.zero_le _, Nat.le_refl _, HX.out, rfl⟩
 ·rintro a' w' ⟨k, d, hfit, hk, hd, hlev, rfl⟩
  obtain ⟨g, rfl⟩ := hfit.opened
  clear hfit HX
  have HV := Lib.hid hlev
  clear hlev
  by_cases hlt : k < n
  ·have hkl : k < l.length := by rw [HL.out]; exact hlt
   obtain ⟨b, off, rfl, hc0⟩ := HR.out.at_ hkl
   have HLI := Lib.hid (fun h => levL_I (d := d) hkl h)
   have HLP := Lib.hid (fun h => levL_P (d := d) hkl h)
   have HLN := Lib.hid (fun h h2 => levL_N (d := d) hkl h h2)
   rw [HV.out] at HLI HLP HLN
   generalize l[k] = c at *
   by_cases hIs : isI c = true
   ·have hcs : c = 19 ∨ c = 20 ∨ c = 21 := by simpa [isI] using hIs
    have HV2 := Lib.hid (HLI.out hIs).symm
    clear HLI HLP HLN HV hIs
    rcases hcs with rfl | rfl | rfl
    all_goals
     go_wp2
     go_step3
     refine ⟨rfl, ⟨k + 1, d + 1, ⟨rfl, rfl, rfl, rfl, rfl⟩, by omega, by omega, HV2.out, rfl⟩, ?_⟩
     simp [RowKit.intOf]
     omega
   ·have hIf : isI c = false := by simpa using hIs
    by_cases hPs : isP c = true
    ·obtain rfl : c = 22 := by simpa [isP] using hPs
     have HV2 := Lib.hid (HLP.out hPs).symm
     clear HLI HLP HLN HV hIs hIf hPs
     rcases Nat.eq_zero_or_pos d with hd0 | hd0
     ·subst hd0
      go_wp2
      go_step3
      refine ⟨rfl, ⟨k + 1, 0, ⟨rfl, rfl, rfl, rfl, rfl⟩, by omega, by omega, HV2.out, rfl⟩, ?_⟩
      simp [RowKit.intOf]
      omega
     ·obtain ⟨d', rfl⟩ : ∃ d', d = d' + 1 := ⟨d - 1, by omega⟩
      clear hd0
      rcases Nat.eq_zero_or_pos d' with hz | hz
      ·subst hz
       go_wp2
       go_step3
       refine ⟨rfl, ⟨k + 1, 0, ⟨rfl, rfl, rfl, rfl, rfl⟩, by omega, by omega, HV2.out, rfl⟩, ?_⟩
       simp [RowKit.intOf]
       omega
      ·have hz2 : decide (0 < d') = true := decide_eq_true hz
       go_wp2
       go_step3
       refine ⟨rfl, ⟨k + 1, d', ⟨rfl, rfl, rfl, rfl, rfl⟩, by omega, by omega, HV2.out, rfl⟩, ?_⟩
       simp [RowKit.intOf]
       omega
    ·have hPf : isP c = false := by simpa using hPs
     have hV := HLN.out hPf hIf
     have c1 : (c == 19) = false := by simp [isI] at hIf; simp; omega
     have c2 : (c == 20) = false := by simp [isI] at hIf; simp; omega
     have c3 : (c == 21) = false := by simp [isI] at hIf; simp; omega
     have c4 : (c == 22) = false := by simpa [isP] using hPf
     clear HLI HLP HLN HV hIs hPs hIf hPf
     by_cases hd0 : d = 0
     ·subst hd0
      by_cases h0 : c = 0
      ·subst h0
       have hv2 : x = (0, true) := hV
       subst hv2
       clear hV
       go_wp2
       simp only [Exit.jump]
       go_ret2
       exact ⟨rfl, rfl⟩
      ·have c5 : (c == 0) = false := by simpa using h0
       rw [if_neg (fun h => h0 h.2)] at hV
       by_cases h1 : c = 1 ∨ c = 2
       ·rw [if_pos ⟨rfl, h1⟩] at hV
        subst hV
        rcases h1 with rfl | rfl
        all_goals
         go_wp2
         simp only [Exit.jump]
         go_ret2
         exact ⟨rfl, rfl⟩
       ·rw [if_neg (fun h => h1 h.2)] at hV
        have HV2 := Lib.hid hV.symm
        have c6 : (c == 1) = false := by simp; omega
        have c7 : (c == 2) = false := by simp; omega
        clear hV h0 h1
        go_wp2
        go_step3
        refine ⟨rfl, ⟨k + 1, 0, ⟨rfl, rfl, rfl, rfl, rfl⟩, by omega, by omega, HV2.out, rfl⟩, ?_⟩
        simp [RowKit.intOf]
        omega
     ·rw [if_neg (fun h => hd0 h.1), if_neg (fun h => hd0 h.1)] at hV
      have HV2 := Lib.hid hV.symm
      have hdz : ((d : Int) == 0) = false := by simpa using hd0
      clear hV
      by_cases h0 : c = 0
      ·subst h0
       go_wp2
       go_step3
       refine ⟨rfl, ⟨k + 1, d, ⟨rfl, rfl, rfl, rfl, rfl⟩, by omega, by omega, HV2.out, rfl⟩, ?_⟩
       simp [RowKit.intOf]
       omega
      ·have c5 : (c == 0) = false := by simpa using h0
       by_cases h1 : c = 1
       ·subst h1
        go_wp2
        go_step3
        refine ⟨rfl, ⟨k + 1, d, ⟨rfl, rfl, rfl, rfl, rfl⟩, by omega, by omega, HV2.out, rfl⟩, ?_⟩
        simp [RowKit.intOf]
        omega
       ·have c6 : (c == 1) = false := by simpa using h1
        by_cases h2 : c = 2
        ·subst h2
         go_wp2
         go_step3
         refine ⟨rfl, ⟨k + 1, d, ⟨rfl, rfl, rfl, rfl, rfl⟩, by omega, by omega, HV2.out, rfl⟩, ?_⟩
         simp [RowKit.intOf]
         omega
        ·have c7 : (c == 2) = false := by simpa using h2
         clear h0 h1 h2
         go_wp2
         go_step3
         refine ⟨rfl, ⟨k + 1, d, ⟨rfl, rfl, rfl, rfl, rfl⟩, by omega, by omega, HV2.out, rfl⟩, ?_⟩
         simp [RowKit.intOf]
         omega
  ·have hke : k = n := by omega
   subst hke
   have hv := HV.out
   rw [List.drop_eq_nil_of_le (by rw [HL.out]; exact Nat.le_refl _)] at hv
   have hv2 : x = (0, false) := hv.symm
   subst hv2
   go_wp2
   simp only [Exit.jump]
   go_ret2
   exact ⟨rfl, rfl⟩
end Go.Proofs.YtfclpecbnailgaaGreat.Ba

/-
 Proved here: what level.directed returns, for every row of numbers of at most 2^40 and the row of its matches, at an initiator: by dirE. It leaves what was in memory.
-/
set_option linter.unusedVariables false
namespace Go.Proofs.YtfclpecbnailgaaGreat.Lv
open Go Go.RowKit Go.Lib Go.Proofs.YtfclpecbnailgaaGreat.Cl Go.Proofs.YtfclpecbnailgaaGreat.Ba
theorem ints_drop {w : World} {b off : Nat} {spot : _} {zs : List Int} (h : IntsAt w (some ⟨b, off, spot⟩) zs) (p : Nat) : IntsAt w (some ((⟨b, off, spot⟩ : Addr).add p)) (zs.drop p) := by
 rcases h with rfl | ⟨b', off', he, hlt, hc⟩
 ·exact .inl (by simp)
 ·injection he with he
  injection he with e1 e2 e3
  subst e1 e2 e3
  have hadd : (⟨b, off, none⟩ : Addr).add p = ⟨b, off + p, none⟩ := by unfold Addr.add; split <;> simp_all
  refine .inr ⟨b, off + p, by rw [hadd], hlt, fun j z hz => ?_⟩
  rw [List.getElem?_drop] at hz
  rw [Nat.add_assoc]
  exact hc (p + j) z hz
theorem ints_take {w : World} {A : Option Addr} {zs : List Int} (h : IntsAt w A zs) (p : Nat) : IntsAt w A (zs.take p) := by
 rcases h with rfl | ⟨b, off, rfl, hlt, hc⟩
 ·exact .inl (by simp)
 ·refine .inr ⟨b, off, rfl, hlt, fun j z hz => ?_⟩
  rw [List.getElem?_take] at hz
  split at hz
  ·exact hc j z hz
  ·cases hz
theorem ints_one_at {w : World} {A : Option Addr} {zs : List Int} (h : IntsAt w A zs) {k : Nat} (hk : k < zs.length) {b off : Nat} {spot : _} (hA : A = some ⟨b, off, spot⟩) : IntsAt w (some ((⟨b, off, spot⟩ : Addr).add k)) [zs[k]] := by
 subst hA
 have h2 := ints_take (ints_drop h k) 1
 rw [List.drop_eq_getElem_cons hk] at h2
 exact h2
theorem levE_N {l : List Int} {k : Nat} (h : k < l.length) (hp : isP l[k] = false) (hi : isI l[k] = false) : levE (l.drop k) 0 = if l[k] = 0 then (0, true) else if l[k] = 1 ∨ l[k] = 2 then (1, true) else levE (l.drop (k + 1)) 0 := by
 rw [List.drop_eq_getElem_cons h]
 simp only [levE]
 rw [if_neg (by rw [hi]; decide), if_neg (by rw [hp]; decide)]
 simp
theorem levE_I {l : List Int} {k : Nat} (h : k < l.length) (hi : isI l[k] = true) : levE (l.drop k) 0 = levE (l.drop (endAt l k + 1)) 0 := by
 rw [List.drop_eq_getElem_cons h]
 simp only [levE]
 rw [if_pos hi, levE_skip, List.drop_drop]
 congr 2
/-- Where the one behind an isolate ends. -/
theorem end_I {l : List Int} {k e : Nat} (h : k < l.length) (hi : isI l[k] = true) (he : k + endL (l.drop k) 0 = e) (hlt : endAt l k < l.length) : endAt l k + 1 + endL (l.drop (endAt l k + 1)) 0 = e := by
 rw [endL_I l k 0 h hi, endL_succ _ _ (by rw [List.length_drop]; unfold endAt at hlt; omega), List.drop_drop] at he
 unfold endAt
 have e1 : k + 1 + (endL (l.drop (k + 1)) 0 + 1) = k + 1 + endL (l.drop (k + 1)) 0 + 1 := by omega
 rw [e1] at he
 omega
theorem lev_one (c : Int) (hi : isI c = false) (hp : isP c = false) : levL [c] 0 = if c = 0 then (0, true) else if c = 1 ∨ c = 2 then (1, true) else (0, false) := by
 simp only [levL]
 rw [if_neg (by rw [hi]; decide), if_neg (by rw [hp]; decide)]
 simp
set_option maxHeartbeats 2000000 in
set_option maxRecDepth 100000 in
theorem directed_any (A Am : Option Addr) (l : List Int) (n m mm f : Nat) (w : World) (hl : l.length = n) (hR : IntsAt w A l) (hM : IntsAt w Am (matchL l)) (hn : n ≤ 1099511627776) (hnm : n ≤ m) (hf : f < n) (hI : ∀ h : f < l.length, isI l[f] = true) :
  Calls Tryz.prog 94 #[.slice A n m, .slice Am n mm, .int .i64 f] w fun x w' => x = .returned (.int .i64 (if dirE (l.drop (f + 1)) = 1 then 20 else 19)) ∧ w = w' := by
 have hfl : f < l.length := by omega
 have hIf := hI hfl
 have hml := matchL_len l
 obtain ⟨bm, om, rfl, -⟩ := hM.at_ (k := f) (by omega)
 have HMC := Lib.hid (show ∀ i (h : i < l.length), w.cell? ⟨bm, om + i, none⟩ = some (.int .i64 (mtK l l.length i)) from fun i h => by
  obtain ⟨b', o', he, hc⟩ := hM.at_ (k := i) (by omega)
  injection he with he
  injection he with e1 e2
  subst e1 e2
  rw [matchL_at l i h] at hc
  exact hc)
 obtain ⟨e, he⟩ : ∃ e, endAt l f = e := ⟨_, rfl⟩
 obtain ⟨x, hx⟩ : ∃ x, levE (l.drop (f + 1)) 0 = x := ⟨_, rfl⟩
 have hres : (if dirE (l.drop (f + 1)) = 1 then (20 : Int) else 19) = if x.1 = 1 then 20 else 19 := by
  unfold dirE
  rw [hx]
  split <;> simp_all
 rw [hres]
 have hce := HMC.out f hfl
 rw [mt_I hfl hIf, he] at hce
 have hen := endAt_le l f hfl
 rw [he] at hen
 have HST := Lib.hid (show f + 1 + endL (l.drop (f + 1)) 0 = e from he)
 have HX := Lib.hid hx
 have HR := Lib.hid hR
 have HL := Lib.hid hl
 clear hres hx he hR hM hI hIf hml
 go_enter Tryz.func94, Tryz.ntmps94
 go_wp2_with fail
 go_loop [7] (fun s7 => ∃ k : Nat, s7 = .int .i64 k ∧ k ≤ n + 1 ∧ levE (l.drop k) 0 = x ∧ (k + endL (l.drop k) 0 = e ∨ (e < k ∧ x = (0, false)))) (fun s7 => n + 2 - (RowKit.intOf s7).toNat)
 case atStart => exact ⟨f + 1, by go_num, by omega, HX.out, .inl HST.out⟩
 case round =>
  obtain ⟨k, rfl, hk, hv, hJ⟩ := hrel
  have HV := Lib.hid hv
  have HJ := Lib.hid hJ
  clear hv hJ HST HX
  by_cases hlt : k < e
  ·have hkl : k < l.length := by omega
   have hend : k + endL (l.drop k) 0 = e := by
    rcases HJ.out with h | h
    ·exact h
    ·omega
   have hck := HMC.out k hkl
   obtain ⟨b, off, rfl, hc0⟩ := HR.out.at_ hkl
   have HEND := Lib.hid hend
   clear HJ hend
   cases hi : isI l[k] with
   | true =>
    rw [mt_I hkl hi] at hck
    have hgt := endAt_gt l k
    have hle := endAt_le l k hkl
    have HN := Lib.hid (show levE (l.drop (endAt l k + 1)) 0 = x by rw [← levE_I hkl hi]; exact HV.out)
    have HE := Lib.hid (fun h => end_I hkl hi HEND.out h)
    have kg : decide ((k : Int) < (endAt l k : Int)) = true := by simp; omega
    have kg2 : decide (k < endAt l k) = true := by simp; omega
    have kl : decide (k < e) = true := by simpa using hlt
    clear HV HEND hi hc0
    generalize endAt l k = q at *
    go_wp2
    go_round
    case measure => simp [RowKit.intOf]; omega
    case rel =>
     refine ⟨q + 1, by go_num, by omega, HN.out, ?_⟩
     by_cases hq : q < l.length
     ·exact .inl (HE.out hq)
     ·refine .inr ⟨by omega, ?_⟩
      rw [← HN.out, List.drop_eq_nil_of_le (by omega)]
      rfl
   | false =>
    have hp : isP l[k] = false := by
     cases hp : isP l[k] with
     | false => rfl
     | true =>
      have := endL_P0 l k hkl hp
      have := HEND.out
      omega
    rw [mt_N hkl hp hi] at hck
    have hone := ints_one_at HR.out hkl rfl
    rw [show (⟨b, off, none⟩ : Addr).add k = ⟨b, off + k, none⟩ from by unfold Addr.add; split <;> simp_all] at hone
    have HS := Lib.hid (level_any _ [l[k]] 1 (m - k) w rfl hone (by omega))
    clear hone
    have HLO := Lib.hid (lev_one l[k] hi hp)
    have HV2 := Lib.hid (show _ = x from (levE_N hkl hp hi).symm.trans HV.out)
    have HE := Lib.hid (show k + 1 + endL (l.drop (k + 1)) 0 = e by rw [← endL_N l k 0 hkl hp hi]; exact HEND.out)
    have kl : decide (k < e) = true := by simpa using hlt
    have kg : decide ((k : Int) < -1) = false := by simp
    have hmk : ¬ m = k := by omega
    clear HV HEND hi hp
    generalize l[k] = c at *
    by_cases c0 : c = 0
    ·subst c0
     have hx : x = (0, true) := by rw [← HV2.out, if_pos rfl]
     subst hx
     rw [show levL [(0 : Int)] 0 = (0, true) from by rw [HLO.out, if_pos rfl]] at HS
     clear HV2 HLO HE
     go_wp2_with fail
     refine HS.out.mono ?_
     rintro y w1 ⟨rfl, rfl⟩
     go_wp2
     go_ret
     exact ⟨rfl, rfl⟩
    ·by_cases c1 : c = 1 ∨ c = 2
     ·have hx : x = (1, true) := by rw [← HV2.out, if_neg c0, if_pos c1]
      subst hx
      rw [show levL [c] 0 = (1, true) from by rw [HLO.out, if_neg c0, if_pos c1]] at HS
      clear HV2 HLO HE c0 c1
      go_wp2_with fail
      refine HS.out.mono ?_
      rintro y w1 ⟨rfl, rfl⟩
      go_wp2
      go_ret
      exact ⟨rfl, rfl⟩
     ·have HV3 := HV2.out
      rw [if_neg c0, if_neg c1] at HV3
      rw [show levL [c] 0 = (0, false) from by rw [HLO.out, if_neg c0, if_neg c1]] at HS
      have HV4 := Lib.hid HV3
      clear HV2 HV3 HLO c0 c1
      go_wp2_with fail
      refine HS.out.mono ?_
      rintro y w1 ⟨rfl, rfl⟩
      go_wp2
      go_round
      case measure => simp [RowKit.intOf]; omega
      case rel => exact ⟨k + 1, by go_num, by omega, HV4.out, .inl HE.out⟩
  ·have hx : x = (0, false) := by
    rcases HJ.out with h | h
    ·have h0 : endL (l.drop k) 0 = 0 := by omega
     rw [← HV.out, levE_ended _ h0]
    ·exact h.2
   subst hx
   have kl : decide (k < e) = false := by simp; omega
   clear HV HJ
   go_wp2
   go_ret
   exact ⟨rfl, rfl⟩
end Go.Proofs.YtfclpecbnailgaaGreat.Lv
