/-
  Several texts in one, each with its own remark: PbSort, MiRows, MiSearch, MiFns.
-/
import Derived.Shelf.SlSortCmp.NoneTotal
import Derived.Lib.Hide
import Derived.Carry
import Derived.ProofKit
import Derived.OpenShut
import Derived.Below
import Derived.Great.BuildSlice
import Derived.Deep.WholeRow
import Derived.Laws.Rows
import Derived.WalkKit
import Derived.IntWalk
import Derived.OwnWalk
import Derived.Deep.QuietTactic
import Derived.BigQuiet
import Derived.Deep.RegionWith
import Derived.Test.YtfclpecbnailgaaGreatR9
import Derived.Test.YtfclpecbnailgaaGreatR2
import Derived.Test.YtfclpecbnailgaaGreatSort
import Derived.Test.YtfclpecbnailgaaGreatRows
import Derived.Test.YtfclpecbnailgaaGreatR1

/-
 Proved here: what slices.SortFunc does at a row of pairs of the call's own, with the closure of pairs.Find: a permutation of what the row held, the first places not falling; nothing else of memory changes. By the library's own contract.
-/
set_option linter.unusedVariables false
namespace Go.Proofs.YtfclpecbnailgaaGreat.Pb
open Go Go.RowKit Go.Lib Go.Shelf Go.Proofs Go.Proofs.YtfclpecbnailgaaGreat.Cl Go.Proofs.YtfclpecbnailgaaGreat.Pr Go.Proofs.YtfclpecbnailgaaGreat.Wk
def encP (x : Nat × Nat) : List Value := [.int .i64 x.1, .int .i64 x.2]
theorem encP_len (x : Nat × Nat) : (encP x).length = 2 := rfl
theorem encP_one (x : Nat × Nat) : ∀ v ∈ encP x, v.oneCell' = true := by
 intro v hv
 simp [encP] at hv
 rcases hv with rfl | rfl <;> rfl
def cmpZ (a b : Int) : Int := if a < b then -1 else if b < a then 1 else 0
def cfP (x y : Nat × Nat) : Int := cmpZ x.1 y.1
theorem lt_cfP (x y : Nat × Nat) : ltOf cfP x y = decide (x.1 < y.1) := by
 unfold ltOf cfP cmpZ
 rw [decide_eq_decide]
 split
 ·omega
 ·split <;> omega
theorem swoP : Sort.SWO (ltOf cfP) where
 irrefl x := by rw [lt_cfP]; simp
 trans x y z h1 h2 := by rw [lt_cfP] at *; simp at *; omega
 ntrans x y z h1 h2 := by rw [lt_cfP] at *; simp at *; omega
theorem flat_cells (d : Array (Nat × Nat)) : (Sort.flatK encP 2 d).toList = cellsP d.toList := by
 apply List.ext_getElem?
 intro t
 by_cases ht : t < d.size * 2
 ·have hd : t / 2 < d.size := by omega
  have h1 : (Sort.flatK encP 2 d).toList[t]? = some ((encP d[t / 2]!)[t % 2]!) := by
   rw [Array.getElem?_toList, Array.getElem?_eq_getElem (by rw [Sort.size_flatK]; exact ht)]
   congr 1
   have := Sort.get_flatK encP 2 d t ht
   rwa [getElem!_pos _ _ (by rw [Sort.size_flatK]; exact ht)] at this
  obtain ⟨h2, h3⟩ := cellsP_at d.toList (t / 2) d[t / 2] (by rw [Array.getElem?_toList, Array.getElem?_eq_getElem hd])
  rw [h1, getElem!_pos d _ hd]
  have : t = t / 2 * 2 ∨ t = t / 2 * 2 + 1 := by omega
  rcases this with e | e
  ·rw [show t % 2 = 0 from by omega]
   conv => rhs; rw [e]
   rw [h2]
   rfl
  ·rw [show t % 2 = 1 from by omega]
   conv => rhs; rw [e]
   rw [h3]
   rfl
 ·rw [List.getElem?_eq_none (by rw [Array.length_toList, Sort.size_flatK]; omega), List.getElem?_eq_none (by rw [cellsP_len, Array.length_toList]; omega)]
theorem holds_own {w : World} {base g n c : Nat} {t : TypeId} {L : List (Nat × Nat)} (h : w.ownsRow base t 2 (.slice (some ⟨g, 0, none⟩) n c) n (cellsP L)) : Sort.HoldsK encP 2 w g 0 L.toArray := by
 intro j hj
 rw [Sort.size_flatK] at hj
 have hx : (cellsP L)[j]? = some ((Sort.flatK encP 2 L.toArray)[j]!) := by
  have := flat_cells L.toArray
  rw [show L.toArray.toList = L from rfl] at this
  rw [← this, Array.getElem?_toList, getElem!_pos _ _ (by rw [Sort.size_flatK]; exact hj), Array.getElem?_eq_getElem]
 have hc := @World.ownsRow.cells _ _ _ _ _ _ _ h g rfl j _ hx
 rw [add_offP] at hc
 refine ⟨hc, ?_⟩
 have := h.frozenAt j
 rw [Nat.zero_add]
 exact this
theorem own_sorted {w : World} {base g n c m : Nat} {t : TypeId} {L : List (Nat × Nat)} {d' : Array (Nat × Nat)} {os : Array Obj} (h : w.ownsRow base t 2 (.slice (some ⟨g, 0, none⟩) n c) n (cellsP L)) (hd : d'.size = L.length) :
  (sortWorldK encP 2 w g 0 m d' os).ownsRow base t 2 (.slice (some ⟨g, 0, none⟩) n c) n (cellsP d'.toList) ∧ w.grownBy (sortWorldK encP 2 w g 0 m d' os) (some g) := by
 have hl := h.1
 rw [cellsP_len] at hl
 have hg' := h.2
 rcases hg' with ⟨e, -⟩ | ⟨g', cap, cur, e, hB, hg, hle, hmax, hsz, htk⟩
 ·cases e
 injection e with e1 e2 e3
 injection e1 with e1
 injection e1 with e1
 subst e1 e3
 have hlt : g < w.heap.size := (Array.getElem?_eq_some_iff.1 hg).1
 have hheap : (sortWorldK encP 2 w g 0 m d' os).heap = w.heap.modify g (Sort.onCells (Sort.putCells id 0 (Sort.flatK encP 2 d'))) ++ os := rfl
 constructor
 ·refine ⟨by rw [cellsP_len, Array.length_toList, hd]; omega, .inr ⟨g, c, Sort.putCells id 0 (Sort.flatK encP 2 d') cur, rfl, hB, ?_, hle, hmax, ?_, ?_⟩⟩
  ·rw [hheap, Array.getElem?_append, if_pos (by simpa using hlt), Array.getElem?_modify, if_pos rfl, hg]
   rfl
  ·simp [Sort.putCells, hsz]
  ·rw [← flat_cells]
   apply List.ext_getElem?
   intro k
   rw [List.getElem?_take, Array.getElem?_toList, Array.getElem?_toList]
   unfold Sort.putCells
   rw [Array.getElem?_mapIdx, Sort.size_flatK]
   by_cases hk : k < n * 2
   ·have hkc : k < cur.size := by rw [hsz]; omega
    have hkf : k < (Sort.flatK encP 2 d').size := by rw [Sort.size_flatK, hd]; omega
    rw [if_pos hk, Array.getElem?_eq_getElem hkc, Option.map_some, if_pos (by rw [hd]; omega), Array.getElem?_eq_getElem hkf, Nat.sub_zero, getElem!_pos (Sort.flatK encP 2 d') k hkf]
    rfl
   ·rw [if_neg hk, Array.getElem?_eq_none (by rw [Sort.size_flatK, hd]; omega)]
 ·refine ⟨rfl, rfl, rfl, by rw [hheap]; simp, fun k hk hne => ?_⟩
  rw [hheap, Array.getElem?_append, if_pos (by simpa using hk), Array.getElem?_modify, if_neg (fun e => hne (by rw [e]))]
set_option maxHeartbeats 1000000 in
theorem isNaN_any (a : Int) (W : World) : Calls Tryz.prog 164 #[.int .i64 a] W fun e w' => e = .returned (.bool false) ∧ w' = W := by
 have h : (a != a) = false := by simp
 go_enter Tryz.func164, Tryz.ntmps164
 go_wp2
 go_ret
 simp
set_option maxHeartbeats 1000000 in
theorem compare_any (a b : Int) (W : World) : Calls Tryz.prog 144 #[.int .i64 a, .int .i64 b] W fun e w' => e = .returned (.int .i64 (cmpZ a b)) ∧ w' = W := by
 have HN := Lib.hid (fun (a : Int) (W : World) => isNaN_any a W)
 unfold cmpZ
 by_cases h1 : a < b
 ·have d1 : decide (a < b) = true := decide_eq_true h1
  rw [if_pos h1]
  go_enter Tryz.func144, Tryz.ntmps144
  go_wp2_with (go_at_call 164; refine (HN.out _ _).mono ?_; rintro e w' ⟨rfl, rfl⟩)
  go_ret
  exact ⟨rfl, rfl⟩
 ·have d1 : decide (a < b) = false := decide_eq_false h1
  rw [if_neg h1]
  by_cases h2 : b < a
  ·have d2 : decide (b < a) = true := decide_eq_true h2
   rw [if_pos h2]
   go_enter Tryz.func144, Tryz.ntmps144
   go_wp2_with (go_at_call 164; refine (HN.out _ _).mono ?_; rintro e w' ⟨rfl, rfl⟩)
   go_ret
   exact ⟨rfl, rfl⟩
  ·have d2 : decide (b < a) = false := decide_eq_false h2
   rw [if_neg h2]
   go_enter Tryz.func144, Tryz.ntmps144
   go_wp2_with (go_at_call 164; refine (HN.out _ _).mono ?_; rintro e w' ⟨rfl, rfl⟩)
   go_ret
   exact ⟨rfl, rfl⟩
set_option maxHeartbeats 1000000 in
theorem order_any (x y : Nat × Nat) (W : World) : Calls Tryz.prog 143 #[.agg #[.int .i64 x.1, .int .i64 x.2], .agg #[.int .i64 y.1, .int .i64 y.2]] W fun e w' => e = .returned (.int .i64 (cfP x y)) ∧ ∃ q os', w' = Sort.grow (W.drewN q) os' := by
 have HC := Lib.hid (fun (W : World) => compare_any x.1 y.1 W)
 rw [show cfP x y = cmpZ x.1 y.1 from rfl]
 generalize cmpZ x.1 y.1 = r at *
 go_enter Tryz.func143, Tryz.ntmps143
 go_wp2_with (go_at_call 144; refine (HC.out _).mono ?_; rintro e w' ⟨rfl, rfl⟩)
 go_ret
 exact ⟨rfl, 0, _, by rw [Sort.alloc_eq_grow, Sort.alloc_eq_grow, Sort.grow_grow]; rfl⟩
theorem order_lays (blk off size : Nat) (w : World) : CmpLays Tryz.prog 143 #[] encP 2 cfP blk off size w := fun _ _ _ _ x y => order_any x y _
theorem enters_order : ∀ args w, (callFunc 143 args).run Tryz.prog w = .ok (.enter 143 args) w := enters_of Tryz.func143 (by kernel_rfl) rfl
theorem perm_all {d d' : Array (Nat × Nat)} (h : Sort.PermIn 0 d.size d d') : d'.toList.Perm d.toList := by
 have h3 := h.2.2
 have e1 : d'.extract 0 d.size = d' := by rw [← h.1]; simp
 have e2 : d.extract 0 d.size = d := by simp
 rwa [e1, e2] at h3
theorem sorted_all {d' : Array (Nat × Nat)} (h : Sort.SortedIn (ltOf cfP) 0 d'.size d') : d'.toList.Pairwise fun p q => p.1 ≤ q.1 := by
 rw [List.pairwise_iff_getElem]
 intro i j hi hj hij
 rw [Array.length_toList] at hi hj
 have := h i j (Nat.zero_le _) hij hj
 rw [lt_cfP, getElem!_pos d' _ hj, getElem!_pos d' _ hi, decide_eq_false_iff_not] at this
 rw [Array.getElem_toList, Array.getElem_toList]
 omega
/-- The sort of pairs. -/
theorem sort_any (base : Nat) (v : Value) (n : Nat) (L : List (Nat × Nat)) (w : World) (h : w.ownsRow base 95 2 v n (cellsP L)) (hn : n ≤ 1099511627776) :
  Calls Tryz.prog 142 #[v, .func (.func 143) #[] #[]] w fun e w' => e = .returned (.tuple #[]) ∧ ∃ M : List (Nat × Nat), M.Perm L ∧ (M.Pairwise fun p q => p.1 ≤ q.1) ∧ w'.ownsRow base 95 2 v n (cellsP M) ∧ w.grownBy w' v.ownBlock := by
 have hl := h.1
 rw [cellsP_len] at hl
 have hcs := h.2
 rcases hcs with ⟨rfl, hn0⟩ | ⟨g, cap, cur, rfl, hB, hg, -⟩
 ·subst hn0
  refine Calls.mono (AnyF.slices_SortFunc_none { Tryz.sortPairs with } none 0 (.func (.func 143) #[] #[]) w) ?_
  rintro e w' ⟨rfl, rfl⟩
  obtain rfl : L = [] := List.eq_nil_of_length_eq_zero (by omega)
  exact ⟨rfl, [], .nil, .nil, h, grown_refl _ _⟩
 ·have hs : L.toArray.size = n := by simp; omega
  have hc := AnyQ.slices_SortFunc Tryz.sortPairs 2 Tryz.isAgg95 Tryz.sizeOf95 encP encP_len encP_one cfP swoP 143 #[] g 0 cap L.toArray w enters_order (order_lays g 0 _ w) (holds_own h) (Array.getElem?_eq_some_iff.1 hg).1 (by omega)
  rw [hs] at hc
  refine Calls.mono hc ?_
  rintro e w' ⟨rfl, d', m, os, hp, hso, rfl⟩
  have hd : d'.size = L.length := hp.1.trans (by simp)
  obtain ⟨h1, h2⟩ := own_sorted (m := m) (os := os) (d' := d') h hd
  rw [← hs] at hp hso
  refine ⟨rfl, d'.toList, perm_all hp, sorted_all (by rwa [hp.1]), h1, h2⟩
end Go.Proofs.YtfclpecbnailgaaGreat.Pb

/-
 Proved here: what mirror.brackets and mirror.signs return: the arrays of their rows; they leave what was in memory. No condition.
-/
set_option linter.unusedVariables false
namespace Go.Proofs.YtfclpecbnailgaaGreat.Mi
open Go.RowKit Go.Lib
def rowV (r : MRow) : Value := .agg #[.int .i64 r.1, .int .i64 r.2.1, .int .i64 r.2.2]
def rowCells (l : List MRow) : List Value := l.flatMap fun r => [.int .i64 r.1, .int .i64 r.2.1, .int .i64 r.2.2]
/-- The frame behind a list of literals of structs and arrays. -/
def builtAll (P : Program) : List Oper → Act → Option Act
 | [], a => some a
 | o :: l, a => match o.guard, o.op with
  | none, .build t parts => match P.built t (parts.map fun (i, x) => (i, a.eval x)).toList with
   | some cells => builtAll P l (a.put o.dst (.agg cells))
   | none => none
  | _, _ => none
theorem wpList_builtAll {P : Program} {ops : Array Oper} {Q : Exit → Act → World → Prop} {rest : List Oper} {w : World} :
  ∀ (l : List Oper) (a a' : Act), builtAll P l a = some a' → wpList P ops Q rest a' w → wpList P ops Q (l ++ rest) a w
 | [], a, a', h, hr => by
  simp only [builtAll, Option.some.injEq] at h
  subst h
  exact hr
 | o :: l, a, a', h, hr => by
  unfold builtAll at h
  split at h
  ·rename_i t parts hg ho
   split at h
   ·rename_i cells hc
    exact wpList_buildTo hg t parts ho _ rfl cells hc (wpList_builtAll l _ a' h hr)
   ·cases h
  ·cases h
/-- A region that builds literals, and stores the last one into the array that was made last. -/
theorem wp_stored {P : Program} {id : Nat} {l : List Oper} {Q : Exit → Act → World → Prop} {a : Act} {w : World} (n : Nat) (a' : Act) (h1 : builtAll P (l.take n) a = some a')
  (x y : Operand) (t : TypeId) (hl : (l.drop n).map (fun o => (o.dst, o.op, o.guard)) = [(none, .store t x y, none)]) (old cells : Array Value)
  (hx : a'.eval x = .pointer (some ⟨w.heap.size, 0, none⟩)) (hy : a'.eval y = .agg cells) (hi : (P.info? t).map (·.size) = some cells.size) (hold : old.size = cells.size) (hc : cells.all (·.oneCell') = true)
  (h : Q .normal a' (w.alloc (.cells cells t))) : (Code.region id l.toArray false).wp P Q a (w.alloc (.cells old t)) := by
 refine wp_region_lit ?_
 have hw : wpList P l.toArray Q (l.take n ++ l.drop n) a (w.alloc (.cells old t)) := by
  refine wpList_builtAll _ a a' h1 ?_
  generalize l.drop n = m at hl ⊢
  rcases m with _ | ⟨o1, _ | ⟨o2, m⟩⟩
  ·cases hl
  ·simp only [List.map_cons, List.map_nil, List.cons.injEq, Prod.mk.injEq, and_true] at hl
   obtain ⟨e1, e2, e3⟩ := hl
   refine wpList_store_rowTo e3 t x y e2 e1 w.heap.size cells hx hy t old (heap_alloc_last w _) hi hold hc ?_
   rw [World.setRow_alloc_new]
   exact h
  ·simp at hl
 rwa [List.take_append_drop] at hw
theorem infoBr : (Tryz.prog.info? 134).map (fun i => (i.zero, i.size)) = some (some (.agg (List.replicate 78 (.int .i64 0)).toArray), 78) := by kernel_rfl
/-- A new variable. -/
theorem wpList_allocVar {P : Program} {ops : Array Oper} {rest : List Oper} {o : Oper} {a : Act} {w : World} {Q : Exit → Act → World → Prop} (hg : o.guard = none) (t : TypeId) (ho : o.op = .alloc t) (d : Option Tmp) (hd : o.dst = d)
  (z : Value) (hz : ∀ w, (zeroValue t).run P w = .ok z w) (h : wpList P ops Q rest (a.put d (.pointer (some ⟨w.heap.size, 0, none⟩))) (w.alloc (.cells z.cells t))) : wpList P ops Q (o :: rest) a w := by
 subst hd
 refine wpList_plain hg fun K hK => ?_
 unfold Oper.wp execOp
 simp only [ho, Instr.alloc, Sem.run_bind, hz, Result.andThen_ok, newVar, newRow]
 exact hK _ _ h
def brFrame (g : Nat) : Act := ⟨((Value.pointer (some ⟨g, 0, none⟩) :: (brL.flatMap fun r => [Value.agg #[.int .i64 r.1, .int .i64 r.2.1], rowV r])) ++ [Value.agg (rowCells brL).toArray]).toArray, []⟩
theorem br_size : (rowCells brL).toArray.size = 78 := by kernel_rfl
theorem br_one : (rowCells brL).toArray.all (·.oneCell') = true := by kernel_rfl
set_option maxHeartbeats 4000000 in
set_option maxRecDepth 1000000 in
theorem br_any (w : World) :
  Calls Tryz.prog 120 #[] w fun e w' => e = .returned (.agg (rowCells brL).toArray) ∧ Below w.heap.size w w' := by
 obtain ⟨hz, hi⟩ := zero_of_info infoBr
 rw [← br_size] at hi
 go_enter Tryz.func120, Tryz.ntmps120
 refine wp_seq (wp_region_lit (l := [_]) (wpList_allocVar rfl _ rfl (some 0) rfl _ hz ?_))
 show Exit.then _ _ _ _ _
 refine wp_seq ?_
 refine wp_stored 53 (brFrame w.heap.size) (by kernel_rfl) (.tmp 0) (.tmp 53) 134 (by kernel_rfl) _ (rowCells brL).toArray (by kernel_rfl) (by kernel_rfl) hi (by kernel_rfl) br_one ?_
 refine wp_ret ?_
 exact bodyPost_ret (results_cell_row Tryz.results120 _ _ w.heap.size 134 _ (0, 0) _ (by kernel_rfl) (heap_alloc_last w _) Tryz.underlying134 rfl hi) (by kernel_rfl) ⟨rfl, (Below.refl _ _).alloc (Nat.le_refl _) _⟩
end Go.Proofs.YtfclpecbnailgaaGreat.Mi

/-
 Proved here: what (mirror.row).has, (mirror.row).pair, the closure of pairIn, the search at rows, mirror.pairIn return; they leave what was in memory. Condition: rows as they are here (small numbers, steps from 1 on).
-/
set_option linter.unusedVariables false
namespace Go.Proofs.YtfclpecbnailgaaGreat.Mi
open Go.RowKit Go.Lib
theorem below_drewN {B : Nat} {a w : World} (h : Below B a w) (n : Nat) : Below B a (w.drewN n) := ⟨h.os, h.tape, h.output, h.size, h.block⟩
theorem below_drew {B : Nat} {a w : World} (h : Below B a w) : Below B a w.drew := ⟨h.os, h.tape, h.output, h.size, h.block⟩
/-- Rows in memory. -/
def RowsAt (w : World) (b : Nat) (l : List MRow) : Prop :=
 b < w.heap.size ∧ ∀ k (hk : k < l.length), w.cell? ⟨b, k * 3, none⟩ = some (.int .i64 l[k].1) ∧ w.cell? ⟨b, k * 3 + 1, none⟩ = some (.int .i64 l[k].2.1) ∧ w.cell? ⟨b, k * 3 + 2, none⟩ = some (.int .i64 l[k].2.2)
theorem RowsAt.below {w w' : World} {b : Nat} {l : List MRow} (h : RowsAt w b l) (hb : Below w.heap.size w w') : RowsAt w' b l :=
 ⟨Nat.lt_of_lt_of_le h.1 hb.size, fun k hk => ⟨(hb.cell (p := ⟨b, k * 3, none⟩) h.1).trans (h.2 k hk).1, (hb.cell (p := ⟨b, k * 3 + 1, none⟩) h.1).trans (h.2 k hk).2.1, (hb.cell (p := ⟨b, k * 3 + 2, none⟩) h.1).trans (h.2 k hk).2.2⟩⟩
theorem rowCells_at : ∀ (l : List MRow) (k : Nat) (hk : k < l.length), (rowCells l)[k * 3]? = some (.int .i64 l[k].1) ∧ (rowCells l)[k * 3 + 1]? = some (.int .i64 l[k].2.1) ∧ (rowCells l)[k * 3 + 2]? = some (.int .i64 l[k].2.2)
 | r :: l, 0, _ => ⟨rfl, rfl, rfl⟩
 | r :: l, k + 1, hk => by
  have := rowCells_at l k (by simpa using hk)
  rw [show (k + 1) * 3 = k * 3 + 3 from by omega]
  exact this
theorem rowsAt_made (l : List MRow) (t : TypeId) (w : World) : RowsAt (w.alloc (.cells (rowCells l).toArray t)) w.heap.size l := by
 refine ⟨by simp, fun k hk => ?_⟩
 obtain ⟨h0, h1, h2⟩ := rowCells_at l k hk
 refine ⟨?_, ?_, ?_⟩
 ·simpa using h0
 ·simpa using h1
 ·simpa using h2
set_option maxHeartbeats 1000000 in
set_option maxRecDepth 100000 in
theorem has_any (a b s c : Int) (w : World) (ho : okR (a, b, s) = true) :
  Calls Tryz.prog 123 #[.agg #[.int .i64 a, .int .i64 b, .int .i64 s], .int .i64 c] w fun e w' => e = .returned (.bool (hasB (a, b, s) c)) ∧ Below w.heap.size w w' := by
 obtain ⟨o1, o2, o3, o4, o5, -⟩ := okR_is ho
 simp only at o1 o2 o3 o4 o5
 clear ho
 by_cases h1 : a ≤ c
 ·have d1 : decide (a ≤ c) = true := decide_eq_true h1
  by_cases h2 : c ≤ b
  ·have d2 : decide (c ≤ b) = true := decide_eq_true h2
   have e : hasB (a, b, s) c = ((c - a) % s == 0) := by unfold hasB; rw [d1, d2]; rfl
   rw [e]
   clear e
   go_enter Tryz.func123, Tryz.ntmps123
   go_wp2
   go_ret
   exact ⟨rfl, (Below.refl _ _).alloc (Nat.le_refl _) _⟩
  ·have d2 : decide (c ≤ b) = false := decide_eq_false h2
   have e : hasB (a, b, s) c = false := by unfold hasB; rw [d1, d2]; rfl
   rw [e]
   clear e
   go_enter Tryz.func123, Tryz.ntmps123
   go_wp2
   go_ret
   exact ⟨rfl, (Below.refl _ _).alloc (Nat.le_refl _) _⟩
 ·have d1 : decide (a ≤ c) = false := decide_eq_false h1
  have e : hasB (a, b, s) c = false := by unfold hasB; rw [d1]; rfl
  rw [e]
  clear e
  go_enter Tryz.func123, Tryz.ntmps123
  go_wp2
  go_ret
  exact ⟨rfl, (Below.refl _ _).alloc (Nat.le_refl _) _⟩
set_option maxHeartbeats 1000000 in
set_option maxRecDepth 100000 in
theorem pair_any (a b s c : Int) (w : World) (ho : okR (a, b, s) = true) (h1 : a ≤ c) (h2 : c ≤ b) :
  Calls Tryz.prog 124 #[.agg #[.int .i64 a, .int .i64 b, .int .i64 s], .int .i64 c] w fun e w' => e = .returned (.tuple #[.int .i64 (pairR (a, b, s) c).1, .int .i64 (pairR (a, b, s) c).2]) ∧ Below w.heap.size w w' := by
 obtain ⟨o1, o2, o3, o4, o5, -⟩ := okR_is ho
 simp only at o1 o2 o3 o4 o5
 clear ho
 have q0 : 0 ≤ (c - a) / s := Int.ediv_nonneg (by omega) (by omega)
 have q1 : (c - a) / s ≤ 100000 := Int.le_trans (Int.ediv_le_self _ (by omega)) (by omega)
 by_cases h : (c - a) / s % 2 = 0
 ·have e : pairR (a, b, s) c = (1, c + s) := if_pos h
  rw [e]
  clear e
  have hd : ((c - a) / s % 2 == 0) = true := by simpa using h
  clear h
  go_enter Tryz.func124, Tryz.ntmps124
  go_wp2
  go_quiet (fail)
  go_wp2
  go_ret2
  refine ⟨rfl, ?_⟩
  exact below_drewN ((Below.refl _ _).alloc (Nat.le_refl _) _) _
 ·have e : pairR (a, b, s) c = (2, c - s) := if_neg h
  rw [e]
  clear e
  have hd : ((c - a) / s % 2 == 0) = false := by simpa using h
  clear h
  go_enter Tryz.func124, Tryz.ntmps124
  go_wp2
  go_quiet (fail)
  go_wp2
  go_ret2
  refine ⟨rfl, ?_⟩
  exact below_drewN ((Below.refl _ _).alloc (Nat.le_refl _) _) _
set_option maxHeartbeats 1000000 in
set_option maxRecDepth 100000 in
theorem closure_any (a b s c : Int) (g : Nat) (w : World) (ho : okR (a, b, s) = true) (hg : g < w.heap.size) (hc : w.cell? ⟨g, 0, none⟩ = some (.int .i64 c)) :
  Calls Tryz.prog 122 #[.agg #[.int .i64 a, .int .i64 b, .int .i64 s], .pointer (some ⟨g, 0, none⟩)] w fun e w' => e = .returned (.bool (hasB (a, b, s) c)) ∧ Below w.heap.size w w' := by
 have HO := Lib.hid ho
 clear ho
 have hb0 : Below w.heap.size w (w.alloc (.cells #[.int .i64 a, .int .i64 b, .int .i64 s] 104)) := (Below.refl _ _).alloc (Nat.le_refl _) _
 go_enter Tryz.func122, Tryz.ntmps122
 go_wp2_with fail
 refine (has_any a b s c _ HO.out).mono ?_
 rintro e w' ⟨rfl, hb⟩
 go_wp2
 go_ret
 exact ⟨rfl, hb0.trans (hb.mono hb0.size)⟩
set_option maxHeartbeats 1000000 in
set_option maxRecDepth 100000 in
theorem index_any (b : Nat) (l : List MRow) (c : Int) (g : Nat) (w : World) (hR : RowsAt w b l) (hl : l.length ≤ 1000) (hok : ∀ r ∈ l, okR r = true) (hg : g < w.heap.size) (hc : w.cell? ⟨g, 0, none⟩ = some (.int .i64 c))
  (i : Nat) (hi : i ≤ l.length) (hlo : ∀ j (hj : j < l.length), j < i → hasB l[j] c = false) (v : Int) (hv : (∃ h : i < l.length, hasB l[i] c = true ∧ v = i) ∨ (i = l.length ∧ v = -1)) :
  Calls Tryz.prog 121 #[.slice (some ⟨b, 0, none⟩) l.length l.length, .func (.func 122) #[] #[.pointer (some ⟨g, 0, none⟩)]] w fun e w' => e = .returned (.int .i64 v) ∧ Below w.heap.size w w' := by
 have HR := Lib.hid hR
 have HOK := Lib.hid hok
 have HLO := Lib.hid hlo
 have HV := Lib.hid hv
 have HC := Lib.hid hc
 clear hR hok hlo hv hc
 go_enter Tryz.func121, Tryz.ntmps121
 go_wp2
 go_loopw [8] (fun s8 wx => ∃ k : Nat, k ≤ i ∧ s8 = .int .i64 k ∧ Below w.heap.size w wx) (fun s8 _ => i - (RowKit.intOf s8).toNat)
 case atStart => exact ⟨0, Nat.zero_le _, rfl, Below.refl _ _⟩
 case round =>
  obtain ⟨k, hk, rfl, hb⟩ := hrel
  have HB := Lib.hid hb
  have hbs := hb.size
  clear hb
  by_cases hlt : k < l.length
  ·obtain ⟨c0, c1, c2⟩ := (HR.out.below HB.out).2 _ hlt
   have hcg := (HB.out.cell (p := ⟨g, 0, none⟩) hg).trans HC.out
   have hgx := Nat.lt_of_lt_of_le hg hbs
   have HCG := Lib.hid hcg
   clear hcg
   have ho := HOK.out _ (List.getElem_mem hlt)
   generalize hs : l[k] = s at c0 c1 c2 ho
   obtain ⟨s0, s1, s2⟩ := s
   simp only at c0 c1 c2
   have HS := Lib.hid hs
   have HO := Lib.hid ho
   clear hs ho
   by_cases hki : k < i
   ·have hh : hasB (s0, s1, s2) c = false := by rw [← HS.out]; exact HLO.out k hlt hki
    have HH := Lib.hid hh
    clear hh
    go_wp2_with fail
    refine (closure_any s0 s1 s2 c g _ HO.out hgx HCG.out).mono ?_
    rw [HH.out]
    rintro e w' ⟨rfl, hb2⟩
    go_wp2
    go_roundw
    case rel => exact ⟨k + 1, by omega, by go_num, HB.out.trans (hb2.mono HB.out.size)⟩
    case measure => simp [RowKit.intOf]; omega
   ·obtain rfl : i = k := by omega
    have hh : hasB (s0, s1, s2) c = true ∧ v = i := by
     rcases HV.out with ⟨h, h1, h2⟩ | ⟨h, _⟩
     ·rw [← HS.out]; exact ⟨h1, h2⟩
     ·omega
    have HH := Lib.hid hh
    clear hh
    go_wp2_with fail
    refine (closure_any s0 s1 s2 c g _ HO.out hgx HCG.out).mono ?_
    rw [HH.out.1]
    rintro e w' ⟨rfl, hb2⟩
    go_wp2
    go_ret
    exact ⟨by rw [HH.out.2]; rfl, HB.out.trans (hb2.mono HB.out.size)⟩
  ·have hv : v = -1 := by
    rcases HV.out with ⟨h, h1, h2⟩ | ⟨_, h⟩
    ·omega
    ·exact h
   subst hv
   go_wp2
   go_ret
   exact ⟨rfl, HB.out⟩
/-- The first row that has a number, or that none does. -/
theorem first_is : ∀ (l : List MRow) (c : Int), (∃ (i : Nat) (h : i < l.length), (∀ j (hj : j < l.length), j < i → hasB l[j] c = false) ∧ hasB l[i] c = true) ∨ (∀ r ∈ l, hasB r c = false)
 | [], c => .inr (by simp)
 | r :: l, c => by
  cases h : hasB r c with
  | true => exact .inl ⟨0, by simp, fun j _ hj => by omega, h⟩
  | false =>
   rcases first_is l c with ⟨i, hi, h1, h2⟩ | h1
   ·refine .inl ⟨i + 1, Nat.succ_lt_succ hi, fun j hj hji => ?_, h2⟩
    cases j with
    | zero => exact h
    | succ j => exact h1 j (by simpa using hj) (by omega)
   ·refine .inr fun x hx => ?_
    rcases List.mem_cons.1 hx with rfl | hx
    ·exact h
    ·exact h1 x hx
set_option maxHeartbeats 1000000 in
set_option maxRecDepth 100000 in
theorem pairIn_any (b : Nat) (l : List MRow) (c : Int) (w : World) (hR : RowsAt w b l) (hl : l.length ≤ 1000) (hok : ∀ r ∈ l, okR r = true) :
  Calls Tryz.prog 82 #[.slice (some ⟨b, 0, none⟩) l.length l.length, .int .i64 c] w fun e w' => e = .returned (.tuple #[.int .i64 (inR l c).1, .int .i64 (inR l c).2]) ∧ Below w.heap.size w w' := by
 have HR := Lib.hid hR
 have HOK := Lib.hid hok
 clear hR hok
 have hb0 : Below w.heap.size w (w.alloc (.cells #[.int .i64 c] 3)) := (Below.refl _ _).alloc (Nat.le_refl _) _
 have HB0 := Lib.hid hb0
 clear hb0
 have hcell : (w.alloc (.cells #[.int .i64 c] 3)).cell? ⟨w.heap.size, 0, none⟩ = some (.int .i64 c) := by simp
 have HCELL := Lib.hid hcell
 clear hcell
 rcases first_is l c with ⟨i, hi, hlo, hh⟩ | hno
 ·have HI := Lib.hid (inR_at l c i hi hlo hh)
  have HLO := Lib.hid hlo
  have ho := HOK.out _ (List.getElem_mem hi)
  generalize hs : l[i] = s at ho
  obtain ⟨s0, s1, s2⟩ := s
  have HS := Lib.hid hs
  have HO := Lib.hid ho
  have HH := Lib.hid hh
  clear hs ho hlo hh
  go_enter Tryz.func82, Tryz.ntmps82
  go_wp2_with fail
  refine (index_any b l c w.heap.size _ (HR.out.below HB0.out) hl HOK.out (by simp) HCELL.out i (by omega) HLO.out i (.inl ⟨hi, HH.out, rfl⟩)).mono ?_
  rintro e w1 ⟨rfl, hb1⟩
  have HB1 := Lib.hid (HB0.out.trans (hb1.mono HB0.out.size))
  have c3 : w1.cell? ⟨w.heap.size, 0, none⟩ = some (.int .i64 c) := (hb1.cell (p := ⟨w.heap.size, 0, none⟩) (by simp)).trans HCELL.out
  clear hb1
  obtain ⟨c0, c1, c2⟩ := (HR.out.below HB1.out).2 _ hi
  rw [HS.out] at c0 c1 c2
  simp only at c0 c1 c2
  obtain ⟨b1, b2⟩ : s0 ≤ c ∧ c ≤ s1 := by
   have := HH.out
   rw [HS.out] at this
   simp only [hasB, Bool.and_eq_true, decide_eq_true_eq] at this
   exact ⟨this.1, this.2.1⟩
  have hbw : Below w.heap.size w w1 := HB1.out
  go_wp2
  go_region_with (go_at_call 124; refine (pair_any _ _ _ _ _ HO.out b1 b2).mono ?_; rintro e w2 ⟨rfl, hb2⟩)
  all_goals go_wp2
  all_goals go_ret2
  all_goals (refine ⟨by rw [HI.out, HS.out]; rfl, ?_⟩; first | exact (below_drew hbw).trans (hb2.mono hbw.size) | exact hbw.trans (hb2.mono hbw.size))
 ·have HI := Lib.hid (inR_none l c hno)
  rw [HI.out]
  have HNO := Lib.hid hno
  clear hno
  go_enter Tryz.func82, Tryz.ntmps82
  go_wp2_with fail
  refine (index_any b l c w.heap.size _ (HR.out.below HB0.out) hl HOK.out (by simp) HCELL.out l.length (Nat.le_refl _) (fun j hj _ => HNO.out _ (List.getElem_mem hj)) (-1) (.inr ⟨rfl, rfl⟩)).mono ?_
  rintro e w1 ⟨rfl, hb1⟩
  go_wp2
  go_ret2
  exact ⟨rfl, HB0.out.trans (hb1.mono HB0.out.size)⟩
end Go.Proofs.YtfclpecbnailgaaGreat.Mi

/-
 Proved here: what mirror.Pair, mirror.Form, mirror.Meet return, for every number; they leave what was in memory. No condition.
-/
set_option linter.unusedVariables false
namespace Go.Proofs.YtfclpecbnailgaaGreat.Mi
open Go.RowKit Go.Lib
theorem brL_len : brL.length = 26 := by kernel_rfl
set_option maxHeartbeats 1000000 in
set_option maxRecDepth 100000 in
theorem mPair_any (c : Int) (w : World) :
  Calls Tryz.prog 80 #[.int .i64 c] w fun e w' => e = .returned (.tuple #[.int .i64 (pairT c).1, .int .i64 (pairT c).2]) ∧ Below w.heap.size w w' := by
 have HC := Lib.hid (br_any w)
 have HP := fun (b : Nat) (W : World) (h : RowsAt W b brL) => pairIn_any b brL c W h (by rw [brL_len]; decide) brL_ok
 rw [brL_len] at HP
 have HP' := Lib.hid HP
 clear HP
 have hm := fun W : World => rowsAt_made brL 134 W
 have HM := Lib.hid hm
 clear hm
 obtain ⟨hz, hi⟩ := zero_of_info infoBr
 have HZ := Lib.hid hz
 rw [← br_size] at hi
 have HI := Lib.hid hi
 have HS := Lib.hid br_size
 have HO := Lib.hid br_one
 clear hz hi
 unfold pairT
 generalize (rowCells brL).toArray = cs at *
 generalize inR brL c = res at *
 go_enter Tryz.func80, Tryz.ntmps80
 go_wp2_with fail
 rename_i Q0 K1 hK1 K2 hK2
 refine HC.out.mono ?_
 rintro e w1 ⟨rfl, hb1⟩
 refine hK2 _ _ ?_
 refine wpList_allocVar rfl _ rfl (some 4) rfl _ HZ.out ?_
 refine wpList_store_rowTo rfl _ _ _ rfl rfl w1.heap.size cs rfl rfl 134 _ (heap_alloc_last w1 _) HI.out (by rw [HS.out]; rfl) HO.out ?_
 rw [World.setRow_alloc_new]
 refine wpList_nil (hK1 _ _ ?_)
 have hb2 : Below w.heap.size w (w1.alloc (.cells cs 134)) := hb1.alloc hb1.size _
 have HB2 := Lib.hid hb2
 have hR := HM.out w1
 have HR := Lib.hid hR
 clear hb1 hb2 hR HI HO HS HZ HM HC
 generalize w1.alloc (.cells cs 134) = w2 at *
 generalize w1.heap.size = b at *
 go_wp2_with fail
 refine (HP'.out b _ HR.out).mono ?_
 rintro e w3 ⟨rfl, hb3⟩
 go_wp2
 go_ret2
 exact ⟨rfl, HB2.out.trans (hb3.mono HB2.out.size)⟩
set_option maxHeartbeats 1000000 in
theorem mForm_any (c : Int) (w : World) :
  Calls Tryz.prog 161 #[.int .i64 c] w fun e w' => e = .returned (.int .i64 (formT c)) ∧ w = w' := by
 by_cases h1 : c = 9001
 ·subst h1
  go_enter Tryz.func161, Tryz.ntmps161
  go_wp2
  go_ret
  exact ⟨rfl, rfl⟩
 ·by_cases h2 : c = 9002
  ·subst h2
   go_enter Tryz.func161, Tryz.ntmps161
   go_wp2
   go_ret
   exact ⟨rfl, rfl⟩
  ·have e : formT c = c := by unfold formT; rw [if_neg h1, if_neg h2]
   rw [e]
   have d1 : (c == 9001) = false := by simpa using h1
   have d2 : (c == 9002) = false := by simpa using h2
   clear e h1 h2
   go_enter Tryz.func161, Tryz.ntmps161
   go_wp2
   go_ret
   exact ⟨rfl, rfl⟩
set_option maxHeartbeats 1000000 in
set_option maxRecDepth 100000 in
theorem mMeet_any (a b : Int) (w : World) :
  Calls Tryz.prog 141 #[.int .i64 a, .int .i64 b] w fun e w' => e = .returned (.bool (meetT a b)) ∧ Below w.heap.size w w' := by
 have CA := Lib.hid (fun W => mPair_any a W)
 have CB := Lib.hid (fun W => mPair_any b W)
 unfold meetT
 generalize pairT a = p at *
 generalize pairT b = q at *
 obtain ⟨k, o⟩ := p
 obtain ⟨m, x⟩ := q
 simp only at CA CB ⊢
 by_cases h1 : k = 1
 ·subst h1
  by_cases h2 : m = 2
  ·subst h2
   go_enter Tryz.func141, Tryz.ntmps141
   go_wp2_with fail
   refine (CA.out _).mono ?_
   rintro e w1 ⟨rfl, hb1⟩
   go_wp2_with fail
   refine (CB.out _).mono ?_
   rintro e w2 ⟨rfl, hb2⟩
   go_wp2_with fail
   refine (mForm_any o _).mono ?_
   rintro e w3 ⟨rfl, rfl⟩
   go_wp2_with fail
   refine (mForm_any b _).mono ?_
   rintro e w3 ⟨rfl, rfl⟩
   go_wp2
   go_ret
   exact ⟨rfl, hb1.trans (hb2.mono hb1.size)⟩
  ·have d2 : (m == 2) = false := by simpa using h2
   rw [d2]
   clear h2
   go_enter Tryz.func141, Tryz.ntmps141
   go_wp2_with fail
   refine (CA.out _).mono ?_
   rintro e w1 ⟨rfl, hb1⟩
   go_wp2_with fail
   refine (CB.out _).mono ?_
   rintro e w2 ⟨rfl, hb2⟩
   go_wp2
   go_ret
   exact ⟨rfl, hb1.trans (hb2.mono hb1.size)⟩
 ·have d1 : (k == 1) = false := by simpa using h1
  rw [d1]
  clear h1
  go_enter Tryz.func141, Tryz.ntmps141
  go_wp2_with fail
  refine (CA.out _).mono ?_
  rintro e w1 ⟨rfl, hb1⟩
  go_wp2_with fail
  refine (CB.out _).mono ?_
  rintro e w2 ⟨rfl, hb2⟩
  go_wp2
  go_ret
  exact ⟨rfl, hb1.trans (hb2.mono hb1.size)⟩
end Go.Proofs.YtfclpecbnailgaaGreat.Mi
