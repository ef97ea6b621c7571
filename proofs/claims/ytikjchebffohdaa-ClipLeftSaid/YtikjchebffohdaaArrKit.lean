/-
  Small laws: a region that builds literals and stores the last one into the array that was made last; a new variable; a world that drew; no program here.
-/
import Derived.Test.YtikjchebffohdaaTabInts
import Derived.Deep.WholeRow
import Derived.Laws.Rows
import Derived.Deep.QuietTactic
import Derived.BigQuiet
set_option linter.unusedVariables false
namespace Go.Proofs.Ytikjchebffohdaa.Arr
open Go.RowKit Go.Lib

theorem below_drewN {B : Nat} {a w : World} (h : Below B a w) (n : Nat) : Below B a (w.drewN n) := ⟨h.os, h.tape, h.output, h.size, h.block⟩
theorem below_drew {B : Nat} {a w : World} (h : Below B a w) : Below B a w.drew := ⟨h.os, h.tape, h.output, h.size, h.block⟩

/-- The frame behind a list of literals of structs and arrays. -/
def builtAll (P : Program) : List Oper → Act → Option Act
  | [], a => some a
  | o :: l, a => match o.guard, o.op with
    | none, .build t parts => match P.built t (parts.map fun (i, x) => (i, a.eval x)).toList with
      | some cells => builtAll P l (a.put o.dst (.agg cells))
      | none => none
    | _, _ => none
theorem wpList_builtAll {P : Program} {ops : Array Oper} {Q : Exit → Act → World → Prop} {rest : List Oper} {w : World} :
    ∀ (l : List Oper) (a a' : Act), builtAll P l a = some a' → wpList P ops Q rest a' w → wpList P ops Q (l ++ rest) a w
  | [], a, a', h, hr => by
    simp only [builtAll, Option.some.injEq] at h
    subst h
    exact hr
  | o :: l, a, a', h, hr => by
    unfold builtAll at h
    split at h
    · rename_i t parts hg ho
      split at h
      · rename_i cells hc
        exact wpList_buildTo hg t parts ho _ rfl cells hc (wpList_builtAll l _ a' h hr)
      · cases h
    · cases h

/-- A region that builds literals, and stores the last one into the array that was made last. -/
theorem wp_stored {P : Program} {id : Nat} {l : List Oper} {Q : Exit → Act → World → Prop} {a : Act} {w : World} (n : Nat) (a' : Act) (h1 : builtAll P (l.take n) a = some a')
    (x y : Operand) (t : TypeId) (hl : (l.drop n).map (fun o => (o.dst, o.op, o.guard)) = [(none, .store t x y, none)]) (old cells : Array Value)
    (hx : a'.eval x = .pointer (some ⟨w.heap.size, 0, none⟩)) (hy : a'.eval y = .agg cells) (hi : (P.info? t).map (·.size) = some cells.size) (hold : old.size = cells.size) (hc : cells.all (·.oneCell') = true)
    (h : Q .normal a' (w.alloc (.cells cells t))) : (Code.region id l.toArray false).wp P Q a (w.alloc (.cells old t)) := by
  refine wp_region_lit ?_
  have hw : wpList P l.toArray Q (l.take n ++ l.drop n) a (w.alloc (.cells old t)) := by
    refine wpList_builtAll _ a a' h1 ?_
    generalize l.drop n = m at hl ⊢
    rcases m with _ | ⟨o1, _ | ⟨o2, m⟩⟩
    · cases hl
    · simp only [List.map_cons, List.map_nil, List.cons.injEq, Prod.mk.injEq, and_true] at hl
      obtain ⟨e1, e2, e3⟩ := hl
      refine wpList_store_rowTo e3 t x y e2 e1 w.heap.size cells hx hy t old (heap_alloc_last w _) hi hold hc ?_
      rw [World.setRow_alloc_new]
      exact h
    · simp at hl
  rwa [List.take_append_drop] at hw

/-- A new variable. -/
theorem wpList_allocVar {P : Program} {ops : Array Oper} {rest : List Oper} {o : Oper} {a : Act} {w : World} {Q : Exit → Act → World → Prop} (hg : o.guard = none) (t : TypeId) (ho : o.op = .alloc t) (d : Option Tmp) (hd : o.dst = d)
    (z : Value) (hz : ∀ w, (zeroValue t).run P w = .ok z w) (h : wpList P ops Q rest (a.put d (.pointer (some ⟨w.heap.size, 0, none⟩))) (w.alloc (.cells z.cells t))) : wpList P ops Q (o :: rest) a w := by
  subst hd
  refine wpList_plain hg fun K hK => ?_
  unfold Oper.wp execOp
  simp only [ho, Instr.alloc, Sem.run_bind, hz, Result.andThen_ok, newVar, newRow]
  exact hK _ _ h

theorem setRow_alloc_old (w : World) (B : Obj) (g : Nat) (c : Array Value) (h : g < w.heap.size) : (w.alloc B).setRow g c = (w.setRow g c).alloc B := by
  simp only [World.setRow, World.alloc]
  congr 1
  apply Array.ext_getElem?
  intro i
  rw [Array.getElem?_modify, Array.getElem?_push, Array.getElem?_push, Array.getElem?_modify, Array.size_modify]
  by_cases h1 : i = w.heap.size
  · subst h1
    rw [if_neg (by omega), if_pos rfl, if_pos rfl]
  · rw [if_neg h1, if_neg h1]

/-- Two new variables, each with its array. -/
theorem wpList_two {P : Program} {ops : Array Oper} {rest : List Oper} {o1 o2 o3 o4 : Oper} {a : Act} {w : World} {Q : Exit → Act → World → Prop} (t1 t2 : TypeId) (d1 d2 : Tmp) (x1 x2 : Operand) (c1 c2 z1 z2 : Array Value)
    (ho : [o1, o2, o3, o4].map (fun o => (o.dst, o.op, o.guard)) = [(some d1, .alloc t1, none), (some d2, .alloc t2, none), (none, .store t1 (.tmp d1) x1, none), (none, .store t2 (.tmp d2) x2, none)])
    (hz1 : ∀ w, (zeroValue t1).run P w = .ok (.agg z1) w) (hz2 : ∀ w, (zeroValue t2).run P w = .ok (.agg z2) w)
    (a' : Act) (ha : (a.put (some d1) (.pointer (some ⟨w.heap.size, 0, none⟩))).put (some d2) (.pointer (some ⟨w.heap.size + 1, 0, none⟩)) = a')
    (e1 : a'.eval (.tmp d1) = .pointer (some ⟨w.heap.size, 0, none⟩)) (e2 : a'.eval (.tmp d2) = .pointer (some ⟨w.heap.size + 1, 0, none⟩)) (e3 : a'.eval x1 = .agg c1) (e4 : a'.eval x2 = .agg c2)
    (hi1 : (P.info? t1).map (·.size) = some c1.size) (hi2 : (P.info? t2).map (·.size) = some c2.size) (s1 : z1.size = c1.size) (s2 : z2.size = c2.size)
    (b1 : c1.all (·.oneCell') = true) (b2 : c2.all (·.oneCell') = true)
    (h : wpList P ops Q rest a' ((w.alloc (.cells c1 t1)).alloc (.cells c2 t2))) : wpList P ops Q (o1 :: o2 :: o3 :: o4 :: rest) a w := by
  simp only [List.map_cons, List.map_nil, List.cons.injEq, Prod.mk.injEq, and_true] at ho
  obtain ⟨⟨f1, f2, f3⟩, ⟨f4, f5, f6⟩, ⟨f7, f8, f9⟩, f10, f11, f12⟩ := ho
  refine wpList_allocVar f3 t1 f2 (some d1) f1 _ hz1 ?_
  refine wpList_allocVar f6 t2 f5 (some d2) f4 _ hz2 ?_
  have hsz : (w.alloc (.cells (Value.agg z1).cells t1)).heap.size = w.heap.size + 1 := by simp
  rw [hsz, ha]
  refine wpList_store_rowTo f9 _ _ _ f8 f7 w.heap.size c1 e1 e3 t1 z1 (heap_alloc2_old _ _ _) hi1 s1 b1 ?_
  rw [setRow_alloc_old _ _ _ _ (by simp), World.setRow_alloc_new]
  have hsz2 : (w.alloc (.cells c1 t1)).heap.size = w.heap.size + 1 := by simp
  refine wpList_store_rowTo f12 _ _ _ f11 f10 (w.heap.size + 1) c2 e2 e4 t2 z2 (heap_alloc2_new _ _ _) hi2 s2 b2 ?_
  rw [← hsz2, World.setRow_alloc_new]
  exact h

theorem cell_heap {w w' : World} (h : w'.heap = w.heap) (a : Addr) : w'.cell? a = w.cell? a := by
  unfold World.cell?
  rw [h]
theorem litAt_heap {w w' : World} {g : Nat} {zs : List Int} (h : Tab.LitAt w g zs) (e : w'.heap = w.heap) : Tab.LitAt w' g zs :=
  ⟨by rw [e]; exact h.1, fun k hk => (cell_heap e _).trans (h.2 k hk)⟩
theorem below_heap {B : Nat} {a w w' : World} (h : Below B a w) (e : w'.heap = w.heap) (h1 : w'.os = w.os) (h2 : w'.output = w.output) (h3 : w'.tape = w.tape) : Below B a w' :=
  ⟨h1.trans h.os, h3.trans h.tape, h2.trans h.output, by rw [e]; exact h.size, fun k hk => by rw [e]; exact h.block k hk⟩

/-- A row of ints: cells of one word. -/
theorem ints_allOne (zs : List Int) : (zs.map (Value.int .i64)).toArray.all (·.oneCell') = true := by
  rw [Array.all_eq_true']
  intro x hx
  simp only [List.mem_toArray, List.mem_map] at hx
  obtain ⟨z, _, rfl⟩ := hx
  rfl
end Go.Proofs.Ytikjchebffohdaa.Arr
