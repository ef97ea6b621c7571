/-
  Proved here: what mirror.brackets and mirror.signs return: the arrays of their rows; they leave what was in memory. No condition.
-/
import Derived.Test.YtapeebnbiappgaaDoorRows
import Derived.Test.YtapeebnbiappgaaDoorMiPlain
import Derived.Carry
import Derived.ProofKit
import Derived.OpenShut
import Derived.Below
import Derived.Lib.Hide
import Derived.Great.BuildSlice
import Derived.Deep.WholeRow
import Derived.Laws.Rows
import Derived.WalkKit
set_option linter.unusedVariables false
namespace Go.Proofs.YtapeebnbiappgaaDoor.Mi
open Go.RowKit Go.Lib

def rowV (r : MRow) : Value := .agg #[.int .i64 r.1, .int .i64 r.2.1, .int .i64 r.2.2]
def rowCells (l : List MRow) : List Value := l.flatMap fun r => [.int .i64 r.1, .int .i64 r.2.1, .int .i64 r.2.2]

/-- The frame behind a list of literals of structs and arrays. -/
def builtAll (P : Program) : List Oper → Act → Option Act
  | [], a => some a
  | o :: l, a => match o.guard, o.op with
    | none, .build t parts => match P.built t (parts.map fun (i, x) => (i, a.eval x)).toList with
      | some cells => builtAll P l (a.put o.dst (.agg cells))
      | none => none
    | _, _ => none
theorem wpList_builtAll {P : Program} {ops : Array Oper} {Q : Exit → Act → World → Prop} {rest : List Oper} {w : World} :
    ∀ (l : List Oper) (a a' : Act), builtAll P l a = some a' → wpList P ops Q rest a' w → wpList P ops Q (l ++ rest) a w
  | [], a, a', h, hr => by
    simp only [builtAll, Option.some.injEq] at h
    subst h
    exact hr
  | o :: l, a, a', h, hr => by
    unfold builtAll at h
    split at h
    · rename_i t parts hg ho
      split at h
      · rename_i cells hc
        exact wpList_buildTo hg t parts ho _ rfl cells hc (wpList_builtAll l _ a' h hr)
      · cases h
    · cases h

/-- A region that builds literals, and stores the last one into the array that was made last. -/
theorem wp_stored {P : Program} {id : Nat} {l : List Oper} {Q : Exit → Act → World → Prop} {a : Act} {w : World} (n : Nat) (a' : Act) (h1 : builtAll P (l.take n) a = some a')
    (x y : Operand) (t : TypeId) (hl : (l.drop n).map (fun o => (o.dst, o.op, o.guard)) = [(none, .store t x y, none)]) (old cells : Array Value)
    (hx : a'.eval x = .pointer (some ⟨w.heap.size, 0, none⟩)) (hy : a'.eval y = .agg cells) (hi : (P.info? t).map (·.size) = some cells.size) (hold : old.size = cells.size) (hc : cells.all (·.oneCell') = true)
    (h : Q .normal a' (w.alloc (.cells cells t))) : (Code.region id l.toArray false).wp P Q a (w.alloc (.cells old t)) := by
  refine wp_region_lit ?_
  have hw : wpList P l.toArray Q (l.take n ++ l.drop n) a (w.alloc (.cells old t)) := by
    refine wpList_builtAll _ a a' h1 ?_
    generalize l.drop n = m at hl ⊢
    rcases m with _ | ⟨o1, _ | ⟨o2, m⟩⟩
    · cases hl
    · simp only [List.map_cons, List.map_nil, List.cons.injEq, Prod.mk.injEq, and_true] at hl
      obtain ⟨e1, e2, e3⟩ := hl
      refine wpList_store_rowTo e3 t x y e2 e1 w.heap.size cells hx hy t old (heap_alloc_last w _) hi hold hc ?_
      rw [World.setRow_alloc_new]
      exact h
    · simp at hl
  rwa [List.take_append_drop] at hw

theorem infoBr : (Tryd.prog.info? 59).map (fun i => (i.zero, i.size)) = some (some (.agg (List.replicate 78 (.int .i64 0)).toArray), 78) := by kernel_rfl

/-- A new variable. -/
theorem wpList_allocVar {P : Program} {ops : Array Oper} {rest : List Oper} {o : Oper} {a : Act} {w : World} {Q : Exit → Act → World → Prop} (hg : o.guard = none) (t : TypeId) (ho : o.op = .alloc t) (d : Option Tmp) (hd : o.dst = d)
    (z : Value) (hz : ∀ w, (zeroValue t).run P w = .ok z w) (h : wpList P ops Q rest (a.put d (.pointer (some ⟨w.heap.size, 0, none⟩))) (w.alloc (.cells z.cells t))) : wpList P ops Q (o :: rest) a w := by
  subst hd
  refine wpList_plain hg fun K hK => ?_
  unfold Oper.wp execOp
  simp only [ho, Instr.alloc, Sem.run_bind, hz, Result.andThen_ok, newVar, newRow]
  exact hK _ _ h

def brFrame (g : Nat) : Act := ⟨((Value.pointer (some ⟨g, 0, none⟩) :: (brL.flatMap fun r => [Value.agg #[.int .i64 r.1, .int .i64 r.2.1], rowV r])) ++ [Value.agg (rowCells brL).toArray]).toArray, []⟩
def br0 (g : Nat) : Act := ⟨(Value.pointer (some ⟨g, 0, none⟩) :: List.replicate 53 undef).toArray, []⟩
theorem br_size : (rowCells brL).toArray.size = 78 := by kernel_rfl
theorem br_one : (rowCells brL).toArray.all (·.oneCell') = true := by kernel_rfl
set_option maxHeartbeats 4000000 in
set_option maxRecDepth 1000000 in
theorem br_any (w : World) :
    Calls Tryd.prog 37 #[] w fun e w' => e = .returned (.agg (rowCells brL).toArray) ∧ Below w.heap.size w w' := by
  obtain ⟨hz, hi⟩ := zero_of_info infoBr
  rw [← br_size] at hi
  go_enter Tryd.func37, Tryd.ntmps37
  refine wp_seq (wp_region_lit (l := [_]) (wpList_allocVar rfl _ rfl (some 0) rfl _ hz ?_))
  show Exit.then _ _ _ _ _
  refine wp_seq ?_
  refine wp_stored 53 (brFrame w.heap.size) (by kernel_rfl) (.tmp 0) (.tmp 53) 59 (by kernel_rfl) _ (rowCells brL).toArray (by kernel_rfl) (by kernel_rfl) hi (by kernel_rfl) br_one ?_
  refine wp_ret ?_
  exact bodyPost_ret (results_cell_row Tryd.results37 _ _ w.heap.size 59 _ (0, 0) _ (by kernel_rfl) (heap_alloc_last w _) Tryd.underlying59 rfl hi) (by kernel_rfl) ⟨rfl, (Below.refl _ _).alloc (Nat.le_refl _) _⟩

end Go.Proofs.YtapeebnbiappgaaDoor.Mi
