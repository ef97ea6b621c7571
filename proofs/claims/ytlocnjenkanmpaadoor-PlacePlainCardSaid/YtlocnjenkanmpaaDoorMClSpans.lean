/-
  Proved here: what class.spans returns: a new row of the 166 spans of spansL; it leaves what was in memory. No condition.
-/
import Derived.Carry
import Derived.ProofKit
import Derived.OpenShut
import Derived.Below
import Derived.Lib.Hide
import Derived.Great.BuildSlice
import Derived.WalkKit
import Derived.Test.YtlocnjenkanmpaaDoorM2
set_option linter.unusedVariables false
namespace Go.Proofs.YtlocnjenkanmpaaDoor.Cl
open Go.RowKit Go.Lib
def spanV (s : Int × Int × Int) : Value := .agg #[.int .i64 s.1, .int .i64 s.2.1, .int .i64 s.2.2]
def spanCells (l : List (Int × Int × Int)) : List Value := l.flatMap fun s => [.int .i64 s.1, .int .i64 s.2.1, .int .i64 s.2.2]
/-- The frame behind a list of literals of structs. -/
def builtAll (P : Program) : List Oper → Act → Option Act
  | [], a => some a
  | o :: l, a => match o.guard, o.op with
    | none, .build t parts => match P.built t (parts.map fun (i, x) => (i, a.eval x)).toList with
      | some cells => builtAll P l (a.put o.dst (.agg cells))
      | none => none
    | _, _ => none
theorem wpList_builtAll {P : Program} {ops : Array Oper} {Q : Exit → Act → World → Prop} {rest : List Oper} {w : World} :
    ∀ (l : List Oper) (a a' : Act), builtAll P l a = some a' → wpList P ops Q rest a' w → wpList P ops Q (l ++ rest) a w
  | [], a, a', h, hr => by
    simp only [builtAll, Option.some.injEq] at h
    subst h
    exact hr
  | o :: l, a, a', h, hr => by
    unfold builtAll at h
    split at h
    · rename_i t parts hg ho
      split at h
      · rename_i cells hc
        exact wpList_buildTo hg t parts ho _ rfl cells hc (wpList_builtAll l _ a' h hr)
      · cases h
    · cases h
theorem wpList_assignTo {P : Program} {ops : Array Oper} {Q : Exit → Act → World → Prop} {rest : List Oper} {o : Oper} {a : Act} {w : World} (hg : o.guard = none) (x : Operand) (ho : o.op = .assign x)
    (h : wpList P ops Q rest (a.put o.dst (a.eval x)) w) : wpList P ops Q (o :: rest) a w :=
  wpList_plain hg fun K hK => by
    unfold Oper.wp execOp
    simp only [ho]
    exact hK _ _ h
/-- A region that builds structs, then the slice of them, then hands it on. -/
theorem wp_table {P : Program} {id : Nat} {l : List Oper} {Q : Exit → Act → World → Prop} {a : Act} {w : World} (n : Nat) (a' : Act) (h1 : builtAll P (l.take n) a = some a')
    (d d2 : Option Tmp) (x : Operand) (t e : TypeId) (len : Nat) (parts : Array (Nat × Operand)) (hl : (l.drop n).map (fun o => (o.dst, o.op, o.guard)) = [(d, .buildSlice t len parts, none), (d2, .assign x, none)])
    (cells : Array Value) (ie : TypeInfo) (z : Value)
    (hu : P.underlying t = some (.slice e)) (hie : P.info? e = some ie) (hz : ie.zero = some z) (hsmall : ¬ len * ie.size > 2 ^ 24) (hpos : ¬ len * ie.size = 0)
    (hf : Instr.fill (fun i => some (i * ie.size, ie.size)) ((Array.range (len * ie.size)).map (z.cells[· % z.cells.size]!)) (parts.map fun (i, x) => (i, a'.eval x)).toList = some cells)
    (h : Q .normal ((a'.put d (.slice (some ⟨w.heap.size, 0, none⟩) len len)).put d2 ((a'.put d (.slice (some ⟨w.heap.size, 0, none⟩) len len)).eval x)) (w.alloc (.cells cells e))) : (Code.region id l.toArray false).wp P Q a w := by
  refine wp_region_lit ?_
  have hw : wpList P l.toArray Q (l.take n ++ l.drop n) a w := by
    refine wpList_builtAll _ a a' h1 ?_
    generalize l.drop n = m at hl ⊢
    rcases m with _ | ⟨o1, _ | ⟨o2, _ | ⟨o3, m⟩⟩⟩
    · cases hl
    · simp at hl
    · simp only [List.map_cons, List.map_nil, List.cons.injEq, Prod.mk.injEq, and_true] at hl
      obtain ⟨⟨e1, e2, e3⟩, e4, e5, e6⟩ := hl
      subst e1 e4
      exact wpList_buildSlice e3 t e len parts e2 cells ie z hu hie hz hsmall hpos hf (wpList_assignTo e6 x e5 h)
    · simp at hl
  rwa [List.take_append_drop] at hw
def spanFrame : Act := ⟨((.slice none 0 0 :: spansL.map spanV) ++ [undef]).toArray, []⟩
theorem infoSpan : (Tryd.prog.info? 129).map (fun i => (i.zero, i.size)) = some (some (.agg #[.int .i64 0, .int .i64 0, .int .i64 0]), 3) := by kernel_rfl
theorem fill_spans : Instr.fill (fun i => some (i * 3, 3)) ((Array.range (166 * 3)).map ((Value.agg #[.int .i64 0, .int .i64 0, .int .i64 0]).cells[· % (Value.agg #[.int .i64 0, .int .i64 0, .int .i64 0]).cells.size]!)) (((List.range 166).map fun i => (i, Operand.tmp (i + 1))).toArray.map fun (i, x) => (i, spanFrame.eval x)).toList = some (spanCells spansL).toArray := by
  kernel_rfl
set_option maxHeartbeats 4000000 in
set_option maxRecDepth 1000000 in
theorem spans_any (w : World) :
    Calls Tryd.prog 88 #[] w fun e w' => e = .returned (.slice (some ⟨w.heap.size, 0, none⟩) 166 166) ∧ w' = w.alloc (.cells (spanCells spansL).toArray 129) := by
  obtain ⟨i0, hi, hz0, hz1⟩ : ∃ i, Tryd.prog.info? 129 = some i ∧ i.zero = some (.agg #[.int .i64 0, .int .i64 0, .int .i64 0]) ∧ i.size = 3 := by
    have := infoSpan
    cases h : Tryd.prog.info? 129 with
    | none => rw [h] at this; cases this
    | some i => rw [h] at this; simp only [Option.map_some, Option.some.injEq, Prod.mk.injEq] at this; exact ⟨i, rfl, this.1, this.2⟩
  go_enter Tryd.func88, Tryd.ntmps88
  refine wp_seq (wp_region_lit (l := [_]) (wpList_assignTo rfl _ rfl ?_))
  show Exit.then _ _ _ _ _
  refine wp_seq ?_
  refine wp_table 166 spanFrame (by kernel_rfl) (some 167) (some 0) (.tmp 167) 111 129 166 ((List.range 166).map fun i => (i, Operand.tmp (i + 1))).toArray (by kernel_rfl) (spanCells spansL).toArray i0 (.agg #[.int .i64 0, .int .i64 0, .int .i64 0]) Tryd.underlying111 hi hz0 (by rw [hz1]; decide) (by rw [hz1]; decide) (by rw [hz1]; exact fill_spans) ?_
  refine wp_ret ?_
  go_ret
  exact ⟨by kernel_rfl, rfl⟩
end Go.Proofs.YtlocnjenkanmpaaDoor.Cl
