/-
  A region that builds one slice of literal ints and hands it on (a table of the document's answer); no program here but its table of types.
-/
import Derived.Test.YtikjchebffohdaaRows
import Derived.Carry
import Derived.ProofKit
import Derived.OpenShut
import Derived.Below
import Derived.Lib.Hide
import Derived.Great.BuildSlice
import Derived.WalkKit
set_option linter.unusedVariables false
namespace Go.Proofs.Ytikjchebffohdaa.Tab
open Go.RowKit Go.Lib

def litParts (l : List Int) : Array (Nat × Operand) := ((l.zipIdx 0).map fun x => (x.2, Operand.const (Value.int .i64 x.1))).toArray
theorem wpList_assignTo {P : Program} {ops : Array Oper} {Q : Exit → Act → World → Prop} {rest : List Oper} {o : Oper} {a : Act} {w : World} (hg : o.guard = none) (x : Operand) (ho : o.op = .assign x)
    (h : wpList P ops Q rest (a.put o.dst (a.eval x)) w) : wpList P ops Q (o :: rest) a w :=
  wpList_plain hg fun K hK => by
    unfold Oper.wp execOp
    simp only [ho]
    exact hK _ _ h

theorem wp_ints {P : Program} {id : Nat} {l : List Oper} {Q : Exit → Act → World → Prop} {a : Act} {w : World} (d d2 : Nat) (t e : TypeId) (zs : List Int) (n : Nat)
    (hu : P.underlying t = some (.slice e)) (hsz : (P.info? e).map (·.size) = some 1) (hz : ((P.info? e).bind (·.zero)).isSome = true) (hn : n = zs.length) (hpos : 0 < n) (hsmall : n ≤ 2 ^ 24)
    (hl : l.map (fun o => (o.dst, o.op, o.guard)) = [(some d, .buildSlice t n (litParts zs), none), (some d2, .assign (.tmp d), none)])
    (h : Q .normal ((a.put (some d) (.slice (some ⟨w.heap.size, 0, none⟩) n n)).put (some d2) ((a.put (some d) (.slice (some ⟨w.heap.size, 0, none⟩) n n)).eval (.tmp d))) (w.alloc (.cells (zs.map (Value.int .i64)).toArray e))) :
    (Code.region id l.toArray false).wp P Q a w := by
  refine wp_region_lit ?_
  generalize hops : l.toArray = ops
  clear hops
  rcases l with _ | ⟨o1, _ | ⟨o2, _ | ⟨o3, m⟩⟩⟩
  · cases hl
  · simp at hl
  · simp only [List.map_cons, List.map_nil, List.cons.injEq, Prod.mk.injEq, and_true] at hl
    obtain ⟨⟨e1, e2, e3⟩, e4, e5, e6⟩ := hl
    refine wpList_buildFlat e3 t e n (litParts zs) e2 .i64 zs hu hsz hz hn hpos hsmall rfl ?_
    refine wpList_assignTo e6 (.tmp d) e5 ?_
    rw [e1, e4]
    exact h
  · simp at hl

theorem infoI1 : (Try.prog.info? 3).map (·.size) = some 1 := by kernel_rfl
theorem infoI2 : ((Try.prog.info? 3).bind (·.zero)).isSome = true := by kernel_rfl

/-- Numbers in memory, from a block's beginning on. -/
def LitAt (w : World) (g : Nat) (zs : List Int) : Prop := g < w.heap.size ∧ ∀ k (hk : k < zs.length), w.cell? ⟨g, k, none⟩ = some (.int .i64 zs[k])
theorem LitAt.below {w w' : World} {g : Nat} {zs : List Int} (h : LitAt w g zs) (hb : Below w.heap.size w w') : LitAt w' g zs :=
  ⟨Nat.lt_of_lt_of_le h.1 hb.size, fun k hk => (hb.cell (p := ⟨g, k, none⟩) h.1).trans (h.2 k hk)⟩
theorem litAt_made (zs : List Int) (e : TypeId) (w : World) : LitAt (w.alloc (.cells (zs.map (Value.int .i64)).toArray e)) w.heap.size zs := by
  refine ⟨by simp, fun k hk => ?_⟩
  simp [hk]
end Go.Proofs.Ytikjchebffohdaa.Tab
