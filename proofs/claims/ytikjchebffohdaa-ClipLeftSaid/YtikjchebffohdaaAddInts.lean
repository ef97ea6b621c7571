/-
  The built-in append of ints onto a row of the call's own, of whatever row of ints, in one step of a walk: what is owned then, and that nothing below the row's base changes.
-/
import Derived.Test.YtikjchebffohdaaClInts
import Derived.Test.YtikjchebffohdaaAppSrc
set_option linter.unusedVariables false
namespace Go.Proofs.Ytikjchebffohdaa.Cl
open Go Go.RowKit Go.Lib

/-- The cells of a row of ints. -/
def icl (zs : List Int) : List Value := zs.map (Value.int .i64)
theorem icl_snoc (a : List Int) (z : Int) : icl (a ++ [z]) = icl a ++ [.int .i64 z] := by simp [icl]
theorem icl_append (a b : List Int) : icl (a ++ b) = icl a ++ icl b := by simp [icl]
theorem icl_len (a : List Int) : (icl a).length = a.length := by simp [icl]
theorem intsAt_icl {w : World} {B n : Nat} {v : Value} {zs : List Int} (h : w.ownsRow B 3 1 v n (icl zs)) (hn : zs.length = n) : ∃ A c, v = .slice A n c ∧ IntsAt w A zs := by
  subst hn
  exact intsAt_own h
theorem made_ints (zs : List Int) (cs : Array Value) (e : TypeId) (w : World) (h : cs = (zs.map (Value.int .i64)).toArray) : IntsAt (w.alloc (.cells cs e)) (some ⟨w.heap.size, 0, none⟩) zs := by
  subst h
  refine .inr ⟨w.heap.size, 0, rfl, by simp, fun j z hz => ?_⟩
  obtain ⟨hj, rfl⟩ := List.getElem?_eq_some_iff.1 hz
  simp [hj]
theorem made_ints' {W : World} {B : Nat} {zs : List Int} {cs : Array Value} {e : TypeId} (hB : W.heap.size = B) (h : cs = (zs.map (Value.int .i64)).toArray) : IntsAt (W.alloc (.cells cs e)) (some ⟨B, 0, none⟩) zs := by
  subst hB
  exact made_ints zs cs e W h
theorem below_made (w : World) (o : Obj) : Below w.heap.size w (w.alloc o) := (Below.refl _ _).alloc (Nat.le_refl _) _

theorem wpList_add {ops : Array Oper} {rest : List Oper} {o : Oper} {a : Act} {Q : Exit → Act → World → Prop} {w : World} (hgd : o.guard = none) (s x : Operand)
    (ho : o.op = .call { callee := .builtin .append, args := #[s, x], argTypes := #[57, 57] })
    (base : Nat) (v : Value) (n : Nat) (zs : List Int) (hs : a.eval s = v) (hown : w.ownsRow base 3 1 v n (icl zs))
    (A : Option Addr) (m c : Nat) (ys : List Int) (hx : a.eval x = .slice A m c) (hy : IntsAt w A ys) (hl : ys.length = m) (hnm : n + m ≤ 1099511627776) (hbase : base ≤ w.heap.size)
    (h : ∀ v' w', w'.ownsRow base 3 1 v' (n + m) (icl (zs ++ ys)) → Below base w w' → wpList Try.prog ops Q rest (a.put o.dst v') w') : wpList Try.prog ops Q (o :: rest) a w := by
  obtain ⟨i0, hi, hz0, hz1, hz2⟩ := info_parts infoInt
  refine wpList_append_src w hgd s x 57 ho base 3 i0 (.int .i64 0) 1 8 Try.underlying57 hi hz0 hz1 hz2 rfl (by decide) v n (icl zs) hs hown A m c (icl ys) hx (by rw [icl_len, hl, Nat.mul_one])
    (fun e => by rw [← hl]; exact hy.nil_len e) (fun ad had => ?_) (ints_one _) (by unfold maxLen; omega) (by omega) hbase (fun v' w' h2 h3 => h v' w' (by rw [icl_append]; exact h2) ?_)
  · subst had
    exact hy.news
  · exact (Below.refl base w).grown h3 hbase (fun k hk => (hown.lt k hk).1)
end Go.Proofs.Ytikjchebffohdaa.Cl
