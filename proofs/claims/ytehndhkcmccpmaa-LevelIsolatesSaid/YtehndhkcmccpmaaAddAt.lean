/-
  The built-in append of a row of numbers onto one of the call's own, and where it lies then: where it lay, or in a block that is new. No program in it.
-/
import Derived.Test.YtehndhkcmccpmaaLvOne
import Derived.Maps.AppendAt
set_option linter.unusedVariables false
set_option maxRecDepth 100000
namespace Go.Proofs.Ytehndhkcmccpmaa.Cl
open Go Go.RowKit Go.Lib

theorem wpList_addAt {ops : Array Oper} {rest : List Oper} {o : Oper} {a : Act} {Q : Exit → Act → World → Prop} {w : World} (hgd : o.guard = none) (s x : Operand)
    (ho : o.op = .call { callee := .builtin .append, args := #[s, x], argTypes := #[22, 22] })
    (base : Nat) (v : Value) (n : Nat) (zs : List Int) (hs : a.eval s = v) (hown : w.ownsRow base 3 1 v n (icl zs))
    (A : Option Addr) (m c : Nat) (ys : List Int) (hx : a.eval x = .slice A m c) (hy : IntsAt w A ys) (hl : ys.length = m) (hnm : n + m ≤ 1099511627776) (hbase : base ≤ w.heap.size)
    (h : ∀ v' w', w'.ownsRow base 3 1 v' (n + m) (icl (zs ++ ys)) → w.grownBy w' v.ownBlock → (v'.ownBlock = v.ownBlock ∨ ∃ k, v'.ownBlock = some k ∧ w.heap.size ≤ k) → Below base w w' → wpList Try.prog ops Q rest (a.put o.dst v') w') : wpList Try.prog ops Q (o :: rest) a w := by
  obtain ⟨i0, hi, hz0, hz1, hz2⟩ := info_parts infoInt
  cases A with
  | some ad => exact wpList_append_own_at w hgd s x 22 ho base 3 i0 (.int .i64 0) 1 8 Try.underlying22 hi hz0 hz1 hz2 rfl (by decide) v n (icl zs) hs hown ad m c (icl ys) hx (by rw [icl_len, hl, Nat.mul_one]) hy.news (ints_one _) (by unfold maxLen; omega) (by omega) hbase (fun v' w' h2 h3 _ h4 => h v' w' (by rw [icl_append]; exact h2) h3 (h4.imp_right fun e => ⟨_, e, Nat.le_refl _⟩) ((Below.refl base w).grown h3 hbase (fun k hk => (hown.lt k hk).1)))
  | none =>
    obtain rfl : ys = [] := List.eq_nil_of_length_eq_zero (hy.nil_len rfl)
    obtain rfl : 0 = m := hl
    have hshape : ∃ b k d, v = .slice b k d ∧ k ≤ d := by
      rcases hown.2 with ⟨rfl, _⟩ | ⟨g, cap, cur, rfl, _, _, hle, _⟩
      · exact ⟨_, _, _, rfl, Nat.le_refl _⟩
      · exact ⟨_, _, _, rfl, hle⟩
    obtain ⟨b, k, d, rfl, hkd⟩ := hshape
    have hr := run_append_nothing (P := Try.prog) w 22 22 o.type 3 i0 Try.underlying22 hi b k d hkd (.slice none 0 c) (Src.ofNil w Try.underlying22 c)
    refine wpList_plain hgd fun K hK => ?_
    unfold Oper.wp execOp
    simp only [ho, resolve, invoke, builtin, Sem.run_bind, Sem.run_pure, Result.andThen_ok, List.map_toArray, List.map_cons, List.map_nil, hs, hx, hr]
    refine hK _ _ (h _ _ ?_ ⟨rfl, rfl, rfl, Nat.le_refl _, fun _ _ _ => rfl⟩ (.inl rfl) (Below.refl _ _))
    rw [Nat.add_zero, List.append_nil]
    exact hown
end Go.Proofs.Ytehndhkcmccpmaa.Cl
