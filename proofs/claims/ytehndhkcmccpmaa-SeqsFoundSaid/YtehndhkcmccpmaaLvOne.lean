/-
  The built-in append of one number onto a row of numbers of the call's own: where the row lies then: where it lay, or in a block that is new. Two rows that grow side by side. No program in it.
-/
import Derived.Test.YtehndhkcmccpmaaAddInts
import Derived.OwnWalk
set_option linter.unusedVariables false
set_option maxRecDepth 100000
namespace Go.Proofs.Ytehndhkcmccpmaa.Cl
open Go Go.RowKit Go.Lib

theorem run_one (ty : TypeId) (base : Nat) (v : Value) (n : Nat) (zs : List Int) (z : Int) (w : World) (hown : w.ownsRow base 3 1 v n (icl zs)) (ad : Addr) (hz : w.cell? ad = some (.int .i64 z)) (hs : ad.add 0 = ad) (hn : n ≤ 1099511627776) (hbase : base ≤ w.heap.size) :
    ∃ v' w', (Builtin.append_ #[22, 22] ty #[v, .slice (some ad) 1 1]).run Try.prog w = .ok v' w' ∧ w'.ownsRow base 3 1 v' (n + 1) (icl (zs ++ [z])) ∧ w.grownBy w' v.ownBlock ∧ (v'.ownBlock = v.ownBlock ∨ ∃ k, v'.ownBlock = some k ∧ w.heap.size ≤ k) := by
  obtain ⟨i0, hi, hz0, hz1, hz2⟩ := info_parts infoInt
  have hnews : ∀ j u, [Value.int .i64 z][j]? = some u → w.cell? (ad.add j) = some u := by
    intro j u hu
    cases j with
    | zero =>
      injection hu with hu
      rw [hs, ← hu]
      exact hz
    | succ j => simp at hu
  have h1 : ∀ u ∈ [Value.int .i64 z], u.oneCell' = true := by
    intro u hu
    simp only [List.mem_singleton] at hu
    subst hu
    rfl
  have hx : icl (zs ++ [z]) = icl zs ++ [.int .i64 z] := icl_snoc zs z
  rw [hx]
  rcases hown.2 with ⟨rfl, rfl⟩ | ⟨g, cap, cur, rfl, hbg, hg, hnc, hcm, hcs, htake⟩
  · have hz' : icl zs = [] := List.eq_nil_of_length_eq_zero (by simpa using hown.1)
    obtain ⟨v', w', hr, ho, hg, -⟩ := run_append_own (P := Try.prog) w w.heap.size 22 ty 3 i0 (.int .i64 0) 1 8 Try.underlying22 hi hz0 hz1 hz2 rfl (by decide) (.slice none 0 0) 0 (icl zs) (by rw [hz']; exact World.ownsRow_nil _ _ _ _) ad 1 1 [.int .i64 z] rfl hnews h1 (by unfold maxLen; omega) (by omega) (Nat.le_refl _)
    refine ⟨v', w', hr, ?_, hg, .inr ?_⟩
    · exact ho.mono hbase
    · obtain ⟨k, c, rfl, hk, -⟩ := ho.form (by omega)
      exact ⟨k, rfl, hk⟩
  · by_cases hroom : n + 1 ≤ cap
    · obtain ⟨w', hr, ho, hgr⟩ := run_append_fits (P := Try.prog) w base 22 ty 3 i0 1 Try.underlying22 hi hz1 g n cap (icl zs) hown ad 1 1 [.int .i64 z] rfl hnews h1 hroom
      exact ⟨_, w', hr, ho, hgr, .inl rfl⟩
    · obtain ⟨v', w', hr, ho, hgr, -⟩ := run_append_own (P := Try.prog) w base 22 ty 3 i0 (.int .i64 0) 1 8 Try.underlying22 hi hz0 hz1 hz2 rfl (by decide) _ n (icl zs) hown ad 1 1 [.int .i64 z] rfl hnews h1 (by unfold maxLen; omega) (by omega) hbase
      have holds : ∀ j u, (icl zs)[j]? = some u → w.cell? ((⟨g, 0, none⟩ : Addr).add j) = some u := hown.cells (g := g) rfl
      have hr2 := run_append_grow (P := Try.prog) w 22 ty 3 i0 (.int .i64 0) Try.underlying22 hi hz0 ⟨g, 0, none⟩ n cap (icl zs) (by rw [hz1]; exact hown.1) holds ad 1 1 [.int .i64 z] (by rw [hz1]; rfl) hnews (by omega) (by omega) (by rw [hz2]; exact growslice_fits (by omega) (by omega))
      refine ⟨v', w', hr, ho, hgr, .inr ?_⟩
      rw [hr2] at hr
      injection hr with hv _
      exact ⟨w.heap.size, by rw [← hv]; rfl, Nat.le_refl _⟩

theorem wpList_one {ops : Array Oper} {rest : List Oper} {o : Oper} {a : Act} {Q : Exit → Act → World → Prop} {w : World} (hgd : o.guard = none) (s x : Operand)
    (ho : o.op = .call { callee := .builtin .append, args := #[s, x], argTypes := #[22, 22] })
    (base : Nat) (v : Value) (n : Nat) (zs : List Int) (z : Int) (hs : a.eval s = v) (ad : Addr) (hx : a.eval x = .slice (some ad) 1 1) (hown : w.ownsRow base 3 1 v n (icl zs)) (hz : w.cell? ad = some (.int .i64 z)) (hsp : ad.add 0 = ad) (hn : n ≤ 1099511627776) (hbase : base ≤ w.heap.size)
    (h : ∀ v' w', w'.ownsRow base 3 1 v' (n + 1) (icl (zs ++ [z])) → w.grownBy w' v.ownBlock → (v'.ownBlock = v.ownBlock ∨ ∃ k, v'.ownBlock = some k ∧ w.heap.size ≤ k) → wpList Try.prog ops Q rest (a.put o.dst v') w') : wpList Try.prog ops Q (o :: rest) a w := by
  refine wpList_plain hgd fun K hK => ?_
  obtain ⟨v', w', hr, h2, h3, h4⟩ := run_one o.type base v n zs z w hown ad hz hsp hn hbase
  unfold Oper.wp execOp
  simp only [ho, resolve, invoke, builtin, Sem.run_bind, Sem.run_pure, Result.andThen_ok, List.map_toArray, List.map_cons, List.map_nil, hs, hx, hr]
  exact hK _ _ (h v' w' h2 h3 h4)

/-- Two rows lie apart. -/
def Two (u v : Value) : Prop := u.ownBlock = none ∨ u.ownBlock ≠ v.ownBlock
theorem Two.nil (v : Value) : Two (.slice none 0 0) v := .inl rfl
theorem Two.swap {u v : Value} (h : Two u v) : Two v u := by
  rcases h with h | h
  · cases hv : v.ownBlock with
    | none => exact .inl hv
    | some k => exact .inr (by rw [h, hv]; exact fun e => by cases e)
  · exact .inr (fun e => h e.symm)
/-- The first one grows. -/
theorem Two.grow {w : World} {u u' v : Value} {base n : Nat} {xs : List Value} (h : Two u v) (ho : w.ownsRow base 3 1 v n xs) (hu : u'.ownBlock = u.ownBlock ∨ ∃ k, u'.ownBlock = some k ∧ w.heap.size ≤ k) : Two u' v := by
  rcases hu with hu | ⟨k, hk, hle⟩
  · rcases h with h | h
    · exact .inl (hu.trans h)
    · exact .inr (by rw [hu]; exact h)
  · refine .inr ?_
    rw [hk]
    intro e
    have := (ho.lt k e.symm).2
    omega
theorem Two.kept {w w' : World} {u v : Value} {base n : Nat} {xs : List Value} (h : Two u v) (ho : w.ownsRow base 3 1 v n xs) (hg : w.grownBy w' u.ownBlock) : w'.ownsRow base 3 1 v n xs := by
  refine ho.kept hg ?_
  rcases h.swap with h | h
  · exact .inl h
  · exact .inr h
end Go.Proofs.Ytehndhkcmccpmaa.Cl
