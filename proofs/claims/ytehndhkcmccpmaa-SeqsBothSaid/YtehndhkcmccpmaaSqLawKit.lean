/-
  What the statements of layer 12 share. No program in it.
-/
import Derived.Test.YtehndhkcmccpmaaSqAwake
import Derived.Test.YtehndhkcmccpmaaSqWhere
set_option linter.unusedVariables false
namespace Go.Proofs.Ytehndhkcmccpmaa.Sq
open Go Go.RowKit Go.Lib Go.Proofs.Ytehndhkcmccpmaa.Cl Go.Proofs.Ytehndhkcmccpmaa.Ba

theorem two_vals {w : World} {A : Option Addr} {zs : List Int} (h : IntsAt w A zs) {i j : Nat} {x y : Int} (hx : zs[i]? = some x) (hy : zs[j]? = some y) : ∃ b off, A = some ⟨b, off, none⟩ ∧ w.cell? ⟨b, off + i, none⟩ = some (.int .i64 x) ∧ w.cell? ⟨b, off + j, none⟩ = some (.int .i64 y) := by
  obtain ⟨b, off, rfl, h1⟩ := at_val h hx
  obtain ⟨b2, off2, e, h2⟩ := at_val h hy
  injection e with e
  injection e with e1 e2
  subst e1
  subst e2
  exact ⟨b, off, rfl, h1, h2⟩
theorem SeqsAll.len {c z : List Int} {lv : Int} {T : List S4} (h : SeqsAll c z lv T) : T.length ≤ z.length := by
  have e := congrArg List.length h.ok.heads
  rw [List.length_map] at e
  rw [e]
  unfold headsTo
  refine Nat.le_trans (List.length_filter_le _ _) ?_
  simp
theorem SeqsAll.lt {c z : List Int} {lv : Int} {T : List S4} (h : SeqsAll c z lv T) : ∀ s ∈ T, ∀ p ∈ s.p, p < z.length := fun s hs p hp => L_lt (h.lev s hs p hp).1
theorem SeqsAll.sl {c z : List Int} {lv : Int} {T : List S4} (h : SeqsAll c z lv T) : ∀ s ∈ T, s.p.length ≤ z.length := fun s hs => up_len' (h.up s hs) (h.lt s hs)
/-- What the places tell. -/
theorem Wp.at_ {T : List S4} {m : Nat} {f : Nat → Int} (h : Wp T m 0 f) (hm : T.length = m) {j : Nat} {s : S4} {p : Nat} (hs : T[j]? = some s) (hp : p ∈ s.p) : f p = (j : Int) :=
  h.has j s p hs hp (.inl (by have := (List.getElem?_eq_some_iff.1 hs).1; omega))
theorem Wp.not {T : List S4} {m : Nat} {f : Nat → Int} (h : Wp T m 0 f) {p : Nat} (hn : ∀ (j : Nat) (s : S4), T[j]? = some s → p ∉ s.p) : f p = -1 := by
  rcases h.non p with h1 | ⟨j, s, h1, h2, _⟩
  · exact h1
  · exact absurd h2 (hn j s h1)
end Go.Proofs.Ytehndhkcmccpmaa.Sq
