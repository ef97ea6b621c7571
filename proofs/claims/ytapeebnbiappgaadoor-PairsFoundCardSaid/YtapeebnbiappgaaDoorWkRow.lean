/-
  A row of classes of the call's own while rules write it: nothing else of memory changes; and what a rule is: a function value that, called, makes of what the row holds what it says. No program in it but its types.
-/
import Derived.Test.YtapeebnbiappgaaDoorAddInts
import Derived.OwnWalk
set_option linter.unusedVariables false
namespace Go.Proofs.YtapeebnbiappgaaDoor.Wk
open Go Go.RowKit Go.Lib Go.Proofs.YtapeebnbiappgaaDoor.Cl

theorem grown_refl (w : World) (r : Option Nat) : w.grownBy w r := ⟨rfl, rfl, rfl, Nat.le_refl _, fun _ _ _ => rfl⟩
theorem grown_trans {a b c : World} {r : Option Nat} (h : a.grownBy b r) (k : b.grownBy c r) : a.grownBy c r :=
  ⟨k.os.trans h.os, k.tape.trans h.tape, k.output.trans h.output, Nat.le_trans h.size k.size, fun i hi hne => (k.block i (Nat.lt_of_lt_of_le hi h.size) hne).trans (h.block i hi hne)⟩
theorem grown_below {w w' : World} (r : Option Nat) (h : Below w.heap.size w w') : w.grownBy w' r :=
  ⟨h.os, h.tape, h.output, h.size, fun i hi _ => h.block i hi⟩
theorem grown_drew (w : World) (r : Option Nat) : w.grownBy w.drew r := grown_below r (Below.refl _ _).drew

/-- In the world wx the row (which lies from block base on) holds L; of w nothing else has changed. -/
structure Row (base : Nat) (A : Option Addr) (n c : Nat) (w : World) (L : List Int) (wx : World) : Prop where
  own : wx.ownsRow base 3 1 (.slice A n c) n (icl L)
  gr : w.grownBy wx (Value.slice A n c).ownBlock

section
variable {bs : Nat} {A : Option Addr} {n c : Nat} {w wx wy : World} {L : List Int}
theorem Row.start (h : w.ownsRow bs 3 1 (.slice A n c) n (icl L)) : Row bs A n c w L w := ⟨h, grown_refl _ _⟩
theorem Row.len (h : Row bs A n c w L wx) : L.length = n := by
  have := h.own.1
  rw [icl_len] at this
  omega
theorem Row.below (h : Row bs A n c w L wx) (hb : Below wx.heap.size wx wy) : Row bs A n c w L wy :=
  ⟨ownsRow_below h.own hb, grown_trans h.gr (grown_below _ hb)⟩
theorem Row.alloc (h : Row bs A n c w L wx) (o : Obj) : Row bs A n c w L (wx.alloc o) := h.below (below_made wx o)
theorem Row.drew (h : Row bs A n c w L wx) : Row bs A n c w L wx.drew := h.below (Below.refl _ _).drew
theorem Row.base (h : Row bs A n c w L wx) : ∀ k, (Value.slice A n c).ownBlock = some k → bs ≤ k ∧ k < wx.heap.size := h.own.lt
/-- A block that is not the row's. -/
theorem Row.cell (h : Row bs A n c w L wx) {p : Addr} {v : Value} (hp : w.cell? p = some v) (hne : some p.block ≠ (Value.slice A n c).ownBlock) : wx.cell? p = some v := h.gr.cell hp hne
theorem Row.at_ (h : Row bs A n c w L wx) {d r : List Int} {x : Int} {k : Nat} (hL : L = d ++ x :: r) (hk : d.length = k) :
    ∃ g, A = some ⟨g, 0, none⟩ ∧ wx.cell? ⟨g, k, none⟩ = some (.int .i64 x) ∧ wx.frozen? ⟨g, k, none⟩ = false ∧ k < n ∧ n ≤ c ∧ ∀ z : Int, Row bs A n c w (d ++ z :: r) (wx.setCell ⟨g, k, none⟩ (.int .i64 z)) := by
  subst hk
  have hlen := h.len
  subst hL
  rw [List.length_append, List.length_cons] at hlen
  rcases h.own.2 with ⟨e, hn⟩ | ⟨g, cap, cur, e, hB, hg, hle, -⟩
  · omega
  · injection e with e1 e2 e3
    subst e1 e3
    refine ⟨g, rfl, ?_, h.own.frozenAt _, by omega, hle, fun z => ?_⟩
    · rw [h.own.cellAt _ (by omega)]
      simp [icl]
    · obtain ⟨h1, h2⟩ := h.own.stored d.length (.int .i64 z)
      refine ⟨?_, grown_trans h.gr h2⟩
      rw [show (icl (d ++ x :: r)).set d.length (.int .i64 z) = icl (d ++ z :: r) from by simp [icl]] at h1
      exact h1
/-- A row of ints that lies elsewhere. -/
theorem Row.ints (h : Row bs A n c w L wx) {p q : Nat} {zs : List Int} (hp : IntsAt w (some ⟨p, q, none⟩) zs) (hne : some p ≠ (Value.slice A n c).ownBlock) : IntsAt wx (some ⟨p, q, none⟩) zs := by
  rcases hp with rfl | ⟨b, off, e, hb, hz⟩
  · exact .inl rfl
  · injection e with e
    injection e with e1 e2 e3
    subst e1 e2
    exact .inr ⟨_, _, rfl, Nat.lt_of_lt_of_le hb h.gr.size, fun j z hj => h.gr.cell (hz j z hj) hne⟩
end

/-- The function value fv, called in w or later, makes R of what the row holds. -/
def RuleOk (base : Nat) (A : Option Addr) (n c : Nat) (fv : Value) (R : List Int → List Int) (w : World) : Prop :=
  ∃ k mid caps, fv = .func (.func k) mid caps ∧ (∀ args W, (callFunc k args).run Tryd.prog W = .ok (.enter k args) W) ∧
    ∀ W L, w.grownBy W (Value.slice A n c).ownBlock → W.ownsRow base 3 1 (.slice A n c) n (icl L) →
      Calls Tryd.prog k (mid ++ caps) W fun e W' => e = .returned (.tuple #[]) ∧ Row base A n c W (R L) W'
theorem RuleOk.later {base : Nat} {A : Option Addr} {n c : Nat} {fv : Value} {R : List Int → List Int} {w w' : World} (h : RuleOk base A n c fv R w) (hg : w.grownBy w' (Value.slice A n c).ownBlock) : RuleOk base A n c fv R w' := by
  obtain ⟨k, mid, caps, e, h1, h2⟩ := h
  exact ⟨k, mid, caps, e, h1, fun W L hW hL => h2 W L (grown_trans hg hW) hL⟩
end Go.Proofs.YtapeebnbiappgaaDoor.Wk
