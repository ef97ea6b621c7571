/-
  Proved here: what level.Explicit returns, as it is read; in a paragraph of no level. It leaves what was in memory.
-/
import Derived.Test.YtehndhkcmccpmaaLvExpl
set_option linter.unusedVariables false
namespace Go.Proofs.Ytehndhkcmccpmaa.Lv
open Go Go.RowKit Go.Lib Go.Proofs.Ytehndhkcmccpmaa.Cl

/-- What Explicit returns, as it is read. -/
def ReadPost (xs ys : List Int) (n : Nat) (w : World) (x : Ending) (w' : World) : Prop :=
  ∃ g1 g2 : Nat, x = .returned (.tuple #[.slice (some ⟨g1, 0, none⟩) n n, .slice (some ⟨g2, 0, none⟩) n n]) ∧ g1 ≠ g2 ∧ w.heap.size ≤ g1 ∧ w.heap.size ≤ g2 ∧
    w'.ownsRow w.heap.size 3 1 (.slice (some ⟨g1, 0, none⟩) n n) n (icl xs) ∧ w'.ownsRow w.heap.size 3 1 (.slice (some ⟨g2, 0, none⟩) n n) n (icl ys) ∧ IntsAt w' (some ⟨g1, 0, none⟩) xs ∧ IntsAt w' (some ⟨g2, 0, none⟩) ys ∧ Below w.heap.size w w'
theorem explicit_reads (A : Option Addr) (l : List Int) (b n m : Nat) (w : World) (hb : b ≤ 1) (hl : l.length = n) (hR : IntsAt w A l) (hn : n ≤ 1000000) (hnm : n ≤ m) :
    Calls Try.prog 11 #[.slice A n m, .int .i64 b] w fun x w' => ReadPost ((explL l b).map (·.1)) ((explL l b).map (·.2)) n w x w' := by
  refine (explicit_any A l b n m w hb hl hR hn hnm).mono ?_
  rintro x w' ⟨g1, g2, rfl, hne, h1, h2, hbw⟩
  have e1 : ((explL l b).map (·.1)).length = n := by rw [List.length_map, explL_len, hl]
  have e2 : ((explL l b).map (·.2)).length = n := by rw [List.length_map, explL_len, hl]
  obtain ⟨A1, c1, hv1, i1⟩ := intsAt_icl h1 e1
  obtain ⟨A2, c2, hv2, i2⟩ := intsAt_icl h2 e2
  have ha1 : some ⟨g1, 0, none⟩ = A1 := by injection hv1
  have ha2 : some ⟨g2, 0, none⟩ = A2 := by injection hv2
  exact ⟨g1, g2, rfl, hne, (h1.lt g1 rfl).1, (h2.lt g2 rfl).1, h1, h2, ha1 ▸ i1, ha2 ▸ i2, hbw⟩

set_option maxHeartbeats 1000000 in
set_option maxRecDepth 100000 in
theorem explicit_none (A : Option Addr) (x : Int) (n m : Nat) (w : World) (h0 : x ≠ 0) (h1 : x ≠ 1) :
    Calls Try.prog 11 #[.slice A n m, .int .i64 x] w fun e w' => e = .returned (.tuple #[.slice none 0 0, .slice none 0 0]) ∧ w = w' := by
  have k0 : (x != 0) = true := by simpa using h0
  have k1 : (x != 1) = true := by simpa using h1
  clear h0 h1
  go_enter Try.func11, Try.ntmps11
  go_wp2
  go_ret2
  exact ⟨rfl, rfl⟩
end Go.Proofs.Ytehndhkcmccpmaa.Lv
