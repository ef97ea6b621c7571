/-
  Proved here: what the document's own State.Without returns, for what is open in memory; it leaves what was in memory. Condition: what is open is as it may be.
-/
import Derived.Test.YtehndhkcmccpmaaLvRefW
set_option linter.unusedVariables false
namespace Go.Proofs.Ytehndhkcmccpmaa.Lv
open Go Go.RowKit Go.Lib Go.Proofs.Ytehndhkcmccpmaa.Cl

set_option maxHeartbeats 2000000 in
set_option maxRecDepth 100000 in
theorem nWithout_any (g c n : Nat) (e : E) (r : List E) (li ld op : Int) (w : World) (hO : NsAt w g c (e :: r)) (hn : r.length = n) (h0 : 0 < n) (hr : n ≤ 1000) :
    Calls Try.prog 69 #[.agg #[.slice (some ⟨g, 0, none⟩) (n + 1) c, .int .i64 li, .int .i64 ld, .int .i64 op]] w fun x w' =>
      ∃ g' c', x = .returned (.agg #[.slice (some ⟨g', 0, none⟩) n c', .int .i64 li, .int .i64 ld, .int .i64 op]) ∧ NsAt w' g' c' r ∧ w.heap.size ≤ g' ∧ Below w.heap.size w w' := by
  obtain ⟨i0, hi, hz0, hz1, hz2⟩ := Cl.info_parts infoN3
  have hg := hO.1
  have hcap : n + 1 ≤ c := by have := hO.2.1; simp only [List.length_cons] at this; omega
  have HI := Lib.hid infoS
  have HO := Lib.hid hO.off
  have HN := Lib.hid hn
  have hlen : (nsC r).length = n * 3 := by rw [nsC_len, hn]
  clear hO hn
  go_enter Try.func69, Try.ntmps69
  go_wp2_with (at_builtin; refine wpList_append_src _ rfl _ _ 74 rfl (w.heap.size + 1 + 1) 73 i0 (.agg #[.int .i64 0, .int .i64 0, .int .i64 0]) 3 24 Try.underlying74 hi hz0 hz1 hz2 rfl (by decide) _ 0 [] rfl (made_at _ _ _ _ (by simp)) (some ⟨g, 0, none⟩) n c (nsC r) rfl hlen (fun e => by cases e) (fun ad had => ns_news had (HO.out.below (((Below.refl _ _).alloc (Nat.le_refl _) _).alloc (by simp) _ |>.alloc (by simp; omega) _))) (nsC_one r) (by unfold maxLen; omega) (by omega) (by simp) ?_)
  intro v3 w3 ho3 hg3
  obtain ⟨g3, c3, rfl, hns, hge⟩ := nsAt_own ho3 HN.out h0
  obtain ⟨e0, e1, hb2, hs2⟩ := two_new w (.cells #[.slice (some ⟨g, 0, none⟩) (n + 1) c, .int .i64 li, .int .i64 ld, .int .i64 op] 76) (.cells #[.slice none 0 0, .int .i64 0, .int .i64 0, .int .i64 0] 76)
  have hb3 := (Below.refl (w.heap.size + 1 + 1) _).grown hg3 (by simp) (fun k hk => by have e : some (w.heap.size + 1 + 1) = some k := hk; injection e with e; exact Nat.le_of_eq e)
  have hb3' := ((Below.refl (w.heap.size + 1 + 1) ((w.alloc (.cells #[.slice (some ⟨g, 0, none⟩) (n + 1) c, .int .i64 li, .int .i64 ld, .int .i64 op] 76)).alloc (.cells #[.slice none 0 0, .int .i64 0, .int .i64 0, .int .i64 0] 76))).alloc (by omega) _).trans hb3
  have q0 := (hb3'.block w.heap.size (by omega)).trans e0
  have q1 := (hb3'.block (w.heap.size + 1) (by omega)).trans e1
  have HBW := Lib.hid (hb2.trans (hb3'.mono (by omega)))
  obtain ⟨⟨z0, z1, z2, z3⟩, zf, -⟩ := four q0
  obtain ⟨⟨p0, p1, p2, p3⟩, d0, d1, d2, d3⟩ := four q1
  have HQ1 := Lib.hid q1
  have HNS := Lib.hid hns
  clear ho3 hg3 hns e0 e1 hb2 hs2 hb3 hb3' q0 q1 hi hz0 hz1 hz2 hlen
  go_wp2_with fail
  refine bodyPost_ret (results_cell_row Try.results69 _ _ (w.heap.size + 1) 76 _ (0, 0) _ rfl (heap_setCell_same _ _ 3 _ _ _ (heap_setCell_same _ _ 2 _ _ _ (heap_setCell_same _ _ 1 _ _ _ (heap_setCell_same _ _ 0 _ _ _ ((heap_setCell_other w3 ⟨w.heap.size, 0, none⟩ _ _ (by show w.heap.size + 1 ≠ w.heap.size; omega)).trans HQ1.out))))) Try.underlying76 rfl HI.out) rfl ?_
  refine ⟨g3, c3, rfl, ?_, by omega, ((((HBW.out.setCell (p := ⟨w.heap.size, 0, none⟩) (Nat.le_refl _) _).setCell (p := ⟨w.heap.size + 1, 0, none⟩) (by show w.heap.size ≤ w.heap.size + 1; omega) _).setCell (p := ⟨w.heap.size + 1, 1, none⟩) (by show w.heap.size ≤ w.heap.size + 1; omega) _).setCell (p := ⟨w.heap.size + 1, 2, none⟩) (by show w.heap.size ≤ w.heap.size + 1; omega) _).setCell (p := ⟨w.heap.size + 1, 3, none⟩) (by show w.heap.size ≤ w.heap.size + 1; omega) _⟩
  exact (((((HNS.out.store (a := ⟨w.heap.size, 0, none⟩) (by show g3 ≠ w.heap.size; omega) _).store (a := ⟨w.heap.size + 1, 0, none⟩) (by show g3 ≠ w.heap.size + 1; omega) _).store (a := ⟨w.heap.size + 1, 1, none⟩) (by show g3 ≠ w.heap.size + 1; omega) _).store (a := ⟨w.heap.size + 1, 2, none⟩) (by show g3 ≠ w.heap.size + 1; omega) _).store (a := ⟨w.heap.size + 1, 3, none⟩) (by show g3 ≠ w.heap.size + 1; omega) _)
end Go.Proofs.Ytehndhkcmccpmaa.Lv
