/-
  What is open, in memory: a block of four cells and a row of its own; what (*level.opened).last and takeOff do. Small facts.
-/
import Derived.Test.YtehndhkcmccpmaaLvPlain
import Derived.Test.YtehndhkcmccpmaaClInts
import Derived.Test.YtehndhkcmccpmaaArrKit
import Derived.WalkSmall
import Derived.OneCell
import Derived.IntWalk
import Derived.OwnWalk
import Derived.RegionTactic
import Derived.Deep.AppendLies
set_option linter.unusedVariables false
namespace Go.Proofs.Ytehndhkcmccpmaa.Lv
open Go.RowKit Go.Lib Go.Proofs.Ytehndhkcmccpmaa.Cl

def eC (e : E) : List Value := [.int .i64 e.lev, .int .i64 e.ov, .bool e.iso]
/-- The cells of what is open. -/
def esC : List E → List Value
  | [] => []
  | e :: r => esC r ++ eC e
theorem esC_len : ∀ (es : List E), (esC es).length = es.length * 3
  | [] => rfl
  | e :: r => by simp [esC, eC, esC_len r]; omega
theorem esC_last (e : E) (r : List E) : (esC (e :: r))[r.length * 3]? = some (.int .i64 e.lev) ∧ (esC (e :: r))[r.length * 3 + 1]? = some (.int .i64 e.ov) ∧ (esC (e :: r))[r.length * 3 + 2]? = some (.bool e.iso) := by
  have h := esC_len r
  refine ⟨?_, ?_, ?_⟩
  · rw [esC, List.getElem?_append_right (by omega), h, Nat.sub_self]; rfl
  · rw [esC, List.getElem?_append_right (by omega), h, Nat.add_sub_cancel_left]; rfl
  · rw [esC, List.getElem?_append_right (by omega), h, Nat.add_sub_cancel_left]; rfl
theorem esC_first (b : Nat) : ∀ {es : List E}, Chain b es → (esC es)[0]? = some (.int .i64 b)
  | [], h => h.elim
  | [e], h => by
    have h : e = ⟨b, -1, false⟩ := h
    subst h
    rfl
  | e :: t :: r, h => by
    have h1 := esC_first b h.2.2.2
    have h2 := esC_len (t :: r)
    rw [esC, List.getElem?_append_left (by rw [h2]; simp)]
    exact h1

/-- What is open lies in memory: block B, and a row behind it. -/
def OpAt (w : World) (B : Nat) (s : St) : Prop :=
  ∃ g c, w.heap[B]? = some (.cells #[.int .i64 s.li, .int .i64 s.ld, .slice (some ⟨g, 0, none⟩) s.es.length c, .int .i64 s.op] 67 (0, 0)) ∧ w.ownsRow (B - 1) 62 3 (.slice (some ⟨g, 0, none⟩) s.es.length c) s.es.length (esC s.es)
theorem OpAt.lt {w : World} {B : Nat} {s : St} (h : OpAt w B s) : B < w.heap.size := by
  obtain ⟨g, c, h1, h2⟩ := h
  exact (Array.getElem?_eq_some_iff.1 h1).1
theorem OpAt.below {w w' : World} {B : Nat} {s : St} (h : OpAt w B s) (hb : Below w.heap.size w w') : OpAt w' B s := by
  obtain ⟨g, c, h1, h2⟩ := h
  exact ⟨g, c, (hb.block B (Array.getElem?_eq_some_iff.1 h1).1).trans h1, ownsRow_below h2 hb⟩
theorem own_ne {w : World} {B base g n c : Nat} {xs : List Value} {cs : Array Value} (h1 : w.heap[B]? = some (.cells cs 67 (0, 0))) (h2 : w.ownsRow base 62 3 (.slice (some ⟨g, 0, none⟩) n c) n xs) (u : Nat) (hu : u = B) : (Value.slice (some ⟨g, 0, none⟩) n c).ownBlock ≠ some u := by
  subst hu
  intro he
  have he : some g = some u := he
  injection he with he
  subst he
  rcases h2.2 with ⟨h, _⟩ | ⟨g', cap, cur, hv, _, hg, _⟩
  · cases h
  · cases hv
    rw [h1] at hg
    injection hg with hg
    injection hg with _ hg _
    exact absurd hg (by decide)
/-- A store ahead of it. -/
theorem OpAt.store {w : World} {B : Nat} {s : St} (h : OpAt w B s) {a : Addr} (ha : a.block < B - 1) (u : Value) : OpAt (w.setCell a u) B s := by
  obtain ⟨g, c, h1, h2⟩ := h
  exact ⟨g, c, (heap_setCell_other _ _ _ _ (by omega)).trans h1, ownsRow_setCell_below h2 ha u⟩
theorem four {w : World} {g : Nat} {v0 v1 v2 v3 : Value} {t : TypeId} (h : w.heap[g]? = some (.cells #[v0, v1, v2, v3] t)) :
    (w.cell? ⟨g, 0, none⟩ = some v0 ∧ w.cell? ⟨g, 1, none⟩ = some v1 ∧ w.cell? ⟨g, 2, none⟩ = some v2 ∧ w.cell? ⟨g, 3, none⟩ = some v3) ∧ w.frozen? ⟨g, 0, none⟩ = false ∧ w.frozen? ⟨g, 1, none⟩ = false ∧ w.frozen? ⟨g, 2, none⟩ = false ∧ w.frozen? ⟨g, 3, none⟩ = false :=
  ⟨⟨cell_of_row w g 0 _ _ _ h, cell_of_row w g 1 _ _ _ h, cell_of_row w g 2 _ _ _ h, cell_of_row w g 3 _ _ _ h⟩, frozen_of_row w g 0 _ _ h, frozen_of_row w g 1 _ _ h, frozen_of_row w g 2 _ _ h, frozen_of_row w g 3 _ _ h⟩
theorem three {w : World} {g : Nat} {v0 v1 v2 : Value} {t : TypeId} (h : w.heap[g]? = some (.cells #[v0, v1, v2] t)) :
    (w.cell? ⟨g, 0, none⟩ = some v0 ∧ w.cell? ⟨g, 1, none⟩ = some v1 ∧ w.cell? ⟨g, 2, none⟩ = some v2) ∧ w.frozen? ⟨g, 0, none⟩ = false ∧ w.frozen? ⟨g, 1, none⟩ = false ∧ w.frozen? ⟨g, 2, none⟩ = false :=
  ⟨⟨cell_of_row w g 0 _ _ _ h, cell_of_row w g 1 _ _ _ h, cell_of_row w g 2 _ _ _ h⟩, frozen_of_row w g 0 _ _ h, frozen_of_row w g 1 _ _ h, frozen_of_row w g 2 _ _ h⟩
theorem infoE : (Try.prog.info? 62).map (·.size) = some 3 := by kernel_rfl
theorem top3 {w : World} {B g n c : Nat} {T : TypeId} {e : E} {r : List E} (hn : r.length = n) (h : w.ownsRow B T 3 (.slice (some ⟨g, 0, none⟩) (n + 1) c) (n + 1) (esC (e :: r))) :
    w.cell? ⟨g, n * 3, none⟩ = some (.int .i64 e.lev) ∧ w.cell? ⟨g, n * 3 + 1, none⟩ = some (.int .i64 e.ov) ∧ w.cell? ⟨g, n * 3 + 2, none⟩ = some (.bool e.iso) := by
  subst hn
  obtain ⟨h0, h1, h2⟩ := esC_last e r
  exact ⟨(h.cellAt _ (by omega)).trans h0, (h.cellAt _ (by omega)).trans h1, (h.cellAt _ (by omega)).trans h2⟩

set_option maxHeartbeats 1000000 in
set_option maxRecDepth 100000 in
theorem last_any (B : Nat) (e : E) (r : List E) (li ld op : Nat) (w : World) (hO : OpAt w B ⟨e :: r, li, ld, op⟩) (hr : r.length ≤ 1000) :
    Calls Try.prog 46 #[.pointer (some ⟨B, 0, none⟩)] w fun x w' => x = .returned (.agg #[.int .i64 e.lev, .int .i64 e.ov, .bool e.iso]) ∧ Below w.heap.size w w' := by
  obtain ⟨g, c, h1, h2⟩ := hO
  obtain ⟨n, hn⟩ : ∃ n, r.length = n := ⟨_, rfl⟩
  have hi := infoE
  simp only [List.length_cons] at h1 h2
  rw [hn] at h1 h2 hr
  have hbg := (h2.lt g rfl)
  obtain ⟨k0, k1, k2⟩ := top3 hn h2
  obtain ⟨lev, ov, iso⟩ := e
  simp only at k0 k1 k2
  have hB : B < w.heap.size := (Array.getElem?_eq_some_iff.1 h1).1
  obtain ⟨⟨-, -, c2, -⟩, -⟩ := four h1
  have hA : ∀ o (k j : Nat), k < w.heap.size → (w.alloc o).cell? ⟨k, j, none⟩ = w.cell? ⟨k, j, none⟩ := fun o k j hk => World.cell?_of_block (w := w) (Below.heap_alloc w o k hk)
  obtain ⟨o, ho⟩ : ∃ o, (Obj.cells #[.int .i64 0, .int .i64 0, .bool false] 62 (0, 0)) = o := ⟨_, rfl⟩
  have q2 := (hA o B 2 hB).trans c2
  have r0 := (hA o g (n * 3) hbg.2).trans k0
  have r1 := (hA o g (n * 3 + 1) hbg.2).trans k1
  have r2 := (hA o g (n * 3 + 2) hbg.2).trans k2
  have hnew := heap_alloc_last w o
  subst ho
  obtain ⟨-, f0, f1, f2⟩ := three hnew
  have HN := Lib.hid hnew
  have HI := Lib.hid hi
  clear hA hn hnew h1 h2 k0 k1 k2 c2 hbg hi
  go_enter Try.func46, Try.ntmps46
  go_wp2_with fail
  go_region
  all_goals
    go_wp2_with fail
    refine bodyPost_ret (results_cell_row Try.results46 _ _ w.heap.size 62 _ (0, 0) _ rfl (heap_alloc_last w _) Try.underlying62 rfl HI.out) rfl ?_
    exact ⟨rfl, ((Below.refl _ _).alloc (Nat.le_refl _) _).drew⟩

set_option maxHeartbeats 1000000 in
set_option maxRecDepth 100000 in
theorem takeOff_any (B : Nat) (e t : E) (r : List E) (li ld op : Nat) (w : World) (hO : OpAt w B ⟨e :: t :: r, li, ld, op⟩) (hr : r.length ≤ 1000) :
    Calls Try.prog 58 #[.pointer (some ⟨B, 0, none⟩)] w fun x w' => x = .returned (.tuple #[]) ∧ OpAt w' B ⟨t :: r, li, ld, op⟩ ∧ Below (B - 1) w w' := by
  obtain ⟨g, c, h1, h2⟩ := hO
  obtain ⟨n, hn⟩ : ∃ n, (t :: r).length = n := ⟨_, rfl⟩
  have hn1 : 0 < n := by rw [← hn]; simp
  have hn2 : n ≤ 1001 := by rw [← hn]; simp; omega
  simp only [List.length_cons] at h1 h2 hn
  rw [hn] at h1 h2
  have hbg := (h2.lt g rfl)
  have hne := own_ne h1 h2 B rfl
  have hpop := ownsRow_pop (by rw [esC_len, List.length_cons, hn]) h2
  have hcap : n + 1 ≤ c := by
    rcases h2.2 with ⟨h1, _⟩ | ⟨g1, c1, cur, hv, _, _, hle, _⟩
    · cases h1
    · cases hv; exact hle
  obtain ⟨⟨-, -, c2, -⟩, -, -, f2, -⟩ := four h1
  have hB : B < w.heap.size := (Array.getElem?_eq_some_iff.1 h1).1
  have H1 := Lib.hid h1
  have HP := Lib.hid hpop
  have HN := Lib.hid hn
  clear h1 h2 hpop hn
  go_enter Try.func58, Try.ntmps58
  go_wp2_with fail
  go_region
  all_goals
    go_wp2_with fail
    go_end0
    refine ⟨rfl, ⟨g, c, ?_, ?_⟩, (Below.refl _ _).drew.setCell (p := ⟨B, 2, none⟩) (Nat.sub_le _ _) _⟩
    · simp only [List.length_cons]
      rw [HN.out]
      exact heap_setCell_same w _ 2 _ _ _ H1.out
    · simp only [List.length_cons]
      rw [HN.out]
      exact ownsRow_setCell_other HP.out (a := ⟨B, 2, none⟩) hne _
end Go.Proofs.Ytehndhkcmccpmaa.Lv
