/-
  Proved here: what csv.Count returns, for every text; it leaves what was in memory.
-/
import Derived.Test.YtdhjadjgkdgomaaDoorCvGoes
set_option linter.unusedVariables false
namespace Go.Proofs.YtdhjadjgkdgomaaDoor.Cv
open Go Go.RowKit Go.Lib

theorem run_cell_of {P : Program} {ty : TypeId} (ha : ∀ w, (isAgg ty).run P w = .ok false w) {w : World} {p : Addr} {v : Value} (hc : w.cell? p = some v) : (loadVar ty p).run P w = .ok v w := by
  simp [loadVar, ha, hc]
theorem results_cells2 {P : Program} {fn : Func} {p q : Tmp} {t u : TypeId} (h : fn.results = #[.cell p t, .cell q u]) (tmps : Array Value) (w : World) (a b : Addr) (x y : Value)
    (hp : tmps.getD p undef = .pointer (some a)) (hq : tmps.getD q undef = .pointer (some b)) (ht : ∀ w, (isAgg t).run P w = .ok false w) (hu : ∀ w, (isAgg u).run P w = .ok false w) (hx : w.cell? a = some x) (hy : w.cell? b = some y) :
    (results fn tmps).run P w = .ok (.tuple #[x, y]) w := by
  have hp' : tmps[p]?.getD undef = .pointer (some a) := by simpa using hp
  have hq' : tmps[q]?.getD undef = .pointer (some b) := by simpa using hq
  simp [results, h, hp', hq', asAddr, run_cell_of ht hx, run_cell_of hu hy]
theorem results_cell_tmps {P : Program} {fn : Func} {p q r : Tmp} {t : TypeId} (h : fn.results = #[.cell p t, .tmp q, .tmp r]) (tmps : Array Value) (w : World) (a : Addr) (x : Value)
    (hp : tmps.getD p undef = .pointer (some a)) (ht : ∀ w, (isAgg t).run P w = .ok false w) (hx : w.cell? a = some x) :
    (results fn tmps).run P w = .ok (.tuple #[x, tmps.getD q undef, tmps.getD r undef]) w := by
  have hp' : tmps[p]?.getD undef = .pointer (some a) := by simpa using hp
  simp [results, h, hp', asAddr, run_cell_of ht hx]

def lasts (es : List Ev) : Nat := (es.filter fun e => e.2).length
theorem lasts_snoc (es : List Ev) (e : Ev) : lasts (es ++ [e]) = lasts es + if e.2 then 1 else 0 := by
  unfold lasts
  rw [List.filter_append, List.length_append]
  cases h : e.2 <;> simp [h]
theorem lasts_le (es : List Ev) : lasts es ≤ es.length := List.length_filter_le _ _

structure CI (B : Nat) (w : World) (p q : Nat) (es : List Ev) (W : World) : Prop where
  below : Below B w W
  hp : B ≤ p
  hq : B ≤ q
  ne : p ≠ q
  cp : W.heap[p]? = some (.cells #[.int .i64 es.length] 3 (0, 0))
  cq : W.heap[q]? = some (.cells #[.int .i64 (lasts es)] 3 (0, 0))

theorem heap_setCell_ne (w : World) (g i k : Nat) (v : Value) (h : k ≠ g) : (w.setCell ⟨g, i, none⟩ v).heap[k]? = w.heap[k]? := Below.heap_setCell w ⟨g, i, none⟩ v k h

set_option maxHeartbeats 1000000 in
set_option maxRecDepth 100000 in
theorem count_takes (B : Nat) (w : World) (p q : Nat) : Takes 17 (.pointer (some ⟨p, 0, none⟩)) (.pointer (some ⟨q, 0, none⟩)) (CI B w p q) := by
  intro es x b W hI hn hx hw
  have hb := hI.below
  have hq2 := hI.hq
  have hp2 := hI.hp
  have hne := hI.ne
  have q0 := cell_of_row W p 0 _ _ _ hI.cp
  have q1 := cell_of_row W q 0 _ _ _ hI.cq
  have f0 := frozen_of_row W p 0 _ _ hI.cp
  have f1 := frozen_of_row W q 0 _ _ hI.cq
  have HI := Lib.hid hI
  have hl := lasts_le es
  clear hI hb
  simp at q0 q1
  have HS := Lib.hid (fun b => lasts_snoc es (⟨x, b⟩ : Ev))
  have hlen : ∀ b, (es ++ [(x, b)]).length = es.length + 1 := fun b => by simp
  have HL := Lib.hid hlen
  clear hlen hx hw
  generalize hm : lasts es = m at *
  have HM := Lib.hid hm
  generalize hk : es.length = k at *
  have HK := Lib.hid hk
  clear hm hk
  have r1 := (heap_setCell_ne W p 0 q (.int .i64 ((k : Int) + 1)) (by omega)).trans HI.out.cq
  have c1 := cell_of_row _ q 0 _ _ _ r1
  have g1 := frozen_of_row _ q 0 _ _ r1
  rw [HM.out] at c1
  simp at c1
  have R1 := Lib.hid r1
  clear r1
  go_enter Tryd.func17, Tryd.ntmps17
  go_wp2
  · refine bodyPost_end (results_none rfl _ _ _) rfl ⟨rfl, ?_⟩
    refine ⟨(HI.out.below.setCell (by exact hp2) _).setCell (by exact hq2) _, hp2, hq2, hne, ?_, ?_⟩
    · rw [HL.out]
      exact (heap_setCell_ne _ q 0 p _ hne).trans (heap_setCell_same W p 0 _ _ _ HI.out.cp)
    · rw [HS.out]
      have h := heap_setCell_same _ q 0 _ _ (.int .i64 ((m : Int) + 1)) R1.out
      exact h
  · refine bodyPost_end (results_none rfl _ _ _) rfl ⟨rfl, ?_⟩
    refine ⟨HI.out.below.setCell (by exact hp2) _, hp2, hq2, hne, ?_, ?_⟩
    · rw [HL.out]
      exact heap_setCell_same W p 0 _ _ _ HI.out.cp
    · rw [HS.out]
      have h := R1.out
      rw [HM.out] at h
      exact h

def cntR (s : ByteArray) : Nat := if s.size ≤ 65536 ∧ place 0 0 (tx s) = none then lasts (evs 0 [] (tx s)) else 0
def cntF (s : ByteArray) : Nat := if s.size ≤ 65536 ∧ place 0 0 (tx s) = none then (evs 0 [] (tx s)).length else 0

set_option maxHeartbeats 1000000 in
set_option maxRecDepth 100000 in
theorem count_any (s : ByteArray) (w : World) :
    Calls Tryd.prog 8 #[.string s] w fun e w' => e = .returned (.tuple #[.int .i64 (cntR s), .int .i64 (cntF s)]) ∧ Below w.heap.size w w' := by
  obtain ⟨B, hB⟩ : ∃ B, w.heap.size = B := ⟨_, rfl⟩
  have a0 : ((w.alloc (.cells #[.int .i64 0] 3)).alloc (.cells #[.int .i64 0] 3)).heap[B]? = some (.cells #[.int .i64 0] 3 (0, 0)) := by rw [← hB]; exact heap_alloc2_old w _ _
  have a1 : ((w.alloc (.cells #[.int .i64 0] 3)).alloc (.cells #[.int .i64 0] 3)).heap[B + 1]? = some (.cells #[.int .i64 0] 3 (0, 0)) := by rw [← hB]; exact heap_alloc2_new w _ _
  have ab : Below B w ((w.alloc (.cells #[.int .i64 0] 3)).alloc (.cells #[.int .i64 0] 3)) := ((Below.refl B w).alloc (by omega) _).alloc (by simp; omega) _
  have HCI := Lib.hid (show CI B w (B + 1) B [] ((w.alloc (.cells #[.int .i64 0] 3)).alloc (.cells #[.int .i64 0] 3)) from ⟨ab, by omega, by omega, by omega, a1, a0⟩)
  clear a0 a1 ab
  by_cases hs : s.size ≤ 65536
  · have hW := fun W (h : CI B w (B + 1) B [] W) => walk_any 17 (enters_of Tryd.func17 (by kernel_rfl) rfl) (.pointer (some ⟨B + 1, 0, none⟩)) (.pointer (some ⟨B, 0, none⟩)) _ (count_takes B w (B + 1) B) s W hs h
    unfold WalkPost at hW
    cases hp : place 0 0 (tx s) with
    | none =>
      have er : cntR s = lasts (evs 0 [] (tx s)) := if_pos ⟨hs, hp⟩
      have ef : cntF s = (evs 0 [] (tx s)).length := if_pos ⟨hs, hp⟩
      rw [er, ef]
      rw [hp] at hW
      have HW := Lib.hid hW
      clear hW hp er ef
      generalize evs 0 [] (tx s) = es at *
      go_enter Tryd.func8, Tryd.ntmps8
      go_wp2_with fail
      refine (HW.out _ HCI.out).mono ?_
      rintro e w3 ⟨rfl, hI⟩
      clear HCI HW
      have q0 := cell_of_row w3 _ 0 _ _ _ hI.cp
      have q1 := cell_of_row w3 _ 0 _ _ _ hI.cq
      have f0 := frozen_of_row w3 _ 0 _ _ hI.cp
      have f1 := frozen_of_row w3 _ 0 _ _ hI.cq
      have HI := Lib.hid hI
      clear hI
      simp at q0 q1
      simp only [pz, ez]
      obtain ⟨m, hm⟩ : ∃ m, lasts es = m := ⟨_, rfl⟩
      obtain ⟨k, hk⟩ : ∃ k, es.length = k := ⟨_, rfl⟩
      rw [hk] at q0
      rw [hm] at q1
      have HM := Lib.hid hm
      have HK := Lib.hid hk
      clear hm hk
      go_wp2_with fail
      go_region
      go_wp2_with fail
      have c0 := HI.out.cp
      have c1 := HI.out.cq
      rw [HK.out] at c0
      rw [HM.out] at c1
      have r0 := heap_setCell_same w3 B 0 _ _ (.int .i64 m) c1
      have r1 := heap_setCell_same _ (B + 1) 0 _ _ (.int .i64 k) ((heap_setCell_ne w3 B 0 (B + 1) (.int .i64 m) (by omega)).trans c0)
      have r2 := (heap_setCell_ne _ (B + 1) 0 B (.int .i64 k) (by omega)).trans r0
      refine bodyPost_ret (results_cells2 rfl _ _ ⟨B, 0, none⟩ ⟨B + 1, 0, none⟩ (.int .i64 m) (.int .i64 k) rfl rfl Tryd.isAgg3 Tryd.isAgg3 ?_ ?_) rfl ?_
      · exact (cell_of_row _ _ 0 _ _ _ r2 :)
      · exact (cell_of_row _ _ 0 _ _ _ r1 :)
      · rw [hB, HM.out, HK.out]
        exact ⟨rfl, ((HI.out.below.setCell (Nat.le_refl _) _).setCell (Nat.le_succ _) _).drew⟩
    | some k =>
      have er : cntR s = 0 := if_neg (by rw [hp]; simp)
      have ef : cntF s = 0 := if_neg (by rw [hp]; simp)
      rw [er, ef]
      rw [hp] at hW
      have HW := Lib.hid hW
      clear hW hp er ef
      generalize evs 0 [] (tx s) = es at *
      go_enter Tryd.func8, Tryd.ntmps8
      go_wp2_with fail
      refine (HW.out _ HCI.out).mono ?_
      rintro e w3 ⟨rfl, hI⟩
      clear HCI HW
      have q0 := cell_of_row w3 _ 0 _ _ _ hI.cp
      have q1 := cell_of_row w3 _ 0 _ _ _ hI.cq
      have f0 := frozen_of_row w3 _ 0 _ _ hI.cp
      have f1 := frozen_of_row w3 _ 0 _ _ hI.cq
      have HI := Lib.hid hI
      clear hI
      simp at q0 q1
      simp only [pz, ez]
      go_wp2_with fail
      have r0 := heap_setCell_same w3 B 0 _ _ (.int .i64 0) HI.out.cq
      have r1 := heap_setCell_same _ (B + 1) 0 _ _ (.int .i64 0) ((heap_setCell_ne w3 B 0 (B + 1) (.int .i64 0) (by omega)).trans HI.out.cp)
      have r2 := (heap_setCell_ne _ (B + 1) 0 B (.int .i64 0) (by omega)).trans r0
      refine bodyPost_ret (results_cells2 rfl _ _ ⟨B, 0, none⟩ ⟨B + 1, 0, none⟩ (.int .i64 0) (.int .i64 0) rfl rfl Tryd.isAgg3 Tryd.isAgg3 ?_ ?_) rfl ?_
      · exact cell_of_row _ _ 0 _ _ _ r2
      · exact cell_of_row _ _ 0 _ _ _ r1
      · rw [hB]
        exact ⟨rfl, (HI.out.below.setCell (Nat.le_refl _) _).setCell (Nat.le_succ _) _⟩
  · have er : cntR s = 0 := if_neg (by simp [hs])
    have ef : cntF s = 0 := if_neg (by simp [hs])
    rw [er, ef]
    clear er ef
    have b0 := HCI.out.cq
    have b1 := HCI.out.cp
    have q0 := cell_of_row _ _ 0 _ _ _ b1
    have q1 := cell_of_row _ _ 0 _ _ _ b0
    have f0 := frozen_of_row _ _ 0 _ _ b1
    have f1 := frozen_of_row _ _ 0 _ _ b0
    have HBE := Lib.hid HCI.out.below
    have B0 := Lib.hid b0
    have B1 := Lib.hid b1
    clear b0 b1 HCI
    have hW := Lib.hid (fun c W => walk_long s c W (by omega))
    go_enter Tryd.func8, Tryd.ntmps8
    go_wp2_with fail
    refine (hW.out _ _).mono ?_
    rintro e w' ⟨rfl, rfl⟩
    generalize (w.alloc (.cells #[.int .i64 0] 3)).alloc (.cells #[.int .i64 0] 3) = w3 at *
    simp at q0 q1
    go_wp2_with fail
    have r0 := heap_setCell_same w3 B 0 _ _ (.int .i64 0) B0.out
    have r1 := heap_setCell_same _ (B + 1) 0 _ _ (.int .i64 0) ((heap_setCell_ne w3 B 0 (B + 1) (.int .i64 0) (by omega)).trans B1.out)
    have r2 := (heap_setCell_ne _ (B + 1) 0 B (.int .i64 0) (by omega)).trans r0
    refine bodyPost_ret (results_cells2 rfl _ _ ⟨B, 0, none⟩ ⟨B + 1, 0, none⟩ (.int .i64 0) (.int .i64 0) rfl rfl Tryd.isAgg3 Tryd.isAgg3 ?_ ?_) rfl ?_
    · exact cell_of_row _ _ 0 _ _ _ r2
    · exact cell_of_row _ _ 0 _ _ _ r1
    · rw [hB]
      exact ⟨rfl, (HBE.out.setCell (Nat.le_refl _) _).setCell (Nat.le_succ _) _⟩
end Go.Proofs.YtdhjadjgkdgomaaDoor.Cv
