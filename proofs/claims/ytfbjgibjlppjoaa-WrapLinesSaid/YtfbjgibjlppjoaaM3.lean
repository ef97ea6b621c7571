/-
  Several texts in one, each with its own remark: KuChain, KuText, KuSix, RnRet, RnDrop, RnRows, KuRuns, RnTextB, RfCode, RfFirstKit.
-/
import Derived.WalkKit
import Derived.Lib.Small
import Derived.Lib.Strings
import Derived.Lib.Slices
import Derived.Lib.Walk
import Derived.Laws.Strings3
import Derived.Deep.QuietTactic
import Derived.BigQuiet
import Derived.LoopTactic
import Derived.Deep.LoopGhost
import Derived.Lib.OthersKept
import Derived.Lib.Hide
import Derived.Below
import Derived.Laws.AppendOwn
import Derived.Laws.OwnMore
import Derived.OwnWalk
import Derived.Lib.BufferRead
import Derived.Laws.IdiomStrings
import Derived.Deep.AppendLies
import Derived.Deep.RegionWith
import Derived.Test.YtfbjgibjlppjoaaM1
import Derived.Test.YtfbjgibjlppjoaaM2
import Derived.Test.YtfbjgibjlppjoaaM0
import Derived.Test.YtfbjgibjlppjoaaRows

/-
  Plain facts on clusters: runes that follow one another without a gap have clusters that do; which cluster has a byte; no program here.
-/
set_option linter.unusedVariables false
namespace Go.Proofs.Ytfbjgibjlppjoaa.Ku
open Go.Proofs.Ytfbjgibjlppjoaa.Co Go.Proofs.Ytfbjgibjlppjoaa.Gc

/-- Has a cluster a byte? -/
def hasT (x : C6) (p : Int) : Bool := decide (0 < x.z) && (decide (x.a ≤ p) && decide (p < x.a + x.z))
/-- The place of the first one that has it; as many as there are, if there is none. -/
def findN (l : List C6) (p : Int) : Nat := l.findIdx (fun x => hasT x p)
theorem findN_le (l : List C6) (p : Int) : findN l p ≤ l.length := List.findIdx_le_length
theorem findN_yes (l : List C6) (p : Int) (k : Nat) (hk : k < l.length) (h : hasT l[k] p = true) (ha : ∀ j (hj : j < k), hasT (l[j]'(by omega)) p = false) : findN l p = k := by
  unfold findN
  rw [List.findIdx_eq hk]
  exact ⟨h, fun j hj => by rw [ha j hj]⟩
theorem findN_no (l : List C6) (p : Int) (h : ∀ k (hk : k < l.length), hasT l[k] p = false) : findN l p = l.length := by
  unfold findN
  rw [List.findIdx_eq_length]
  intro x hx
  obtain ⟨k, hk, rfl⟩ := List.getElem_of_mem hx
  rw [h k hk]

/-- The runes of a text, as numbers. -/
def ints3 (l : List (Nat × Nat × Nat)) : List R3 := l.map fun r => ((r.1 : Int), (r.2.1 : Int), (r.2.2 : Int))
theorem ints3_len (l : List (Nat × Nat × Nat)) : (ints3 l).length = l.length := by simp [ints3]

/-- Clusters that follow one another without a gap, from a byte and a place to a byte. -/
def Chn : Nat → Nat → List C6 → Nat → Prop
  | p, q, [], e => p = e
  | p, q, x :: l, e => ∃ m k : Nat, 1 ≤ m ∧ 1 ≤ k ∧ x.a = p ∧ x.z = m ∧ x.f = q ∧ x.t = (q + k : Nat) ∧ Chn (p + m) (q + k) l e
theorem chn_mk {p q e : Nat} {x : C6} {l : List C6} (m k : Nat) (h1 : 1 ≤ m) (h2 : 1 ≤ k) (ha : x.a = p) (hz : x.z = m) (hf : x.f = q) (ht : x.t = (q + k : Nat)) (h : Chn (p + m) (q + k) l e) : Chn p q (x :: l) e := ⟨m, k, h1, h2, ha, hz, hf, ht, h⟩
theorem chn_le : ∀ (l : List C6) (p q e : Nat), Chn p q l e → p ≤ e
  | [], p, q, e, h => by unfold Chn at h; omega
  | x :: l, p, q, e, h => by
    obtain ⟨m, k, h1, h2, _, _, _, _, h3⟩ := h
    have := chn_le l _ _ _ h3
    omega
theorem run_chain : ∀ (l : List (Nat × Nat × Nat)) (σ : Sg) (n p e : Nat) (x : C6) (b m q : Nat), Rn.Chain l p e → e ≤ 1000000 → x.a = b → x.z = m → 1 ≤ m → b + m = p → x.f = q → x.t = n → q < n → Chn b q (run σ n x (ints3 l)) e
  | [], σ, n, p, e, x, b, m, q, hc, he, ha, hz, hm, hp, hf, ht, hq => by
    have : p = e := hc
    refine chn_mk (l := []) m (n - q) hm (by omega) ha hz hf (by rw [ht]; congr 1; omega) ?_
    show b + m = e
    omega
  | r :: l, σ, n, p, e, x, b, m, q, hc, he, ha, hz, hm, hp, hf, ht, hq => by
    have hl : ∃ s, r.1 = p ∧ r.2.1 = s ∧ 1 ≤ s ∧ Rn.Chain l (p + s) e := by
      obtain ⟨k0, k1, _, _, k4⟩ := hc
      exact ⟨r.2.1, k0, rfl, k1, k4⟩
    obtain ⟨s, h1, h2, h3, h4⟩ := hl
    have hle := Rn.chain_le _ _ _ h4
    show Chn b q (run σ n x (((r.1 : Int), (r.2.1 : Int), (r.2.2 : Int)) :: ints3 l)) e
    cases hj : joins σ (r.2.2 : Int) with
    | true =>
      rw [run_yes (r := ((r.1 : Int), (r.2.1 : Int), (r.2.2 : Int))) hj]
      refine run_chain l _ (n + 1) (p + s) e _ b (m + s) q h4 he ?_ ?_ (by omega) (by omega) ?_ ?_ (by omega)
      · exact ha
      · show IntKind.i64.wrap (x.z + (r.2.1 : Int)) = _
        rw [hz, h2, IntWalk.i64_in _ (by omega)]
        omega
      · exact hf
      · show (n : Int) + 1 = _
        omega
    | false =>
      rw [run_no (r := ((r.1 : Int), (r.2.1 : Int), (r.2.2 : Int))) hj]
      refine chn_mk m (n - q) hm (by omega) ha hz hf (by rw [ht]; congr 1; omega) ?_
      rw [show b + m = p from hp, show q + (n - q) = n from by omega]
      refine run_chain l _ (n + 1) (p + s) e _ p s n h4 he ?_ ?_ h3 rfl ?_ ?_ (by omega)
      · show (r.1 : Int) = p
        omega
      · show IntKind.i64.wrap ((0 : Int) + (r.2.1 : Int)) = _
        rw [h2, IntWalk.i64_in _ (by omega)]
        omega
      · rfl
      · show (n : Int) + 1 = _
        omega
theorem ofC_chain (l : List (Nat × Nat × Nat)) (e : Nat) (hc : Rn.Chain l 0 e) (he : e ≤ 1000000) : Chn 0 0 (ofC (ints3 l)) e := by
  cases l with
  | nil => exact hc
  | cons r l =>
    obtain ⟨h0, h1, _, _, h4⟩ := hc
    have hle := Rn.chain_le _ _ _ h4
    show Chn 0 0 (run (step none0 (r.2.2 : Int)) (0 + 1) (ext none0 (new 0 ((r.1 : Int), (r.2.1 : Int), (r.2.2 : Int))) 0 ((r.1 : Int), (r.2.1 : Int), (r.2.2 : Int))) (ints3 l)) e
    refine run_chain l _ (0 + 1) (0 + r.2.1) e _ 0 r.2.1 0 h4 he ?_ ?_ h1 (by omega) ?_ ?_ (by omega)
    · show (r.1 : Int) = _
      omega
    · show IntKind.i64.wrap ((0 : Int) + (r.2.1 : Int)) = _
      have hle' : 0 + r.2.1 ≤ e := hle
      rw [IntWalk.i64_in _ (by omega)]
      omega
    · rfl
    · show ((0 : Nat) : Int) + 1 = _
      omega
/-- Where each cluster begins. -/
theorem chn_at : ∀ (l : List C6) (p q e : Nat), Chn p q l e → ∀ i (hi : i < l.length), ∃ b f m k : Nat, p ≤ b ∧ 1 ≤ m ∧ 1 ≤ k ∧ b + m ≤ e ∧ (l[i]).a = b ∧ (l[i]).z = m ∧ (l[i]).f = f ∧ (l[i]).t = (f + k : Nat) ∧ (∀ j (hj : j < i), ((l[j]'(by omega)).a + (l[j]'(by omega)).z ≤ b)) ∧ (i = 0 → b = p ∧ f = q) ∧ (∀ h : 0 < i, (l[i - 1]).t = f ∧ (l[i - 1]).a + (l[i - 1]).z = b) ∧ Chn (b + m) (f + k) (l.drop (i + 1)) e
  | x :: l, p, q, e, h, 0, hi => by
    obtain ⟨m, k, h1, h2, ha, hz, hf, ht, hr⟩ := h
    have := chn_le _ _ _ _ hr
    exact ⟨p, q, m, k, Nat.le_refl _, h1, h2, this, ha, hz, hf, ht, fun j hj => by omega, fun _ => ⟨rfl, rfl⟩, fun h => by omega, hr⟩
  | x :: l, p, q, e, h, i + 1, hi => by
    obtain ⟨m, k, h1, h2, ha, hz, hf, ht, hr⟩ := h
    obtain ⟨b, f, m', k', g1, g2, g3, g4, ga, gz, gf, gt, gj, g0, gs, gr⟩ := chn_at l _ _ _ hr i (by simpa using hi)
    refine ⟨b, f, m', k', by omega, g2, g3, g4, ga, gz, gf, gt, fun j hj => ?_, fun h => by omega, fun _ => ?_, gr⟩
    · cases j with
      | zero =>
        simp only [List.getElem_cons_zero, ha, hz]
        omega
      | succ j =>
        simp only [List.getElem_cons_succ]
        exact gj j (by omega)
    · cases i with
      | zero =>
        obtain ⟨e1, e2⟩ := g0 rfl
        simp only [Nat.add_sub_cancel, List.getElem_cons_zero, ha, hz, ht]
        omega
      | succ i =>
        have := gs (by omega)
        simp only [Nat.add_sub_cancel, List.getElem_cons_succ] at this ⊢
        exact this
theorem chn_find {l : List C6} {q e : Nat} (h : Chn 0 q l e) (i : Nat) (hi : i < l.length) (p : Int) (h1 : (l[i]).a ≤ p) (h2 : p < (l[i]).a + (l[i]).z) : findN l p = i := by
  obtain ⟨b, f, m', k', g1, g2, g3, g4, ga, gz, gf, gt, gj, g0, gs, gr⟩ := chn_at l _ _ _ h i hi
  refine findN_yes l p i hi ?_ fun j hj => ?_
  · unfold hasT
    rw [decide_eq_true (by omega), decide_eq_true h1, decide_eq_true h2]
    rfl
  · have := gj j hj
    unfold hasT
    rw [decide_eq_false (by omega : ¬ p < (l[j]).a + (l[j]).z), Bool.and_false, Bool.and_false]
theorem chn_none {l : List C6} {q e : Nat} (h : Chn 0 q l e) (p : Int) (hp : p < 0 ∨ e ≤ p) : findN l p = l.length := by
  refine findN_no l p fun i hi => ?_
  obtain ⟨b, f, m', k', g1, g2, g3, g4, ga, gz, gf, gt, gj, g0, gs, gr⟩ := chn_at l _ _ _ h i hi
  unfold hasT
  rcases hp with hp | hp
  · rw [decide_eq_false (by omega : ¬ (l[i]).a ≤ p), Bool.false_and, Bool.and_false]
  · rw [decide_eq_false (by omega : ¬ p < (l[i]).a + (l[i]).z), Bool.and_false, Bool.and_false]
end Go.Proofs.Ytfbjgibjlppjoaa.Ku

/-
  The clusters of a text, plainly. No program in it.
-/
set_option linter.unusedVariables false
namespace Go.Proofs.Ytfbjgibjlppjoaa.Ku
open Go.RowKit Go.Lib

/-- The clusters of a text. -/
def ofS (s : ByteArray) : List C6 := ofC (ints3 (Rn.splitA s.data.toList 0))
theorem ofS_len (s : ByteArray) : (ofS s).length ≤ s.size := by
  unfold ofS
  have h1 := ofC_len (ints3 (Rn.splitA s.data.toList 0))
  have h2 := Rn.splitA_len s.data.toList.length s.data.toList 0 (Nat.le_refl _)
  rw [ints3_len] at h1
  rw [← Lib.size_eq] at h2
  omega
theorem cut_len (zs : List Int) (a m : Nat) (ha : a + m ≤ zs.length) : ((zs.drop a).take m).length = m := by simp; omega
end Go.Proofs.Ytfbjgibjlppjoaa.Ku

/-
  A variable of six cells: as it is read, as it is written. No program in it.
-/
set_option linter.unusedVariables false
namespace Go.Proofs.Ytfbjgibjlppjoaa.Ku
open Go.RowKit Go.Lib Go.Proofs.Ytfbjgibjlppjoaa.Arr

theorem six {w : World} {g : Nat} {v0 v1 v2 v3 v4 v5 : Value} {t : TypeId} (h : w.heap[g]? = some (.cells #[v0, v1, v2, v3, v4, v5] t)) : (w.cell? ⟨g, 0, none⟩ = some v0 ∧ w.cell? ⟨g, 1, none⟩ = some v1 ∧ w.cell? ⟨g, 2, none⟩ = some v2 ∧ w.cell? ⟨g, 3, none⟩ = some v3 ∧ w.cell? ⟨g, 4, none⟩ = some v4 ∧ w.cell? ⟨g, 5, none⟩ = some v5) ∧ w.frozen? ⟨g, 0, none⟩ = false ∧ w.frozen? ⟨g, 1, none⟩ = false ∧ w.frozen? ⟨g, 2, none⟩ = false ∧ w.frozen? ⟨g, 3, none⟩ = false ∧ w.frozen? ⟨g, 4, none⟩ = false ∧ w.frozen? ⟨g, 5, none⟩ = false :=
  ⟨⟨cell_of_row w g 0 _ _ _ h, cell_of_row w g 1 _ _ _ h, cell_of_row w g 2 _ _ _ h, cell_of_row w g 3 _ _ _ h, cell_of_row w g 4 _ _ _ h, cell_of_row w g 5 _ _ _ h⟩, frozen_of_row w g 0 _ _ h, frozen_of_row w g 1 _ _ h, frozen_of_row w g 2 _ _ h, frozen_of_row w g 3 _ _ h, frozen_of_row w g 4 _ _ h, frozen_of_row w g 5 _ _ h⟩
theorem six_set {w : World} {g : Nat} {x0 x1 x2 x3 x4 x5 : Value} {t : TypeId} (v0 v1 v2 v3 v4 v5 : Value) (h : w.heap[g]? = some (.cells #[x0, x1, x2, x3, x4, x5] t)) :
    ((((((w.setCell ⟨g, 0, none⟩ v0).setCell ⟨g, 1, none⟩ v1).setCell ⟨g, 2, none⟩ v2).setCell ⟨g, 3, none⟩ v3).setCell ⟨g, 4, none⟩ v4).setCell ⟨g, 5, none⟩ v5).heap[g]? = some (.cells #[v0, v1, v2, v3, v4, v5] t) :=
  heap_setCell_same _ _ 5 _ _ _ (heap_setCell_same _ _ 4 _ _ _ (heap_setCell_same _ _ 3 _ _ _ (heap_setCell_same _ _ 2 _ _ _ (heap_setCell_same _ _ 1 _ _ _ (heap_setCell_same _ _ 0 _ _ _ h)))))
theorem six_below {w W : World} {B g : Nat} (v0 v1 v2 v3 v4 v5 : Value) (h : Below B w W) (hg : B ≤ g) :
    Below B w ((((((W.setCell ⟨g, 0, none⟩ v0).setCell ⟨g, 1, none⟩ v1).setCell ⟨g, 2, none⟩ v2).setCell ⟨g, 3, none⟩ v3).setCell ⟨g, 4, none⟩ v4).setCell ⟨g, 5, none⟩ v5) :=
  (((((h.setCell hg _).setCell hg _).setCell hg _).setCell hg _).setCell hg _).setCell hg _
end Go.Proofs.Ytfbjgibjlppjoaa.Ku

/-
  Two small facts on what a function returns. No program in it.
-/
set_option linter.unusedVariables false
namespace Go.Proofs.Ytfbjgibjlppjoaa.Rn
open Go.RowKit Go.Lib

theorem ret_bool {a b : Bool} (h : a = b) : Ending.returned (.bool a) = .returned (.bool b) := by rw [h]
theorem ret_int {k : IntKind} {a b : Int} (h : a = b) : Ending.returned (.int k a) = .returned (.int k b) := by rw [h]
end Go.Proofs.Ytfbjgibjlppjoaa.Rn

/-
  Small facts on where a text ends; no condition.
-/
set_option linter.unusedVariables false
namespace Go.Proofs.Ytfbjgibjlppjoaa.Rn
open Go.RowKit Go.Lib

theorem drop_ne (s : ByteArray) (p : Nat) (h : p < s.size) : s.data.toList.drop p ≠ [] := by
  rw [Lib.size_eq] at h
  intro e
  have := congrArg List.length e
  rw [List.length_drop, List.length_nil] at this
  omega
theorem drop_end (s : ByteArray) (p : Nat) (h : ¬ p < s.size) : s.data.toList.drop p = [] := by
  rw [Lib.size_eq] at h
  exact List.drop_of_length_le (by omega)
end Go.Proofs.Ytfbjgibjlppjoaa.Rn

/-
  Rows of runes in memory: their cells, as they are read. No program in it but its types.
-/
set_option linter.unusedVariables false
namespace Go.Proofs.Ytfbjgibjlppjoaa.Rn
open Go.RowKit Go.Lib

/-- The cells of a row of runes. -/
def cells3 (l : List (Nat × Nat × Nat)) : List Value := l.flatMap fun r => [.int .i64 r.1, .int .i64 r.2.1, .int .i64 r.2.2]
theorem cells3_snoc (l : List (Nat × Nat × Nat)) (r : Nat × Nat × Nat) : cells3 (l ++ [r]) = cells3 l ++ [.int .i64 r.1, .int .i64 r.2.1, .int .i64 r.2.2] := by simp [cells3]

theorem own_base {w : World} {b b' : Nat} {e : TypeId} {size : Nat} {v : Value} {n : Nat} {xs : List Value} (h : w.ownsRow b e size v n xs) (hb : b' ≤ b) : w.ownsRow b' e size v n xs := by
  refine ⟨h.1, ?_⟩
  rcases h.2 with hn | ⟨g, cap, cur, hv, hg, rest⟩
  · exact .inl hn
  · exact .inr ⟨g, cap, cur, hv, by omega, rest⟩
theorem grown_iterAt (w : World) (k : Nat) (s : ByteArray) (pos : Nat) : w.grownBy (w.iterAt k s pos) (some k) :=
  ⟨rfl, rfl, rfl, by rw [Lib.iterAt_size]; exact Nat.le_refl _, fun i _ hne => Lib.iterAt_other w k i s pos (fun e => hne (by rw [e]))⟩
theorem own_iterAt {w : World} {k : Nat} {e : TypeId} {size : Nat} {v : Value} {n : Nat} {xs : List Value} (h : w.ownsRow (k + 1) e size v n xs) (s : ByteArray) (pos : Nat) : (w.iterAt k s pos).ownsRow (k + 1) e size v n xs := by
  refine h.kept (grown_iterAt w k s pos) ?_
  cases hv : v.ownBlock with
  | none => exact .inl rfl
  | some g =>
    right
    intro e1
    have := (h.lt g hv).1
    injection e1 with e1
    omega

theorem infoRune : (Try.prog.info? 73).map (fun i => (i.zero, i.size, i.bytes)) = some (some (.agg #[.int .i64 0, .int .i64 0, .int .i64 0]), 3, 24) := by kernel_rfl

theorem cells3_len (l : List (Nat × Nat × Nat)) : (cells3 l).length = l.length * 3 := by
  induction l with
  | nil => rfl
  | cons r l ih => simp [cells3] at ih ⊢; omega
theorem cells3_at : ∀ (l : List (Nat × Nat × Nat)) (k : Nat) (hk : k < l.length), (cells3 l)[k * 3]? = some (.int .i64 l[k].1) ∧ (cells3 l)[k * 3 + 1]? = some (.int .i64 l[k].2.1) ∧ (cells3 l)[k * 3 + 2]? = some (.int .i64 l[k].2.2)
  | r :: l, 0, _ => ⟨rfl, rfl, rfl⟩
  | r :: l, k + 1, hk => by
    have := cells3_at l k (by simpa using hk)
    rw [show (k + 1) * 3 = k * 3 + 3 from by omega]
    exact this

/-- A row of runes in memory: a slice's address and what its cells hold. -/
def RunesAt (w : World) (A : Option Addr) (l : List (Nat × Nat × Nat)) : Prop :=
  ∀ k (hk : k < l.length), ∃ g, A = some ⟨g, 0, none⟩ ∧ g < w.heap.size ∧ w.cell? ⟨g, k * 3, none⟩ = some (.int .i64 l[k].1) ∧ w.cell? ⟨g, k * 3 + 1, none⟩ = some (.int .i64 l[k].2.1) ∧ w.cell? ⟨g, k * 3 + 2, none⟩ = some (.int .i64 l[k].2.2)
theorem RunesAt.below {w w' : World} {A : Option Addr} {l : List (Nat × Nat × Nat)} (h : RunesAt w A l) (hb : Below w.heap.size w w') : RunesAt w' A l := by
  intro k hk
  obtain ⟨g, rfl, hg, h0, h1, h2⟩ := h k hk
  exact ⟨g, rfl, Nat.lt_of_lt_of_le hg hb.size, (hb.cell (p := ⟨g, k * 3, none⟩) hg).trans h0, (hb.cell (p := ⟨g, k * 3 + 1, none⟩) hg).trans h1, (hb.cell (p := ⟨g, k * 3 + 2, none⟩) hg).trans h2⟩
theorem runesAt_own {w : World} {B : Nat} {v : Value} {l : List (Nat × Nat × Nat)} (h : w.ownsRow B 73 3 v l.length (cells3 l)) : ∃ A c, v = .slice A l.length c ∧ RunesAt w A l := by
  have hc := @World.ownsRow.cells _ _ _ _ _ _ _ h
  rcases h.2 with ⟨rfl, hn⟩ | ⟨g, cap, cur, rfl, _, hg, _⟩
  · exact ⟨none, 0, by rw [hn], fun k hk => by omega⟩
  · refine ⟨_, cap, rfl, fun k hk => ⟨g, rfl, (Array.getElem?_eq_some_iff.1 hg).1, ?_, ?_, ?_⟩⟩
    · have := hc (g := g) rfl _ _ (cells3_at l k hk).1
      rw [Addr.add] at this
      split at this
      · rename_i h0; rw [h0] ; exact this
      · simpa using this
    · simpa [Addr.add] using hc (g := g) rfl _ _ (cells3_at l k hk).2.1
    · simpa [Addr.add] using hc (g := g) rfl _ _ (cells3_at l k hk).2.2
end Go.Proofs.Ytfbjgibjlppjoaa.Rn

/-
  Rows of runes that a text has, as rows of any runes. No program in it.
-/
set_option linter.unusedVariables false
namespace Go.Proofs.Ytfbjgibjlppjoaa.Ku
open Go.RowKit Go.Lib

theorem ruAt_runes {w : World} {A : Option Addr} {l : List (Nat × Nat × Nat)} (h : Rn.RunesAt w A l) : RuAt w A (ints3 l) := by
  by_cases h0 : l.length = 0
  · exact .inl (by rw [List.eq_nil_of_length_eq_zero h0]; rfl)
  · obtain ⟨g, rfl, hg, _⟩ := h 0 (by omega)
    refine .inr ⟨g, 0, rfl, hg, fun k hk => ?_⟩
    rw [ints3_len] at hk
    obtain ⟨g', hA, _, c0, c1, c2⟩ := h k hk
    injection hA with hA
    injection hA with hA
    subst hA
    simp only [ints3, List.getElem_map, Nat.zero_add]
    exact ⟨c0, c1, c2⟩
end Go.Proofs.Ytfbjgibjlppjoaa.Ku

/-
  Rows of ints, the bytes of numbers, bytes of the call's own as a string: small facts.
-/
set_option linter.unusedVariables false
namespace Go.Proofs.Ytfbjgibjlppjoaa.Rn
open Go.RowKit Go.Lib

/-- A row of ints that came in: nil, or cells below the heap's end. -/
def IntsAt (w : World) (A : Option Addr) (zs : List Int) : Prop :=
  zs = [] ∨ ∃ b off, A = some ⟨b, off, none⟩ ∧ b < w.heap.size ∧ ∀ j z, zs[j]? = some z → w.cell? ⟨b, off + j, none⟩ = some (.int .i64 z)

/-- The bytes of numbers. -/
def textB (zs : List Int) : List UInt8 := zs.flatMap fun z => Lib.encodeRune (fitZ z)
theorem textB_snoc (zs : List Int) (z : Int) : textB (zs ++ [z]) = textB zs ++ Lib.encodeRune (fitZ z) := by simp [textB]
theorem encodeRune_len (r : Int) : (Lib.encodeRune r).length ≤ 4 := by
  have := (Lib.encodeRuneZ_length r).2
  simpa [Lib.encodeRune] using this
theorem runeCells_len (r : Int) : (Lib.runeCells r).length = (Lib.encodeRune r).length := by simp [Lib.runeCells, Lib.encodeRune]
theorem fitZ_range (c : Int) : 0 ≤ fitZ c ∧ fitZ c ≤ 1114111 := by
  unfold fitZ
  split
  · rename_i h
    simp [isPoint] at h
    omega
  · omega

theorem convert_own {w : World} {B : Nat} {v : Value} {l : List UInt8} (h : w.ownsRow B 5 1 v l.length (Lib.byteCells l)) :
    (convert 81 9 v).run Try.prog w = .ok (.string ⟨l.toArray⟩) w := by
  rcases h.2 with ⟨rfl, hn⟩ | ⟨g, cap, cur, rfl, _, hg, _, _, _, htk⟩
  · have : l = [] := List.eq_nil_of_length_eq_zero hn
    subst this
    exact Lib.run_convert_nil_bytes w 81 9 5 0 Try.underlying81 Try.underlying5 Try.underlying9
  · rw [Nat.mul_one] at htk
    exact run_convert_bytes_back w 81 9 5 _ cap l Try.underlying81 Try.underlying5 Try.underlying9 (Lib.bytes_of_row hg htk)

end Go.Proofs.Ytfbjgibjlppjoaa.Rn

/-
  Proved here: what the document's own answers for texts (Code, Bytes of the reference) return, for every number; they leave what was in memory.
-/
set_option linter.unusedVariables false
namespace Go.Proofs.Ytfbjgibjlppjoaa.Rn
open Go.RowKit Go.Lib

set_option maxHeartbeats 400000 in
theorem code_any (c : Int) (w : World) :
    Calls Try.prog 53 #[.int .i64 c] w fun e w' => e = .returned (.bool (isPoint c)) ∧ w = w' := by
  by_cases h1 : 0 ≤ c <;> by_cases h2 : c ≤ 1114111 <;> by_cases h3 : c < 55296 <;> by_cases h4 : 57343 < c
  all_goals first | (exfalso; omega) | skip
  all_goals
    go_enter Try.func53, Try.ntmps53
    go_wp2
    go_ret
    refine ⟨ret_bool ?_, rfl⟩
    rw [Bool.eq_iff_iff]
    simp [isPoint] <;> omega

/-- The block of a code point's bytes. -/
def bytesBlock (r : Int) : Obj := .cells (Lib.runeCells r).toArray 5

theorem bytes_slice {w w' : World} {r : Int} {L : List Value} (hL : Lib.runeCells r = L) (hw : w' = w.alloc (.cells L.toArray 5)) : w' = w.alloc (bytesBlock r) := by
  rw [hw, bytesBlock, hL]

set_option maxHeartbeats 1000000 in
theorem bytes_any (c : Int) (w : World) :
    Calls Try.prog 54 #[.int .i64 c] w fun e w' => e = .returned (.slice (some ⟨w.heap.size, 0, none⟩) (Lib.runeCells (fitZ c)).length (Lib.runeCells (fitZ c)).length) ∧ w' = w.alloc (bytesBlock (fitZ c)) := by
  cases hp : isPoint c
  · have hf : fitZ c = 65533 := by simp [fitZ, hp]
    go_enter Try.func54, Try.ntmps54
    go_wp2_with (go_at_call 53; refine (code_any _ _).mono ?_; rintro e w' ⟨rfl, rfl⟩)
    go_ret
    rw [hf]
    exact ⟨rfl, rfl⟩
  · have hf : fitZ c = c := by simp [fitZ, hp]
    have hp2 := hp
    simp only [isPoint, decide_eq_true_eq] at hp2
    rw [hf]
    have HF := Lib.hid hf
    clear hf
    by_cases h1 : c < 128
    · have hr : Lib.runeCells c = [.int .u8 c] := by rw [Lib.runeCells, Lib.encodeRuneZ_one (by omega) (by omega)]; rfl
      rw [bytesBlock, hr]
      have HR := Lib.hid hr
      clear hr
      go_enter Try.func54, Try.ntmps54
      go_wp2_with (go_at_call 53; refine (code_any _ _).mono ?_; rintro e w' ⟨rfl, rfl⟩)
      go_ret
      exact ⟨rfl, rfl⟩
    · by_cases h2 : c < 2048
      · have hr : Lib.runeCells c = [.int .u8 (192 + c / 64), .int .u8 (128 + c % 64)] := by rw [Lib.runeCells, Lib.encodeRuneZ_two (by omega) (by omega)]; rfl
        rw [bytesBlock, hr]
        have HR := Lib.hid hr
        clear hr
        go_enter Try.func54, Try.ntmps54
        go_wp2_with (go_at_call 53; refine (code_any _ _).mono ?_; rintro e w' ⟨rfl, rfl⟩)
        go_ret
        exact ⟨rfl, rfl⟩
      · by_cases h3 : c < 65536
        · have hr : Lib.runeCells c = [.int .u8 (224 + c / 4096), .int .u8 (128 + c / 64 % 64), .int .u8 (128 + c % 64)] := by rw [Lib.runeCells, Lib.encodeRuneZ_three (by omega)]; rfl
          rw [bytesBlock, hr]
          have HR := Lib.hid hr
          clear hr
          go_enter Try.func54, Try.ntmps54
          go_wp2_with (go_at_call 53; refine (code_any _ _).mono ?_; rintro e w' ⟨rfl, rfl⟩)
          go_ret
          exact ⟨rfl, rfl⟩
        · have hr : Lib.runeCells c = [.int .u8 (240 + c / 262144), .int .u8 (128 + c / 4096 % 64), .int .u8 (128 + c / 64 % 64), .int .u8 (128 + c % 64)] := by rw [Lib.runeCells, Lib.encodeRuneZ_four (by omega) (by omega)]; rfl
          rw [bytesBlock, hr]
          have HR := Lib.hid hr
          clear hr
          go_enter Try.func54, Try.ntmps54
          go_wp2_with (go_at_call 53; refine (code_any _ _).mono ?_; rintro e w' ⟨rfl, rfl⟩)
          go_ret
          exact ⟨rfl, rfl⟩

theorem infoByte : (Try.prog.info? 5).map (fun i => (i.zero, i.size, i.bytes)) = some (some (.int .u8 0), 1, 1) := by kernel_rfl

theorem block_cell (w : World) (r : Int) (j : Nat) (u : Value) (h : (Lib.runeCells r)[j]? = some u) : (w.alloc (bytesBlock r)).cell? ((⟨w.heap.size, 0, none⟩ : Addr).add j) = some u := by
  have hb : (w.alloc (bytesBlock r)).heap[w.heap.size]? = some (.cells (Lib.runeCells r).toArray 5) := heap_alloc_new w _
  have hadd : (⟨w.heap.size, 0, none⟩ : Addr).add j = ⟨w.heap.size, j, none⟩ := by unfold Addr.add; split <;> simp_all
  rw [hadd, cell_of_row _ w.heap.size j _ _ (0, 0) hb]
  simpa using h
theorem runeCells_one (r : Int) : ∀ u ∈ Lib.runeCells r, u.oneCell' = true := by
  intro u hu
  simp only [Lib.runeCells, List.mem_map] at hu
  obtain ⟨x, _, rfl⟩ := hu
  rfl

end Go.Proofs.Ytfbjgibjlppjoaa.Rn

/-
  Small contracts and facts for the document's own reading of a text's first rune.
-/
set_option linter.unusedVariables false
namespace Go.Proofs.Ytfbjgibjlppjoaa.Rn
open Go.RowKit Go.Lib

theorem below_drewN (w : World) : ∀ n, Below w.heap.size w (w.drewN n)
  | 0 => Below.refl _ _
  | n + 1 => (below_drewN w n).drew

theorem code_same (c : Int) (w : World) :
    Calls Try.prog 53 #[.int .i64 c] w fun e w' => e = .returned (.bool (isPoint c)) ∧ w' = w := (code_any c w).mono fun _ _ h => ⟨h.1, h.2.symm⟩

theorem code_as (c : Int) (b : Bool) (h : isPoint c = b) (w : World) :
    Calls Try.prog 53 #[.int .i64 c] w fun e w' => e = .returned (.bool b) ∧ w' = w := h ▸ code_same c w

theorem bytes_pt (c : Int) (h : isPoint c = true) (w : World) :
    Calls Try.prog 54 #[.int .i64 c] w fun e w' => e = .returned (.slice (some ⟨w.heap.size, 0, none⟩) (Lib.runeCells c).length (Lib.runeCells c).length) ∧ w' = w.alloc (bytesBlock c) := by
  have := bytes_any c w
  rw [show fitZ c = c from by simp [fitZ, h]] at this
  exact this

theorem conv_block (c : Int) (w : World) : (convert 81 9 (.slice (some ⟨w.heap.size, 0, none⟩) (Lib.runeCells c).length (Lib.runeCells c).length)).run Try.prog (w.alloc (bytesBlock c)).drew = .ok (.string ⟨(Lib.encodeRune c).toArray⟩) (w.alloc (bytesBlock c)).drew := by
  have hb : (w.alloc (bytesBlock c)).drew.heap[w.heap.size]? = some (.cells (Lib.runeCells c).toArray 5) := heap_alloc_new w _
  rw [runeCells_len]
  refine run_convert_bytes_back _ 81 9 5 _ _ (Lib.encodeRune c) Try.underlying81 Try.underlying5 Try.underlying9 (Lib.bytes_of_row hb ?_)
  rw [Lib.byteCells_encodeRune, List.take_of_length_le (by rw [← runeCells_len]; simp)]

theorem getD_zero (s : ByteArray) (h : 0 < s.size) : s.data.toList.getD 0 0 = s[0] := by
  have h' : 0 < s.data.toList.length := by rw [← Lib.size_eq]; exact h
  rw [List.getD_eq_getElem?_getD, List.getElem?_eq_getElem h']
  rfl

theorem enc_toList (r : Int) : (⟨(Lib.encodeRune r).toArray⟩ : ByteArray).toList = Lib.encodeRune r := by
  rw [Lib.toList_data]
theorem ext_toList (s : ByteArray) (n : Nat) : (s.extract 0 n).toList = s.data.toList.take n := by
  rw [Lib.extract_toList]; rfl
end Go.Proofs.Ytfbjgibjlppjoaa.Rn
