/-
  What the listed variable gives the walks of this seat; rows of runes and of clusters that a statement's function is called with; and how a statement about a call that leaves old memory as it was is lifted to its row.
-/
import Derived.Test.YtpfihikldeagnaaDoorKuAwake
import Derived.Test.YtpfihikldeagnaaDoorLawKit
import Derived.Deep.Slices
import Derived.LaidMore
import Derived.Lay
import Derived.SevenTiedAt
import Derived.Stop.Joined
import Derived.HandedShaped
import Derived.Shelf.Vars
set_option linter.unusedVariables false
namespace Go.Proofs.YtpfihikldeagnaaDoor
open Go.ChangeShapes Go.WideShapes Go.ChangeAt Go.RowKit Go.Deep

/-- What this seat's rows list. -/
def laidL : List (String × DataW Unit) := [("parquetry/cluster.behind", Rows.laid_parquetry_cluster_behind)]
theorem behind_laid : (Rows.laid_parquetry_cluster_behind : DataW Unit) = .agg (Ku.behindL.map fun n => .lit (.int .u16 n)) := by kernel_rfl

theorem cell_behind {W : World} (h : laidMetH Tryd.prog laidL W) (k : Nat) (hk : k < Ku.behindL.length) : W.cell? ⟨0, k, none⟩ = some (.int .u16 Ku.behindL[k]) := by
  rw [MakeChecks.laidMetH_plain _ _ _ (by kernel_rfl)] at h
  obtain ⟨ps, ⟨g1, t1, cs1, f1, p1, q1, hg1, ht1, hv1, hd1, _, _⟩, _, _⟩ := h
  obtain rfl := Option.some.inj ((show Tryd.prog.globalNamed "parquetry/cluster.behind" = some 0 by kernel_rfl).symm.trans hg1)
  obtain rfl := Option.some.inj ((show (Tryd.prog.globals[0]?).map (·.type) = some 68 by kernel_rfl).symm.trans ht1)
  rw [behind_laid] at hd1
  have h14 : Ku.behindL.length = 14 := rfl
  obtain ⟨xs, m, _, ex, _, hl, hel⟩ := DataW.trod_array Tryd.underlying68 hd1
  have c5 : Tryd.prog.cellsOf 67 = 1 := by kernel_rfl
  have hE := hel k (by omega)
  rw [c5, Nat.mul_one, List.getElem?_eq_getElem (by omega)] at hE
  obtain ⟨n, e1, e2, _⟩ := DataW.trod_int Tryd.underlying67 hE
  have e3 : (xs.map (·.1)) = Ku.behindL.map fun n => .lit (.int .u16 n) := (DataW.agg.inj (Prod.mk.inj ex).1).symm
  have e4 : (xs.map (·.1))[k]? = (Ku.behindL.map fun n => (DataW.lit (.int .u16 n) : DataW Unit))[k]? := by rw [e3]
  rw [List.getElem?_map, List.getElem?_map, List.getElem?_eq_getElem (by omega : k < xs.length), List.getElem?_eq_getElem hk, e2] at e4
  have hz : n = Ku.behindL[k] := by
    simp only [Option.map_some, Option.some.injEq, DataW.lit.injEq, Lit.int.injEq, true_and] at e4
    exact e4
  rw [World.var?_cell hg1 hv1 k, ← hz]
  have : cs1.toList[k]? = some (.int .u16 n) := by
    have h0 : ((cs1.toList.drop k).take 1)[0]? = some (.int .u16 n) := by rw [e1]; rfl
    simpa using h0
  simpa using this

theorem held_of {W : World} (h : laidMetH Tryd.prog laidL W) (hsh : W.ShapedOpen Tryd.prog) : Ku.Held W := by
  refine ⟨?_, cell_behind h⟩
  have := World.block_lt_of_cell? W _ (cell_behind h 0 (by decide))
  simpa using this

theorem trodAll_len {H : Type} {enc : TypeId × Value → H} {P : Program} {W : World} {b : Nat} {sp : Nat → Bool} {h : Bool} : ∀ {ts : List TypeId} {vs : List Value} {ds : List (DataW H)} {ps : List MemPlace}, DataW.TrodAll enc P W b sp h ts vs ds ps → ds.length = ts.length
  | [], [], [], _, _ => rfl
  | [], _ :: _, _, _, h => h.elim
  | [], [], _ :: _, _, h => h.elim
  | _ :: _, [], _, _, h => h.elim
  | _ :: _, _ :: _, [], _, h => h.elim
  | t :: ts, v :: vs, d :: ds, ps, h => by
    obtain ⟨p, q, h1, h2, rfl⟩ := h
    simp [trodAll_len h2]

theorem returns_laid {H : Type} {enc : TypeId × Value → H} {os : Os} {f : FuncId} {fn : Func} {s : ChangeSpec} (started : os.Started) (noInit : Tryd.prog.inits.idxOf? f = none) (hfn : Tryd.prog.funcs[f]? = some fn)
    (args0 : Array Value) (hok : Input.okWideB Tryd.prog ((World.laidAll Tryd.prog os laidL).forCall (fun _ _ => 0) ⟨#[], args0, []⟩) f ⟨#[], args0, []⟩ = true)
    (hsh0 : ((World.laidAll Tryd.prog os laidL).forCall (fun _ _ => 0) ⟨#[], args0, []⟩).Shaped Tryd.prog)
    (hlaid0 : laidMetH Tryd.prog laidL ((World.laidAll Tryd.prog os laidL).forCall (fun _ _ => 0) ⟨#[], args0, []⟩).memory)
    (hpre : s.preB enc Tryd.prog fn [] false ((World.laidAll Tryd.prog os laidL).forCall (fun _ _ => 0) ⟨#[], args0, []⟩).memory args0 8 = true)
    (hsz : s.sizedB enc Tryd.prog fn false ((World.laidAll Tryd.prog os laidL).forCall (fun _ _ => 0) ⟨#[], args0, []⟩).memory args0 8 = true)
    (hv : s.vars = []) (hres : fn.resultTypes = #[4]) (hrow : rowed Tryd.prog fn.params.toList = true) (hfn2 : ∀ (ds : List (DataW H)), ds.length = fn.params.toList.length → s.fn H (ds ++ []) = { results := [.lit (.bool true)], args := ds })
    (walk : ∀ (W : World) (base : Nat) (args : Array Value) (ds : List (DataW H)) (p : List MemPlace),
      (∀ (j : Nat) t v, fn.params[j]? = some t → args[j]? = some v → Value.okWide Tryd.prog W .any base t v) →
      DataW.TrodAll enc Tryd.prog W 0 (fun _ => true) true fn.params.toList args.toList ds p → Ku.Held W →
      Calls Tryd.prog f args W fun e w' => e = .returned (.bool true) ∧ Below W.heap.size W w') :
    ReturnsInHanded {} Tryd.checked os f .any (fun w args => (s.pre enc Tryd.prog fn [] false w args ∧ laidMetH Tryd.prog laidL w) ∧ sizedMet enc Tryd.prog fn (OpenSpec.ofChange s) false w args) (s.post enc Tryd.prog fn false true false false) := by
  refine returnsInHanded_of_calls (C := Tryd.checked) law_own started noInit
    (ChangeSpec.witness_shaped (enc := enc) (C := Tryd.checked) (os := os) (fn := fn) (X := fun w _ => laidMetH Tryd.prog laidL w) false (World.laidAll Tryd.prog os laidL) args0 8 (World.laidAll_os _ _ _) hsh0 hok hpre hsz hlaid0) ?_
  intro w tape i _ hsh _ hok' hpre' hholds
  obtain ⟨_, _, _, fn', hfn', _, _, _, _, hval⟩ := hok'
  have e : fn' = fn := Option.some.inj (hfn'.symm.trans hfn)
  subst e
  obtain ⟨⟨⟨ds, gs, before, hw, hc⟩, hx⟩, hz⟩ := hpre'
  have hw' := DataW.Whole.of_heap (w' := w.forCall tape i) (by rfl) hw
  have hx' : laidMetH Tryd.prog laidL (w.forCall tape i) := hx.of_heap (by rfl)
  have hw2 := hw'
  obtain ⟨p, q, hA0, hV, rfl, _, _⟩ := hw2
  refine (walk (w.forCall tape i) w.heap.size i.args ds p hval hA0 (held_of hx' hsh)).mono fun e W' ⟨he, hB⟩ => ?_
  subst he
  refine ChangeSpec.post_blind (law_post hw' hv hres hrow ?_ hB)
  rw [hv] at hV
  obtain ⟨rfl, rfl⟩ := trodVars_none hV
  exact hfn2 ds (trodAll_len hA0)

/-- A field of ints of a struct. -/
theorem field_int {H : Type} {enc : TypeId × Value → H} {P : Program} {w : World} {base : Nat} {spare : Nat → Bool} {held : Bool} {fuel : Nat} {t : TypeId} {fs : Array Field} {cs : List Value} {x : DataW H × List MemPlace} (ht : P.underlying t = some (.struct fs))
    (h : DataW.trod enc P w base spare held fuel t cs = some x) (i : Nat) (f : Field) (hf : fs[i]? = some f) (hty : P.underlying f.type = some (.int .i64)) (hc : P.cellsOf f.type = 1) : ∃ n, cs[f.offset]? = some (.int .i64 n) ∧ Ku.okN n := by
  obtain ⟨xs, m, _, _, _, hxl, hel⟩ := DataW.trod_struct ht h
  have hE := hel i f hf
  have hi : i < fs.size := (Array.getElem?_eq_some_iff.1 hf).1
  rw [hc, List.getElem?_eq_getElem (by omega)] at hE
  obtain ⟨n, e1, _, e3⟩ := DataW.trod_int hty hE
  refine ⟨n, ?_, ?_⟩
  · have h0 : ((cs.drop f.offset).take 1)[0]? = some (.int .i64 n) := by rw [e1]; rfl
    simpa using h0
  · have h1 : IntKind.i64.min = -9223372036854775808 := rfl
    have h2 : IntKind.i64.max = 9223372036854775807 := rfl
    simp only [Lit.wf, Bool.and_eq_true, decide_eq_true_eq] at e3
    unfold Ku.okN
    omega

theorem open_runes {H : Type} {enc : TypeId × Value → H} {W : World} {r : Reach} {b0 base : Nat} {v : Value} {d : DataW H} {p : List MemPlace}
    (hv : Value.okWide Tryd.prog W r b0 22 v) (h : DataW.Trod enc Tryd.prog W base (fun _ => true) true 22 v d p) :
    ∃ (A : Option Addr) (l : List Ku.R3) (c : Nat), v = .slice A l.length c ∧ Ku.RuAt W A l ∧ (A = none → l = [] ∧ c = 0) ∧ l.length ≤ c ∧ l.length ≤ 9223372036854775807 ∧ ∀ q ∈ l, Ku.okN q.1 ∧ Ku.okN q.2.1 ∧ Ku.okN q.2.2 := by
  obtain ⟨fuel, hf⟩ := h
  rcases open_slice Tryd.underlying22 hf with ⟨hcs, hx⟩ | ⟨a, len, cap, m, n, D, Pl, hcs, hb, hl, hm, hmm, hx, hel⟩
  · obtain ⟨a, n, c, rfl⟩ := okWide_slice Tryd.underlying22 hv
    simp [Value.cells] at hcs
    obtain ⟨rfl, rfl, rfl⟩ := hcs
    exact ⟨none, [], 0, rfl, .inl rfl, fun _ => ⟨rfl, rfl⟩, by simp, by simp, by simp⟩
  · obtain ⟨a', n', c, rfl⟩ := okWide_slice Tryd.underlying22 hv
    simp [Value.cells] at hcs
    obtain ⟨rfl, rfl, rfl⟩ := hcs
    unfold maxLen at hm
    simp only [if_true] at hmm
    have c3 : Tryd.prog.cellsOf 40 = 3 := by kernel_rfl
    have c1 : Tryd.prog.cellsOf 3 = 1 := by kernel_rfl
    have each : ∀ i, i < n' → ∃ q : Ku.R3, W.cell? (a.add (i * 3)) = some (.int .i64 q.1) ∧ W.cell? (a.add (i * 3 + 1)) = some (.int .i64 q.2.1) ∧ W.cell? (a.add (i * 3 + 2)) = some (.int .i64 q.2.2) ∧ (Ku.okN q.1 ∧ Ku.okN q.2.1 ∧ Ku.okN q.2.2) := by
      intro i hi
      obtain ⟨cs', h1, h2⟩ := hel i (by omega)
      rw [c3] at h1
      obtain ⟨_, hlen, hcell⟩ := World.cells?_some h1
      obtain ⟨x0, e0, k0⟩ := field_int Tryd.underlying40 h2 0 _ rfl Tryd.underlying3 c1
      obtain ⟨x1, e1, k1⟩ := field_int Tryd.underlying40 h2 1 _ rfl Tryd.underlying3 c1
      obtain ⟨x2, e2, k2⟩ := field_int Tryd.underlying40 h2 2 _ rfl Tryd.underlying3 c1
      have g0 := (hcell 0 (by omega)).trans e0
      have g1 := (hcell 1 (by omega)).trans e1
      have g2 := (hcell 2 (by omega)).trans e2
      rw [Deep.add_add] at g0
      rw [Deep.add_add] at g1
      rw [Deep.add_add] at g2
      refine ⟨(x0, x1, x2), by simpa using g0, by simpa using g1, by simpa using g2, k0, k1, k2⟩
    obtain ⟨q, hq⟩ := choose_lt each
    have hlen : ((List.range n').map q).length = n' := by simp
    refine ⟨some a, (List.range n').map q, c, by rw [hlen], ?_, (fun h => by cases h), by omega, by omega, fun y hy => ?_⟩
    · by_cases h0 : n' = 0
      · exact .inl (by subst h0; rfl)
      · right
        obtain ⟨b, off, spot⟩ := a
        have hspot : spot = none := by simpa [Addr.add] using World.cell?_spot (hq 0 (by omega)).1
        subst hspot
        refine ⟨b, off, rfl, ?_, fun k hk => ?_⟩
        · have := World.block_lt_of_cell? W _ (hq 0 (by omega)).1
          simpa [Addr.add] using this
        · have hk' : k < n' := by simpa using hk
          obtain ⟨g0, g1, g2, _⟩ := hq k hk'
          have hg : ((List.range n').map q)[k]'hk = q k := by simp
          rw [hg]
          rw [Ku.add_off] at g0 g1 g2
          exact ⟨g0, g1, g2⟩
    · simp only [List.mem_map, List.mem_range] at hy
      obtain ⟨k, hk, rfl⟩ := hy
      exact (hq k hk).2.2.2

instance : Inhabited Ku.C6 := ⟨⟨0, 0, 0, 0, 0, 0⟩⟩
theorem open_clusters {H : Type} {enc : TypeId × Value → H} {W : World} {r : Reach} {b0 base : Nat} {v : Value} {d : DataW H} {p : List MemPlace}
    (hv : Value.okWide Tryd.prog W r b0 24 v) (h : DataW.Trod enc Tryd.prog W base (fun _ => true) true 24 v d p) :
    ∃ (A : Option Addr) (l : List Ku.C6) (c : Nat), v = .slice A l.length c ∧ Ku.CuAt W A l ∧ (A = none → l = [] ∧ c = 0) ∧ l.length ≤ c ∧ l.length ≤ 9223372036854775807 ∧ ∀ q ∈ l, Ku.okN q.a ∧ Ku.okN q.z ∧ Ku.okN q.f ∧ Ku.okN q.t ∧ Ku.okN q.w ∧ Ku.okN q.c := by
  obtain ⟨fuel, hf⟩ := h
  rcases open_slice Tryd.underlying24 hf with ⟨hcs, hx⟩ | ⟨a, len, cap, m, n, D, Pl, hcs, hb, hl, hm, hmm, hx, hel⟩
  · obtain ⟨a, n, c, rfl⟩ := okWide_slice Tryd.underlying24 hv
    simp [Value.cells] at hcs
    obtain ⟨rfl, rfl, rfl⟩ := hcs
    exact ⟨none, [], 0, rfl, .inl rfl, fun _ => ⟨rfl, rfl⟩, by simp, by simp, by simp⟩
  · obtain ⟨a', n', c, rfl⟩ := okWide_slice Tryd.underlying24 hv
    simp [Value.cells] at hcs
    obtain ⟨rfl, rfl, rfl⟩ := hcs
    unfold maxLen at hm
    simp only [if_true] at hmm
    have c3 : Tryd.prog.cellsOf 32 = 6 := by kernel_rfl
    have c1 : Tryd.prog.cellsOf 3 = 1 := by kernel_rfl
    have each : ∀ i, i < n' → ∃ q : Ku.C6, W.cell? (a.add (i * 6)) = some (.int .i64 q.a) ∧ W.cell? (a.add (i * 6 + 1)) = some (.int .i64 q.z) ∧ W.cell? (a.add (i * 6 + 2)) = some (.int .i64 q.f) ∧ W.cell? (a.add (i * 6 + 3)) = some (.int .i64 q.t) ∧ W.cell? (a.add (i * 6 + 4)) = some (.int .i64 q.w) ∧ W.cell? (a.add (i * 6 + 5)) = some (.int .i64 q.c) ∧ (Ku.okN q.a ∧ Ku.okN q.z ∧ Ku.okN q.f ∧ Ku.okN q.t ∧ Ku.okN q.w ∧ Ku.okN q.c) := by
      intro i hi
      obtain ⟨cs', h1, h2⟩ := hel i (by omega)
      rw [c3] at h1
      obtain ⟨_, hlen, hcell⟩ := World.cells?_some h1
      obtain ⟨x0, e0, k0⟩ := field_int Tryd.underlying32 h2 0 _ rfl Tryd.underlying3 c1
      obtain ⟨x1, e1, k1⟩ := field_int Tryd.underlying32 h2 1 _ rfl Tryd.underlying3 c1
      obtain ⟨x2, e2, k2⟩ := field_int Tryd.underlying32 h2 2 _ rfl Tryd.underlying3 c1
      obtain ⟨x3, e3, k3⟩ := field_int Tryd.underlying32 h2 3 _ rfl Tryd.underlying3 c1
      obtain ⟨x4, e4, k4⟩ := field_int Tryd.underlying32 h2 4 _ rfl Tryd.underlying3 c1
      obtain ⟨x5, e5, k5⟩ := field_int Tryd.underlying32 h2 5 _ rfl Tryd.underlying3 c1
      have g0 := (hcell 0 (by omega)).trans e0
      have g1 := (hcell 1 (by omega)).trans e1
      have g2 := (hcell 2 (by omega)).trans e2
      have g3 := (hcell 3 (by omega)).trans e3
      have g4 := (hcell 4 (by omega)).trans e4
      have g5 := (hcell 5 (by omega)).trans e5
      rw [Deep.add_add] at g0
      rw [Deep.add_add] at g1
      rw [Deep.add_add] at g2
      rw [Deep.add_add] at g3
      rw [Deep.add_add] at g4
      rw [Deep.add_add] at g5
      refine ⟨⟨x0, x1, x2, x3, x4, x5⟩, by simpa using g0, by simpa using g1, by simpa using g2, by simpa using g3, by simpa using g4, by simpa using g5, k0, k1, k2, k3, k4, k5⟩
    obtain ⟨q, hq⟩ := choose_lt each
    have hlen : ((List.range n').map q).length = n' := by simp
    refine ⟨some a, (List.range n').map q, c, by rw [hlen], ?_, (fun h => by cases h), by omega, by omega, fun y hy => ?_⟩
    · by_cases h0 : n' = 0
      · exact .inl (by subst h0; rfl)
      · right
        obtain ⟨b, off, spot⟩ := a
        have hspot : spot = none := by simpa [Addr.add] using World.cell?_spot (hq 0 (by omega)).1
        subst hspot
        refine ⟨b, off, rfl, ?_, fun k hk => ?_⟩
        · have := World.block_lt_of_cell? W _ (hq 0 (by omega)).1
          simpa [Addr.add] using this
        · have hk' : k < n' := by simpa using hk
          obtain ⟨g0, g1, g2, g3, g4, g5, _⟩ := hq k hk'
          have hg : ((List.range n').map q)[k]'hk = q k := by simp
          rw [hg]
          rw [Ku.add_off] at g0 g1 g2 g3 g4 g5
          exact ⟨g0, g1, g2, g3, g4, g5⟩
    · simp only [List.mem_map, List.mem_range] at hy
      obtain ⟨k, hk, rfl⟩ := hy
      exact (hq k hk).2.2.2.2.2.2

end Go.Proofs.YtpfihikldeagnaaDoor
