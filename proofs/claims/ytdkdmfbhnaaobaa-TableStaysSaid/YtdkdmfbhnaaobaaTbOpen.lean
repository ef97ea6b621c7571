/-
  Records that a statement's function is called with (a slice of slices of texts), as its walk reads them, with room behind. And how a statement without listed variables is lifted to its row where the walk needs what each argument may weigh.
-/
import Derived.Test.YtdkdmfbhnaaobaaTbRows
import Derived.Test.YtdkdmfbhnaaobaaLawKit
import Derived.Handed
import Derived.Deep.Strs
import Derived.SizedLaws
set_option linter.unusedVariables false
namespace Go.Proofs.Ytdkdmfbhnaaobaa
open Go.ChangeShapes Go.WideShapes Go.ChangeAt Go.RowKit Go.Proofs.Ytdkdmfbhnaaobaa.Cv Go.Proofs.Ytdkdmfbhnaaobaa.Tb

theorem addr_plain {w : World} {a : Addr} {v : Value} (h : w.cell? (a.add 0) = some v) : ∃ b off, a = ⟨b, off, none⟩ := by
  obtain ⟨b, off, spot⟩ := a
  have hspot : spot = none := by simpa [Addr.add] using World.cell?_spot h
  subst hspot
  exact ⟨b, off, rfl⟩
theorem vAt_of {w : World} {a : Addr} {n : Nat} {V : Nat → Value} (h : ∀ i, i < n → w.cell? (a.add i) = some (V i)) : VAt w (some a) ((List.range n).map V) := by
  by_cases h0 : n = 0
  · subst h0; exact .inl rfl
  · obtain ⟨b, off, rfl⟩ := addr_plain (h 0 (by omega))
    refine .inr ⟨b, off, rfl, ?_, fun j u hj => ?_⟩
    · have := World.block_lt_of_cell? w _ (h 0 (by omega))
      simpa [Addr.add] using this
    · have hj' : j < n := by
        have := (List.getElem?_eq_some_iff.1 hj).1
        simpa using this
      have hadd : (⟨b, off, none⟩ : Addr).add j = ⟨b, off + j, none⟩ := by unfold Addr.add; split <;> simp_all
      rw [← hadd, h j hj']
      simp [hj'] at hj
      rw [hj]

theorem weights_all {H : Type} {P : Program} {e : TypeId} {d : DataW H} : ∀ {l : List (DataW H)}, d ∈ l → ∀ n ∈ d.weights P e, n ∈ DataW.weightsAll P e l
  | x :: l, h, n, hn => by
    rw [DataW.weightsAll, List.mem_append]
    rcases List.mem_cons.1 h with rfl | h
    · exact .inl hn
    · exact .inr (weights_all h n hn)

theorem open_recsC {H : Type} {enc : TypeId × Value → H} {W : World} {r : Reach} {b0 base : Nat} {v : Value} {d : DataW H} {p : List MemPlace}
    (hv : Value.okWide Try.prog W r b0 22 v) (h : DataW.Trod enc Try.prog W base (fun _ => true) true 22 v d p) (hw : ∀ n ∈ d.weights Try.prog 22, n ≤ reachBytes) :
    ∃ (A : Option Addr) (R : List (List Bs)) (c : Nat), v = .slice A R.length c ∧ RecsC W A R ∧ (A = none → R = [] ∧ c = 0) ∧ R.length ≤ 140737488355328 ∧ (∀ r ∈ R, r.length ≤ 140737488355328) ∧ ∀ r ∈ R, ∀ x ∈ r, x.length ≤ 140737488355328 := by
  have hreach : reachBytes ≤ 140737488355328 := by decide
  obtain ⟨fuel, hf⟩ := h
  obtain ⟨a0, n0, c0, rfl⟩ := okWide_slice Try.underlying22 hv
  have hc1 : Try.prog.cellsOf 31 = 1 := by kernel_rfl
  have hc2 : Try.prog.cellsOf 9 = 1 := by kernel_rfl
  have hb1 : Try.prog.bytesOf 31 = 24 := by kernel_rfl
  have hb2 : Try.prog.bytesOf 9 = 16 := by kernel_rfl
  rcases Deep.open_slice1 Try.underlying22 hc1 hf with ⟨hcs, hx⟩ | ⟨a, len, cap, m, n, V, D, Pl, hcs, _, hl, hm, hmm, hx, hel⟩
  · simp [Value.cells] at hcs
    obtain ⟨rfl, rfl, rfl⟩ := hcs
    exact ⟨none, [], 0, rfl, RecsC.nil _ _, fun _ => ⟨rfl, rfl⟩, by decide, by simp, by simp⟩
  · simp [Value.cells] at hcs
    obtain ⟨rfl, rfl, rfl⟩ := hcs
    simp only [if_true] at hmm
    have hd : d = .slice ((List.range n0).map D) ((List.range (m - n0)).map fun j => D (n0 + j)) := (Prod.mk.inj hx).1
    subst hd
    simp only [DataW.weights, Try.underlying22] at hw
    have hlen : n0 ≤ 140737488355328 := by
      have := hw _ (List.mem_cons_self ..)
      rw [hb1] at this
      simp at this
      omega
    have each : ∀ i, i < n0 → ∃ q : List Bs, RecC W (V i) q ∧ q.length ≤ 140737488355328 ∧ ∀ x ∈ q, x.length ≤ 140737488355328 := by
      intro i hi
      have hD : ∀ k ∈ (D i).weights Try.prog 31, k ≤ reachBytes := fun k hk =>
        hw k (List.mem_cons_of_mem _ (List.mem_append_left _ (weights_all (List.mem_map.2 ⟨i, List.mem_range.2 hi, rfl⟩) k hk)))
      obtain ⟨_, ht⟩ := hel i (by omega)
      rcases Deep.open_strs Try.underlying31 Try.underlying9 hc2 ht with ⟨hcs, _⟩ | ⟨a', len', cap', m', Sx, hcs, _, hl', hm', hmm', hx', hel'⟩
      · simp at hcs
        exact ⟨[], ⟨none, 0, hcs, Nat.le_refl _, .inl rfl⟩, by decide, by simp⟩
      · simp at hcs
        simp only [if_true] at hmm'
        have hd' : D i = .slice ((List.range len').map fun i => .lit (.string (Sx i).data.toList)) ((List.range (m' - len')).map fun j => .lit (.string (Sx (len' + j)).data.toList)) := (Prod.mk.inj hx').1
        rw [hd'] at hD
        simp only [DataW.weights, Try.underlying31] at hD
        have hq : ((List.range len').map fun i => (Sx i).data.toList).length = len' := by simp
        refine ⟨(List.range len').map fun i => (Sx i).data.toList, ⟨some a', cap', by rw [hq]; exact hcs, by rw [hq]; exact hl', ?_⟩, ?_, ?_⟩
        · have e : rowC ((List.range len').map fun i => (Sx i).data.toList) = (List.range len').map fun i => .string (Sx i) := by simp [rowC, bx]
          rw [e]
          exact vAt_of fun i hi => (hel' i (by omega)).1
        · rw [hq]
          have := hD _ (List.mem_cons_self ..)
          rw [hb2] at this
          simp at this
          omega
        · intro x hx2
          obtain ⟨k, hk, rfl⟩ := List.mem_map.1 hx2
          have := hD (Sx k).data.toList.length (List.mem_cons_of_mem _ (List.mem_append_left _ (weights_all (d := .lit (.string (Sx k).data.toList)) (List.mem_map.2 ⟨k, hk, rfl⟩) _ (by simp [DataW.weights]))))
          omega
    obtain ⟨f, hfs⟩ := Deep.choose_lt each
    have hR : ((List.range n0).map f).length = n0 := by simp
    refine ⟨some a, (List.range n0).map f, c0, by rw [hR], ⟨(List.range n0).map V, by simp, vAt_of fun i hi => (hel i (by omega)).1, fun i hi x hxi => ?_⟩, (fun h => by cases h), by rw [hR]; exact hlen, ?_, ?_⟩
    · have hi' : i < n0 := by simpa using hi
      simp [hi'] at hxi
      subst hxi
      simpa using (hfs i hi').1
    · intro q hq
      obtain ⟨k, hk, rfl⟩ := List.mem_map.1 hq
      exact (hfs k (List.mem_range.1 hk)).2.1
    · intro q hq
      obtain ⟨k, hk, rfl⟩ := List.mem_map.1 hq
      exact (hfs k (List.mem_range.1 hk)).2.2

theorem trodAll_len {H : Type} {enc : TypeId × Value → H} {P : Program} {W : World} {b : Nat} {sp : Nat → Bool} {h : Bool} : ∀ {ts : List TypeId} {vs : List Value} {ds : List (DataW H)} {ps : List MemPlace}, DataW.TrodAll enc P W b sp h ts vs ds ps → ds.length = ts.length
  | [], [], [], _, _ => rfl
  | [], _ :: _, _, _, h => h.elim
  | [], [], _ :: _, _, h => h.elim
  | _ :: _, [], _, _, h => h.elim
  | _ :: _, _ :: _, [], _, h => h.elim
  | t :: ts, v :: vs, d :: ds, ps, h => by
    obtain ⟨p, q, h1, h2, rfl⟩ := h
    simp [trodAll_len h2]

theorem returns_w {H : Type} {enc : TypeId × Value → H} {os : Os} {f : FuncId} {fn : Func} {s : ChangeSpec} {conds : List PathCond} (started : os.Started) (noInit : Try.prog.inits.idxOf? f = none) (hfn : Try.prog.funcs[f]? = some fn)
    (witness : ∃ (w : World) (tape : Tape) (i : Input), w.os = os ∧ (w.forCall tape i).Shaped Try.prog ∧ i.vars = [] ∧ Input.okWide Try.prog (w.forCall tape i) .any w.heap.size f i ∧
      s.pre6 enc Try.prog fn conds false (w.forCall tape i).memory i.args ∧ ({} : Assume).holds Try.prog (lone (Frame.enter Try.prog f i.args .normal) [] (w.forCall tape i)))
    (hv : s.vars = []) (hres : fn.resultTypes = #[4]) (hrow : rowed Try.prog fn.params.toList = true) (hfn2 : ∀ (ds : List (DataW H)), ds.length = fn.params.toList.length → s.fn H (ds ++ []) = { results := [.lit (.bool true)], args := ds })
    (walk : ∀ (W : World) (base : Nat) (args : Array Value) (ds : List (DataW H)) (p : List MemPlace),
      (∀ (j : Nat) t v, fn.params[j]? = some t → args[j]? = some v → Value.okWide Try.prog W .any base t v) →
      DataW.TrodAll enc Try.prog W 0 (fun _ => true) true fn.params.toList args.toList ds p →
      (∀ (j : Nat) t d, fn.params.toList[j]? = some t → ds[j]? = some d → ∀ n ∈ d.weights Try.prog t, n ≤ reachBytes) →
      Calls Try.prog f args W fun e W' => e = .returned (.bool true) ∧ Below W.heap.size W W') :
    ReturnsInHanded {} Try.checked os f .any (s.pre6 enc Try.prog fn conds false) (s.post enc Try.prog fn false true false false) := by
  refine returnsInHanded_of_calls (C := Try.checked) law_own started noInit witness ?_
  intro w tape i _ hsh _ hok' hpre' hholds
  obtain ⟨_, _, _, fn', hfn', _, _, _, _, hval⟩ := hok'
  have e : fn' = fn := Option.some.inj (hfn'.symm.trans hfn)
  subst e
  obtain ⟨⟨ds, gs, before, hw, hc⟩, hz⟩ := hpre'
  have hwt := hz.weights hw
  have hw' := DataW.Whole.of_heap (w' := w.forCall tape i) (by rfl) hw
  have hw2 := hw'
  obtain ⟨p, q, hA0, hV, rfl, _, _⟩ := hw2
  have hwe : ∀ (j : Nat) t d, fn'.params.toList[j]? = some t → ds[j]? = some d → ∀ n ∈ d.weights Try.prog t, n ≤ reachBytes := by
    intro j t d ht hd n hn
    have h1 : (fn'.params.toList ++ (OpenSpec.ofChange s).bare.plain.varTypes Try.prog)[j]? = some t := by
      rw [List.getElem?_append_left (List.getElem?_eq_some_iff.1 ht).1]
      exact ht
    have h2 : (ds ++ gs)[j]? = some d := by
      rw [List.getElem?_append_left (List.getElem?_eq_some_iff.1 hd).1]
      exact hd
    have := List.all_eq_true.1 hwt n (DataW.weights_mem_each h1 h2 n hn)
    simpa using this
  refine (walk (w.forCall tape i) w.heap.size i.args ds p hval hA0 hwe).mono fun e W' ⟨he, hB⟩ => ?_
  subst he
  refine ChangeSpec.post_blind (law_post hw' hv hres hrow ?_ hB)
  rw [hv] at hV
  obtain ⟨rfl, rfl⟩ := trodVars_none hV
  exact hfn2 ds (trodAll_len hA0)
end Go.Proofs.Ytdkdmfbhnaaobaa
