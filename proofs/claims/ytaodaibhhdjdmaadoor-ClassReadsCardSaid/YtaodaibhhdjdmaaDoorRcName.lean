/-
  Proved here: what parquetryref02.Name returns, for every number; it leaves what was in memory.
-/
import Derived.Test.YtaodaibhhdjdmaaDoorClPrint
import Derived.Test.YtaodaibhhdjdmaaDoorClSpans
set_option linter.unusedVariables false
namespace Go.Proofs.YtaodaibhhdjdmaaDoor.Rc
open Go.RowKit Go.Lib Go.Proofs.YtaodaibhhdjdmaaDoor.Cl

/-- The document's name of a class; none, if there is no such class. -/
def refName (c : Int) : ByteArray := if 0 ≤ c ∧ c ≤ 22 then nameZ c else ⟨#[]⟩
theorem refName_out {c : Int} (h : c < 0 ∨ 22 < c) : refName c = ⟨#[]⟩ := by unfold refName; rw [if_neg (by omega)]
theorem refName_in {c : Int} (h0 : 0 ≤ c) (h1 : c ≤ 22) : refName c = nameZ c := by unfold refName; rw [if_pos ⟨h0, h1⟩]
def nameParts : Array (Nat × Operand) := ((namesB.zipIdx 0).map fun x => (x.2, Operand.const (.string x.1))).toArray
theorem fill_names (z : Value) (hz : z.cells.size = 1) (a : Act) : Instr.fill (fun i => some (i * 1, 1)) ((Array.range (23 * 1)).map (z.cells[· % z.cells.size]!)) (nameParts.map fun (i, x) => (i, a.eval x)).toList = some namesCs.toArray := by
  have e : (nameParts.map fun (i, x) => (i, a.eval x)).toList = (namesCs.zipIdx 0).map fun x => (x.2, x.1) := by
    unfold nameParts namesCs
    rw [Array.toList_map, List.zipIdx_map, List.map_map, List.map_map]
    rfl
  rw [e]
  exact Great.fill_flat _ _ (fun v hv => by obtain ⟨n, _, rfl⟩ := List.mem_map.1 hv; rfl) (by simp [namesCs, names_len])

set_option maxHeartbeats 1000000 in
set_option maxRecDepth 100000 in
theorem name_any (c : Int) (w : World) :
    Calls Tryd.prog 29 #[.int .i64 c] w fun e w' => e = .returned (.string (refName c)) ∧ Below w.heap.size w w' := by
  obtain ⟨i0, hi, hz0, hz1, hz2⟩ := info_parts infoStr
  have hb : Below w.heap.size w (w.alloc (.cells namesCs.toArray 9)) := (Below.refl _ _).alloc (Nat.le_refl _) _
  have hcells : ∀ m (hm : m < namesB.length), (w.alloc (.cells namesCs.toArray 9)).cell? ⟨w.heap.size, m, none⟩ = some (.string namesB[m]) := by
    intro m hm
    have := namesCs_at hm
    simpa using this
  have HC := Lib.hid hcells
  clear hcells
  obtain ⟨r, hr⟩ : ∃ r, refName c = r := ⟨_, rfl⟩
  rw [hr]
  have HR := Lib.hid hr
  clear hr
  go_enter Tryd.func29, Tryd.ntmps29
  refine wp_seq (wp_region_lit (l := [_]) (Cl.wpList_assignTo rfl _ rfl ?_))
  show Exit.then _ _ _ _ _
  refine wp_seq ?_
  refine wp_table 0 _ rfl (some 4) (some 3) (.tmp 4) 51 9 23 nameParts (by kernel_rfl) namesCs.toArray i0 (.string ⟨#[]⟩) Tryd.underlying51 hi hz0 (by rw [hz1]; decide) (by rw [hz1]; decide) (by rw [hz1]; exact fill_names _ rfl _) ?_
  have hsz : w.heap.size < (w.alloc (.cells namesCs.toArray 9)).heap.size := by simp
  generalize w.alloc (.cells namesCs.toArray 9) = w1 at *
  show Code.wp _ _ _ _ _
  by_cases h0 : c < 0
  · have hd : decide (c < 0) = true := decide_eq_true h0
    have hfin := Lib.hid ((HR.out.symm.trans (refName_out (.inl h0))))
    go_wp2
    go_ret
    exact ⟨by rw [hfin.out]; rfl, hb⟩
  · have hd : decide (c < 0) = false := decide_eq_false h0
    by_cases h1 : 22 < c
    · have hd1 : decide (22 < c) = true := decide_eq_true h1
      have hfin := Lib.hid ((HR.out.symm.trans (refName_out (.inr h1))))
      go_wp2
      go_ret
      exact ⟨by rw [hfin.out]; rfl, hb⟩
    · have hd1 : decide (22 < c) = false := decide_eq_false h1
      obtain ⟨m, rfl⟩ : ∃ m : Nat, c = m := ⟨c.toNat, by omega⟩
      have hm : m < namesB.length := by rw [names_len]; omega
      have hc := HC.out m hm
      have hfin : r = namesB[m] := by
        rw [← HR.out, refName_in (by omega) (by omega)]
        unfold nameZ
        rw [Int.toNat_natCast, List.getD_eq_getElem?_getD, List.getElem?_eq_getElem hm]
        rfl
      rw [← hfin] at hc
      clear hfin
      have hlt : (m : Int) < 23 := by omega
      go_wp2
      go_ret
      exact ⟨rfl, hb⟩
end Go.Proofs.YtaodaibhhdjdmaaDoor.Rc
