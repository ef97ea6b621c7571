/-
  Proved here: what class.named returns, for every text, where the names stand in memory as they are laid; it leaves memory as it was.
-/
import Derived.Test.YtkhhfodbldemeaaDoorRows
import Derived.Carry
import Derived.ProofKit
import Derived.OpenShut
import Derived.Below
import Derived.Lib.Hide
import Derived.WalkKit
import Derived.Deep.MidRow
set_option linter.unusedVariables false
namespace Go.Proofs.YtkhhfodbldemeaaDoor.Cl
open Go.RowKit Go.Lib

/-- The classes' names, by number. -/
def namesB : List ByteArray := [⟨#[76]⟩, ⟨#[82]⟩, ⟨#[65, 76]⟩, ⟨#[69, 78]⟩, ⟨#[69, 83]⟩, ⟨#[69, 84]⟩, ⟨#[65, 78]⟩, ⟨#[67, 83]⟩, ⟨#[78, 83, 77]⟩, ⟨#[66, 78]⟩, ⟨#[66]⟩, ⟨#[83]⟩, ⟨#[87, 83]⟩, ⟨#[79, 78]⟩, ⟨#[76, 82, 69]⟩, ⟨#[76, 82, 79]⟩, ⟨#[82, 76, 69]⟩, ⟨#[82, 76, 79]⟩, ⟨#[80, 68, 70]⟩, ⟨#[76, 82, 73]⟩, ⟨#[82, 76, 73]⟩, ⟨#[70, 83, 73]⟩, ⟨#[80, 68, 73]⟩]
theorem names_len : namesB.length = 23 := rfl
/-- The number of the first name that is this text, or 23. -/
def nameNo (s : ByteArray) : Nat := (namesB.takeWhile fun n => decide (n ≠ s)).length
theorem nameNo_le (s : ByteArray) : nameNo s ≤ 23 := by
  unfold nameNo; exact (List.takeWhile_sublist _).length_le

theorem pos_is {α : Type} {p : α → Bool} : ∀ {l : List α} {i : Nat}, i ≤ l.length → (∀ k (hk : k < l.length), k < i → p l[k] = true) → (∀ hi : i < l.length, p l[i] = false) → i = (l.takeWhile p).length
  | [], i, hi, _, _ => by simpa using hi
  | x :: l, 0, _, _, h => by
    have := h (by simp)
    simp at this
    simp [this]
  | x :: l, i + 1, hi, hlo, h => by
    have h0 := hlo 0 (by simp) (by omega)
    simp at h0
    have := pos_is (p := p) (l := l) (i := i) (by simpa using hi) (fun k hk hki => hlo (k + 1) (by simpa using hk) (by omega)) (fun hi' => h (by simpa using hi'))
    simp [h0, this]
theorem nameNo_found {s : ByteArray} {k : Nat} (hk : k < namesB.length) (hlo : ∀ j (hj : j < namesB.length), j < k → namesB[j] ≠ s) (he : namesB[k] = s) : nameNo s = k :=
  (pos_is (p := fun n => decide (n ≠ s)) (Nat.le_of_lt hk) (fun j hj hjk => by simpa using hlo j hj hjk) (fun _ => by simpa using he)).symm
theorem nameNo_none {s : ByteArray} (hlo : ∀ j (hj : j < namesB.length), namesB[j] ≠ s) : nameNo s = 23 :=
  (pos_is (p := fun n => decide (n ≠ s)) (Nat.le_refl _) (fun j hj _ => by simpa using hlo j hj) (fun h => absurd h (Nat.lt_irrefl _))).symm

theorem str_ne {a b : ByteArray} (h : a ≠ b) : (a.toList == b.toList) = false := by
  rw [ByteArray.toList_eq, ByteArray.toList_eq]
  refine beq_eq_false_iff_ne.2 fun e => h ?_
  obtain ⟨⟨x⟩⟩ := a
  obtain ⟨⟨y⟩⟩ := b
  simp only at e
  rw [e]
theorem str_eq {a b : ByteArray} (h : (a.toList == b.toList) = true) : a = b := by
  by_cases hab : a = b
  · exact hab
  · rw [str_ne hab] at h
    cases h

/-- The names, and the library's one number, where they lie. -/
def Held (w : World) : Prop := 2 ≤ w.heap.size ∧ (∀ k (hk : k < namesB.length), w.cell? ⟨0, k, none⟩ = some (.string namesB[k])) ∧ ∃ m, w.cell? ⟨1, 0, none⟩ = some (.int .i64 m)
theorem Held.below {w w' : World} (h : Held w) (hb : Below w.heap.size w w') : Held w' := by
  obtain ⟨h1, h2, m, h3⟩ := h
  exact ⟨Nat.le_trans h1 hb.size, fun k hk => (hb.cell (p := ⟨0, k, none⟩) (by simp only; omega)).trans (h2 k hk), m, (hb.cell (p := ⟨1, 0, none⟩) (by simp only; omega)).trans h3⟩

def namesCs : List Value := namesB.map Value.string
theorem namesCs_at {k : Nat} (hk : k < namesB.length) : namesCs[k]? = some (.string namesB[k]) := by
  unfold namesCs
  rw [List.getElem?_map, List.getElem?_eq_getElem hk]
  rfl
theorem Held.range {w : World} (h : Held w) : w.rangeAt 0 0 namesCs := by
  intro j v hv
  have hj : j < namesB.length := by
    have := (List.getElem?_eq_some_iff.1 hv).1
    simpa [namesCs] using this
  rw [namesCs_at hj] at hv
  injection hv with hv
  subst hv
  rw [Nat.zero_add]
  exact h.2.1 j hj

theorem index_names (V : Array Value) (k : Nat) (n : ByteArray) (w : World) (hk : (k : Int) < 23) (hv : V[k]? = some (.string n)) :
    (Instr.index 48 (.agg V) (.int .i64 k)).run Tryd.prog w = .ok (.string n) w := by
  have h0 : (0 : Int) ≤ k := by omega
  simp [Instr.index, run_underlying Tryd.underlying48, asIntOf, h0, part, go_sem, hv]
  omega

/-- What class.named answers. -/
def namedV (s : ByteArray) : Value := .tuple #[.int .i64 (if nameNo s < 23 then (nameNo s : Int) else 0), .bool (decide (nameNo s < 23))]
def NamedRel (s : ByteArray) (v : Value) : Prop := ∃ k : Nat, k ≤ 23 ∧ v = .int .i64 k ∧ ∀ j (hj : j < namesB.length), j < k → namesB[j] ≠ s

set_option maxHeartbeats 1000000 in
set_option maxRecDepth 100000 in
theorem named_any (s : ByteArray) (w : World) (hH : Held w) :
    Calls Tryd.prog 28 #[.string s] w fun e w' => e = .returned (namedV s) ∧ w = w' := by
  have hR := Lib.hid hH.range
  clear hH
  obtain ⟨V, hV⟩ : ∃ V, namesCs.toArray = V := ⟨_, rfl⟩
  go_enter Tryd.func28, Tryd.ntmps28
  go_wp2_with (refine wpList_load_mid rfl 48 _ rfl 0 0 rfl namesCs _ hR.out Tryd.underlying48 rfl (by kernel_rfl) ?_; rw [hV])
  have HV := Lib.hid hV
  clear hV
  go_loop [7] (fun s7 => NamedRel s s7) (fun s7 => 23 - (RowKit.intOf s7).toNat)
  case atStart => exact ⟨0, by omega, rfl, fun j _ h => by omega⟩
  case round =>
    obtain ⟨k, hk, rfl, hlo⟩ := hrel
    have HLO := Lib.hid hlo
    clear hlo
    by_cases hlt : k < 23
    · have hlt' : (k : Int) < 23 := by omega
      have hvk : V[k]? = some (.string namesB[k]) := by rw [← HV.out, List.getElem?_toArray]; exact namesCs_at (show k < namesB.length from hlt)
      obtain ⟨n, hn⟩ : ∃ n, namesB[k] = n := ⟨_, rfl⟩
      rw [hn] at hvk
      have HN := Lib.hid hn
      have hix := index_names V k n w hlt' hvk
      clear hn hvk
      by_cases hns : n = s
      · subst hns
        have hno := Lib.hid (nameNo_found (s := n) (show k < namesB.length from hlt) HLO.out HN.out)
        go_wp2
        go_ret2
        refine ⟨?_, rfl⟩
        unfold namedV
        rw [hno.out, if_pos hlt, decide_eq_true hlt]
        rfl
      · have hq := str_ne hns
        go_wp2
        go_round
        case measure => simp [RowKit.intOf]; omega
        refine ⟨k + 1, by omega, by go_num, fun j hj hjk => ?_⟩
        rcases Nat.lt_or_eq_of_le (Nat.le_of_lt_succ hjk) with h | h
        · exact HLO.out j hj h
        · subst h
          exact fun e => hns (HN.out.symm.trans e)
    · have hno := Lib.hid (nameNo_none (s := s) (fun j hj => HLO.out j hj (by have := names_len; omega)))
      go_wp2
      go_ret2
      refine ⟨?_, rfl⟩
      unfold namedV
      rw [hno.out]
      rfl
end Go.Proofs.YtkhhfodbldemeaaDoor.Cl
