/-
  Proved here: what the document's own answers for texts (Code, Bytes of the reference) return, for every number; they leave what was in memory.
-/
import Derived.Test.YtikjchebffohdaaRnTextB
import Derived.Deep.AppendLies
set_option linter.unusedVariables false
namespace Go.Proofs.Ytikjchebffohdaa.Rn
open Go.RowKit Go.Lib

set_option maxHeartbeats 400000 in
theorem code_any (c : Int) (w : World) :
    Calls Try.prog 34 #[.int .i64 c] w fun e w' => e = .returned (.bool (isPoint c)) ∧ w = w' := by
  by_cases h1 : 0 ≤ c <;> by_cases h2 : c ≤ 1114111 <;> by_cases h3 : c < 55296 <;> by_cases h4 : 57343 < c
  all_goals first | (exfalso; omega) | skip
  all_goals
    go_enter Try.func34, Try.ntmps34
    go_wp2
    go_ret
    refine ⟨ret_bool ?_, rfl⟩
    rw [Bool.eq_iff_iff]
    simp [isPoint] <;> omega

/-- The block of a code point's bytes. -/
def bytesBlock (r : Int) : Obj := .cells (Lib.runeCells r).toArray 5

theorem bytes_slice {w w' : World} {r : Int} {L : List Value} (hL : Lib.runeCells r = L) (hw : w' = w.alloc (.cells L.toArray 5)) : w' = w.alloc (bytesBlock r) := by
  rw [hw, bytesBlock, hL]

set_option maxHeartbeats 1000000 in
theorem bytes_any (c : Int) (w : World) :
    Calls Try.prog 35 #[.int .i64 c] w fun e w' => e = .returned (.slice (some ⟨w.heap.size, 0, none⟩) (Lib.runeCells (fitZ c)).length (Lib.runeCells (fitZ c)).length) ∧ w' = w.alloc (bytesBlock (fitZ c)) := by
  cases hp : isPoint c
  · have hf : fitZ c = 65533 := by simp [fitZ, hp]
    go_enter Try.func35, Try.ntmps35
    go_wp2_with (go_at_call 34; refine (code_any _ _).mono ?_; rintro e w' ⟨rfl, rfl⟩)
    go_ret
    rw [hf]
    exact ⟨rfl, rfl⟩
  · have hf : fitZ c = c := by simp [fitZ, hp]
    have hp2 := hp
    simp only [isPoint, decide_eq_true_eq] at hp2
    rw [hf]
    have HF := Lib.hid hf
    clear hf
    by_cases h1 : c < 128
    · have hr : Lib.runeCells c = [.int .u8 c] := by rw [Lib.runeCells, Lib.encodeRuneZ_one (by omega) (by omega)]; rfl
      rw [bytesBlock, hr]
      have HR := Lib.hid hr
      clear hr
      go_enter Try.func35, Try.ntmps35
      go_wp2_with (go_at_call 34; refine (code_any _ _).mono ?_; rintro e w' ⟨rfl, rfl⟩)
      go_ret
      exact ⟨rfl, rfl⟩
    · by_cases h2 : c < 2048
      · have hr : Lib.runeCells c = [.int .u8 (192 + c / 64), .int .u8 (128 + c % 64)] := by rw [Lib.runeCells, Lib.encodeRuneZ_two (by omega) (by omega)]; rfl
        rw [bytesBlock, hr]
        have HR := Lib.hid hr
        clear hr
        go_enter Try.func35, Try.ntmps35
        go_wp2_with (go_at_call 34; refine (code_any _ _).mono ?_; rintro e w' ⟨rfl, rfl⟩)
        go_ret
        exact ⟨rfl, rfl⟩
      · by_cases h3 : c < 65536
        · have hr : Lib.runeCells c = [.int .u8 (224 + c / 4096), .int .u8 (128 + c / 64 % 64), .int .u8 (128 + c % 64)] := by rw [Lib.runeCells, Lib.encodeRuneZ_three (by omega)]; rfl
          rw [bytesBlock, hr]
          have HR := Lib.hid hr
          clear hr
          go_enter Try.func35, Try.ntmps35
          go_wp2_with (go_at_call 34; refine (code_any _ _).mono ?_; rintro e w' ⟨rfl, rfl⟩)
          go_ret
          exact ⟨rfl, rfl⟩
        · have hr : Lib.runeCells c = [.int .u8 (240 + c / 262144), .int .u8 (128 + c / 4096 % 64), .int .u8 (128 + c / 64 % 64), .int .u8 (128 + c % 64)] := by rw [Lib.runeCells, Lib.encodeRuneZ_four (by omega) (by omega)]; rfl
          rw [bytesBlock, hr]
          have HR := Lib.hid hr
          clear hr
          go_enter Try.func35, Try.ntmps35
          go_wp2_with (go_at_call 34; refine (code_any _ _).mono ?_; rintro e w' ⟨rfl, rfl⟩)
          go_ret
          exact ⟨rfl, rfl⟩

theorem infoByte : (Try.prog.info? 5).map (fun i => (i.zero, i.size, i.bytes)) = some (some (.int .u8 0), 1, 1) := by kernel_rfl

theorem block_cell (w : World) (r : Int) (j : Nat) (u : Value) (h : (Lib.runeCells r)[j]? = some u) : (w.alloc (bytesBlock r)).cell? ((⟨w.heap.size, 0, none⟩ : Addr).add j) = some u := by
  have hb : (w.alloc (bytesBlock r)).heap[w.heap.size]? = some (.cells (Lib.runeCells r).toArray 5) := heap_alloc_new w _
  have hadd : (⟨w.heap.size, 0, none⟩ : Addr).add j = ⟨w.heap.size, j, none⟩ := by unfold Addr.add; split <;> simp_all
  rw [hadd, cell_of_row _ w.heap.size j _ _ (0, 0) hb]
  simpa using h
theorem runeCells_one (r : Int) : ∀ u ∈ Lib.runeCells r, u.oneCell' = true := by
  intro u hu
  simp only [Lib.runeCells, List.mem_map] at hu
  obtain ⟨x, _, rfl⟩ := hu
  rfl

end Go.Proofs.Ytikjchebffohdaa.Rn
