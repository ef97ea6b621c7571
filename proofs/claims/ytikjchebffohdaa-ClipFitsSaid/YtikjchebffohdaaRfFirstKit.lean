/-
  Small contracts and facts for the document's own reading of a text's first rune.
-/
import Derived.Test.YtikjchebffohdaaRfCode
import Derived.Deep.QuietTactic
import Derived.BigQuiet
import Derived.Deep.RegionWith
set_option linter.unusedVariables false
namespace Go.Proofs.Ytikjchebffohdaa.Rn
open Go.RowKit Go.Lib

theorem below_drewN (w : World) : ∀ n, Below w.heap.size w (w.drewN n)
  | 0 => Below.refl _ _
  | n + 1 => (below_drewN w n).drew

theorem code_same (c : Int) (w : World) :
    Calls Try.prog 34 #[.int .i64 c] w fun e w' => e = .returned (.bool (isPoint c)) ∧ w' = w := (code_any c w).mono fun _ _ h => ⟨h.1, h.2.symm⟩

theorem code_as (c : Int) (b : Bool) (h : isPoint c = b) (w : World) :
    Calls Try.prog 34 #[.int .i64 c] w fun e w' => e = .returned (.bool b) ∧ w' = w := h ▸ code_same c w

theorem bytes_pt (c : Int) (h : isPoint c = true) (w : World) :
    Calls Try.prog 35 #[.int .i64 c] w fun e w' => e = .returned (.slice (some ⟨w.heap.size, 0, none⟩) (Lib.runeCells c).length (Lib.runeCells c).length) ∧ w' = w.alloc (bytesBlock c) := by
  have := bytes_any c w
  rw [show fitZ c = c from by simp [fitZ, h]] at this
  exact this

theorem conv_block (c : Int) (w : World) : (convert 65 9 (.slice (some ⟨w.heap.size, 0, none⟩) (Lib.runeCells c).length (Lib.runeCells c).length)).run Try.prog (w.alloc (bytesBlock c)).drew = .ok (.string ⟨(Lib.encodeRune c).toArray⟩) (w.alloc (bytesBlock c)).drew := by
  have hb : (w.alloc (bytesBlock c)).drew.heap[w.heap.size]? = some (.cells (Lib.runeCells c).toArray 5) := heap_alloc_new w _
  rw [runeCells_len]
  refine run_convert_bytes_back _ 65 9 5 _ _ (Lib.encodeRune c) Try.underlying65 Try.underlying5 Try.underlying9 (Lib.bytes_of_row hb ?_)
  rw [Lib.byteCells_encodeRune, List.take_of_length_le (by rw [← runeCells_len]; simp)]

theorem getD_zero (s : ByteArray) (h : 0 < s.size) : s.data.toList.getD 0 0 = s[0] := by
  have h' : 0 < s.data.toList.length := by rw [← Lib.size_eq]; exact h
  rw [List.getD_eq_getElem?_getD, List.getElem?_eq_getElem h']
  rfl

theorem enc_toList (r : Int) : (⟨(Lib.encodeRune r).toArray⟩ : ByteArray).toList = Lib.encodeRune r := by
  rw [Lib.toList_data]
theorem ext_toList (s : ByteArray) (n : Nat) : (s.extract 0 n).toList = s.data.toList.take n := by
  rw [Lib.extract_toList]; rfl
end Go.Proofs.Ytikjchebffohdaa.Rn
