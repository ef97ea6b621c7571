/-
  Rows of bytes of the call's own: what may be appended to them, and the text that they are.
-/
import Derived.Test.YtafpddpeffpnfaaDoorCvRows
import Derived.Lib.AppendStr
import Derived.Lib.UnsafeStr
import Derived.Lib.BufferRead
import Derived.Laws.IdiomStrings
set_option linter.unusedVariables false
namespace Go.Proofs.YtafpddpeffpnfaaDoor.By
open Go Go.RowKit Go.Lib Go.Proofs.YtafpddpeffpnfaaDoor.Cv

theorem infoByte : (Tryd.prog.info? 5).map (fun i => (i.zero, i.size, i.bytes)) = some (some (.int .u8 0), 1, 1) := by kernel_rfl
def ByR (B : Nat) (w : World) (v : Value) (l : Bs) : Prop := w.ownsRow B 5 1 v l.length (Lib.byteCells l)
theorem ByR.start (B : Nat) (w : World) : ByR B w (.slice none 0 0) [] := World.ownsRow_nil _ _ _ _
theorem ByR.below {B : Nat} {w w' : World} {v : Value} {l : Bs} (h : ByR B w v l) (hb : Below w.heap.size w w') : ByR B w' v l := own_below h hb fun k hk => (h.lt k hk).2
theorem ByR.shape {B : Nat} {w : World} {v : Value} {l : Bs} (h : ByR B w v l) : ∃ A c, v = .slice A l.length c := by
  obtain ⟨A, c, e, _⟩ := vAt_own h
  exact ⟨A, c, e⟩
theorem ByR.text {B : Nat} {w : World} {v : Value} {l : Bs} (h : ByR B w v l) : (convert 46 9 v).run Tryd.prog w = .ok (.string ⟨l.toArray⟩) w := by
  rcases h.2 with ⟨rfl, hn⟩ | ⟨g, cap, cur, rfl, _, hg, _, _, _, htk⟩
  · have : l = [] := List.eq_nil_of_length_eq_zero hn
    subst this
    exact Lib.run_convert_nil_bytes w 46 9 5 0 Tryd.underlying46 Tryd.underlying5 Tryd.underlying9
  · rw [Nat.mul_one] at htk
    exact run_convert_bytes_back w 46 9 5 _ cap l Tryd.underlying46 Tryd.underlying5 Tryd.underlying9 (Lib.bytes_of_row hg htk)
theorem cells_app (l m : Bs) : Lib.byteCells (l ++ m) = Lib.byteCells l ++ Lib.byteCells m := by simp [Lib.byteCells]
theorem ByR.of_str {B : Nat} {w : World} {v : Value} {l : Bs} {s : ByteArray} {n : Nat} (hn : n = s.size) (h : w.ownsRow B 5 1 v (l.length + n) (Lib.byteCells l ++ Lib.strCells s)) : ByR B w v (l ++ s.data.toList) := by
  subst hn
  unfold ByR
  rw [cells_app, List.length_append, ← Lib.size_eq]
  exact h
theorem ByR.of_bytes {B : Nat} {w : World} {v : Value} {l m : Bs} {n : Nat} (hn : n = m.length) (h : w.ownsRow B 5 1 v (l.length + n) (Lib.byteCells l ++ Lib.byteCells m)) : ByR B w v (l ++ m) := by
  unfold ByR
  rw [cells_app, List.length_append, ← hn]
  exact h
end Go.Proofs.YtafpddpeffpnfaaDoor.By
