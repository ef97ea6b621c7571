/-
  strings.Builder at this program: what WriteString does; a builder of the call's own behind a call that leaves old memory as it was.
-/
import Derived.Test.YtafpddpeffpnfaaDoorShelf
import Derived.Test.YtafpddpeffpnfaaDoorCvRows
set_option linter.unusedVariables false
namespace Go.Proofs.YtafpddpeffpnfaaDoor.Bd
open Go Go.RowKit Go.Lib

/-- A builder of the call's own (block b, nothing of it below B) that holds these bytes. -/
def Bdr (B b : Nat) (l : List UInt8) (w : World) : Prop := Lib.IsBuilderF 57 5 B b (Lib.byteCells l) w

theorem write_any (B b : Nat) (l : List UInt8) (s : ByteArray) (w : World) (h : Bdr B b l w) (hlen : l.length + s.size ≤ 140737488355328) (hBw : B ≤ w.heap.size) :
    Calls Tryd.prog 35 #[.pointer (some ⟨b, 0, none⟩), .string s] w fun e w' => e = .returned (.tuple #[.int .i64 s.size, .nilIface]) ∧ Bdr B b (l ++ s.data.toList) w' ∧ Below B w w' := by
  have hl : (Lib.byteCells l).length = l.length := by simp [Lib.byteCells]
  refine (Any.Builder_WriteString_f { Tryd.lays155 with } Tryd.Builder_Extra_155 B b (Lib.byteCells l) s w h (by rw [hl]; exact hlen) hBw).mono ?_
  rintro e w' ⟨rfl, h1, h2⟩
  refine ⟨rfl, .inr ?_, h2⟩
  have e : Lib.byteCells (l ++ s.data.toList) = Lib.byteCells l ++ Lib.strCells s := by simp [Lib.byteCells, Lib.strCells]
  rw [e]
  exact h1
theorem len_any (B b : Nat) (l : List UInt8) (w : World) (h : Bdr B b l w) :
    Calls Tryd.prog 34 #[.pointer (some ⟨b, 0, none⟩)] w fun e w' => e = .returned (.int .i64 l.length) ∧ w' = w := by
  have hl : (Lib.byteCells l).length = l.length := by simp [Lib.byteCells]
  have := Tryd.Builder_Len_f B b (Lib.byteCells l) w h
  rw [hl] at this
  exact this
theorem string_any (B b : Nat) (l : List UInt8) (w : World) (h : Bdr B b l w) (hBw : B ≤ w.heap.size) :
    Calls Tryd.prog 36 #[.pointer (some ⟨b, 0, none⟩)] w fun e w' => e = .returned (.string ⟨l.toArray⟩) ∧ Bdr B b l w' ∧ Below B w w' :=
  Tryd.Builder_String_any_f B b l w h hBw
theorem Bdr.start (w : World) : Bdr w.heap.size w.heap.size [] (w.alloc (.cells #[.pointer none, .slice none 0 0] 57)) := by
  refine .inl ⟨Nat.le_refl _, .slice none 0 0, heap_alloc_new w _, ?_, by simp [Value.ownBlock]⟩
  exact World.ownsRowF_of (World.ownsRow_nil _ _ _ _)
theorem Bdr.lt {B b : Nat} {l : List UInt8} {w : World} (h : Bdr B b l w) : b < w.heap.size := by
  rcases h with h | h <;> exact h.lt
theorem atF_below {T e : TypeId} {B b : Nat} {p : Value} {bs : List Value} {w w' : World} (h : Lib.BuilderAtF T e B b p bs w) (hb : Below w.heap.size w w') : Lib.BuilderAtF T e B b p bs w' := by
  have hlt := h.lt
  obtain ⟨hB, v, hc, hown, hne⟩ := h
  refine ⟨hB, v, (hb.block b hlt).trans hc, ⟨hown.1, ?_⟩, hne⟩
  rcases hown.2 with h2 | ⟨g, cap, cur, fz, h1, h2, h3, rest⟩
  · exact .inl h2
  · exact .inr ⟨g, cap, cur, fz, h1, h2, (hb.block g (Array.getElem?_eq_some_iff.1 h3).1).trans h3, rest⟩
theorem Bdr.below {B b : Nat} {l : List UInt8} {w w' : World} (h : Bdr B b l w) (hb : Below w.heap.size w w') : Bdr B b l w' :=
  h.elim (fun x => .inl (atF_below x hb)) (fun x => .inr (atF_below x hb))
end Go.Proofs.YtafpddpeffpnfaaDoor.Bd
