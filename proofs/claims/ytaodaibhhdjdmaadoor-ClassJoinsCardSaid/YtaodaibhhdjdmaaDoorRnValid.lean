/-
  Proved here: what runes.Valid returns, for every string of at most 2^62 bytes; it leaves what was in memory.
-/
import Derived.Test.YtaodaibhhdjdmaaDoorRnOdd
import Derived.LoopTactic
import Derived.Deep.LoopGhost
import Derived.Lib.OthersKept
import Derived.Lib.Hide
import Derived.Below
set_option linter.unusedVariables false
namespace Go.Proofs.YtaodaibhhdjdmaaDoor.Rn
open Go.RowKit Go.Lib

theorem drop_ne (s : ByteArray) (p : Nat) (h : p < s.size) : s.data.toList.drop p ≠ [] := by
  rw [Lib.size_eq] at h
  intro e
  have := congrArg List.length e
  rw [List.length_drop, List.length_nil] at this
  omega
theorem drop_end (s : ByteArray) (p : Nat) (h : ¬ p < s.size) : s.data.toList.drop p = [] := by
  rw [Lib.size_eq] at h
  exact List.drop_of_length_le (by omega)

set_option maxHeartbeats 1000000 in
set_option maxRecDepth 100000 in
theorem valid_any (s : ByteArray) (w : World) (hs : s.size ≤ 4611686018427387904) :
    Calls Tryd.prog 22 #[.string s] w fun e w' => e = .returned (.bool (validA s.data.toList)) ∧ Below w.heap.size w w' := by
  go_enter Tryd.func22, Tryd.ntmps22
  go_wp2
  go_loopg [] s.size (fun gf wx => ∃ pos : Nat, wx.heap[w.heap.size]? = some (.stringIter s pos) ∧ Below w.heap.size w wx ∧ validA (s.data.toList.drop pos) = validA s.data.toList ∧ s.size ≤ pos + gf)
  case atStart => exact ⟨0, World.iter_heap w s 0, (Below.refl _ w).alloc (Nat.le_refl _) _, rfl, by omega⟩
  case round =>
    obtain ⟨pos, hit, hbw, hleft, hfu⟩ := hrel
    by_cases hps : pos < s.size
    · obtain ⟨g', rfl⟩ : ∃ g', gk = g' + 1 := ⟨gk - 1, by omega⟩
      have hnx : ∀ ty, (Instr.next (.pointer (some ⟨w.heap.size, 0, none⟩)) true ty).run Tryd.prog wr = _ := fun ty => Lib.run_next_any_at wr w.heap.size s pos ty hit hps
      have hwd := dec_pos (s.data.toList.drop pos)
      have hcd := dec_code (s.data.toList.drop pos)
      have hst := validA_step (drop_ne s pos hps)
      rw [← dec_drop] at hnx
      rw [List.drop_drop] at hst
      have hit2 := Lib.iterAt_heap wr w.heap.size s pos (pos + (dec (s.data.toList.drop pos)).2) hit
      have hbw2 := Lib.below_iterAt hbw (k := w.heap.size) (Nat.le_refl _) s (pos + (dec (s.data.toList.drop pos)).2)
      obtain ⟨R, hR⟩ : ∃ R, (dec (s.data.toList.drop pos)).1 = R := ⟨_, rfl⟩
      obtain ⟨K, hK⟩ : ∃ K, (dec (s.data.toList.drop pos)).2 = K := ⟨_, rfl⟩
      rw [hR] at hcd hst hnx
      rw [hK] at hwd hst hnx hit2 hbw2
      obtain ⟨W, hWd⟩ : ∃ W, wr.iterAt w.heap.size s (pos + K) = W := ⟨_, rfl⟩
      rw [hWd] at hnx hit2 hbw2
      have cO := odd_any s pos (R : Int) W (by omega) (by omega)
      have HL := Lib.hid hleft
      have HS := Lib.hid hst
      have HIT := Lib.hid hit2
      clear hleft hst hit hit2 hR hK hWd
      cases ho : oddB (s.data.toList.drop pos) (R : Int) <;> rw [ho] at cO HS
      · have HO := Lib.hid ho
        clear ho
        go_wp2_with (go_at_call 32; refine cO.mono ?_; rintro e W' ⟨rfl, rfl⟩)
        go_roundg g'
        case measure => omega
        case rel =>
          refine ⟨pos + K, HIT.out, hbw2, ?_, by omega⟩
          have := HS.out
          simp at this
          rw [← this, HL.out]
      · have HO := Lib.hid ho
        clear ho
        go_wp2_with (go_at_call 32; refine cO.mono ?_; rintro e W' ⟨rfl, rfl⟩)
        go_ret
        refine ⟨ret_bool ?_, hbw2⟩
        have := HS.out
        simp at this
        rw [← HL.out, this]
    · have hnx : ∀ ty, (Instr.next (.pointer (some ⟨w.heap.size, 0, none⟩)) true ty).run Tryd.prog wr = _ := fun ty => Lib.run_next_end_at wr w.heap.size s pos ty hit hps
      have HL := Lib.hid hleft
      clear hleft
      go_wp2
      go_ret
      refine ⟨ret_bool ?_, hbw⟩
      rw [← HL.out, drop_end s pos hps]
      rfl

end Go.Proofs.YtaodaibhhdjdmaaDoor.Rn
