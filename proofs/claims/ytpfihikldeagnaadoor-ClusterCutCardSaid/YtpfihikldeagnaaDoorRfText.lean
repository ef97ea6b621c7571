/-
  Proved here: what the document's own Text (of the reference) returns, for every row of at most 2^40 numbers; it leaves what was in memory.
-/
import Derived.Test.YtpfihikldeagnaaDoorRfCode
set_option linter.unusedVariables false
namespace Go.Proofs.YtpfihikldeagnaaDoor.Rn
open Go.RowKit Go.Lib

set_option maxHeartbeats 1000000 in
set_option maxRecDepth 100000 in
theorem reftext_any (A : Option Addr) (zs : List Int) (c : Nat) (w : World) (hr : IntsAt w A zs) (hn : zs.length ≤ 1099511627776) :
    Calls Tryd.prog 33 #[.slice A zs.length c] w fun e w' => e = .returned (.string ⟨(textB zs).toArray⟩) ∧ Below w.heap.size w w' := by
  obtain ⟨i0, hi, hz0, hz1, hz2⟩ := info_parts infoByte
  go_enter Tryd.func33, Tryd.ntmps33
  go_wp2
  go_loopw [3, 4] (fun s3 s4 wx => ∃ k : Nat, k ≤ zs.length ∧ s4 = .int .i64 k ∧ Below w.heap.size w wx ∧ wx.ownsRow w.heap.size 5 1 s3 (textB (zs.take k)).length (Lib.byteCells (textB (zs.take k))) ∧ (textB (zs.take k)).length ≤ 4 * k) (fun _ s4 _ => zs.length - (RowKit.intOf s4).toNat)
  case atStart => exact ⟨0, Nat.zero_le _, rfl, Below.refl _ _, World.ownsRow_nil _ _ _ _, by simp [textB]⟩
  case round =>
    obtain ⟨k, hk, rfl, hbw, hown, hlen⟩ := hrel
    by_cases hlt : k < zs.length
    · rcases hr with rfl | ⟨b, off, rfl, hb, hcell⟩
      · simp at hlt
      have hc := (hbw.cell (p := ⟨b, off + k, none⟩) hb).trans (hcell k zs[k] (List.getElem?_eq_getElem hlt))
      have htk : zs.take (k + 1) = zs.take k ++ [zs[k]] := by rw [List.take_succ_eq_append_getElem hlt]
      have hB := textB_snoc (zs.take k) zs[k]
      rw [← htk] at hB
      have hel := encodeRune_len (fitZ zs[k])
      rw [← runeCells_len] at hel
      have hB2 : (textB (zs.take (k + 1))).length ≤ 4 * (k + 1) := by rw [hB, List.length_append, ← runeCells_len]; omega
      have hB3 : Lib.byteCells (textB (zs.take (k + 1))) = Lib.byteCells (textB (zs.take k)) ++ Lib.runeCells (fitZ zs[k]) := by rw [hB, Lib.byteCells_append, Lib.byteCells_encodeRune]
      have hB4 : (textB (zs.take (k + 1))).length = (textB (zs.take k)).length + (Lib.runeCells (fitZ zs[k])).length := by rw [hB, List.length_append, ← runeCells_len]
      have hlow := hown.lt
      have hsz := hbw.size
      have H3 := Lib.hid hB3
      have H4 := Lib.hid hB4
      clear htk hB hB3 hB4 hcell
      generalize zs[k] = z at *
      go_wp2_with (first
        | (go_at_call 47; refine (bytes_any _ _).mono ?_; rintro e W' ⟨rfl, rfl⟩)
        | (at_builtin; refine wpList_append_own _ rfl _ _ 75 rfl w.heap.size 5 i0 (.int .u8 0) 1 1 Tryd.underlying75 hi hz0 hz1 hz2 rfl (by decide) _ _ _ rfl (hown.alloc _) ⟨wr.heap.size, 0, none⟩ _ _ (Lib.runeCells (fitZ z)) rfl (by simp) (block_cell _ _) (runeCells_one _) ?c3 ?c4 ?c5 ?_))
      case c3 => unfold maxLen; omega
      case c4 => omega
      case c5 => simp; omega
      intro v' w2 hown' hgrow _
      rw [← H3.out, ← H4.out] at hown'
      have HO := Lib.hid hown'
      clear hown'
      go_wp2
      go_roundw
      case rel => exact ⟨k + 1, by omega, by go_num, (hbw.alloc hbw.size _).grown hgrow (by simp; omega) (fun g hg => (hlow g hg).1), HO.out, hB2⟩
      case measure => simp [RowKit.intOf]; omega
    · obtain rfl : k = zs.length := by omega
      rw [List.take_length] at hown
      have hcv := convert_own hown
      go_wp2
      go_ret
      exact ⟨rfl, hbw⟩
end Go.Proofs.YtpfihikldeagnaaDoor.Rn
