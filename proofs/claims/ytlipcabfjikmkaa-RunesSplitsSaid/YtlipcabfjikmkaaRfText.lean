/-
  Proved here: what the document's own answers for texts (Code, Bytes, Text of the reference) return, for every number and every row of at most 2^40 numbers; they leave what was in memory.
-/
import Derived.Test.YtlipcabfjikmkaaRnText
import Derived.Deep.AppendLies
set_option linter.unusedVariables false
namespace Go.Proofs.Ytlipcabfjikmkaa.Rn
open Go.RowKit Go.Lib

set_option maxHeartbeats 400000 in
theorem code_any (c : Int) (w : World) :
    Calls Try.prog 27 #[.int .i64 c] w fun e w' => e = .returned (.bool (isPoint c)) ∧ w = w' := by
  by_cases h1 : 0 ≤ c <;> by_cases h2 : c ≤ 1114111 <;> by_cases h3 : c < 55296 <;> by_cases h4 : 57343 < c
  all_goals first | (exfalso; omega) | skip
  all_goals
    go_enter Try.func27, Try.ntmps27
    go_wp2
    go_ret
    refine ⟨ret_bool ?_, rfl⟩
    rw [Bool.eq_iff_iff]
    simp [isPoint] <;> omega

/-- The block of a code point's bytes. -/
def bytesBlock (r : Int) : Obj := .cells (Lib.runeCells r).toArray 5

theorem bytes_slice {w w' : World} {r : Int} {L : List Value} (hL : Lib.runeCells r = L) (hw : w' = w.alloc (.cells L.toArray 5)) : w' = w.alloc (bytesBlock r) := by
  rw [hw, bytesBlock, hL]

set_option maxHeartbeats 1000000 in
theorem bytes_any (c : Int) (w : World) :
    Calls Try.prog 26 #[.int .i64 c] w fun e w' => e = .returned (.slice (some ⟨w.heap.size, 0, none⟩) (Lib.runeCells (fitZ c)).length (Lib.runeCells (fitZ c)).length) ∧ w' = w.alloc (bytesBlock (fitZ c)) := by
  cases hp : isPoint c
  · have hf : fitZ c = 65533 := by simp [fitZ, hp]
    go_enter Try.func26, Try.ntmps26
    go_wp2_with (go_at_call 27; refine (code_any _ _).mono ?_; rintro e w' ⟨rfl, rfl⟩)
    go_ret
    rw [hf]
    exact ⟨rfl, rfl⟩
  · have hf : fitZ c = c := by simp [fitZ, hp]
    have hp2 := hp
    simp only [isPoint, decide_eq_true_eq] at hp2
    rw [hf]
    have HF := Lib.hid hf
    clear hf
    by_cases h1 : c < 128
    · have hr : Lib.runeCells c = [.int .u8 c] := by rw [Lib.runeCells, Lib.encodeRuneZ_one (by omega) (by omega)]; rfl
      rw [bytesBlock, hr]
      have HR := Lib.hid hr
      clear hr
      go_enter Try.func26, Try.ntmps26
      go_wp2_with (go_at_call 27; refine (code_any _ _).mono ?_; rintro e w' ⟨rfl, rfl⟩)
      go_ret
      exact ⟨rfl, rfl⟩
    · by_cases h2 : c < 2048
      · have hr : Lib.runeCells c = [.int .u8 (192 + c / 64), .int .u8 (128 + c % 64)] := by rw [Lib.runeCells, Lib.encodeRuneZ_two (by omega) (by omega)]; rfl
        rw [bytesBlock, hr]
        have HR := Lib.hid hr
        clear hr
        go_enter Try.func26, Try.ntmps26
        go_wp2_with (go_at_call 27; refine (code_any _ _).mono ?_; rintro e w' ⟨rfl, rfl⟩)
        go_ret
        exact ⟨rfl, rfl⟩
      · by_cases h3 : c < 65536
        · have hr : Lib.runeCells c = [.int .u8 (224 + c / 4096), .int .u8 (128 + c / 64 % 64), .int .u8 (128 + c % 64)] := by rw [Lib.runeCells, Lib.encodeRuneZ_three (by omega)]; rfl
          rw [bytesBlock, hr]
          have HR := Lib.hid hr
          clear hr
          go_enter Try.func26, Try.ntmps26
          go_wp2_with (go_at_call 27; refine (code_any _ _).mono ?_; rintro e w' ⟨rfl, rfl⟩)
          go_ret
          exact ⟨rfl, rfl⟩
        · have hr : Lib.runeCells c = [.int .u8 (240 + c / 262144), .int .u8 (128 + c / 4096 % 64), .int .u8 (128 + c / 64 % 64), .int .u8 (128 + c % 64)] := by rw [Lib.runeCells, Lib.encodeRuneZ_four (by omega) (by omega)]; rfl
          rw [bytesBlock, hr]
          have HR := Lib.hid hr
          clear hr
          go_enter Try.func26, Try.ntmps26
          go_wp2_with (go_at_call 27; refine (code_any _ _).mono ?_; rintro e w' ⟨rfl, rfl⟩)
          go_ret
          exact ⟨rfl, rfl⟩

theorem infoByte : (Try.prog.info? 5).map (fun i => (i.zero, i.size, i.bytes)) = some (some (.int .u8 0), 1, 1) := by kernel_rfl

theorem block_cell (w : World) (r : Int) (j : Nat) (u : Value) (h : (Lib.runeCells r)[j]? = some u) : (w.alloc (bytesBlock r)).cell? ((⟨w.heap.size, 0, none⟩ : Addr).add j) = some u := by
  have hb : (w.alloc (bytesBlock r)).heap[w.heap.size]? = some (.cells (Lib.runeCells r).toArray 5) := heap_alloc_new w _
  have hadd : (⟨w.heap.size, 0, none⟩ : Addr).add j = ⟨w.heap.size, j, none⟩ := by unfold Addr.add; split <;> simp_all
  rw [hadd, cell_of_row _ w.heap.size j _ _ (0, 0) hb]
  simpa using h
theorem runeCells_one (r : Int) : ∀ u ∈ Lib.runeCells r, u.oneCell' = true := by
  intro u hu
  simp only [Lib.runeCells, List.mem_map] at hu
  obtain ⟨x, _, rfl⟩ := hu
  rfl

set_option maxHeartbeats 1000000 in
set_option maxRecDepth 100000 in
theorem reftext_any (A : Option Addr) (zs : List Int) (c : Nat) (w : World) (hr : IntsAt w A zs) (hn : zs.length ≤ 1099511627776) :
    Calls Try.prog 16 #[.slice A zs.length c] w fun e w' => e = .returned (.string ⟨(textB zs).toArray⟩) ∧ Below w.heap.size w w' := by
  obtain ⟨i0, hi, hz0, hz1, hz2⟩ := info_parts infoByte
  go_enter Try.func16, Try.ntmps16
  go_wp2
  go_loopw [3, 4] (fun s3 s4 wx => ∃ k : Nat, k ≤ zs.length ∧ s4 = .int .i64 k ∧ Below w.heap.size w wx ∧ wx.ownsRow w.heap.size 5 1 s3 (textB (zs.take k)).length (Lib.byteCells (textB (zs.take k))) ∧ (textB (zs.take k)).length ≤ 4 * k) (fun _ s4 _ => zs.length - (RowKit.intOf s4).toNat)
  case atStart => exact ⟨0, Nat.zero_le _, rfl, Below.refl _ _, World.ownsRow_nil _ _ _ _, by simp [textB]⟩
  case round =>
    obtain ⟨k, hk, rfl, hbw, hown, hlen⟩ := hrel
    by_cases hlt : k < zs.length
    · rcases hr with rfl | ⟨b, off, rfl, hb, hcell⟩
      · simp at hlt
      have hc := (hbw.cell (p := ⟨b, off + k, none⟩) hb).trans (hcell k zs[k] (List.getElem?_eq_getElem hlt))
      have htk : zs.take (k + 1) = zs.take k ++ [zs[k]] := by rw [List.take_succ_eq_append_getElem hlt]
      have hB := textB_snoc (zs.take k) zs[k]
      rw [← htk] at hB
      have hel := encodeRune_len (fitZ zs[k])
      rw [← runeCells_len] at hel
      have hB2 : (textB (zs.take (k + 1))).length ≤ 4 * (k + 1) := by rw [hB, List.length_append, ← runeCells_len]; omega
      have hB3 : Lib.byteCells (textB (zs.take (k + 1))) = Lib.byteCells (textB (zs.take k)) ++ Lib.runeCells (fitZ zs[k]) := by rw [hB, Lib.byteCells_append, Lib.byteCells_encodeRune]
      have hB4 : (textB (zs.take (k + 1))).length = (textB (zs.take k)).length + (Lib.runeCells (fitZ zs[k])).length := by rw [hB, List.length_append, ← runeCells_len]
      have hlow := hown.lt
      have hsz := hbw.size
      have H3 := Lib.hid hB3
      have H4 := Lib.hid hB4
      clear htk hB hB3 hB4 hcell
      generalize zs[k] = z at *
      go_wp2_with (first
        | (go_at_call 26; refine (bytes_any _ _).mono ?_; rintro e W' ⟨rfl, rfl⟩)
        | (at_builtin; refine wpList_append_own _ rfl _ _ 44 rfl w.heap.size 5 i0 (.int .u8 0) 1 1 Try.underlying44 hi hz0 hz1 hz2 rfl (by decide) _ _ _ rfl (hown.alloc _) ⟨wr.heap.size, 0, none⟩ _ _ (Lib.runeCells (fitZ z)) rfl (by simp) (block_cell _ _) (runeCells_one _) ?c3 ?c4 ?c5 ?_))
      case c3 => unfold maxLen; omega
      case c4 => omega
      case c5 => simp; omega
      intro v' w2 hown' hgrow _
      rw [← H3.out, ← H4.out] at hown'
      have HO := Lib.hid hown'
      clear hown'
      go_wp2
      go_roundw
      case rel => exact ⟨k + 1, by omega, by go_num, (hbw.alloc hbw.size _).grown hgrow (by simp; omega) (fun g hg => (hlow g hg).1), HO.out, hB2⟩
      case measure => simp [RowKit.intOf]; omega
    · obtain rfl : k = zs.length := by omega
      rw [List.take_length] at hown
      have hcv := convert_own hown
      go_wp2
      go_ret
      exact ⟨rfl, hbw⟩
end Go.Proofs.Ytlipcabfjikmkaa.Rn
