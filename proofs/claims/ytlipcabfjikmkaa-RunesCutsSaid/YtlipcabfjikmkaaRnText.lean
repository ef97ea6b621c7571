/-
  Proved here: what runes.Text returns, for every row of at most 2^40 numbers: the bytes of each number's code point, of FFFD where it is none; it leaves what was in memory.
-/
import Derived.Test.YtlipcabfjikmkaaRnSplit
import Derived.Test.YtlipcabfjikmkaaShelf
import Derived.Lib.BufferRead
import Derived.Laws.IdiomStrings
set_option linter.unusedVariables false
namespace Go.Proofs.Ytlipcabfjikmkaa.Rn
open Go.RowKit Go.Lib

/-- A row of ints that came in: nil, or cells below the heap's end. -/
def IntsAt (w : World) (A : Option Addr) (zs : List Int) : Prop :=
  zs = [] ∨ ∃ b off, A = some ⟨b, off, none⟩ ∧ b < w.heap.size ∧ ∀ j z, zs[j]? = some z → w.cell? ⟨b, off + j, none⟩ = some (.int .i64 z)

/-- The bytes of numbers. -/
def textB (zs : List Int) : List UInt8 := zs.flatMap fun z => Lib.encodeRune (fitZ z)
theorem textB_snoc (zs : List Int) (z : Int) : textB (zs ++ [z]) = textB zs ++ Lib.encodeRune (fitZ z) := by simp [textB]
theorem encodeRune_len (r : Int) : (Lib.encodeRune r).length ≤ 4 := by
  have := (Lib.encodeRuneZ_length r).2
  simpa [Lib.encodeRune] using this
theorem runeCells_len (r : Int) : (Lib.runeCells r).length = (Lib.encodeRune r).length := by simp [Lib.runeCells, Lib.encodeRune]
theorem fitZ_range (c : Int) : 0 ≤ fitZ c ∧ fitZ c ≤ 1114111 := by
  unfold fitZ
  split
  · rename_i h
    simp [isPoint] at h
    omega
  · omega

theorem convert_own {w : World} {B : Nat} {v : Value} {l : List UInt8} (h : w.ownsRow B 5 1 v l.length (Lib.byteCells l)) :
    (convert 44 9 v).run Try.prog w = .ok (.string ⟨l.toArray⟩) w := by
  rcases h.2 with ⟨rfl, hn⟩ | ⟨g, cap, cur, rfl, _, hg, _, _, _, htk⟩
  · have : l = [] := List.eq_nil_of_length_eq_zero hn
    subst this
    exact Lib.run_convert_nil_bytes w 44 9 5 0 Try.underlying44 Try.underlying5 Try.underlying9
  · rw [Nat.mul_one] at htk
    exact run_convert_bytes_back w 44 9 5 _ cap l Try.underlying44 Try.underlying5 Try.underlying9 (Lib.bytes_of_row hg htk)

set_option maxHeartbeats 1000000 in
set_option maxRecDepth 100000 in
theorem text_any (A : Option Addr) (zs : List Int) (c : Nat) (w : World) (hr : IntsAt w A zs) (hn : zs.length ≤ 1099511627776) :
    Calls Try.prog 15 #[.slice A zs.length c] w fun e w' => e = .returned (.string ⟨(textB zs).toArray⟩) ∧ Below w.heap.size w w' := by
  go_enter Try.func15, Try.ntmps15
  go_wp2
  go_loopw [3, 8] (fun s3 s8 wx => ∃ k : Nat, k ≤ zs.length ∧ s8 = .int .i64 k ∧ Below w.heap.size w wx ∧ wx.ownsRow w.heap.size 5 1 s3 (textB (zs.take k)).length (Lib.byteCells (textB (zs.take k))) ∧ (textB (zs.take k)).length ≤ 4 * k) (fun _ s8 _ => zs.length - (RowKit.intOf s8).toNat)
  case atStart => exact ⟨0, Nat.zero_le _, rfl, Below.refl _ _, World.ownsRow_nil _ _ _ _, by simp [textB]⟩
  case round =>
    obtain ⟨k, hk, rfl, hbw, hown, hlen⟩ := hrel
    by_cases hlt : k < zs.length
    · rcases hr with rfl | ⟨b, off, rfl, hb, hcell⟩
      · simp at hlt
      have hc := (hbw.cell (p := ⟨b, off + k, none⟩) hb).trans (hcell k zs[k] (List.getElem?_eq_getElem hlt))
      have htk : zs.take (k + 1) = zs.take k ++ [zs[k]] := by rw [List.take_succ_eq_append_getElem hlt]
      have hfr := fitZ_range zs[k]
      have hB := textB_snoc (zs.take k) zs[k]
      rw [← htk] at hB
      have hel := encodeRune_len (fitZ zs[k])
      have cA := Try.utf8_AppendRune_plain w.heap.size u3 _ _ (fitZ zs[k]) (by omega) (by omega) wr hown (by omega) hbw.size
      rw [← Lib.byteCells_encodeRune, ← Lib.byteCells_append, Lib.byteCells_length, ← List.length_append, ← hB] at cA
      have hB2 : (textB (zs.take (k + 1))).length ≤ 4 * (k + 1) := by rw [hB, List.length_append]; omega
      have hlow := hown.lt
      have HC := Lib.hid cA
      clear cA htk hB hel hlen hcell
      generalize zs[k] = z at *
      go_wp2_with (first
        | (go_at_call 25; refine (point_any _ _).mono ?_; rintro e W' ⟨rfl, rfl⟩)
        | (go_at_call 24; refine HC.out.mono ?_; rintro e W' ⟨v', rfl, hown', o, hgrow⟩))
      have HO := Lib.hid hown'
      clear hown'
      go_roundw
      case rel => exact ⟨k + 1, by omega, by go_num, (hbw.alloc hbw.size o).grown hgrow (by have := hbw.size; simp; omega) (fun g hg => (hlow g hg).1), HO.out, hB2⟩
      case measure => simp [RowKit.intOf]; omega
    · obtain rfl : k = zs.length := by omega
      rw [List.take_length] at hown
      have hcv := convert_own hown
      go_wp2
      go_ret
      exact ⟨rfl, hbw⟩
end Go.Proofs.Ytlipcabfjikmkaa.Rn
