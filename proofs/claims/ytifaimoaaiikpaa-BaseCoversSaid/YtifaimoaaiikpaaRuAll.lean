/-
  Proved here: what class.All returns, for every row of runes of whatever numbers, of at most 2^40: a new row of their classes, in order; it leaves what was in memory.
-/
import Derived.Test.YtifaimoaaiikpaaClSearch
import Derived.Test.YtifaimoaaiikpaaRuRows
set_option linter.unusedVariables false
namespace Go.Proofs.Ytifaimoaaiikpaa.Cl
open Go.RowKit Go.Lib

/-- The classes of runes. -/
def clsR (l : List Ku.R3) : List Int := l.map fun r => cls r.2.2
theorem clsR_len (l : List Ku.R3) : (clsR l).length = l.length := by simp [clsR]
def iClR (zs : List Int) : List Value := zs.map (Value.int .i64)
theorem clsR_take {l : List Ku.R3} {k : Nat} (hk : k < l.length) : iClR (clsR (l.take (k + 1))) = iClR (clsR (l.take k)) ++ [.int .i64 (cls l[k].2.2)] := by
  unfold iClR clsR
  rw [List.take_succ_eq_append_getElem hk, List.map_append, List.map_append]
  rfl

set_option maxHeartbeats 1000000 in
set_option maxRecDepth 100000 in
theorem allR_any (A : Option Addr) (l : List Ku.R3) (c : Nat) (w : World) (hR : Ku.RuAt w A l) (hn : l.length ≤ 1099511627776) :
    Calls Try.prog 22 #[.slice A l.length c] w fun e w' => ∃ v, e = .returned v ∧ w'.ownsRow w.heap.size 3 1 v l.length (iClR (clsR l)) ∧ Below w.heap.size w w' := by
  obtain ⟨i0, hi, hz0, hz1, hz2⟩ := info_parts infoInt
  have hl : spansL.length ≤ 1000 := by rw [spans_len]; decide
  have HRS := Lib.hid rises_spans
  have HR := Lib.hid hR
  clear hR
  go_enter Try.func22, Try.ntmps22
  go_wp2_with fail
  refine (spans_reads w).mono ?_
  rintro e w1 ⟨rfl, hS, hb1⟩
  have HS := Lib.hid hS
  clear hS
  have hR1 := Lib.hid (HR.out.below hb1)
  have hsz1 := hb1.size
  go_wp2_with fail
  go_loopw [4, 10] (fun s4 s10 wx => ∃ k : Nat, k ≤ l.length ∧ s10 = .int .i64 k ∧ Below w1.heap.size w1 wx ∧ wx.ownsRow w1.heap.size 3 1 s4 k (iClR (clsR (l.take k)))) (fun _ s10 _ => l.length - (RowKit.intOf s10).toNat)
  case atStart => exact ⟨0, Nat.zero_le _, rfl, Below.refl _ _, World.ownsRow_nil _ _ _ _⟩
  case round =>
    obtain ⟨k, hk, rfl, hb, hown⟩ := hrel
    by_cases hlt : k < l.length
    · obtain ⟨g, off, rfl, hg, c0, c1, c2⟩ := (hR1.out.below hb).at_ hlt
      have HT := Lib.hid (clsR_take hlt)
      have HOWN := Lib.hid hown
      have hbs := hb.size
      clear hown
      generalize l[k] = r at *
      have hbq : Below wr.heap.size wr (wr.alloc (.cells #[.int .i64 r.1, .int .i64 r.2.1, .int .i64 r.2.2] 36)) := (Below.refl _ _).alloc (Nat.le_refl _) _
      go_wp2_with fail
      generalize hw2 : wr.alloc (.cells #[.int .i64 r.1, .int .i64 r.2.1, .int .i64 r.2.2] 36) = w2 at *
      have HS2 := Lib.hid ((HS.out.below hb).below hbq)
      refine (classIn_any _ _ _ _ HS2.out hl HRS.out).mono ?_
      rintro e w3 ⟨rfl, hb3⟩
      have hown3 : w3.ownsRow w1.heap.size 3 1 u4 k (iClR (clsR (l.take k))) := ownsRow_below (ownsRow_below HOWN.out hbq) hb3
      have hb13 : Below w1.heap.size w1 w3 := hb.trans ((hbq.trans (hb3.mono hbq.size)).mono hbs)
      have hs13 := hb13.size
      have hlt2 := hown3.lt
      have e2 : ofT spansL r.2.2 = cls r.2.2 := rfl
      rw [e2]
      clear e2 hw2
      generalize cls r.2.2 = z at *
      clear hbq hb3
      go_wp2_with (at_builtin; refine wpList_append_own _ rfl _ _ 25 rfl w1.heap.size 3 i0 (.int .i64 0) 1 8 Try.underlying25 hi hz0 hz1 hz2 rfl (by decide) _ _ _ rfl (hown3.alloc _) ⟨w3.heap.size, 0, none⟩ 1 1 [.int .i64 z] rfl rfl ?c1 ?c2 ?c3 ?c4 ?c5 ?_)
      case c1 => exact cell_one_new _ _ _
      case c2 => intro u hu; simp only [List.mem_singleton] at hu; subst hu; rfl
      case c3 => unfold maxLen; omega
      case c4 => omega
      case c5 => simp; omega
      intro v' w4 hown' hgrow _
      have HG := Lib.hid hgrow
      have HO := Lib.hid hown'
      clear hgrow hown' hown3
      go_wp2
      go_roundw
      case measure => simp [RowKit.intOf]; omega
      case rel =>
        refine ⟨k + 1, by omega, by go_num, ?_, ?_⟩
        · exact (hb13.alloc hs13 _).grown HG.out (by simp; omega) (fun g hg => (hlt2 g hg).1)
        · rw [HT.out]; exact HO.out
    · obtain rfl : k = l.length := by omega
      rw [List.take_length] at hown
      go_wp2
      go_ret
      exact ⟨_, rfl, ownsRow_mono hown hsz1, hb1.trans (hb.mono hsz1)⟩
theorem allR_reads (A : Option Addr) (l : List Ku.R3) (n c : Nat) (w : World) (hl : l.length = n) (hR : Ku.RuAt w A l) (hn : n ≤ 1099511627776) :
    Calls Try.prog 22 #[.slice A n c] w fun e w' => ∃ B d, e = .returned (.slice B n d) ∧ IntsAt w' B (clsR l) ∧ Below w.heap.size w w' := by
  subst hl
  refine (allR_any A l c w hR hn).mono ?_
  rintro e w' ⟨v, rfl, hown, hb⟩
  have hc := clsR_len l
  rw [← hc] at hown
  obtain ⟨B, d, rfl, hi⟩ := intsAt_own hown
  exact ⟨B, d, by rw [hc], hi, hb⟩
end Go.Proofs.Ytifaimoaaiikpaa.Cl
