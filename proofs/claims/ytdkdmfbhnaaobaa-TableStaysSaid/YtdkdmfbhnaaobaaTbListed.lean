/-
  Proved here: what table.listed answers, for any closure of two captured variables that answers a text for each number: these texts, in new memory; it leaves what was in memory.
-/
import Derived.Test.YtdkdmfbhnaaobaaTbLines
import Derived.Shelf.Abstract
set_option linter.unusedVariables false
namespace Go.Proofs.Ytdkdmfbhnaaobaa.Tb
open Go Go.RowKit Go.Lib Go.Proofs.Ytdkdmfbhnaaobaa.Cv

def ListedPost (F : Nat → Bs) (n : Nat) (w : World) (e : Ending) (w' : World) : Prop :=
  e = .returned (.slice (some ⟨w.heap.size, 0, none⟩) n n) ∧ OwnV w.heap.size w'.heap.size w' (.slice (some ⟨w.heap.size, 0, none⟩) n n) ((List.range n).map F) ∧ Below w.heap.size w w'

set_option maxHeartbeats 2000000 in
set_option maxRecDepth 100000 in
theorem listed_of (f : FuncId) (hf : ∀ args w, (callFunc f args).run Try.prog w = .ok (.enter f args) w) (F : Nat → Bs) (n : Nat) (p1 p2 : Value) (w : World) (hn : n ≤ 1000000)
    (call : ∀ k W, k < n → Below w.heap.size w W → Calls Try.prog f #[.int .i64 k, p1, p2] W fun e W' => e = .returned (bx (F k)) ∧ Below W.heap.size W W') :
    Calls Try.prog 55 #[.int .i64 n, .func (.func f) #[] #[p1, p2]] w (ListedPost F n w) := by
  obtain ⟨i0, hi, hz0, hz1, hz2⟩ := Cl.info_parts infoStr
  have HI := Lib.hid hi
  have HQ0 := Lib.hid hz0
  have HQ1 := Lib.hid hz1
  have HQ2 := Lib.hid hz2
  have CL := Lib.hid call
  clear hi hz0 hz1 hz2 call
  generalize hg : w.heap.size = g at *
  have HG0 := Lib.hid hg
  go_enter Try.func55, Try.ntmps55
  go_wp2_with (refine wpList_make_full _ rfl _ _ 31 rfl w.heap.size 9 i0 (.string ⟨#[]⟩) 1 Try.underlying31 HI.out HQ0.out HQ1.out .i64 .i64 _ _ n rfl rfl rfl rfl ?c1 ?c2 ?c3 ?_)
  case c1 => rw [HQ2.out]; omega
  case c2 => unfold maxLen; omega
  case c3 => exact Nat.le_refl _
  intro w4 hown hgrow
  have hown1 : w4.ownsRow g 9 1 (.slice (some ⟨g, 0, none⟩) n n) n (rowC (fil F n 0)) := by
    have h := hown
    rw [toList_madeCells_one] at h
    rw [fil_zero]
    simpa using h
  have hb4 : Below g w w4 := by
    rw [← HG0.out]
    exact (Below.refl _ _).grown hgrow (Nat.le_refl _) (fun k h => by cases h)
  have hg4 : g < w4.heap.size := (hown1.lt _ rfl).2
  have HO := Lib.hid hown1
  have HB4 := Lib.hid hb4
  clear hown hgrow hown1 hb4 HI HQ0 HQ1 HQ2 hg
  go_wp2_with fail
  go_loopw [11] (fun s11 wx => ∃ k : Nat, k ≤ n ∧ s11 = .int .i64 k ∧ Below g w wx ∧ g < wx.heap.size ∧ wx.ownsRow g 9 1 (.slice (some ⟨g, 0, none⟩) n n) n (rowC (fil F n k))) (fun s11 _ => n - (RowKit.intOf s11).toNat)
  case atStart => exact ⟨0, Nat.zero_le _, rfl, HB4.out, hg4, HO.out⟩
  case round =>
    obtain ⟨k, hk, rfl, hb, hgx, hown⟩ := hrel
    have HB := Lib.hid hb
    have HW := Lib.hid hown
    clear hb hown HO HB4
    by_cases hlt : k < n
    · have HC := Lib.hid (CL.out k wr hlt HB.out)
      have HAT := Lib.hid (fil_at F n k hlt)
      have HST := Lib.hid (fil_set F n k)
      obtain ⟨X, eX⟩ : ∃ X, bx (F k) = .string X := ⟨_, rfl⟩
      rw [eX] at HC HST
      clear eX
      go_wp2_with fail
      refine HC.out.mono ?_
      rintro e w5 ⟨rfl, hb5⟩
      have ho5 := own_below HW.out hb5 fun b hb => by injection hb with hb; subst hb; exact hgx
      have hcell := (ho5.cellAt k (by omega)).trans HAT.out
      have hfrz := ho5.frozenAt k
      have HO5 := Lib.hid ho5
      have HB5 := Lib.hid hb5
      clear ho5 hb5
      go_wp2_with fail
      go_roundw
      case measure => simp [RowKit.intOf]; omega
      case rel =>
        have hs := (HO5.out.stored k (.string X)).1
        rw [HST.out] at hs
        exact ⟨k + 1, by omega, by go_num, (HB.out.trans (HB5.out.mono (Nat.le_of_lt hgx))).setCell (Nat.le_refl _) _, by have := HB5.out.size; simp; omega, hs⟩
    · obtain rfl : k = n := by omega
      have ho := HW.out
      rw [fil_all] at ho
      have HO := Lib.hid ho
      clear ho
      go_wp2
      go_ret
      unfold ListedPost
      rw [HG0.out]
      refine ⟨rfl, ⟨?_, fun b hb => by injection hb with hb; subst hb; exact hgx⟩, HB.out⟩
      simpa using HO.out
end Go.Proofs.Ytdkdmfbhnaaobaa.Tb
