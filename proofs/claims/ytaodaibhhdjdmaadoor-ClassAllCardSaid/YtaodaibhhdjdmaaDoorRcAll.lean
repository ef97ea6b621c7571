/-
  Proved here: what parquetryref02.All returns, for every row of runes of at most 2^40: a new row of their classes, in order; it leaves what was in memory.
-/
import Derived.Test.YtaodaibhhdjdmaaDoorRcOf
import Derived.Test.YtaodaibhhdjdmaaDoorClAll
set_option linter.unusedVariables false
namespace Go.Proofs.YtaodaibhhdjdmaaDoor.Rc
open Go.RowKit Go.Lib Go.Proofs.YtaodaibhhdjdmaaDoor.Cl
open Go.Proofs.YtaodaibhhdjdmaaDoor.Rn (RunesAt)

set_option maxHeartbeats 1000000 in
set_option maxRecDepth 100000 in
theorem refall_any (A : Option Addr) (l : List (Nat × Nat × Nat)) (c : Nat) (w : World) (hR : RunesAt w A l) (hn : l.length ≤ 1099511627776) :
    Calls Tryd.prog 15 #[.slice A l.length c] w fun e w' => ∃ v, e = .returned v ∧ w'.ownsRow w.heap.size 3 1 v l.length (iCells (clsL l)) ∧ Below w.heap.size w w' := by
  obtain ⟨i0, hi, hz0, hz1, hz2⟩ := info_parts infoInt
  have HR := Lib.hid hR
  clear hR
  go_enter Tryd.func15, Tryd.ntmps15
  go_wp2_with fail
  go_loopw [3, 4] (fun s3 s4 wx => ∃ k : Nat, k ≤ l.length ∧ s4 = .int .i64 k ∧ Below w.heap.size w wx ∧ wx.ownsRow w.heap.size 3 1 s3 k (iCells (clsL (l.take k)))) (fun _ s4 _ => l.length - (RowKit.intOf s4).toNat)
  case atStart => exact ⟨0, Nat.zero_le _, rfl, Below.refl _ _, World.ownsRow_nil _ _ _ _⟩
  case round =>
    obtain ⟨k, hk, rfl, hb, hown⟩ := hrel
    by_cases hlt : k < l.length
    · obtain ⟨g, rfl, hg, c0, c1, c2⟩ := (HR.out.below hb) k hlt
      have HT := Lib.hid (clsL_take hlt)
      have HOWN := Lib.hid hown
      have hbs := hb.size
      clear hown
      generalize l[k] = r at *
      go_wp2_with fail
      refine (refOf_any _ _).mono ?_
      rintro e w3 ⟨rfl, hb3⟩
      have hown3 : w3.ownsRow w.heap.size 3 1 u3 k (iCells (clsL (l.take k))) := ownsRow_below HOWN.out hb3
      have hb13 : Below w.heap.size w w3 := hb.trans (hb3.mono hbs)
      have hs13 := hb13.size
      have hlt2 := hown3.lt
      generalize cls (r.2.2 : Int) = z at *
      clear hb3
      go_wp2_with (at_builtin; refine wpList_append_own _ rfl _ _ 28 rfl w.heap.size 3 i0 (.int .i64 0) 1 8 Tryd.underlying28 hi hz0 hz1 hz2 rfl (by decide) _ _ _ rfl (hown3.alloc _) ⟨w3.heap.size, 0, none⟩ 1 1 [.int .i64 z] rfl rfl ?c1 ?c2 ?c3 ?c4 ?c5 ?_)
      case c1 => exact cell_one_new _ _ _
      case c2 => intro u hu; simp only [List.mem_singleton] at hu; subst hu; rfl
      case c3 => unfold maxLen; omega
      case c4 => omega
      case c5 => simp; omega
      intro v' w4 hown' hgrow _
      have HG := Lib.hid hgrow
      have HO := Lib.hid hown'
      clear hgrow hown' hown3
      go_wp2
      go_roundw
      case measure => simp [RowKit.intOf]; omega
      case rel =>
        refine ⟨k + 1, by omega, by go_num, ?_, ?_⟩
        · exact (hb13.alloc hs13 _).grown HG.out (by simp; omega) (fun g hg => (hlt2 g hg).1)
        · rw [HT.out]; exact HO.out
    · obtain rfl : k = l.length := by omega
      rw [List.take_length] at hown
      go_wp2
      go_ret
      exact ⟨_, rfl, hown, hb⟩
end Go.Proofs.YtaodaibhhdjdmaaDoor.Rc
