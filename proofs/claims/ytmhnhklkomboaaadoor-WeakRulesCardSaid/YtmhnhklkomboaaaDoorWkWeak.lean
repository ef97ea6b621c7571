/-
  Proved here: what weak.Weak returns, for every row of numbers of at most 2^40 and every direction ahead: a new row, by the plain weak. It leaves what was in memory.
-/
import Derived.Test.YtmhnhklkomboaaaDoorWkRules
import Derived.Test.YtmhnhklkomboaaaDoorWkClone
set_option linter.unusedVariables false
namespace Go.Proofs.YtmhnhklkomboaaaDoor.Wk
open Go Go.RowKit Go.Lib Go.Proofs.YtmhnhklkomboaaaDoor.Cl

/-- What the row holds behind so many rules. -/
def upTo (s : Int) (l : List Int) (k : Nat) : List Int := ((theRules s).take k).foldl (fun x r => r x) l
theorem upTo_all (s : Int) (l : List Int) : upTo s l 9 = weak s l := rfl
theorem upTo_step (s : Int) (l : List Int) (k : Nat) (r : List Int → List Int) (h : (theRules s)[k]? = some r) : upTo s l (k + 1) = r (upTo s l k) := by
  unfold upTo
  obtain ⟨hk, rfl⟩ := List.getElem?_eq_some_iff.1 h
  rw [List.take_succ_eq_append_getElem hk, List.foldl_append]
  rfl

set_option maxHeartbeats 2000000 in
set_option maxRecDepth 100000 in
theorem weak_any (A : Option Addr) (zs : List Int) (n c : Nat) (s : Int) (w : World) (hR : IntsAt w A zs) (hl : zs.length = n) (hn : n ≤ 1099511627776) :
    Calls Tryd.prog 7 #[.slice A n c, .int .i64 s] w fun e w' => ∃ A' c', e = .returned (.slice A' n c') ∧ w'.ownsRow w.heap.size 3 1 (.slice A' n c') n (icl (weak s zs)) ∧ Below w.heap.size w w' := by
  have HC := Lib.hid (clone_any A zs n c w hR hl hn)
  have HN := Lib.hid hn
  clear hR hl
  go_enter Tryd.func7, Tryd.ntmps7
  go_wp2_with fail
  refine HC.out.mono ?_
  rintro e w1 ⟨A', c', rfl, hown, hb⟩
  have hu : Under A' n c' w1.heap.size := fun b hb => (hown.lt b hb).2
  have HO := Lib.hid hown
  have HB1 := Lib.hid hb
  have HU := Lib.hid hu
  have HBB := Lib.hid (below_made w1 (.cells #[.slice A' n c', .int .i64 s] 32))
  clear hown hb hu HC
  go_wp2_with fail
  have HUX := Lib.hid (HU.out.mono HBB.out.size)
  have C0 := Lib.hid (newer w1 #[.slice A' n c', .int .i64 s] 32 w1.heap.size 0 _ rfl rfl)
  have N0 := Lib.hid (HU.out.ne (Nat.le_refl w1.heap.size))
  generalize w1.alloc (.cells #[.slice A' n c', .int .i64 s] 32) = w2 at *
  refine (rules_any w.heap.size A' n c' s w2 HUX.out HN.out).mono ?_
  rintro e w3 ⟨fv, rfl, ⟨h, fs, rfl, hle, hrs⟩, hb3⟩
  have HRS := Lib.hid hrs
  have H9 := Lib.hid (show fs.length = 9 from hrs.len)
  have NH := Lib.hid (HUX.out.ne hle)
  have HB3 := Lib.hid (HBB.out.trans (hb3.mono HBB.out.size))
  have C3 := Lib.hid (C0.out |> fun h => (hb3.cell (World.block_lt_of_cell? w2 _ h)).trans h)
  have HROW := Lib.hid (Row.start (HO.out |> fun h => ownsRow_below h HB3.out))
  clear hle hrs hb3
  go_wp2_with fail
  go_loopw [15] (fun s15 wx => ∃ k : Nat, k ≤ 9 ∧ s15 = .int .i64 k ∧ Row w.heap.size A' n c' w3 (upTo s zs k) wx) (fun s15 _ => 9 - (RowKit.intOf s15).toNat)
  case atStart => exact ⟨0, by omega, rfl, HROW.out⟩
  case round =>
    obtain ⟨k, hk, rfl, hrow⟩ := hrel
    have HR := Lib.hid hrow
    by_cases hlt : k < 9
    · have hfk : fs[k]? = some (fs[k]'(by rw [H9.out]; exact hlt)) := List.getElem?_eq_getElem _
      obtain ⟨f, hf⟩ : ∃ f, fs[k]'(by rw [H9.out]; exact hlt) = f := ⟨_, rfl⟩
      rw [hf] at hfk
      clear hf
      have hrk : (theRules s)[k]? = some ((theRules s)[k]'hlt) := List.getElem?_eq_getElem _
      obtain ⟨r, hr⟩ : ∃ r, (theRules s)[k]'hlt = r := ⟨_, rfl⟩
      rw [hr] at hrk
      clear hr
      have hcell := hrow.cell (HRS.out.cell k f hfk) NH.out
      obtain ⟨q, mid, caps, rfl, henter, hcall⟩ := HRS.out.rule k f r hfk hrk
      have HC := Lib.hid (hcall wr (upTo s zs k) hrow.gr hrow.own)
      have HST := Lib.hid (upTo_step s zs k r hrk)
      have HEN := Lib.hid henter
      clear hrow hfk hrk hcall henter
      go_wp2_with fail
      rw [HEN.out]
      refine Calls.mono HC.out ?_
      rintro e W' ⟨rfl, hrow'⟩
      rw [← HST.out] at hrow'
      have HR' := Lib.hid (show Row w.heap.size A' n c' w3 (upTo s zs (k + 1)) W' from ⟨hrow'.own, grown_trans HR.out.gr hrow'.gr⟩)
      clear hrow' hcell
      go_wp2
      go_roundw
      case rel => exact ⟨k + 1, by omega, by go_num, HR'.out⟩
      case measure => simp [RowKit.intOf]; omega
    · obtain rfl : k = 9 := by omega
      have C4 := hrow.cell C3.out N0.out
      clear hrow hlt
      go_wp2
      go_ret
      have h1 := HR.out
      rw [upTo_all] at h1
      exact ⟨_, _, rfl, h1.own, (HB1.out.trans (HB3.out.mono HB1.out.size)).grown h1.gr (Nat.le_trans HB1.out.size HB3.out.size) (fun k hk => (h1.base k hk).1)⟩
end Go.Proofs.YtmhnhklkomboaaaDoor.Wk
