/-
  Proved here: what pairs' sequence.between, sequence.ahead return, by the classes as they are. They leave what was in memory.
-/
import Derived.Test.YtapeebnbiappgaaDoorPbSmall
import Derived.Test.YtapeebnbiappgaaDoorPrMore
import Derived.Shelf.Abstract
import Derived.Deep.WholeRow
import Derived.Laws.Rows
set_option linter.unusedVariables false
namespace Go.Proofs.YtapeebnbiappgaaDoor.Pb
open Go Go.RowKit Go.Lib Go.Shelf Go.Proofs.YtapeebnbiappgaaDoor.Cl Go.Proofs.YtapeebnbiappgaaDoor.Pr

theorem ints_cut' {w : World} {A : Option Addr} {zs : List Int} {g off : Nat} (hA : A = some ⟨g, off, none⟩) (h : IntsAt w A zs) (a m : Nat) (ha : a + m ≤ zs.length) : IntsAt w (some ⟨g, off + a, none⟩) ((zs.drop a).take m) := by
  subst hA
  rcases h with rfl | ⟨b, o, e, hb, hc⟩
  · exact .inl (by simp)
  · injection e with e
    injection e with e1 e2 e3
    subst e1 e2
    refine .inr ⟨_, _, rfl, hb, fun j z hz => ?_⟩
    have hj : j < m := by
      have := (List.getElem?_eq_some_iff.1 hz).1
      rw [List.length_take] at this
      omega
    rw [List.getElem?_take_of_lt hj, List.getElem?_drop] at hz
    have := hc (a + j) z hz
    rwa [show off + (a + j) = off + a + j from by omega] at this

theorem below3 (w : World) (o1 o2 o3 : Obj) : Below w.heap.size w (((w.alloc o1).alloc o2).alloc o3) :=
  (below_made w o1).trans ((below_made _ o2).mono (below_made w o1).size) |>.trans ((below_made _ o3).mono ((below_made w o1).trans ((below_made _ o2).mono (below_made w o1).size)).size)
theorem new_int {W : World} {B : Nat} (x : Int) (hB : W.heap.size = B) : (W.alloc (.cells #[.int .i64 x] 3)).cell? ⟨B, 0, none⟩ = some (.int .i64 x) := by
  subst hB
  exact cell_of_row _ _ 0 _ _ _ (heap_alloc_last _ _)

theorem enters_letter : ∀ args w, (callFunc 70 args).run Tryd.prog w = .ok (.enter 70 args) w := enters_of Tryd.func70 (by kernel_rfl) rfl
theorem has_letter (A : Option Addr) (ys : List Int) (n k b : Nat) (x : Int) (V : World) (hA : IntsAt V A ys) (hl : ys.length = n) (hn : n ≤ 1099511627776) (hb : V.cell? ⟨b, 0, none⟩ = some (.int .i64 x)) :
    Calls Tryd.prog 69 #[.slice A n k, .func (.func 70) #[] #[.pointer (some ⟨b, 0, none⟩)]] V fun e w' => e = .returned (.bool (ys.any fun c => decide (letZ c = x))) ∧ Below V.heap.size V w' := by
  have hblt := World.block_lt_of_cell? V _ hb
  exact has_func 70 enters_letter (.pointer (some ⟨b, 0, none⟩)) (fun c => decide (letZ c = x)) A ys n k V hA hl hn (fun z W hW => isLetter_any z x b W ((hW.cell (p := ⟨b, 0, none⟩) hblt).trans hb))

set_option maxHeartbeats 200000 in
set_option maxRecDepth 100000 in
theorem between_any (A A2 : Option Addr) (zs : List Int) (n c m c2 i j : Nat) (s d x : Int) (w : World) (hA : IntsAt w A zs) (hl : zs.length = n) (hn : n ≤ 1099511627776) (hc : n ≤ c) (hij : i < j) (hj : j < n) :
    Calls Tryd.prog 48 #[.agg #[.slice A n c, .slice A2 m c2, .int .i64 s, .int .i64 d], .agg #[.int .i64 i, .int .i64 j], .int .i64 x] w fun e w' => e = .returned (.bool (hasZ ((zs.take j).drop (i + 1)) x)) ∧ Below w.heap.size w w' := by
  obtain ⟨g, off, rfl, -⟩ := hA.at_ (k := 0) (by omega)
  have hcut := ints_cut' rfl hA (i + 1) (j - (i + 1)) (by omega)
  rw [← List.drop_take] at hcut
  have hlen : ((zs.take j).drop (i + 1)).length = j - (i + 1) := by rw [List.length_drop, List.length_take]; omega
  unfold hasZ
  generalize (zs.take j).drop (i + 1) = ys at *
  have hb3 := below3 w (.cells #[.slice (some ⟨g, off, none⟩) n c, .slice A2 m c2, .int .i64 s, .int .i64 d] 47) (.cells #[.int .i64 i, .int .i64 j] 31) (.cells #[.int .i64 x] 3)
  have HB3 := Lib.hid hb3
  have HF := Lib.hid (fun (V : World) (hV : Below w.heap.size w V) (b : Nat) (k : Nat) (hb : V.cell? ⟨b, 0, none⟩ = some (.int .i64 x)) => has_letter (some ⟨g, off + (i + 1), none⟩) ys (j - (i + 1)) k b x V (hcut.below hV) hlen (by omega) hb)
  clear hA hcut hb3
  go_enter Tryd.func48, Tryd.ntmps48
  go_wp2_with fail
  refine (HF.out _ HB3.out _ _ (new_int (B := w.heap.size + 1 + 1) x (by rw [World.size_alloc, World.size_alloc]))).mono ?_
  rintro e w2 ⟨rfl, hb2⟩
  go_wp2
  go_ret
  exact ⟨rfl, HB3.out.trans (hb2.mono HB3.out.size)⟩

set_option maxHeartbeats 200000 in
set_option maxRecDepth 100000 in
theorem ahead_any (A A2 : Option Addr) (zs : List Int) (n c m c2 i : Nat) (s d : Int) (w : World) (hA : IntsAt w A zs) (hl : zs.length = n) (hn : n ≤ 1099511627776) (hi : i < n) :
    Calls Tryd.prog 49 #[.agg #[.slice A n c, .slice A2 m c2, .int .i64 s, .int .i64 d], .int .i64 i] w fun e w' => e = .returned (.int .i64 (aheadZ (zs.take i) s)) ∧ Below w.heap.size w w' := by
  have hb1 : Below w.heap.size w (w.alloc (.cells #[.slice A n c, .slice A2 m c2, .int .i64 s, .int .i64 d] 47)) := (Below.refl _ w).alloc (Nat.le_refl _) _
  have HB1 := Lib.hid hb1
  have HA := Lib.hid (hA.below hb1)
  have HL := Lib.hid hl
  have HLET := Lib.hid (fun (c : Int) (W : World) => letter_any c W)
  obtain ⟨r, hr⟩ : ∃ r, aheadZ (zs.take i) s = r := ⟨_, rfl⟩
  have HR := Lib.hid hr
  rw [hr]
  have e0 : IntKind.i64.wrap ((i : Int) - 1) = (i : Int) - 1 := IntWalk.i64_in _ (by omega)
  clear hA hb1 hr hl
  go_enter Tryd.func49, Tryd.ntmps49
  go_wp2_with fail
  go_loopw [1] (fun s1 wx => ∃ k : Nat, k ≤ i ∧ s1 = .int .i64 ((k : Int) - 1) ∧ wx = w.alloc (.cells #[.slice A n c, .slice A2 m c2, .int .i64 s, .int .i64 d] 47) ∧ aheadZ (zs.take k) s = r) (fun s1 _ => (RowKit.intOf s1 + 1).toNat)
  case atStart => exact ⟨i, Nat.le_refl _, rfl, rfl, HR.out⟩
  case round =>
    obtain ⟨k, hk, rfl, rfl, ha⟩ := hrel
    have HK := Lib.hid ha
    clear ha
    cases k with
    | zero =>
      obtain rfl : s = r := HK.out
      go_wp2_with fail
      go_ret
      exact ⟨rfl, HB1.out⟩
    | succ k =>
      have hkz : k < zs.length := by rw [HL.out]; omega
      obtain ⟨g, off, hA, hc⟩ := HA.out.at_ hkz
      subst hA
      have HSN := Lib.hid (show aheadZ (zs.take (k + 1)) s = if 0 ≤ letZ zs[k] then letZ zs[k] else aheadZ (zs.take k) s from by rw [List.take_succ_eq_append_getElem hkz, aheadZ_snoc])
      obtain ⟨x, hx⟩ : ∃ x, zs[k] = x := ⟨_, rfl⟩
      rw [hx] at hc HSN
      rw [HK.out] at HSN
      have e1 : (((k + 1 : Nat) : Int) - 1) = (k : Int) := by omega
      have hcas := letZ_cases x
      have HLX := Lib.hid (fun (W : World) => letter_any x W)
      rw [e1]
      have h0 : (0 : Int) ≤ (k : Int) := by omega
      have h1 : (k : Int) < (n : Int) := by omega
      have e2 : IntKind.i64.wrap ((k : Int) - 1) = (k : Int) - 1 := IntWalk.i64_in _ (by omega)
      clear hx e1 hkz
      by_cases hy : letZ x = -1
      · have HKN := Lib.hid (show aheadZ (zs.take k) s = r from by rw [HSN.out, if_neg (by omega)])
        have hb : (letZ x != -1) = false := by simp [hy]
        clear hy hcas HSN
        generalize letZ x = y at *
        go_wp2_with fail
        refine (HLX.out _).mono ?_
        rintro e w2 ⟨rfl, rfl⟩
        go_wp2
        go_roundw
        case rel => exact ⟨k, by omega, by go_num, by first | rfl | trivial, HKN.out⟩
        case measure => simp [RowKit.intOf]
      · have HKN := Lib.hid (show r = letZ x from by rw [HSN.out, if_pos (by omega)])
        have hb : (letZ x != -1) = true := by simp [hy]
        clear hy hcas HSN
        generalize letZ x = y at *
        go_wp2_with fail
        refine (HLX.out _).mono ?_
        rintro e w2 ⟨rfl, rfl⟩
        go_wp2
        go_ret
        rw [HKN.out]
        exact ⟨rfl, HB1.out⟩
end Go.Proofs.YtapeebnbiappgaaDoor.Pb
