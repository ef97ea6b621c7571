/-
  Proved here: what parquetryref14.becomes returns (the plain becZ), and what parquetryref14.Same returns of two rows of pairs that hold the same. They leave what was in memory.
-/
import Derived.Test.YtapeebnbiappgaaDoorPrRefA
import Derived.Test.YtapeebnbiappgaaDoorPbOut
import Derived.Test.YtapeebnbiappgaaDoorPrRows
set_option linter.unusedVariables false
namespace Go.Proofs.YtapeebnbiappgaaDoor.Pb
open Go Go.RowKit Go.Lib Go.Shelf Go.Proofs.YtapeebnbiappgaaDoor.Cl Go.Proofs.YtapeebnbiappgaaDoor.Pr

theorem ints_take {w : World} {A : Option Addr} {zs : List Int} {g off : Nat} (hA : A = some ⟨g, off, none⟩) (h : IntsAt w A zs) (m : Nat) : IntsAt w (some ⟨g, off, none⟩) (zs.take m) := by
  subst hA
  rcases h with rfl | ⟨b, o, e, hb, hc⟩
  · exact .inl (by simp)
  · injection e with e
    injection e with e1 e2 e3
    subst e1 e2
    refine .inr ⟨_, _, rfl, hb, fun j z hz => ?_⟩
    rw [List.getElem?_take] at hz
    split at hz
    · exact hc j z hz
    · cases hz

set_option maxHeartbeats 2000000 in
set_option maxRecDepth 100000 in
theorem rbecomes_any (A : Option Addr) (zs : List Int) (n c i j : Nat) (s d : Int) (w : World) (hd : d = 0 ∨ d = 1) (hA : IntsAt w A zs) (hl : zs.length = n) (hn : n ≤ 1099511627776) (hc : n ≤ c) (hij : i < j) (hj : j < n) :
    Calls Tryd.prog 32 #[.slice A n c, .agg #[.int .i64 i, .int .i64 j], .int .i64 d, .int .i64 s] w fun e w' => e = .returned (.int .i64 (becZ zs (i, j) d s)) ∧ Below w.heap.size w w' := by
  obtain ⟨g, off, rfl, -⟩ := hA.at_ (k := 0) (by omega)
  have hcut := ints_cut' rfl hA (i + 1) (j - (i + 1)) (by omega)
  rw [← List.drop_take] at hcut
  have hlen : ((zs.take j).drop (i + 1)).length = j - (i + 1) := by rw [List.length_drop, List.length_take]; omega
  have htk := ints_take rfl hA i
  have hlt : (zs.take i).length = i := by rw [List.length_take]; omega
  have hb1 := below_made w (.cells #[.int .i64 i, .int .i64 j] 31)
  have hx1 := heap_alloc_last w (.cells #[.int .i64 i, .int .i64 j] 31)
  have c0 := cell_of_row _ w.heap.size 0 _ _ _ hx1
  have c1 := cell_of_row _ w.heap.size 1 _ _ _ hx1
  have HZ := Lib.hid (show becZ zs (i, j) d s = if hasZ ((zs.take j).drop (i + 1)) d = true then d else if hasZ ((zs.take j).drop (i + 1)) (1 - d) = true then (if aheadZ (zs.take i) s = 1 - d then 1 - d else d) else -1 from rfl)
  obtain ⟨r, hr⟩ : ∃ r, becZ zs (i, j) d s = r := ⟨_, rfl⟩
  rw [hr] at HZ ⊢
  generalize (zs.take j).drop (i + 1) = ys at *
  generalize zs.take i = ts at *
  have HAS := Lib.hid (fun (x : Int) (k : Nat) => rhas_any (some ⟨g, off + (i + 1), none⟩) ys (j - (i + 1)) k x _ (hcut.below hb1) hlen (by omega))
  have HAH := Lib.hid (fun (k : Nat) => rahead_any (some ⟨g, off, none⟩) ts i k s _ (htk.below hb1) hlt (by omega))
  have HB1 := Lib.hid hb1
  have e1 : IntKind.i64.wrap ((1 : Int) - d) = 1 - d := IntWalk.i64_in _ (by rcases hd with rfl | rfl <;> decide)
  have e2 : IntKind.i64.wrap ((i : Int) + 1) = (i : Int) + 1 := IntWalk.i64_in _ (by omega)
  clear hr hA hcut hlen htk hlt hb1 hx1
  go_enter Tryd.func32, Tryd.ntmps32
  go_wp2_with fail
  refine (HAS.out _ _).mono ?_
  rintro e w2 ⟨rfl, rfl⟩
  cases h1 : hasZ ys d with
  | true =>
    have HR := Lib.hid (show r = d from by rw [HZ.out, if_pos h1])
    clear h1 HZ
    go_wp2_with fail
    go_ret
    rw [HR.out]
    exact ⟨rfl, HB1.out⟩
  | false =>
    rw [if_neg (by rw [h1]; decide)] at HZ
    clear h1
    go_wp2_with fail
    refine (HAS.out _ _).mono ?_
    rintro e w2 ⟨rfl, rfl⟩
    cases h2 : hasZ ys (1 - d) with
    | false =>
      have HR := Lib.hid (show r = -1 from by rw [HZ.out, if_neg (by rw [h2]; decide)])
      clear h2 HZ
      go_wp2_with fail
      go_ret
      rw [HR.out]
      exact ⟨rfl, HB1.out⟩
    | true =>
      rw [if_pos h2] at HZ
      clear h2
      have hic : (i : Int) ≤ (c : Int) := by omega
      go_wp2_with fail
      refine (HAH.out _).mono ?_
      rintro e w2 ⟨rfl, rfl⟩
      by_cases h3 : aheadZ ts s = 1 - d
      · have HR := Lib.hid (show r = 1 - d from by rw [HZ.out, if_pos h3])
        have hb : (aheadZ ts s == 1 - d) = true := by simpa using h3
        clear h3 HZ
        generalize aheadZ ts s = y at *
        go_wp2_with fail
        go_ret
        rw [HR.out]
        exact ⟨rfl, HB1.out⟩
      · have HR := Lib.hid (show r = d from by rw [HZ.out, if_neg h3])
        have hb : (aheadZ ts s == 1 - d) = false := by simpa using h3
        clear h3 HZ
        generalize aheadZ ts s = y at *
        go_wp2_with fail
        go_ret
        rw [HR.out]
        exact ⟨rfl, HB1.out⟩

set_option maxHeartbeats 2000000 in
set_option maxRecDepth 100000 in
theorem rsame_any (A B : Option Addr) (P : List (Nat × Nat)) (n c1 c2 : Nat) (w : World) (hA : PaAt w A P) (hB : PaAt w B P) (hl : P.length = n) (hn : n ≤ 1099511627776) :
    Calls Tryd.prog 9 #[.slice A n c1, .slice B n c2] w fun e w' => e = .returned (.bool true) ∧ Below w.heap.size w w' := by
  have HA := Lib.hid hA
  have HB := Lib.hid hB
  have HL := Lib.hid hl
  clear hA hB hl
  go_enter Tryd.func9, Tryd.ntmps9
  go_wp2_with fail
  go_loopw [5] (fun s5 wx => ∃ k : Nat, k ≤ n ∧ s5 = .int .i64 k ∧ Below w.heap.size w wx) (fun s5 _ => n - (RowKit.intOf s5).toNat)
  case atStart => exact ⟨0, Nat.zero_le _, rfl, Below.refl _ _⟩
  case round =>
    obtain ⟨k, hk, rfl, hb⟩ := hrel
    have HBW := Lib.hid hb
    by_cases hlt : k < n
    · have hkp : k < P.length := by rw [HL.out]; exact hlt
      obtain ⟨p, hp⟩ : ∃ p, P[k]? = some p := ⟨_, List.getElem?_eq_getElem hkp⟩
      obtain ⟨ba, oa, rfl, -, a0, a1⟩ := (HA.out.below hb).at_ hp
      obtain ⟨bb, ob, rfl, -, b0, b1⟩ := (HB.out.below hb).at_ hp
      obtain ⟨x, y⟩ := p
      dsimp only at a0 a1 b0 b1
      have hk0 : (0 : Int) ≤ (k : Int) := by omega
      have hk1 : (k : Int) < (n : Int) := by omega
      clear hkp hp hb
      go_wp2_with fail
      go_quiet (fail)
      go_wp2
      go_roundw
      case rel => exact ⟨k + 1, by omega, by go_num, below_drewN HBW.out _⟩
      case measure => simp [RowKit.intOf]; omega
    · obtain rfl : k = n := by omega
      clear hlt hb
      go_wp2_with fail
      go_ret
      exact ⟨rfl, HBW.out⟩
end Go.Proofs.YtapeebnbiappgaaDoor.Pb
