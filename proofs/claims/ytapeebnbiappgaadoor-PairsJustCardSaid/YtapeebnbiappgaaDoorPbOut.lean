/-
  Proved here: what pairs' sequence.outcome returns, by the classes as they are: the plain becZ. It leaves what was in memory.
-/
import Derived.Test.YtapeebnbiappgaaDoorPbSeq
set_option linter.unusedVariables false
namespace Go.Proofs.YtapeebnbiappgaaDoor.Pb
open Go Go.RowKit Go.Lib Go.Shelf Go.Proofs.YtapeebnbiappgaaDoor.Cl Go.Proofs.YtapeebnbiappgaaDoor.Pr

theorem below2 (w : World) (o1 o2 : Obj) : Below w.heap.size w ((w.alloc o1).alloc o2) :=
  (below_made w o1).trans ((below_made _ o2).mono (below_made w o1).size)

theorem six {w V : World} {a b : Nat} {v0 v1 v2 v3 u0 u1 : Value} {t1 t2 : TypeId} (h1 : w.heap[a]? = some (.cells #[v0, v1, v2, v3] t1 (0, 0))) (h2 : w.heap[b]? = some (.cells #[u0, u1] t2 (0, 0))) (ha : a < w.heap.size) (hb : b < w.heap.size) (h : Below w.heap.size w V) :
    V.cell? ⟨a, 0, none⟩ = some v0 ∧ V.cell? ⟨a, 1, none⟩ = some v1 ∧ V.cell? ⟨a, 2, none⟩ = some v2 ∧ V.cell? ⟨a, 3, none⟩ = some v3 ∧ V.cell? ⟨b, 0, none⟩ = some u0 ∧ V.cell? ⟨b, 1, none⟩ = some u1 := by
  have g1 := (h.block _ ha).trans h1
  have g2 := (h.block _ hb).trans h2
  exact ⟨cell_of_row V a 0 _ _ _ g1, cell_of_row V a 1 _ _ _ g1, cell_of_row V a 2 _ _ _ g1, cell_of_row V a 3 _ _ _ g1, cell_of_row V b 0 _ _ _ g2, cell_of_row V b 1 _ _ _ g2⟩

set_option maxHeartbeats 2000000 in
set_option maxRecDepth 100000 in
theorem outcome_any (A A2 : Option Addr) (zs : List Int) (n c m c2 i j : Nat) (s d : Int) (w : World) (hd : d = 0 ∨ d = 1) (hA : IntsAt w A zs) (hl : zs.length = n) (hn : n ≤ 1099511627776) (hc : n ≤ c) (hij : i < j) (hj : j < n) :
    Calls Tryd.prog 30 #[.agg #[.slice A n c, .slice A2 m c2, .int .i64 s, .int .i64 d], .agg #[.int .i64 i, .int .i64 j]] w fun e w' => e = .returned (.int .i64 (becZ zs (i, j) d s)) ∧ Below w.heap.size w w' := by
  have hb2 := below2 w (.cells #[.slice A n c, .slice A2 m c2, .int .i64 s, .int .i64 d] 47) (.cells #[.int .i64 i, .int .i64 j] 31)
  have hc1 : ((w.alloc (.cells #[.slice A n c, .slice A2 m c2, .int .i64 s, .int .i64 d] 47)).alloc (.cells #[.int .i64 i, .int .i64 j] 31)).heap[w.heap.size]? = some (.cells #[.slice A n c, .slice A2 m c2, .int .i64 s, .int .i64 d] 47 (0, 0)) := by
    rw [(below_made _ _).block _ (by rw [World.size_alloc]; omega)]
    exact heap_alloc_last _ _
  have hc2 : ((w.alloc (.cells #[.slice A n c, .slice A2 m c2, .int .i64 s, .int .i64 d] 47)).alloc (.cells #[.int .i64 i, .int .i64 j] 31)).heap[w.heap.size + 1]? = some (.cells #[.int .i64 i, .int .i64 j] 31 (0, 0)) := by
    have := heap_alloc_last (w.alloc (.cells #[.slice A n c, .slice A2 m c2, .int .i64 s, .int .i64 d] 47)) (.cells #[.int .i64 i, .int .i64 j] 31)
    rwa [World.size_alloc] at this
  have hsz : ((w.alloc (.cells #[.slice A n c, .slice A2 m c2, .int .i64 s, .int .i64 d] 47)).alloc (.cells #[.int .i64 i, .int .i64 j] 31)).heap.size = w.heap.size + 2 := by rw [World.size_alloc, World.size_alloc]
  have HOP := Lib.hid (fun (W : World) => opposite_any d W hd)
  have HBT := Lib.hid (fun (x : Int) (W : World) (hW : Below w.heap.size w W) => between_any A A2 zs n c m c2 i j s d x W (hA.below hW) hl hn hc hij hj)
  have HAH := Lib.hid (fun (W : World) (hW : Below w.heap.size w W) => ahead_any A A2 zs n c m c2 i s d W (hA.below hW) hl hn (by omega))
  have HZ := Lib.hid (show becZ zs (i, j) d s = if hasZ ((zs.take j).drop (i + 1)) d = true then d else if hasZ ((zs.take j).drop (i + 1)) (1 - d) = true then (if aheadZ (zs.take i) s = 1 - d then 1 - d else d) else -1 from rfl)
  obtain ⟨r, hr⟩ : ∃ r, becZ zs (i, j) d s = r := ⟨_, rfl⟩
  rw [hr] at HZ ⊢
  clear hA hr
  go_enter Tryd.func30, Tryd.ntmps30
  go_wp2_with fail
  have HB := Lib.hid hb2
  have HS := Lib.hid hsz
  have HX1 := Lib.hid hc1
  have HX2 := Lib.hid hc2
  clear hb2 hsz hc1 hc2
  generalize (w.alloc (.cells #[.slice A n c, .slice A2 m c2, .int .i64 s, .int .i64 d] 47)).alloc (.cells #[.int .i64 i, .int .i64 j] 31) = w2 at *
  have HC := Lib.hid (fun (V : World) (h : Below w2.heap.size w2 V) => six HX1.out HX2.out (by rw [HS.out]; omega) (by rw [HS.out]; omega) h)
  clear HX1 HX2
  obtain ⟨c0, c1, c2', c3, e0, e1⟩ := HC.out w2 (Below.refl _ _)
  refine (HOP.out _).mono ?_
  rintro e w' ⟨rfl, rfl⟩
  go_wp2_with fail
  refine (HBT.out d _ HB.out).mono ?_
  rintro e w3 ⟨rfl, hb3⟩
  clear c0 c1 c2' c3 e0 e1
  obtain ⟨c0, c1, c2', c3, e0, e1⟩ := HC.out w3 hb3
  have HB3 := Lib.hid hb3
  have HT3 := Lib.hid (HB.out.trans (hb3.mono HB.out.size))
  clear hb3
  cases h1 : hasZ ((zs.take j).drop (i + 1)) d with
  | true =>
    have HR := Lib.hid (show r = d from by rw [HZ.out, if_pos h1])
    clear h1 HZ
    go_wp2_with fail
    go_ret
    rw [HR.out]
    exact ⟨rfl, HT3.out⟩
  | false =>
    rw [if_neg (by rw [h1]; decide)] at HZ
    clear h1
    go_wp2_with fail
    refine (HBT.out (1 - d) _ HT3.out).mono ?_
    rintro e w4 ⟨rfl, hb4⟩
    clear c0 c1 c2' c3 e0 e1
    have HB4 := Lib.hid (HB3.out.trans (hb4.mono HB3.out.size))
    have HT4 := Lib.hid (HB.out.trans (HB4.out.mono HB.out.size))
    clear hb4
    obtain ⟨c0, c1, c2', c3, e0, e1⟩ := HC.out w4 HB4.out
    cases h2 : hasZ ((zs.take j).drop (i + 1)) (1 - d) with
    | false =>
      have HR := Lib.hid (show r = -1 from by rw [HZ.out, if_neg (by rw [h2]; decide)])
      clear h2 HZ
      go_wp2_with fail
      go_ret
      rw [HR.out]
      exact ⟨rfl, HT4.out⟩
    | true =>
      rw [if_pos h2] at HZ
      clear h2
      go_wp2_with fail
      refine (HAH.out _ HT4.out).mono ?_
      rintro e w5 ⟨rfl, hb5⟩
      clear c0 c1 c2' c3 e0 e1
      have HB5 := Lib.hid (HB4.out.trans (hb5.mono HB4.out.size))
      have HT5 := Lib.hid (HB.out.trans (HB5.out.mono HB.out.size))
      clear hb5
      obtain ⟨c0, c1, c2', c3, e0, e1⟩ := HC.out w5 HB5.out
      by_cases h3 : aheadZ (zs.take i) s = 1 - d
      · have HR := Lib.hid (show r = 1 - d from by rw [HZ.out, if_pos h3])
        have hb : (aheadZ (zs.take i) s == 1 - d) = true := by simpa using h3
        clear h3 HZ
        generalize aheadZ (zs.take i) s = y at *
        go_wp2_with fail
        go_ret
        rw [HR.out]
        exact ⟨rfl, HT5.out⟩
      · have HR := Lib.hid (show r = d from by rw [HZ.out, if_neg h3])
        have hb : (aheadZ (zs.take i) s == 1 - d) = false := by simpa using h3
        clear h3 HZ
        generalize aheadZ (zs.take i) s = y at *
        go_wp2_with fail
        go_ret
        rw [HR.out]
        exact ⟨rfl, HT5.out⟩
end Go.Proofs.YtapeebnbiappgaaDoor.Pb
