/-
  Proved here: what level.Explicit and the document's own answer return in a paragraph of no level, what is of the statements of layer 11 returns, and that parquetrylaw11.awake (the chapter's examples) returns true; they leave what was in memory. No condition.
-/
import Derived.Test.YtehndhkcmccpmaaLvExpl
import Derived.Test.YtehndhkcmccpmaaLvReads
import Derived.Test.YtehndhkcmccpmaaRcSame
import Derived.Test.YtehndhkcmccpmaaLvOpen
set_option linter.unusedVariables false
namespace Go.Proofs.Ytehndhkcmccpmaa.Lv
open Go Go.RowKit Go.Lib Go.Proofs.Ytehndhkcmccpmaa.Cl Go.Proofs.Ytehndhkcmccpmaa.Rc

set_option maxHeartbeats 1000000 in
set_option maxRecDepth 100000 in
theorem is_as (A D F : Option Addr) (l xs ys : List Int) (b n c d f : Nat) (w : World) (hb : b ≤ 1) (hl : l.length = n) (hx : (explL l b).map (·.1) = xs) (hy : (explL l b).map (·.2) = ys) (hR : IntsAt w A l) (hX : IntsAt w D xs) (hY : IntsAt w F ys) (hn : n ≤ 1000000) (hc : n ≤ c) :
    Calls Try.prog 22 #[.slice A n c, .int .i64 b, .slice D n d, .slice F n f] w fun e w' => e = .returned (.bool true) ∧ Below w.heap.size w w' := by
  have HC := Lib.hid (explicit_reads A l b n c w hb hl hR hn hc)
  have lx : xs.length = n := by rw [← hx, List.length_map, explL_len, hl]
  have ly : ys.length = n := by rw [← hy, List.length_map, explL_len, hl]
  rw [hx, hy] at HC
  have HX := Lib.hid hX
  have HY := Lib.hid hY
  have HSX := Lib.hid (fun A B c d W h1 h2 => same_ints A B xs c d W h1 h2 (by omega))
  have HSY := Lib.hid (fun A B c d W h1 h2 => same_ints A B ys c d W h1 h2 (by omega))
  rw [lx] at HSX
  rw [ly] at HSY
  clear hx hy hR hX hY lx ly
  go_enter Try.func22, Try.ntmps22
  go_wp2_with fail
  refine HC.out.mono ?_
  rintro e w1 ⟨g1, g2, rfl, -, -, -, -, -, i1, i2, hb1⟩
  go_wp2_with fail
  refine (HSX.out _ _ _ _ _ i1 (HX.out.below hb1)).mono ?_
  rintro e w2 ⟨rfl, hb2⟩
  have hb12 := hb1.trans (hb2.mono hb1.size)
  go_wp2_with fail
  refine (HSY.out _ _ _ _ _ (i2.below hb2) (HY.out.below hb12)).mono ?_
  rintro e w3 ⟨rfl, hb3⟩
  have hb13 := hb12.trans (hb3.mono hb12.size)
  go_wp2
  go_ret
  exact ⟨rfl, hb13⟩

set_option maxHeartbeats 1000000 in
set_option maxRecDepth 100000 in
theorem is_none (A : Option Addr) (n c : Nat) (w : World) :
    Calls Try.prog 22 #[.slice A n c, .int .i64 2, .slice none 0 0, .slice none 0 0] w fun e w' => e = .returned (.bool true) ∧ Below w.heap.size w w' := by
  have HC := Lib.hid (explicit_none A 2 n c w (by decide) (by decide))
  have HS := Lib.hid (fun W => same_ints none none [] 0 0 W (.inl rfl) (.inl rfl) (by simp))
  simp only [List.length_nil] at HS
  go_enter Try.func22, Try.ntmps22
  go_wp2_with fail
  refine HC.out.mono ?_
  rintro e w1 ⟨rfl, rfl⟩
  go_wp2_with fail
  refine (HS.out _).mono ?_
  rintro e w2 ⟨rfl, hb2⟩
  go_wp2_with fail
  refine (HS.out _).mono ?_
  rintro e w3 ⟨rfl, hb3⟩
  have hb13 := hb2.trans (hb3.mono hb2.size)
  go_wp2
  go_ret
  exact ⟨rfl, hb13⟩

theorem x0 : (explL [0, 16, 0, 18, 0] 0).map (·.1) = [0, -1, 1, -1, 0] := by kernel_rfl
theorem y0 : (explL [0, 16, 0, 18, 0] 0).map (·.2) = [0, 16, 0, 18, 0] := by kernel_rfl
theorem x1 : (explL [17, 0, 18, 0] 0).map (·.1) = [-1, 1, -1, 0] := by kernel_rfl
theorem y1 : (explL [17, 0, 18, 0] 0).map (·.2) = [17, 1, 18, 0] := by kernel_rfl
theorem x2 : (explL [20, 0, 22, 1] 1).map (·.1) = [1, 3, 1, 1] := by kernel_rfl
theorem y2 : (explL [20, 0, 22, 1] 1).map (·.2) = [20, 0, 22, 1] := by kernel_rfl
theorem x3 : (explL [15, 21, 1, 22] 0).map (·.1) = [-1, 2, 3, 2] := by kernel_rfl
theorem y3 : (explL [15, 21, 1, 22] 0).map (·.2) = [15, 0, 1, 0] := by kernel_rfl
theorem rows_two (w : World) (xs ys : List Int) (cs ds : Array Value) (h1 : cs = (xs.map (Value.int .i64)).toArray) (h2 : ds = (ys.map (Value.int .i64)).toArray) :
    IntsAt ((w.alloc (.cells cs 3)).alloc (.cells ds 3)) (some ⟨w.heap.size, 0, none⟩) xs ∧ IntsAt ((w.alloc (.cells cs 3)).alloc (.cells ds 3)) (some ⟨w.heap.size + 1, 0, none⟩) ys ∧ Below w.heap.size w ((w.alloc (.cells cs 3)).alloc (.cells ds 3)) :=
  ⟨(made_ints xs cs 3 w h1).below (below_made _ _), made_ints' (by simp) h2, ((Below.refl _ _).alloc (Nat.le_refl _) _).alloc (by simp) _⟩
theorem rows_four (w : World) : IntsAt ((((w.alloc (.cells #[.int .i64 0, .int .i64 16, .int .i64 0, .int .i64 18, .int .i64 0] 3)).alloc (.cells #[.int .i64 17, .int .i64 0, .int .i64 18, .int .i64 0] 3)).alloc (.cells #[.int .i64 20, .int .i64 0, .int .i64 22, .int .i64 1] 3)).alloc (.cells #[.int .i64 15, .int .i64 21, .int .i64 1, .int .i64 22] 3)) (some ⟨w.heap.size, 0, none⟩) [0, 16, 0, 18, 0] ∧ IntsAt ((((w.alloc (.cells #[.int .i64 0, .int .i64 16, .int .i64 0, .int .i64 18, .int .i64 0] 3)).alloc (.cells #[.int .i64 17, .int .i64 0, .int .i64 18, .int .i64 0] 3)).alloc (.cells #[.int .i64 20, .int .i64 0, .int .i64 22, .int .i64 1] 3)).alloc (.cells #[.int .i64 15, .int .i64 21, .int .i64 1, .int .i64 22] 3)) (some ⟨w.heap.size + 1, 0, none⟩) [17, 0, 18, 0] ∧ IntsAt ((((w.alloc (.cells #[.int .i64 0, .int .i64 16, .int .i64 0, .int .i64 18, .int .i64 0] 3)).alloc (.cells #[.int .i64 17, .int .i64 0, .int .i64 18, .int .i64 0] 3)).alloc (.cells #[.int .i64 20, .int .i64 0, .int .i64 22, .int .i64 1] 3)).alloc (.cells #[.int .i64 15, .int .i64 21, .int .i64 1, .int .i64 22] 3)) (some ⟨w.heap.size + 1 + 1, 0, none⟩) [20, 0, 22, 1] ∧ IntsAt ((((w.alloc (.cells #[.int .i64 0, .int .i64 16, .int .i64 0, .int .i64 18, .int .i64 0] 3)).alloc (.cells #[.int .i64 17, .int .i64 0, .int .i64 18, .int .i64 0] 3)).alloc (.cells #[.int .i64 20, .int .i64 0, .int .i64 22, .int .i64 1] 3)).alloc (.cells #[.int .i64 15, .int .i64 21, .int .i64 1, .int .i64 22] 3)) (some ⟨w.heap.size + 1 + 1 + 1, 0, none⟩) [15, 21, 1, 22] ∧ Below w.heap.size w ((((w.alloc (.cells #[.int .i64 0, .int .i64 16, .int .i64 0, .int .i64 18, .int .i64 0] 3)).alloc (.cells #[.int .i64 17, .int .i64 0, .int .i64 18, .int .i64 0] 3)).alloc (.cells #[.int .i64 20, .int .i64 0, .int .i64 22, .int .i64 1] 3)).alloc (.cells #[.int .i64 15, .int .i64 21, .int .i64 1, .int .i64 22] 3)) ∧ ((((w.alloc (.cells #[.int .i64 0, .int .i64 16, .int .i64 0, .int .i64 18, .int .i64 0] 3)).alloc (.cells #[.int .i64 17, .int .i64 0, .int .i64 18, .int .i64 0] 3)).alloc (.cells #[.int .i64 20, .int .i64 0, .int .i64 22, .int .i64 1] 3)).alloc (.cells #[.int .i64 15, .int .i64 21, .int .i64 1, .int .i64 22] 3)).heap.size = w.heap.size + 1 + 1 + 1 + 1 := by
  obtain ⟨h1, h2, h3⟩ := rows_two w [0, 16, 0, 18, 0] [17, 0, 18, 0] #[.int .i64 0, .int .i64 16, .int .i64 0, .int .i64 18, .int .i64 0] #[.int .i64 17, .int .i64 0, .int .i64 18, .int .i64 0] rfl rfl
  have hs : ((w.alloc (.cells #[.int .i64 0, .int .i64 16, .int .i64 0, .int .i64 18, .int .i64 0] 3)).alloc (.cells #[.int .i64 17, .int .i64 0, .int .i64 18, .int .i64 0] 3)).heap.size = w.heap.size + 1 + 1 := by simp
  generalize (w.alloc (.cells #[.int .i64 0, .int .i64 16, .int .i64 0, .int .i64 18, .int .i64 0] 3)).alloc (.cells #[.int .i64 17, .int .i64 0, .int .i64 18, .int .i64 0] 3) = V at *
  obtain ⟨k1, k2, k3⟩ := rows_two V [20, 0, 22, 1] [15, 21, 1, 22] #[.int .i64 20, .int .i64 0, .int .i64 22, .int .i64 1] #[.int .i64 15, .int .i64 21, .int .i64 1, .int .i64 22] rfl rfl
  rw [hs] at k1 k2
  exact ⟨h1.below k3, h2.below k3, k1, k2, h3.trans (k3.mono h3.size), by simp [hs]⟩

set_option maxHeartbeats 4000000 in
set_option maxRecDepth 100000 in
theorem awake_any (w : World) :
    Calls Try.prog 10 #[] w fun e w' => e = .returned (.bool true) ∧ Below w.heap.size w w' := by
  go_enter Try.func10, Try.ntmps10
  go_wp2_with fail
  obtain ⟨i0, i1, i2, i3, hbV, hsV⟩ := rows_four w
  generalize (((w.alloc (.cells #[.int .i64 0, .int .i64 16, .int .i64 0, .int .i64 18, .int .i64 0] 3)).alloc (.cells #[.int .i64 17, .int .i64 0, .int .i64 18, .int .i64 0] 3)).alloc (.cells #[.int .i64 20, .int .i64 0, .int .i64 22, .int .i64 1] 3)).alloc (.cells #[.int .i64 15, .int .i64 21, .int .i64 1, .int .i64 22] 3) = V at *
  have hE := made_ints' (W := V) (B := w.heap.size + 1 + 1 + 1 + 1) (zs := [0, -1, 1, -1, 0]) (cs := #[.int .i64 0, .int .i64 (-1), .int .i64 1, .int .i64 (-1), .int .i64 0]) (e := 3) hsV rfl
  have hbE := below_made V (.cells #[.int .i64 0, .int .i64 (-1), .int .i64 1, .int .i64 (-1), .int .i64 0] 3)
  refine (is_as _ _ _ [0, 16, 0, 18, 0] [0, -1, 1, -1, 0] [0, 16, 0, 18, 0] 0 5 5 5 5 (V.alloc (.cells #[.int .i64 0, .int .i64 (-1), .int .i64 1, .int .i64 (-1), .int .i64 0] 3)) (by decide) rfl x0 y0 (i0.below hbE) hE (i0.below hbE) (by decide) (by decide)).mono ?_
  rintro e w1 ⟨rfl, hb1⟩
  have hV1 := hbE.trans (hb1.mono hbE.size)
  have i1 := i1.below hV1
  have i2 := i2.below hV1
  have i3 := i3.below hV1
  have B1 := hbV.trans (hV1.mono hbV.size)
  clear hE hbE hb1 hV1 hbV hsV i0
  go_wp2_with fail
  obtain ⟨j1, j2, hbj⟩ := rows_two w1 [-1, 1, -1, 0] [17, 1, 18, 0] #[.int .i64 (-1), .int .i64 1, .int .i64 (-1), .int .i64 0] #[.int .i64 17, .int .i64 1, .int .i64 18, .int .i64 0] rfl rfl
  refine (is_as _ _ _ [17, 0, 18, 0] [-1, 1, -1, 0] [17, 1, 18, 0] 0 4 4 4 4 ((w1.alloc (.cells #[.int .i64 (-1), .int .i64 1, .int .i64 (-1), .int .i64 0] 3)).alloc (.cells #[.int .i64 17, .int .i64 1, .int .i64 18, .int .i64 0] 3)) (by decide) rfl x1 y1 (i1.below hbj) j1 j2 (by decide) (by decide)).mono ?_
  rintro e w2 ⟨rfl, hb2⟩
  have hV2 := hbj.trans (hb2.mono hbj.size)
  have i2 := i2.below hV2
  have i3 := i3.below hV2
  have B2 := B1.trans (hV2.mono B1.size)
  clear j1 j2 hbj hb2 hV2 B1 i1
  go_wp2_with fail
  have hE := made_ints [1, 3, 1, 1] #[.int .i64 1, .int .i64 3, .int .i64 1, .int .i64 1] 3 w2 rfl
  have hbE := below_made w2 (.cells #[.int .i64 1, .int .i64 3, .int .i64 1, .int .i64 1] 3)
  refine (is_as _ _ _ [20, 0, 22, 1] [1, 3, 1, 1] [20, 0, 22, 1] 1 4 4 4 4 (w2.alloc (.cells #[.int .i64 1, .int .i64 3, .int .i64 1, .int .i64 1] 3)) (by decide) rfl x2 y2 (i2.below hbE) hE (i2.below hbE) (by decide) (by decide)).mono ?_
  rintro e w3 ⟨rfl, hb3⟩
  have hV3 := hbE.trans (hb3.mono hbE.size)
  have i3 := i3.below hV3
  have B3 := B2.trans (hV3.mono B2.size)
  clear hE hbE hb3 hV3 B2 i2
  go_wp2_with fail
  obtain ⟨j1, j2, hbj⟩ := rows_two w3 [-1, 2, 3, 2] [15, 0, 1, 0] #[.int .i64 (-1), .int .i64 2, .int .i64 3, .int .i64 2] #[.int .i64 15, .int .i64 0, .int .i64 1, .int .i64 0] rfl rfl
  refine (is_as _ _ _ [15, 21, 1, 22] [-1, 2, 3, 2] [15, 0, 1, 0] 0 4 4 4 4 ((w3.alloc (.cells #[.int .i64 (-1), .int .i64 2, .int .i64 3, .int .i64 2] 3)).alloc (.cells #[.int .i64 15, .int .i64 0, .int .i64 1, .int .i64 0] 3)) (by decide) rfl x3 y3 (i3.below hbj) j1 j2 (by decide) (by decide)).mono ?_
  rintro e w4 ⟨rfl, hb4⟩
  have hV4 := hbj.trans (hb4.mono hbj.size)
  have B4 := B3.trans (hV4.mono B3.size)
  clear j1 j2 hbj hb4 hV4 B3 i3
  go_wp2_with fail
  have hb0 := below_made w4 (.cells #[.int .i64 0] 3)
  refine (is_none _ 1 1 (w4.alloc (.cells #[.int .i64 0] 3))).mono ?_
  rintro e w5 ⟨rfl, hb5⟩
  have B5 := B4.trans ((hb0.trans (hb5.mono hb0.size)).mono B4.size)
  clear hb0 hb5 B4
  go_wp2_with fail
  refine (removed_any 9 w5).mono ?_
  rintro e w6 ⟨rfl, rfl⟩
  rw [show remB 9 = true from rfl]
  go_wp2_with fail
  refine (removed_any 22 w5).mono ?_
  rintro e w6 ⟨rfl, rfl⟩
  rw [show remB 22 = false from rfl]
  go_wp2
  go_ret
  exact ⟨rfl, B5⟩
end Go.Proofs.Ytehndhkcmccpmaa.Lv
