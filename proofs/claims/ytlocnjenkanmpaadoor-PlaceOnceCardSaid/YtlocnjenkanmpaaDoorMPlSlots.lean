/-
  Proved here: what parquetryref19.Slots returns, for every row of at most 100000 runes, every row of levels, every line, level, width and alignment: the plain slots, or the plain error. It leaves what was in memory.
-/
import Derived.Test.YtlocnjenkanmpaaDoorMPlText
import Derived.Test.YtlocnjenkanmpaaDoorM7
import Derived.Test.YtlocnjenkanmpaaDoorMPlSeen
import Derived.Test.YtlocnjenkanmpaaDoorMKrOf
set_option linter.unusedVariables false
namespace Go.Proofs.YtlocnjenkanmpaaDoor.Pl
open Go Go.RowKit Go.Lib Go.Proofs.YtlocnjenkanmpaaDoor.Ku Go.Proofs.YtlocnjenkanmpaaDoor.Wr Go.Proofs.YtlocnjenkanmpaaDoor.Bi Go.Proofs.YtlocnjenkanmpaaDoor.Bo Go.Proofs.YtlocnjenkanmpaaDoor.Arr Go.Proofs.YtlocnjenkanmpaaDoor.Cl
theorem own_reads {w : World} {B n : Nat} {t : TypeId} {v : Value} {X : List C6} (h : w.ownsRow B t 6 v n (cellsC X)) (hn : X.length = n) : ∃ A c, v = .slice A n c ∧ CuAt w A X ∧ n ≤ c := by
  subst hn
  obtain ⟨A, c, rfl, hcu⟩ := cuAt_own h
  refine ⟨A, c, rfl, hcu, ?_⟩
  rcases h.2 with ⟨e1, h0⟩ | ⟨g, cap, cur, e1, _, _, hle, _⟩
  · injection e1 with _ e2 _; omega
  · injection e1 with _ _ e2; omega
theorem slot_below {wr V W : World} (h : Below wr.heap.size wr V) (hb : Below V.heap.size V W) : Below wr.heap.size wr W := h.trans (hb.mono h.size)
set_option maxHeartbeats 8000000 in
set_option maxRecDepth 100000 in
theorem rslots_any (A B : Option Addr) (l : List R3) (lv : List Int) (n m c d : Nat) (x : L5) (para W al : Int) (w : World) (hA : RuAt w A l) (hB : IntsAt w B lv) (hl : l.length = n) (hlv : lv.length = m) (hn : n ≤ 100000) (hcn : n ≤ c) (hdm : m ≤ d) (hm : m ≤ 9223372036854775807) :
    Calls Tryd.prog 9 #[.slice A n c, .slice B m d, lnV x, .int .i64 para, .int .i64 W, .int .i64 al] w fun e w' => ∃ v, e = .returned (.tuple #[v, .int .i64 (errP n m (ofC l).length x para W al)]) ∧ w'.ownsRow w.heap.size 42 6 v (ansP l lv x para W al).length (cellsC (ansP l lv x para W al)) ∧ Below w.heap.size w w' := by
  unfold lnV
  have HB0 := Lib.hid ((Below.refl w.heap.size w).alloc (Nat.le_refl _) (.cells #[.int .i64 x.f, .int .i64 x.t, .int .i64 x.s, .int .i64 x.h, .int .i64 x.d] 25))
  have HE0 := Lib.hid (heap_alloc_new w (.cells #[.int .i64 x.f, .int .i64 x.t, .int .i64 x.s, .int .i64 x.h, .int .i64 x.d] 25))
  have HS0 := Lib.hid (show (w.alloc (.cells #[.int .i64 x.f, .int .i64 x.t, .int .i64 x.s, .int .i64 x.h, .int .i64 x.d] 25)).heap.size = w.heap.size + 1 by rw [World.size_alloc])
  by_cases hbad : n ≠ m ∨ para < 0 ∨ 1 < para ∨ W < 1 ∨ 1024 < W ∨ al < 2 ∨ 4 < al
  · have he : errP n m (ofC l).length x para W al = 1 := by unfold errP; rw [if_pos hbad]
    have ha : ansP l lv x para W al = [] := by unfold ansP; rw [hl, hlv, he, if_neg (by decide)]
    rw [he, ha]
    clear he ha hA hB
    by_cases k0 : n ≠ m
    · have b0 : ((n : Int) != (m : Int)) = true := bne_iff_ne.2 (by omega)
      clear hbad
      go_enter Tryd.func9, Tryd.ntmps9
      go_wp2_with fail
      go_ret2
      exact ⟨_, rfl, World.ownsRow_nil _ _ _ _, HB0.out⟩
    · obtain rfl : n = m := by omega
      have b0 : ((n : Int) != (n : Int)) = false := by simp
      by_cases k1 : para < 0
      · have b1 : decide (para < 0) = true := decide_eq_true k1
        clear hbad
        go_enter Tryd.func9, Tryd.ntmps9
        go_wp2_with fail
        go_ret2
        exact ⟨_, rfl, World.ownsRow_nil _ _ _ _, HB0.out⟩
      · have b1 : decide (para < 0) = false := decide_eq_false k1
        by_cases k2 : 1 < para
        · have b2 : decide ((1 : Int) < para) = true := decide_eq_true k2
          clear hbad
          go_enter Tryd.func9, Tryd.ntmps9
          go_wp2_with fail
          go_ret2
          exact ⟨_, rfl, World.ownsRow_nil _ _ _ _, HB0.out⟩
        · have b2 : decide ((1 : Int) < para) = false := decide_eq_false k2
          by_cases k3 : W < 1
          · have b3 : decide (W < 1) = true := decide_eq_true k3
            clear hbad
            go_enter Tryd.func9, Tryd.ntmps9
            go_wp2_with fail
            go_ret2
            exact ⟨_, rfl, World.ownsRow_nil _ _ _ _, HB0.out⟩
          · have b3 : decide (W < 1) = false := decide_eq_false k3
            by_cases k4 : 1024 < W
            · have b4 : decide ((1024 : Int) < W) = true := decide_eq_true k4
              clear hbad
              go_enter Tryd.func9, Tryd.ntmps9
              go_wp2_with fail
              go_ret2
              exact ⟨_, rfl, World.ownsRow_nil _ _ _ _, HB0.out⟩
            · have b4 : decide ((1024 : Int) < W) = false := decide_eq_false k4
              by_cases k5 : al < 2
              · have b5 : decide (al < 2) = true := decide_eq_true k5
                clear hbad
                go_enter Tryd.func9, Tryd.ntmps9
                go_wp2_with fail
                go_ret2
                exact ⟨_, rfl, World.ownsRow_nil _ _ _ _, HB0.out⟩
              · have b5 : decide (al < 2) = false := decide_eq_false k5
                by_cases k6 : 4 < al
                · have b6 : decide ((4 : Int) < al) = true := decide_eq_true k6
                  clear hbad
                  go_enter Tryd.func9, Tryd.ntmps9
                  go_wp2_with fail
                  go_ret2
                  exact ⟨_, rfl, World.ownsRow_nil _ _ _ _, HB0.out⟩
                · have b6 : decide ((4 : Int) < al) = false := decide_eq_false k6
                  exact absurd hbad (by omega)
  · obtain ⟨rfl, hp0, hp1, hw0, hw1, ha0, ha1⟩ : n = m ∧ 0 ≤ para ∧ para ≤ 1 ∧ 1 ≤ W ∧ W ≤ 1024 ∧ 2 ≤ al ∧ al ≤ 4 := by omega
    have b0 : ((n : Int) != (n : Int)) = false := by simp
    have b1 : decide (para < 0) = false := decide_eq_false (by omega)
    have b2 : decide ((1 : Int) < para) = false := decide_eq_false (by omega)
    have b3 : decide (W < 1) = false := decide_eq_false (by omega)
    have b4 : decide ((1024 : Int) < W) = false := decide_eq_false (by omega)
    have b5 : decide (al < 2) = false := decide_eq_false (by omega)
    have b6 : decide ((4 : Int) < al) = false := decide_eq_false (by omega)
    obtain ⟨q, hq⟩ : ∃ q, (ofC l).length = q := ⟨_, rfl⟩
    have HOF := Lib.hid (fun V (h : Below w.heap.size w V) => (show Calls Tryd.prog 22 #[.slice A n c] V fun e w' => ∃ A' c', e = .returned (.slice A' q c') ∧ CuAt w' A' (ofC l) ∧ q ≤ c' ∧ Below V.heap.size V w' from by
      have h := rof_any A l c V (hA.below h) (by omega)
      rw [hl] at h
      refine h.mono ?_
      rintro e w' ⟨v, rfl, ho, hb⟩
      obtain ⟨A', c', rfl, hcu, hle⟩ := own_reads ho rfl
      rw [hq] at hle ⊢
      exact ⟨A', c', rfl, hcu, hle, hb⟩))
    by_cases hbad2 : x.f < 0 ∨ x.s < x.f ∨ x.t < x.s ∨ (q : Int) < x.t
    · have he : errP n n (ofC l).length x para W al = 4 := by
        unfold errP
        rw [if_neg hbad, hq, if_pos hbad2]
      have ha : ansP l lv x para W al = [] := by unfold ansP; rw [hl, hlv, he, if_neg (by decide)]
      rw [he, ha]
      clear he ha hA hB hbad
      by_cases k0 : x.f < 0
      · have e0 : decide (x.f < 0) = true := decide_eq_true k0
        clear hbad2
        go_enter Tryd.func9, Tryd.ntmps9
        go_wp2_with fail
        refine (HOF.out _ HB0.out).mono ?_
        rintro e w1 ⟨G, e', rfl, hG, hqe, hb1⟩
        obtain ⟨⟨z0, z1, z2, z3, z4⟩, -⟩ := cell5 ((hb1.block w.heap.size (by rw [HS0.out]; omega)).trans HE0.out)
        have HB1 := Lib.hid (HB0.out.trans (hb1.mono HB0.out.size))
        clear hG hb1
        go_wp2_with fail
        go_ret2
        exact ⟨_, rfl, World.ownsRow_nil _ _ _ _, HB1.out⟩
      · have e0 : decide (x.f < 0) = false := decide_eq_false k0
        by_cases k1 : x.s < x.f
        · have e1 : decide (x.s < x.f) = true := decide_eq_true k1
          clear hbad2
          go_enter Tryd.func9, Tryd.ntmps9
          go_wp2_with fail
          refine (HOF.out _ HB0.out).mono ?_
          rintro e w1 ⟨G, e', rfl, hG, hqe, hb1⟩
          obtain ⟨⟨z0, z1, z2, z3, z4⟩, -⟩ := cell5 ((hb1.block w.heap.size (by rw [HS0.out]; omega)).trans HE0.out)
          have HB1 := Lib.hid (HB0.out.trans (hb1.mono HB0.out.size))
          clear hG hb1
          go_wp2_with fail
          go_ret2
          exact ⟨_, rfl, World.ownsRow_nil _ _ _ _, HB1.out⟩
        · have e1 : decide (x.s < x.f) = false := decide_eq_false k1
          by_cases k2 : x.t < x.s
          · have e2 : decide (x.t < x.s) = true := decide_eq_true k2
            clear hbad2
            go_enter Tryd.func9, Tryd.ntmps9
            go_wp2_with fail
            refine (HOF.out _ HB0.out).mono ?_
            rintro e w1 ⟨G, e', rfl, hG, hqe, hb1⟩
            obtain ⟨⟨z0, z1, z2, z3, z4⟩, -⟩ := cell5 ((hb1.block w.heap.size (by rw [HS0.out]; omega)).trans HE0.out)
            have HB1 := Lib.hid (HB0.out.trans (hb1.mono HB0.out.size))
            clear hG hb1
            go_wp2_with fail
            go_ret2
            exact ⟨_, rfl, World.ownsRow_nil _ _ _ _, HB1.out⟩
          · have e2 : decide (x.t < x.s) = false := decide_eq_false k2
            by_cases k3 : (q : Int) < x.t
            · have e3 : decide ((q : Int) < x.t) = true := decide_eq_true k3
              clear hbad2
              go_enter Tryd.func9, Tryd.ntmps9
              go_wp2_with fail
              refine (HOF.out _ HB0.out).mono ?_
              rintro e w1 ⟨G, e', rfl, hG, hqe, hb1⟩
              obtain ⟨⟨z0, z1, z2, z3, z4⟩, -⟩ := cell5 ((hb1.block w.heap.size (by rw [HS0.out]; omega)).trans HE0.out)
              have HB1 := Lib.hid (HB0.out.trans (hb1.mono HB0.out.size))
              clear hG hb1
              go_wp2_with fail
              go_ret2
              exact ⟨_, rfl, World.ownsRow_nil _ _ _ _, HB1.out⟩
            · have e3 : decide ((q : Int) < x.t) = false := decide_eq_false k3
              exact absurd hbad2 (by omega)
    · have he : errP n n (ofC l).length x para W al = 0 := by
        unfold errP
        rw [if_neg hbad, hq, if_neg hbad2]
      have ha : ansP l lv x para W al = slotsP l lv x para W al := by unfold ansP; rw [hl, hlv, he, if_pos rfl]
      rw [he, ha]
      have e0 : decide (x.f < 0) = false := decide_eq_false (by omega)
      have e1 : decide (x.s < x.f) = false := decide_eq_false (by omega)
      have e2 : decide (x.t < x.s) = false := decide_eq_false (by omega)
      have e3 : decide ((q : Int) < x.t) = false := decide_eq_false (by omega)
      obtain ⟨f, s, t, xh, xd, rfl, h1, h2, h3⟩ : ∃ (f s t : Nat) (xh xd : Int), x = ⟨f, t, s, xh, xd⟩ ∧ f ≤ s ∧ s ≤ t ∧ t ≤ q := ⟨x.f.toNat, x.s.toNat, x.t.toNat, x.h, x.d, by
        obtain ⟨xf, xt, xs, xh, xd⟩ := x
        simp only at hbad2 ⊢
        congr <;> omega, by omega, by omega, by omega⟩
      have hF : Ftc 0 (ofC l) n := by rw [← hl]; exact ofC_ftc l
      have hqn := hF.len
      rw [hq] at hqn
      have hYw := seenP_w (l := l) (lv := lv) (x := ⟨f, t, s, xh, xd⟩) (para := para) (fun y hy => (ofC_wide l y hy).2)
      have hYl := seenP_len (l := l) (lv := lv) (C := ofC l) (x := ⟨f, t, s, xh, xd⟩) (para := para)
      simp only [Int.toNat_natCast] at hYl
      have HSEEN := Lib.hid (fun V (h : Below w.heap.size w V) G e' (hG : CuAt V G (ofC l)) (hqe : q ≤ e') => rseen_any A B G l lv (ofC l) n c d q e' f s t xh xd para V (hA.below h) (hB.below h) hG hl hlv hq hF hn hcn hdm hqe h1 h2 h3)
      unfold slotsP
      simp only
      generalize seenP l lv (ofC l) ⟨f, t, s, xh, xd⟩ para = Y at *
      have hTl := text_len hYw xd para
      have HTEXT := Lib.hid (fun V A1 B1 c1 d1 (hC : CuAt V A1 (Y.map (·.1))) (hI : IntsAt V B1 (Y.map (·.2))) => rtext_any A1 B1 Y Y.length c1 d1 xd para V hC hI rfl hYw (by omega))
      generalize textP Y xd para = TX at *
      obtain ⟨WN, hWN⟩ : ∃ WN : Nat, W = WN := ⟨W.toNat, by omega⟩
      subst hWN
      rw [Int.toNat_natCast]
      have HPAD := Lib.hid (fun V A1 c1 (hR : CuAt V A1 TX) (hc1 : TX.length ≤ c1) => rpad_any A1 TX TX.length c1 WN al V hR rfl hc1 (by omega) (by omega))
      rw [pad_len]
      clear hA hB hbad hbad2 hF hYw he ha hq
      unfold lnV at *
      go_enter Tryd.func9, Tryd.ntmps9
      go_wp2_with fail
      refine (HOF.out _ HB0.out).mono ?_
      rintro e w1 ⟨G, e', rfl, hG, hqe, hb1⟩
      have HLN := Lib.hid ((hb1.block w.heap.size (by rw [HS0.out]; omega)).trans HE0.out)
      have HB1 := Lib.hid (HB0.out.trans (hb1.mono HB0.out.size))
      have HGQ := Lib.hid (And.intro hG hqe)
      obtain ⟨⟨z0, z1, z2, z3, z4⟩, -⟩ := cell5 HLN.out
      have hw1b : w.heap.size < w1.heap.size := by have := hb1.size; have := HS0.out; omega
      have HSE := Lib.hid (fun V (h : Below w1.heap.size w1 V) => HSEEN.out V (HB1.out.trans (h.mono HB1.out.size)) G e' (HGQ.out.1.below h) HGQ.out.2)
      have HC := Lib.hid (fun (V : World) (h : Below w1.heap.size w1 V) => (⟨(h.cell (p := ⟨w.heap.size, 0, none⟩) hw1b).trans z0, (h.cell (p := ⟨w.heap.size, 1, none⟩) hw1b).trans z1, (h.cell (p := ⟨w.heap.size, 2, none⟩) hw1b).trans z2, (h.cell (p := ⟨w.heap.size, 3, none⟩) hw1b).trans z3, (h.cell (p := ⟨w.heap.size, 4, none⟩) hw1b).trans z4, h⟩ : V.cell? ⟨w.heap.size, 0, none⟩ = some (.int .i64 f) ∧ V.cell? ⟨w.heap.size, 1, none⟩ = some (.int .i64 t) ∧ V.cell? ⟨w.heap.size, 2, none⟩ = some (.int .i64 s) ∧ V.cell? ⟨w.heap.size, 3, none⟩ = some (.int .i64 xh) ∧ V.cell? ⟨w.heap.size, 4, none⟩ = some (.int .i64 xd) ∧ Below w1.heap.size w1 V))
      clear hb1 hG hqe HSEEN HOF
      go_wp2_with fail
      have HSX := Lib.hid (fun V (h : Below w1.heap.size w1 V) => (HSE.out V h).mono (fun r w' hr => (show ∃ A1 c1 B1 d1, r = .returned (.agg #[.slice A1 Y.length c1, .slice B1 Y.length d1]) ∧ CuAt w' A1 (Y.map (·.1)) ∧ IntsAt w' B1 (Y.map (·.2)) ∧ Below V.heap.size V w' from by
        obtain ⟨v1, v2, hr1, ho1, ho2, hbb⟩ := hr
        obtain ⟨A1, c1, rfl, hcu, -⟩ := own_reads ho1 (by rw [List.length_map])
        obtain ⟨B1, d1, rfl, hin⟩ := intsAt_icl ho2 (by rw [List.length_map])
        exact ⟨A1, c1, B1, d1, hr1, hcu, hin, hbb⟩)))
      have HTX := Lib.hid (fun V A1 B1 c1 d1 (hC : CuAt V A1 (Y.map (·.1))) (hI : IntsAt V B1 (Y.map (·.2))) => (HTEXT.out V A1 B1 c1 d1 hC hI).mono (fun r w' hr => (show ∃ A2 c2, r = .returned (.slice A2 TX.length c2) ∧ CuAt w' A2 TX ∧ TX.length ≤ c2 ∧ Below V.heap.size V w' from by
        obtain ⟨v, hr1, ho1, hbb⟩ := hr
        obtain ⟨A2, c2, rfl, hcu, hle⟩ := own_reads ho1 rfl
        exact ⟨A2, c2, hr1, hcu, hle, hbb⟩)))
      go_region_held3 (fun V => V.cell? ⟨w.heap.size, 0, none⟩ = some (.int .i64 f) ∧ V.cell? ⟨w.heap.size, 1, none⟩ = some (.int .i64 t) ∧ V.cell? ⟨w.heap.size, 2, none⟩ = some (.int .i64 s) ∧ V.cell? ⟨w.heap.size, 3, none⟩ = some (.int .i64 xh) ∧ V.cell? ⟨w.heap.size, 4, none⟩ = some (.int .i64 xd) ∧ Below w1.heap.size w1 V) (first | exact HC.out _ (Below.refl _ _) | exact HC.out _ (below_drew (Below.refl _ _)) | exact HC.out _ (by assumption))
        (first
          | (go_at_call 25; ((with_reducible refine (HSX.out _ (by first | assumption | exact below_drew (Below.refl _ _))).mono ?_); rintro r w7 ⟨A1, c1, B1, d1, rfl, hcu1, hin1, hb7⟩; have hbx := slot_below (wr := w1) (by first | assumption | exact below_drew (Below.refl _ _)) hb7; clear hb7))
          | (go_at_call 24; ((with_reducible refine (HTX.out _ _ _ _ _ (by assumption) (by assumption)).mono ?_); rintro r w8 ⟨A2, c2, rfl, hcu2, hle2, hb8⟩; have hby := slot_below (wr := w1) (by assumption) hb8; clear hb8))
          | (go_at_call 23; ((with_reducible refine (HPAD.out _ _ _ (by assumption) (by assumption)).mono ?_); rintro r w9 ⟨v9, rfl, ho9, hb9⟩; have hbz := slot_below (wr := w1) (by assumption) hb9)))
      have hsz := Nat.le_trans HB1.out.size hby.size
      have HO9 := Lib.hid (Cl.ownsRow_mono ho9 hsz)
      have HB9 := Lib.hid (HB1.out.trans (hbz.mono HB1.out.size))
      clear ho9 hb9 hbx hby hbz hcu1 hin1 hcu2
      go_wp2_with fail
      go_ret2
      exact ⟨_, rfl, HO9.out, HB9.out⟩
end Go.Proofs.YtlocnjenkanmpaaDoor.Pl
