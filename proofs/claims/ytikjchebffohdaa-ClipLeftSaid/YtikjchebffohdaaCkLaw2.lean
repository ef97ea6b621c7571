/-
  Proved here: what parquetrylaw18.ClipLeft returns for every row of clusters, every row of lines, every two numbers: true. It leaves what was in memory.
-/
import Derived.Test.YtikjchebffohdaaCkAwake
set_option linter.unusedVariables false
namespace Go.Proofs.Ytikjchebffohdaa.Ck
open Go Go.RowKit Go.Lib Go.Proofs.Ytikjchebffohdaa.Ku Go.Proofs.Ytikjchebffohdaa.Wr Go.Proofs.Ytikjchebffohdaa.Arr

theorem allP_at {l : List C6} {X : List L5} {u h : Int} {i : Nat} (hi : i < nP X.length h) (hX : i < X.length) (hP : i < (allP l X u h).length) : (allP l X u h)[i] = if (i + 1 = nP X.length h ∧ nP X.length h < X.length) then cutP l X[i] u else clipP l X[i] u := by
  have e : (allP l X u h)[i]? = some (oneP l X.length u h i (X.getD i ⟨0, 0, 0, 0, 0⟩)) := by
    unfold allP
    rw [List.getElem?_map, List.getElem?_range hi]
    rfl
  rw [List.getElem?_eq_getElem hP] at e
  injection e with e
  rw [e, show X.getD i ⟨0, 0, 0, 0, 0⟩ = X[i] from by simp [List.getD, List.getElem?_eq_getElem hX]]
  unfold oneP
  have : ((i : Int) + 1 = h ∧ h < (X.length : Int)) ↔ (i + 1 = nP X.length h ∧ nP X.length h < X.length) := by unfold nP at *; omega
  simp only [this]

set_option maxHeartbeats 8000000 in
set_option maxRecDepth 1000000 in
theorem left_law18 (A : Option Addr) (l : List C6) (n c : Nat) (B : Option Addr) (X : List L5) (m d : Nat) (u h : Int) (w : World) (hR : CuAt w A l) (hl : l.length = n) (hnil : A = none → c = 0) (hc : n ≤ c) (hu : u ≤ 9223372036854775807) (hX : LiAt w B X) (hXl : X.length = m) :
    Calls Try.prog 4 #[.slice A n c, .slice B m d, .int .i64 u, .int .i64 h] w fun e w' => e = .returned (.bool true) ∧ Below w.heap.size w w' := by
  have HA := Lib.hid (fun V => awake_any V)
  by_cases h300 : 300 < n
  · have d0 : decide ((300 : Int) < (n : Int)) = true := decide_eq_true (by omega)
    have e0 : decide (300 < n) = true := decide_eq_true h300
    go_enter Try.func4, Try.ntmps4
    go_wp2_with fail
    refine (HA.out _).mono ?_
    rintro e w1 ⟨rfl, hb1⟩
    go_wp2_with fail
    go_ret
    exact ⟨rfl, hb1⟩
  have d0 : decide ((300 : Int) < (n : Int)) = false := decide_eq_false (by omega)
  have e0 : decide (300 < n) = false := decide_eq_false h300
  by_cases hm1 : 100 < m
  · have d1 : decide ((100 : Int) < (m : Int)) = true := decide_eq_true (by omega)
    have e1 : decide (100 < m) = true := decide_eq_true hm1
    go_enter Try.func4, Try.ntmps4
    go_wp2_with fail
    refine (HA.out _).mono ?_
    rintro e w1 ⟨rfl, hb1⟩
    go_wp2_with fail
    go_ret
    exact ⟨rfl, hb1⟩
  have d1 : decide ((100 : Int) < (m : Int)) = false := decide_eq_false (by omega)
  have e1 : decide (100 < m) = false := decide_eq_false hm1
  have HALL := Lib.hid (all_any A l n c X B m d u h w hR hl hnil hc (by omega) hu hX hXl (by omega))
  unfold AllPost allR at HALL
  cases hq : X.all (mayB n) with
  | false =>
    rw [hq] at HALL
    simp only [Bool.false_eq_true, if_false, List.length_nil] at HALL
    clear hR hl hnil hc hu hX hXl hq
    go_enter Try.func4, Try.ntmps4
    go_wp2_with fail
    refine HALL.out.mono ?_
    rintro e w1 ⟨A', c', rfl, hown, hb1⟩
    have HB1 := Lib.hid hb1
    clear hown hb1
    go_wp2_with fail
    refine (HA.out _).mono ?_
    rintro e w2 ⟨rfl, hb2⟩
    go_wp2_with fail
    go_ret
    exact ⟨rfl, HB1.out.trans (hb2.mono HB1.out.size)⟩
  | true =>
    rw [hq] at HALL
    simp only [if_true] at HALL
    rw [allP_len, hXl] at HALL
    have hat : ∀ i (hi : i < nP m h) (hx : i < X.length) (hp : i < (allP l X u h).length), mayB n X[i] = true ∧ (allP l X u h)[i] = if (i + 1 = nP m h ∧ nP m h < m) then cutP l X[i] u else clipP l X[i] u := fun i hi hx hp => by
      refine ⟨List.all_eq_true.1 hq _ (List.getElem_mem hx), ?_⟩
      have := allP_at (l := l) (u := u) (by rw [hXl]; exact hi) hx hp
      rwa [hXl] at this
    have hlen : (allP l X u h).length = nP m h := by rw [allP_len, hXl]
    have hmm : min (m : Int) (max h 0) = (nP m h : Int) := by unfold nP; omega
    have hNm : nP m h ≤ m := by unfold nP; omega
    have HAT := Lib.hid hat
    have HCU := Lib.hid (fun (x : L5) V (hb : Below w.heap.size w V) => pcut_any A l n c x u V (hR.below hb) hl hnil hc (by omega) hu)
    have HCL := Lib.hid (fun (x : L5) V (hb : Below w.heap.size w V) => pclip_any A l n c x u V (hR.below hb) hl hnil hc (by omega) hu)
    have HX := Lib.hid hX
    have HXL := Lib.hid hXl
    have HPL := Lib.hid hlen
    generalize allP l X u h = R at *
    generalize nP m h = N at *
    clear hR hl hnil hc hu hX hXl hq hat hlen
    unfold madeV lnV at *
    have hNi : (N : Int) ≤ (m : Int) := by omega
    go_enter Try.func4, Try.ntmps4
    go_wp2_with fail
    refine HALL.out.mono ?_
    rintro e w1 ⟨A', c', rfl, hown, hb1⟩
    obtain ⟨A2, c2, e2, hli⟩ := liAt_own (l := R) (by rw [HPL.out]; exact hown)
    rw [HPL.out] at e2
    injection e2 with e21 _ e23
    subst e21
    subst e23
    have HLI := Lib.hid hli
    have HB1 := Lib.hid hb1
    clear hown hb1 hli HALL
    go_wp2_with fail
    go_loopw [12] (fun s12 wx => ∃ i : Nat, i ≤ N ∧ s12 = .int .i64 i ∧ Below w1.heap.size w1 wx) (fun s12 _ => N - (RowKit.intOf s12).toNat)
    case atStart => exact ⟨0, Nat.zero_le _, rfl, Below.refl _ _⟩
    case round =>
      obtain ⟨i, hi, rfl, hb⟩ := hrel
      have HY := Lib.hid hb
      by_cases hlt : i < N
      · have hiX : i < X.length := by rw [HXL.out]; omega
        have hiR : i < R.length := by rw [HPL.out]; exact hlt
        obtain ⟨hmay, hans⟩ := HAT.out i hlt hiX hiR
        have hbw := HB1.out.trans (hb.mono HB1.out.size)
        obtain ⟨g, o, rfl, hg, c0, c1, c2, c3, c4⟩ := (HX.out.below hbw).at_ hiX
        have HRI := Lib.hid (fun V (hV : Below w1.heap.size w1 V) => (HLI.out.below hV).at_ hiR)
        have HXI := Lib.hid (fun V (hV : Below wr.heap.size wr V) => And.intro ((hV.cell (p := ⟨g, o + i * 5, none⟩) hg).trans c0) (And.intro ((hV.cell (p := ⟨g, o + i * 5 + 1, none⟩) hg).trans c1) (And.intro ((hV.cell (p := ⟨g, o + i * 5 + 2, none⟩) hg).trans c2) (And.intro ((hV.cell (p := ⟨g, o + i * 5 + 3, none⟩) hg).trans c3) ((hV.cell (p := ⟨g, o + i * 5 + 4, none⟩) hg).trans c4)))))
        generalize R[i] = y at *
        generalize X[i] = x at *
        have HC1 := Lib.hid (HCL.out x wr hbw)
        have HC2 := Lib.hid (fun V (hV : Below wr.heap.size wr V) => HCU.out x V (hbw.trans (hV.mono hbw.size)))
        rw [hmay] at HC1 HC2
        simp only [if_true] at HC1 HC2
        have i0 : (0 : Int) ≤ (i : Int) := by omega
        have i1 : (i : Int) < (m : Int) := by omega
        have i2 : (i : Int) < (N : Int) := by omega
        clear hb hmay hbw hiX hiR
        by_cases hcut : (i + 1 = N ∧ N < m)
        · rw [if_pos hcut] at hans
          have k1 : ((i : Int) + 1 == (N : Int)) = true := beq_iff_eq.2 (by omega)
          have k2 : decide ((N : Int) < (m : Int)) = true := decide_eq_true (by omega)
          have k2' : decide (N < m) = true := decide_eq_true hcut.2
          rw [← hans] at HC2
          generalize clipP l x u = y1 at *
          clear hcut hans
          go_wp2_with fail
          refine HC1.out.mono ?_
          rintro e w3 ⟨rfl, hb3⟩
          have hb4 := hb3.alloc hb3.size (.cells #[.int .i64 y1.f, .int .i64 y1.t, .int .i64 y1.s, .int .i64 y1.h, .int .i64 y1.d] 24)
          have HB4 := Lib.hid hb4
          have HN := Lib.hid (heap_alloc_new w3 (.cells #[.int .i64 y1.f, .int .i64 y1.t, .int .i64 y1.s, .int .i64 y1.h, .int .i64 y1.d] 24))
          have HNS := Lib.hid (show w3.heap.size < (w3.alloc (.cells #[.int .i64 y1.f, .int .i64 y1.t, .int .i64 y1.s, .int .i64 y1.h, .int .i64 y1.d] 24)).heap.size by rw [World.size_alloc]; omega)
          have HS3 := Lib.hid hb3.size
          clear c0 c1 c2 c3 c4
          obtain ⟨c0, c1, c2, c3, c4⟩ := HXI.out _ hb4
          clear hb3 hb4
          go_wp2_with fail
          refine (HC2.out _ HB4.out).mono ?_
          rintro e w4 ⟨rfl, hb5⟩
          have h5 := (hb5.block _ HNS.out).trans HN.out
          obtain ⟨⟨z0, z1, z2, z3, z4⟩, y0, yy1, y2, y3, y4⟩ := cell5 h5
          have H5 := Lib.hid (five_set (.int .i64 y.f) (.int .i64 y.t) (.int .i64 y.s) (.int .i64 y.h) (.int .i64 y.d) h5)
          have HB6 := Lib.hid (below_five (HB4.out.trans (hb5.mono HB4.out.size)) HS3.out (.int .i64 y.f) (.int .i64 y.t) (.int .i64 y.s) (.int .i64 y.h) (.int .i64 y.d))
          clear c0 c1 c2 c3 c4 hb5 h5
          go_wp2_with fail
          generalize (((((w4.setCell ⟨w3.heap.size, 0, none⟩ (.int .i64 y.f)).setCell ⟨w3.heap.size, 1, none⟩ (.int .i64 y.t)).setCell ⟨w3.heap.size, 2, none⟩ (.int .i64 y.s)).setCell ⟨w3.heap.size, 3, none⟩ (.int .i64 y.h)).setCell ⟨w3.heap.size, 4, none⟩ (.int .i64 y.d)) = W5 at *
          clear z0 z1 z2 z3 z4 y0 yy1 y2 y3 y4
          obtain ⟨⟨z0, z1, z2, z3, z4⟩, -⟩ := cell5 H5.out
          obtain ⟨g2, o2, rfl, hg2, q0, q1, q2, q3, q4⟩ := HRI.out _ (HY.out.trans (HB6.out.mono HY.out.size))
          go_quiet (fail)
          go_wp2_with fail
          exact ⟨⟨i + 1, by omega, by go_num, below_drewN (HY.out.trans (HB6.out.mono HY.out.size)) _⟩, by simp [RowKit.intOf]; omega⟩
        · rw [if_neg hcut] at hans
          rw [← hans] at HC1
          clear hans HC2
          have HC1' := Lib.hid HC1.out
          clear HC1
          rcases Nat.lt_or_ge N m with hNm2 | hNm2
          · have k1 : ((i : Int) + 1 == (N : Int)) = false := beq_eq_false_iff_ne.2 (by omega)
            clear hcut
            go_wp2_with fail
            refine HC1'.out.mono ?_
            rintro e w3 ⟨rfl, hb3⟩
            have hb4 := hb3.alloc hb3.size (.cells #[.int .i64 y.f, .int .i64 y.t, .int .i64 y.s, .int .i64 y.h, .int .i64 y.d] 24)
            have HB6 := Lib.hid hb4
            have H5 := Lib.hid (heap_alloc_new w3 (.cells #[.int .i64 y.f, .int .i64 y.t, .int .i64 y.s, .int .i64 y.h, .int .i64 y.d] 24))
            clear c0 c1 c2 c3 c4 hb3 hb4
            go_wp2_with fail
            generalize w3.alloc (.cells #[.int .i64 y.f, .int .i64 y.t, .int .i64 y.s, .int .i64 y.h, .int .i64 y.d] 24) = W5 at *
            obtain ⟨⟨z0, z1, z2, z3, z4⟩, -⟩ := cell5 H5.out
            obtain ⟨g2, o2, rfl, hg2, q0, q1, q2, q3, q4⟩ := HRI.out _ (HY.out.trans (HB6.out.mono HY.out.size))
            go_quiet (fail)
            go_wp2_with fail
            exact ⟨⟨i + 1, by omega, by go_num, below_drewN (HY.out.trans (HB6.out.mono HY.out.size)) _⟩, by simp [RowKit.intOf]; omega⟩
          · have k2 : decide ((N : Int) < (m : Int)) = false := decide_eq_false (by omega)
            have k2' : decide (N < m) = false := decide_eq_false (by omega)
            by_cases hi1 : i + 1 = N
            · have k1 : ((i : Int) + 1 == (N : Int)) = true := beq_iff_eq.2 (by omega)
              clear hcut
              go_wp2_with fail
              refine HC1'.out.mono ?_
              rintro e w3 ⟨rfl, hb3⟩
              have hb4 := hb3.alloc hb3.size (.cells #[.int .i64 y.f, .int .i64 y.t, .int .i64 y.s, .int .i64 y.h, .int .i64 y.d] 24)
              have HB6 := Lib.hid hb4
              have H5 := Lib.hid (heap_alloc_new w3 (.cells #[.int .i64 y.f, .int .i64 y.t, .int .i64 y.s, .int .i64 y.h, .int .i64 y.d] 24))
              clear c0 c1 c2 c3 c4 hb3 hb4
              go_wp2_with fail
              generalize w3.alloc (.cells #[.int .i64 y.f, .int .i64 y.t, .int .i64 y.s, .int .i64 y.h, .int .i64 y.d] 24) = W5 at *
              obtain ⟨⟨z0, z1, z2, z3, z4⟩, -⟩ := cell5 H5.out
              obtain ⟨g2, o2, rfl, hg2, q0, q1, q2, q3, q4⟩ := HRI.out _ (HY.out.trans (HB6.out.mono HY.out.size))
              go_quiet (fail)
              go_wp2_with fail
              exact ⟨⟨i + 1, by omega, by go_num, below_drewN (HY.out.trans (HB6.out.mono HY.out.size)) _⟩, by simp [RowKit.intOf]; omega⟩
            · have k1 : ((i : Int) + 1 == (N : Int)) = false := beq_eq_false_iff_ne.2 (by omega)
              clear hcut
              go_wp2_with fail
              refine HC1'.out.mono ?_
              rintro e w3 ⟨rfl, hb3⟩
              have hb4 := hb3.alloc hb3.size (.cells #[.int .i64 y.f, .int .i64 y.t, .int .i64 y.s, .int .i64 y.h, .int .i64 y.d] 24)
              have HB6 := Lib.hid hb4
              have H5 := Lib.hid (heap_alloc_new w3 (.cells #[.int .i64 y.f, .int .i64 y.t, .int .i64 y.s, .int .i64 y.h, .int .i64 y.d] 24))
              clear c0 c1 c2 c3 c4 hb3 hb4
              go_wp2_with fail
              generalize w3.alloc (.cells #[.int .i64 y.f, .int .i64 y.t, .int .i64 y.s, .int .i64 y.h, .int .i64 y.d] 24) = W5 at *
              obtain ⟨⟨z0, z1, z2, z3, z4⟩, -⟩ := cell5 H5.out
              obtain ⟨g2, o2, rfl, hg2, q0, q1, q2, q3, q4⟩ := HRI.out _ (HY.out.trans (HB6.out.mono HY.out.size))
              go_quiet (fail)
              go_wp2_with fail
              exact ⟨⟨i + 1, by omega, by go_num, below_drewN (HY.out.trans (HB6.out.mono HY.out.size)) _⟩, by simp [RowKit.intOf]; omega⟩
      · obtain rfl : i = N := by omega
        have j1 : decide ((i : Int) < (i : Int)) = false := decide_eq_false (by omega)
        clear hb
        go_wp2_with fail
        refine (HA.out _).mono ?_
        rintro e w2 ⟨rfl, hb2⟩
        go_wp2_with fail
        go_ret
        exact ⟨rfl, HB1.out.trans ((HY.out.trans (hb2.mono HY.out.size)).mono HB1.out.size)⟩
end Go.Proofs.Ytikjchebffohdaa.Ck
