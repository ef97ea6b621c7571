/-
  Proved here: what parquetrylaw18.ClipFits returns for every row of clusters, every line, every number: true. It leaves what was in memory.
-/
import Derived.Test.YtikjchebffohdaaCkAwake
import Derived.Test.YtikjchebffohdaaWrMore
set_option linter.unusedVariables false
namespace Go.Proofs.Ytikjchebffohdaa.Ck
open Go Go.RowKit Go.Lib Go.Proofs.Ytikjchebffohdaa.Ku Go.Proofs.Ytikjchebffohdaa.Wr Go.Proofs.Ytikjchebffohdaa.Arr

/-- What is asked of a line that was made of another one. -/
def goodP (l : List C6) (n f s t : Nat) (xh u : Int) (sy : Nat) (dy : Int) : Prop := f ≤ sy ∧ sy ≤ s ∧ mayB n ⟨f, t, sy, xh, dy⟩ = true ∧ wideP l ⟨f, t, sy, xh, dy⟩ ≤ u ∧ ((dy = 0 ∧ sy = s) ∨ (dy = 1 ∧ (sy < s → moreK (Wd l) (sy + 1 - f) f (u - 1) = true)))
theorem good_cut {l : List C6} {n f s t : Nat} {xh xd u : Int} (h : mayB n ⟨f, t, s, xh, xd⟩ = true) (h1 : 1 ≤ u) (h2 : u ≤ 1073741824) : goodP l n f s t xh u (eP l ⟨f, t, s, xh, xd⟩ (u - 1)) 1 := by
  have hw := wide_cut (l := l) h h1 h2
  have hm := may_cut (l := l) h u
  unfold cutP at hw hm
  rw [show max u 0 - 1 = u - 1 from by omega] at hw hm
  have he := eP_le (l := l) h (u - 1)
  simp only at he
  refine ⟨by omega, by omega, hm, hw, .inr ⟨rfl, fun hlt => ?_⟩⟩
  have := more_cut (l := l) (w := u - 1) h rfl (by simp only; omega)
  simpa using this
theorem good_fit {l : List C6} {n f s t : Nat} {xh xd u : Int} (h : mayB n ⟨f, t, s, xh, xd⟩ = true) (h1 : 1 ≤ u) (h2 : u ≤ 1073741824) (hF : fitsP l ⟨f, t, s, xh, xd⟩ u = true) : goodP l n f s t xh u s 0 := by
  obtain ⟨f', s', t', e1, e2, e3, k1, k2, k3⟩ := mayB_is h
  simp only at e1 e2 e3
  exact ⟨by omega, Nat.le_refl _, mayB_shorter h (by simp only; omega) (Int.le_refl _) _ _, wide_fit h h1 h2 hF _, .inl ⟨rfl, rfl⟩⟩

set_option maxHeartbeats 8000000 in
set_option maxRecDepth 1000000 in
theorem fits_law18 (A : Option Addr) (l : List C6) (n c : Nat) (x : L5) (u : Int) (w : World) (hR : CuAt w A l) (hl : l.length = n) (hnil : A = none → c = 0) (hc : n ≤ c) :
    Calls Try.prog 3 #[.slice A n c, lnV x, .int .i64 u] w fun e w' => e = .returned (.bool true) ∧ Below w.heap.size w w' := by
  have HA := Lib.hid (fun V => awake_any V)
  have HB0 := Lib.hid ((Below.refl w.heap.size w).alloc (Nat.le_refl _) (.cells #[.int .i64 x.f, .int .i64 x.t, .int .i64 x.s, .int .i64 x.h, .int .i64 x.d] 24))
  by_cases h300 : 300 < n
  · have d0 : decide ((300 : Int) < (n : Int)) = true := decide_eq_true (by omega)
    have e0 : decide (300 < n) = true := decide_eq_true h300
    unfold lnV
    go_enter Try.func3, Try.ntmps3
    go_wp2_with fail
    refine (HA.out _).mono ?_
    rintro e w1 ⟨rfl, hb1⟩
    go_wp2_with fail
    go_ret
    exact ⟨rfl, HB0.out.trans (hb1.mono HB0.out.size)⟩
  have d0 : decide ((300 : Int) < (n : Int)) = false := decide_eq_false (by omega)
  have e0 : decide (300 < n) = false := decide_eq_false h300
  by_cases hu1 : u < 1
  · have d1 : decide (u < 1) = true := decide_eq_true hu1
    unfold lnV
    go_enter Try.func3, Try.ntmps3
    go_wp2_with fail
    refine (HA.out _).mono ?_
    rintro e w1 ⟨rfl, hb1⟩
    go_wp2_with fail
    go_ret
    exact ⟨rfl, HB0.out.trans (hb1.mono HB0.out.size)⟩
  have d1 : decide (u < 1) = false := decide_eq_false hu1
  by_cases hu2 : 1073741824 < u
  · have d2 : decide ((1073741824 : Int) < u) = true := decide_eq_true hu2
    unfold lnV
    go_enter Try.func3, Try.ntmps3
    go_wp2_with fail
    refine (HA.out _).mono ?_
    rintro e w1 ⟨rfl, hb1⟩
    go_wp2_with fail
    go_ret
    exact ⟨rfl, HB0.out.trans (hb1.mono HB0.out.size)⟩
  have d2 : decide ((1073741824 : Int) < u) = false := decide_eq_false hu2
  have HMAY := Lib.hid (fun V => pmay_any A n c x V (by omega))
  cases hm : mayB n x with
  | false =>
    rw [hm] at HMAY
    unfold lnV at *
    go_enter Try.func3, Try.ntmps3
    go_wp2_with fail
    refine (HMAY.out _).mono ?_
    rintro e w1 ⟨rfl, hb1⟩
    have HB1 := Lib.hid (HB0.out.trans (hb1.mono HB0.out.size))
    clear hb1
    go_wp2_with fail
    refine (HA.out _).mono ?_
    rintro e w2 ⟨rfl, hb2⟩
    go_wp2_with fail
    go_ret
    exact ⟨rfl, HB1.out.trans (hb2.mono HB1.out.size)⟩
  | true =>
    rw [hm] at HMAY
    obtain ⟨f, s, t, hf, hs, ht, k1, k2, k3⟩ := mayB_is hm
    obtain ⟨xf, xt, xs, xh, xd⟩ := x
    simp only at hf hs ht
    subst hf hs ht
    have hgc := good_cut (l := l) (u := u) hm (by omega) (by omega)
    obtain ⟨sb, hsb⟩ : ∃ sb, eP l ⟨f, t, s, xh, xd⟩ (u - 1) = sb := ⟨_, rfl⟩
    rw [hsb] at hgc
    have hcut : cutP l ⟨f, t, s, xh, xd⟩ u = ⟨f, t, sb, xh, 1⟩ := by
      unfold cutP
      rw [show max u 0 - 1 = u - 1 from by omega, hsb]
    have HCU := Lib.hid (fun V (h : Below w.heap.size w V) => pcut_any A l n c ⟨f, t, s, xh, xd⟩ u V (hR.below h) hl hnil hc (by omega) (by omega))
    have HCL := Lib.hid (fun V (h : Below w.heap.size w V) => pclip_any A l n c ⟨f, t, s, xh, xd⟩ u V (hR.below h) hl hnil hc (by omega) (by omega))
    have HWD := Lib.hid (fun (sy : Nat) (dy : Int) (hy : mayB n ⟨f, t, sy, xh, dy⟩ = true) V (h : Below w.heap.size w V) => (show Calls Try.prog 9 #[.slice A n c, lnV ⟨f, t, sy, xh, dy⟩] V fun e w' => e = .returned (.int .i64 (wideP l ⟨f, t, sy, xh, dy⟩)) ∧ Below V.heap.size V w' from by
      have h := pwide_any A l n c ⟨f, t, sy, xh, dy⟩ V (hR.below h) hl hnil hc (by omega)
      rwa [hy, if_pos rfl] at h))
    have hX0 : (w.alloc (.cells #[.int .i64 f, .int .i64 t, .int .i64 s, .int .i64 xh, .int .i64 xd] 24)).heap[w.heap.size]? = some (.cells #[.int .i64 f, .int .i64 t, .int .i64 s, .int .i64 xh, .int .i64 xd] 24 (0, 0)) := heap_alloc_new w _
    have HX0 := Lib.hid hX0
    have hXS : w.heap.size < (w.alloc (.cells #[.int .i64 f, .int .i64 t, .int .i64 s, .int .i64 xh, .int .i64 xd] 24)).heap.size := by rw [World.size_alloc]; omega
    have HXS := Lib.hid hXS
    rw [hm, hcut] at HCU
    have HMO := Lib.hid (fun (sy : Nat) (h1 : sy < s) (h2 : f ≤ sy) (cc : Nat) V (h : Below w.heap.size w V) => (show ∀ g off, A = some ⟨g, off, none⟩ → Calls Try.prog 10 #[.slice (some ⟨g, off + f * 6, none⟩) (sy + 1 - f) cc, .int .i64 (u - 1)] V fun e w' => e = .returned (.bool (moreK (Wd l) (sy + 1 - f) f (u - 1))) ∧ w' = V from fun g off hA => by
      subst hA
      have h := rmore_any (some ⟨g, off + f * 6, none⟩) ((l.drop f).take (sy + 1 - f)) (sy + 1 - f) cc (u - 1) V (cu_part (hR.below h) f (sy + 1 - f) (by omega)) (part_len (by omega)) (by omega) (by omega)
      rw [more_part] at h
      exact h))
    have HAD := Lib.hid (fun (h : f < s) => (show ∃ g off, A = some ⟨g, off, none⟩ from by
      obtain ⟨g, off, e, -⟩ := hR.at_ (show 0 < l.length by omega)
      exact ⟨g, off, e⟩))
    cases hq : fitsP l ⟨f, t, s, xh, xd⟩ u with
    | true =>
      have HGOOD := Lib.hid (And.intro (good_fit (l := l) (u := u) hm (by omega) (by omega) hq) hgc)
      have hclip : clipP l ⟨f, t, s, xh, xd⟩ u = ⟨f, t, s, xh, 0⟩ := by unfold clipP; rw [if_pos hq]
      rw [hm, hclip] at HCL
      have HAG := Lib.hid (fun V (h : Below w.heap.size w V) => (show Calls Try.prog 7 #[.slice A n c, lnV ⟨f, t, s, xh, 0⟩, .int .i64 u] V fun e w' => ∃ yl : L5, e = .returned (.tuple #[lnV yl, .int .i64 0]) ∧ yl = ⟨f, t, s, xh, 0⟩ ∧ Below V.heap.size V w' from by
        have h1 := pclip_any A l n c ⟨f, t, s, xh, 0⟩ u V (hR.below h) hl hnil hc (by omega) (by omega)
        have hma : mayB n ⟨f, t, s, xh, 0⟩ = true := (HGOOD.out.1).2.2.1
        rw [hma, clip_again (x := ⟨f, t, s, xh, xd⟩) hq xh] at h1
        refine h1.mono ?_
        rintro e w' ⟨rfl, hb⟩
        exact ⟨_, rfl, rfl, hb⟩))
      clear hR hl hnil hm hgc hcut hX0 hXS hq hclip hsb
      unfold madeV lnV at *
      simp only [if_true] at HCL HCU
      go_enter Try.func3, Try.ntmps3
      go_wp2_with fail
      refine (HMAY.out _).mono ?_
      rintro e w1 ⟨rfl, hb1⟩
      have HB1 := Lib.hid (HB0.out.trans (hb1.mono HB0.out.size))
      have HX1 := Lib.hid (fun V (h : Below w1.heap.size w1 V) => (h.block _ (Nat.lt_of_lt_of_le HXS.out hb1.size)).trans ((hb1.block _ HXS.out).trans HX0.out))
      obtain ⟨⟨z0, z1, z2, z3, z4⟩, -⟩ := cell5 (HX1.out _ (Below.refl _ _))
      clear hb1
      go_wp2_with fail
      refine (HCL.out _ HB1.out).mono ?_
      rintro e w2 ⟨rfl, hb2⟩
      have hw2 : Below w1.heap.size w1 (w2.alloc (.cells #[.int .i64 f, .int .i64 t, .int .i64 s, .int .i64 xh, .int .i64 0] 24)) := hb2.alloc hb2.size _
      have HB2 := Lib.hid (HB1.out.trans (hw2.mono HB1.out.size))
      have HG2 := Lib.hid hw2
      clear hw2 z0 z1 z2 z3 z4
      obtain ⟨⟨z0, z1, z2, z3, z4⟩, -⟩ := cell5 (HX1.out _ HG2.out)
      have HA2 := Lib.hid (fun V (h : Below (w2.alloc (.cells #[.int .i64 f, .int .i64 t, .int .i64 s, .int .i64 xh, .int .i64 0] 24)).heap.size (w2.alloc (.cells #[.int .i64 f, .int .i64 t, .int .i64 s, .int .i64 xh, .int .i64 0] 24)) V) => (h.block w2.heap.size (by rw [World.size_alloc]; omega)).trans (heap_alloc_new w2 _))
      clear hb2
      go_wp2_with fail
      refine (HCU.out _ HB2.out).mono ?_
      rintro e w3 ⟨rfl, hb3⟩
      have hw3 : Below (w2.alloc (.cells #[.int .i64 f, .int .i64 t, .int .i64 s, .int .i64 xh, .int .i64 0] 24)).heap.size (w2.alloc (.cells #[.int .i64 f, .int .i64 t, .int .i64 s, .int .i64 xh, .int .i64 0] 24)) (w3.alloc (.cells #[.int .i64 f, .int .i64 t, .int .i64 sb, .int .i64 xh, .int .i64 1] 24)) := hb3.alloc hb3.size _
      have HG3 := Lib.hid hw3
      obtain ⟨⟨y0, y1, y2, y3, y4⟩, -⟩ := cell5 (HA2.out _ hw3)
      have HB3 := Lib.hid (fun V (h : Below (w3.alloc (.cells #[.int .i64 f, .int .i64 t, .int .i64 sb, .int .i64 xh, .int .i64 1] 24)).heap.size (w3.alloc (.cells #[.int .i64 f, .int .i64 t, .int .i64 sb, .int .i64 xh, .int .i64 1] 24)) V) => (h.block w3.heap.size (by rw [World.size_alloc]; omega)).trans (heap_alloc_new w3 _))
      obtain ⟨⟨v0, v1, v2, v3, v4⟩, -⟩ := cell5 (HB3.out _ (Below.refl _ _))
      clear hb3 hw3 z0 z1 z2 z3 z4
      go_wp2_with fail
      have hv : Below (w3.alloc (.cells #[.int .i64 f, .int .i64 t, .int .i64 sb, .int .i64 xh, .int .i64 1] 24)).heap.size (w3.alloc (.cells #[.int .i64 f, .int .i64 t, .int .i64 sb, .int .i64 xh, .int .i64 1] 24)) ((w3.alloc (.cells #[.int .i64 f, .int .i64 t, .int .i64 sb, .int .i64 xh, .int .i64 1] 24)).alloc (.cells #[.int .i64 f, .int .i64 t, .int .i64 s, .int .i64 xh, .int .i64 0, .int .i64 f, .int .i64 t, .int .i64 sb, .int .i64 xh, .int .i64 1] 24)) := (Below.refl _ _).alloc (Nat.le_refl _) _
      have hs3 : (w3.alloc (.cells #[.int .i64 f, .int .i64 t, .int .i64 sb, .int .i64 xh, .int .i64 1] 24)).heap.size = w3.heap.size + 1 := by rw [World.size_alloc]
      have HRW := Lib.hid (fun V (h : Below ((w3.alloc (.cells #[.int .i64 f, .int .i64 t, .int .i64 sb, .int .i64 xh, .int .i64 1] 24)).alloc (.cells #[.int .i64 f, .int .i64 t, .int .i64 s, .int .i64 xh, .int .i64 0, .int .i64 f, .int .i64 t, .int .i64 sb, .int .i64 xh, .int .i64 1] 24)).heap.size ((w3.alloc (.cells #[.int .i64 f, .int .i64 t, .int .i64 sb, .int .i64 xh, .int .i64 1] 24)).alloc (.cells #[.int .i64 f, .int .i64 t, .int .i64 s, .int .i64 xh, .int .i64 0, .int .i64 f, .int .i64 t, .int .i64 sb, .int .i64 xh, .int .i64 1] 24)) V) => (show V.heap[w3.heap.size + 1]? = some (.cells #[.int .i64 f, .int .i64 t, .int .i64 s, .int .i64 xh, .int .i64 0, .int .i64 f, .int .i64 t, .int .i64 sb, .int .i64 xh, .int .i64 1] 24 (0, 0)) from by
        have h1 := heap_alloc_new (w3.alloc (.cells #[.int .i64 f, .int .i64 t, .int .i64 sb, .int .i64 xh, .int .i64 1] 24)) (.cells #[.int .i64 f, .int .i64 t, .int .i64 s, .int .i64 xh, .int .i64 0, .int .i64 f, .int .i64 t, .int .i64 sb, .int .i64 xh, .int .i64 1] 24)
        rw [hs3] at h1
        exact (h.block (w3.heap.size + 1) (by rw [World.size_alloc, hs3]; omega)).trans h1))
      have HALLV := Lib.hid (fun V (h : Below ((w3.alloc (.cells #[.int .i64 f, .int .i64 t, .int .i64 sb, .int .i64 xh, .int .i64 1] 24)).alloc (.cells #[.int .i64 f, .int .i64 t, .int .i64 s, .int .i64 xh, .int .i64 0, .int .i64 f, .int .i64 t, .int .i64 sb, .int .i64 xh, .int .i64 1] 24)).heap.size ((w3.alloc (.cells #[.int .i64 f, .int .i64 t, .int .i64 sb, .int .i64 xh, .int .i64 1] 24)).alloc (.cells #[.int .i64 f, .int .i64 t, .int .i64 s, .int .i64 xh, .int .i64 0, .int .i64 f, .int .i64 t, .int .i64 sb, .int .i64 xh, .int .i64 1] 24)) V) => (show V.heap[w.heap.size]? = some (.cells #[.int .i64 f, .int .i64 t, .int .i64 s, .int .i64 xh, .int .i64 xd] 24 (0, 0)) ∧ V.heap[w2.heap.size]? = some (.cells #[.int .i64 f, .int .i64 t, .int .i64 s, .int .i64 xh, .int .i64 0] 24 (0, 0)) ∧ Below w.heap.size w V from by
        have h3 := hv.trans (h.mono hv.size)
        have h2 := HG3.out.trans (h3.mono HG3.out.size)
        exact ⟨HX1.out _ (HG2.out.trans (h2.mono HG2.out.size)), HA2.out _ h2, HB2.out.trans (h2.mono HB2.out.size)⟩))
      clear hv hs3 y0 y1 y2 y3 y4 v0 v1 v2 v3 v4 HX1 HG2 HA2 HG3 HB3 HB2 HB1
      generalize ((w3.alloc (.cells #[.int .i64 f, .int .i64 t, .int .i64 sb, .int .i64 xh, .int .i64 1] 24)).alloc (.cells #[.int .i64 f, .int .i64 t, .int .i64 s, .int .i64 xh, .int .i64 0, .int .i64 f, .int .i64 t, .int .i64 sb, .int .i64 xh, .int .i64 1] 24)) = U0 at *
      go_loopw [12] (fun s12 wx => ∃ i : Nat, i ≤ 2 ∧ s12 = .int .i64 i ∧ Below U0.heap.size U0 wx) (fun s12 _ => 2 - (RowKit.intOf s12).toNat)
      case atStart => exact ⟨0, by omega, rfl, Below.refl _ _⟩
      case round =>
        obtain ⟨i, hi, rfl, hb⟩ := hrel
        have HY := Lib.hid hb
        by_cases hlt : i < 2
        · obtain ⟨ex, -, -⟩ := HALLV.out _ hb
          obtain ⟨⟨z0, z1, z2, z3, z4⟩, -⟩ := cell5 ex
          obtain ⟨sy, dy, hgy, c0, c1, c2, c3, c4⟩ : ∃ (sy : Nat) (dy : Int), goodP l n f s t xh u sy dy ∧ wr.cell? ⟨w3.heap.size + 1, i * 5, none⟩ = some (.int .i64 f) ∧ wr.cell? ⟨w3.heap.size + 1, i * 5 + 1, none⟩ = some (.int .i64 t) ∧ wr.cell? ⟨w3.heap.size + 1, i * 5 + 2, none⟩ = some (.int .i64 sy) ∧ wr.cell? ⟨w3.heap.size + 1, i * 5 + 3, none⟩ = some (.int .i64 xh) ∧ wr.cell? ⟨w3.heap.size + 1, i * 5 + 4, none⟩ = some (.int .i64 dy) := by
            have hrow := HRW.out _ hb
            rcases i with _ | _ | i
            · exact ⟨s, 0, HGOOD.out.1, cell_of_row _ _ 0 _ _ _ hrow, cell_of_row _ _ 1 _ _ _ hrow, cell_of_row _ _ 2 _ _ _ hrow, cell_of_row _ _ 3 _ _ _ hrow, cell_of_row _ _ 4 _ _ _ hrow⟩
            · exact ⟨sb, 1, HGOOD.out.2, cell_of_row _ _ 5 _ _ _ hrow, cell_of_row _ _ 6 _ _ _ hrow, cell_of_row _ _ 7 _ _ _ hrow, cell_of_row _ _ 8 _ _ _ hrow, cell_of_row _ _ 9 _ _ _ hrow⟩
            · omega
          obtain ⟨g1, g2, g3, g4, g5⟩ := hgy
          have i0 : (0 : Int) ≤ (i : Int) := by omega
          have i1 : (i : Int) < 2 := by omega
          have t1 : decide ((sy : Int) < (f : Int)) = false := decide_eq_false (by omega)
          have t1' : decide (sy < f) = false := decide_eq_false (by omega)
          have t2 : decide ((s : Int) < (sy : Int)) = false := decide_eq_false (by omega)
          have t2' : decide (s < sy) = false := decide_eq_false (by omega)
          have HWY := Lib.hid (HWD.out sy dy g3)
          have hby : Below U0.heap.size U0 (wr.alloc (.cells #[.int .i64 f, .int .i64 t, .int .i64 sy, .int .i64 xh, .int .i64 dy] 24)) := hb.alloc HY.out.size _
          have HBY := Lib.hid hby
          have HNEW := Lib.hid (fun V (h : Below (wr.alloc (.cells #[.int .i64 f, .int .i64 t, .int .i64 sy, .int .i64 xh, .int .i64 dy] 24)).heap.size (wr.alloc (.cells #[.int .i64 f, .int .i64 t, .int .i64 sy, .int .i64 xh, .int .i64 dy] 24)) V) => (show V.heap[wr.heap.size]? = some (.cells #[.int .i64 f, .int .i64 t, .int .i64 sy, .int .i64 xh, .int .i64 dy] 24 (0, 0)) from (h.block wr.heap.size (by rw [World.size_alloc]; omega)).trans (heap_alloc_new wr _)))
          have t3 : decide (u < wideP l ⟨f, t, sy, xh, dy⟩) = false := decide_eq_false (by omega)
          generalize wideP l ⟨f, t, sy, xh, dy⟩ = z at *
          obtain ⟨ey, -, -⟩ := HALLV.out _ hby
          obtain ⟨⟨p0, p1, p2, p3, p4⟩, -⟩ := cell5 ey
          clear hb hby ex ey g3 g4
          go_wp2_with fail
          refine (HWY.out _ (HALLV.out _ HBY.out).2.2).mono ?_
          rintro e w4 ⟨rfl, hb4⟩
          have HB4 := Lib.hid (HBY.out.trans (hb4.mono HBY.out.size))
          obtain ⟨⟨y0, y1, y2, y3, y4⟩, -⟩ := cell5 (HNEW.out _ hb4)
          obtain ⟨ex, -, -⟩ := HALLV.out _ HB4.out
          clear z0 z1 z2 z3 z4 c0 c1 c2 c3 c4 p0 p1 p2 p3 p4 hb4 HNEW
          obtain ⟨⟨z0, z1, z2, z3, z4⟩, -⟩ := cell5 ex
          clear ex
          rcases g5 with ⟨rfl, rfl⟩ | ⟨rfl, gm⟩
          · go_wp2_with fail
            exact ⟨⟨i + 1, by omega, by go_num, HB4.out⟩, by simp [RowKit.intOf]; omega⟩
          · by_cases hss : sy < s
            · have t5 : decide ((sy : Int) < (s : Int)) = true := decide_eq_true (by omega)
              have t5' : decide (sy < s) = true := decide_eq_true hss
              obtain ⟨g, off, rfl⟩ := HAD.out (by omega)
              have HM1 := Lib.hid (fun cc => HMO.out sy hss g1 cc w4 (HALLV.out _ HB4.out).2.2 g off rfl)
              rw [gm hss] at HM1
              have k0 : (0 : Int) ≤ (f : Int) := by omega
              have k1 : (f : Int) ≤ (sy : Int) + 1 := by omega
              have k2 : (sy : Int) + 1 ≤ (c : Int) := by omega
              have k3 : (f : Int) < (c : Int) := by omega
              have k4 : f < c := by omega
              have k5 : ¬ c = f := by omega
              have k6 : IntKind.i64.wrap ((sy : Int) + 1) = (sy : Int) + 1 := IntWalk.i64_in _ (by omega)
              have k7 : IntKind.i64.wrap (u - 1) = u - 1 := IntWalk.i64_in _ (by omega)
              have k8 : ((sy : Int) + 1 - (f : Int)) = ((sy + 1 - f : Nat) : Int) := by omega
              clear gm
              go_wp2_with fail
              refine (HM1.out _).mono ?_
              rintro e w5 ⟨rfl, rfl⟩
              go_wp2_with fail
              exact ⟨⟨i + 1, by omega, by go_num, HB4.out⟩, by simp [RowKit.intOf]; omega⟩
            · have t5 : decide ((sy : Int) < (s : Int)) = false := decide_eq_false (by omega)
              have t5' : decide (sy < s) = false := decide_eq_false hss
              go_wp2_with fail
              exact ⟨⟨i + 1, by omega, by go_num, HB4.out⟩, by simp [RowKit.intOf]; omega⟩
        · obtain rfl : i = 2 := by omega
          obtain ⟨-, ea, hbw⟩ := HALLV.out _ hb
          obtain ⟨⟨z0, z1, z2, z3, z4⟩, -⟩ := cell5 ea
          clear hb ea hbw
          go_wp2_with fail
          refine (HAG.out _ (HALLV.out _ HY.out).2.2).mono ?_
          rintro e w6 ⟨yl, rfl, hyl, hb6⟩
          have HB6 := Lib.hid (HY.out.trans (hb6.mono HY.out.size))
          have HB7 := Lib.hid (HB6.out.alloc HB6.out.size (.cells #[.int .i64 yl.f, .int .i64 yl.t, .int .i64 yl.s, .int .i64 yl.h, .int .i64 yl.d] 24))
          obtain ⟨-, ea, -⟩ := HALLV.out _ HB7.out
          clear hb6 z0 z1 z2 z3 z4
          obtain ⟨⟨z0, z1, z2, z3, z4⟩, -⟩ := cell5 ea
          clear ea
          subst hyl
          go_wp2_with fail
          refine (HA.out _).mono ?_
          rintro e w8 ⟨rfl, hb8⟩
          have hfin := (HALLV.out _ (HB7.out.trans (hb8.mono HB7.out.size))).2.2
          go_wp2_with fail
          go_ret
          exact ⟨rfl, hfin⟩
    | false =>
      have HGOOD := Lib.hid (And.intro hgc hgc)
      have hclip : clipP l ⟨f, t, s, xh, xd⟩ u = ⟨f, t, sb, xh, 1⟩ := by unfold clipP; rw [if_neg (by rw [hq]; decide), hcut]
      rw [hm, hclip] at HCL
      have HAG := Lib.hid (fun V (h : Below w.heap.size w V) => (show Calls Try.prog 7 #[.slice A n c, lnV ⟨f, t, sb, xh, 1⟩, .int .i64 u] V fun e w' => ∃ yl : L5, e = .returned (.tuple #[lnV yl, .int .i64 0]) ∧ True ∧ Below V.heap.size V w' from by
        have h1 := pclip_any A l n c ⟨f, t, sb, xh, 1⟩ u V (hR.below h) hl hnil hc (by omega) (by omega)
        have hma : mayB n ⟨f, t, sb, xh, 1⟩ = true := (HGOOD.out.1).2.2.1
        rw [hma] at h1
        refine h1.mono ?_
        rintro e w' ⟨rfl, hb⟩
        exact ⟨_, rfl, trivial, hb⟩))
      clear hR hl hnil hm hgc hcut hX0 hXS hq hclip hsb
      unfold madeV lnV at *
      simp only [if_true] at HCL HCU
      go_enter Try.func3, Try.ntmps3
      go_wp2_with fail
      refine (HMAY.out _).mono ?_
      rintro e w1 ⟨rfl, hb1⟩
      have HB1 := Lib.hid (HB0.out.trans (hb1.mono HB0.out.size))
      have HX1 := Lib.hid (fun V (h : Below w1.heap.size w1 V) => (h.block _ (Nat.lt_of_lt_of_le HXS.out hb1.size)).trans ((hb1.block _ HXS.out).trans HX0.out))
      obtain ⟨⟨z0, z1, z2, z3, z4⟩, -⟩ := cell5 (HX1.out _ (Below.refl _ _))
      clear hb1
      go_wp2_with fail
      refine (HCL.out _ HB1.out).mono ?_
      rintro e w2 ⟨rfl, hb2⟩
      have hw2 : Below w1.heap.size w1 (w2.alloc (.cells #[.int .i64 f, .int .i64 t, .int .i64 sb, .int .i64 xh, .int .i64 1] 24)) := hb2.alloc hb2.size _
      have HB2 := Lib.hid (HB1.out.trans (hw2.mono HB1.out.size))
      have HG2 := Lib.hid hw2
      clear hw2 z0 z1 z2 z3 z4
      obtain ⟨⟨z0, z1, z2, z3, z4⟩, -⟩ := cell5 (HX1.out _ HG2.out)
      have HA2 := Lib.hid (fun V (h : Below (w2.alloc (.cells #[.int .i64 f, .int .i64 t, .int .i64 sb, .int .i64 xh, .int .i64 1] 24)).heap.size (w2.alloc (.cells #[.int .i64 f, .int .i64 t, .int .i64 sb, .int .i64 xh, .int .i64 1] 24)) V) => (h.block w2.heap.size (by rw [World.size_alloc]; omega)).trans (heap_alloc_new w2 _))
      clear hb2
      go_wp2_with fail
      refine (HCU.out _ HB2.out).mono ?_
      rintro e w3 ⟨rfl, hb3⟩
      have hw3 : Below (w2.alloc (.cells #[.int .i64 f, .int .i64 t, .int .i64 sb, .int .i64 xh, .int .i64 1] 24)).heap.size (w2.alloc (.cells #[.int .i64 f, .int .i64 t, .int .i64 sb, .int .i64 xh, .int .i64 1] 24)) (w3.alloc (.cells #[.int .i64 f, .int .i64 t, .int .i64 sb, .int .i64 xh, .int .i64 1] 24)) := hb3.alloc hb3.size _
      have HG3 := Lib.hid hw3
      obtain ⟨⟨y0, y1, y2, y3, y4⟩, -⟩ := cell5 (HA2.out _ hw3)
      have HB3 := Lib.hid (fun V (h : Below (w3.alloc (.cells #[.int .i64 f, .int .i64 t, .int .i64 sb, .int .i64 xh, .int .i64 1] 24)).heap.size (w3.alloc (.cells #[.int .i64 f, .int .i64 t, .int .i64 sb, .int .i64 xh, .int .i64 1] 24)) V) => (h.block w3.heap.size (by rw [World.size_alloc]; omega)).trans (heap_alloc_new w3 _))
      obtain ⟨⟨v0, v1, v2, v3, v4⟩, -⟩ := cell5 (HB3.out _ (Below.refl _ _))
      clear hb3 hw3 z0 z1 z2 z3 z4
      go_wp2_with fail
      have hv : Below (w3.alloc (.cells #[.int .i64 f, .int .i64 t, .int .i64 sb, .int .i64 xh, .int .i64 1] 24)).heap.size (w3.alloc (.cells #[.int .i64 f, .int .i64 t, .int .i64 sb, .int .i64 xh, .int .i64 1] 24)) ((w3.alloc (.cells #[.int .i64 f, .int .i64 t, .int .i64 sb, .int .i64 xh, .int .i64 1] 24)).alloc (.cells #[.int .i64 f, .int .i64 t, .int .i64 sb, .int .i64 xh, .int .i64 1, .int .i64 f, .int .i64 t, .int .i64 sb, .int .i64 xh, .int .i64 1] 24)) := (Below.refl _ _).alloc (Nat.le_refl _) _
      have hs3 : (w3.alloc (.cells #[.int .i64 f, .int .i64 t, .int .i64 sb, .int .i64 xh, .int .i64 1] 24)).heap.size = w3.heap.size + 1 := by rw [World.size_alloc]
      have HRW := Lib.hid (fun V (h : Below ((w3.alloc (.cells #[.int .i64 f, .int .i64 t, .int .i64 sb, .int .i64 xh, .int .i64 1] 24)).alloc (.cells #[.int .i64 f, .int .i64 t, .int .i64 sb, .int .i64 xh, .int .i64 1, .int .i64 f, .int .i64 t, .int .i64 sb, .int .i64 xh, .int .i64 1] 24)).heap.size ((w3.alloc (.cells #[.int .i64 f, .int .i64 t, .int .i64 sb, .int .i64 xh, .int .i64 1] 24)).alloc (.cells #[.int .i64 f, .int .i64 t, .int .i64 sb, .int .i64 xh, .int .i64 1, .int .i64 f, .int .i64 t, .int .i64 sb, .int .i64 xh, .int .i64 1] 24)) V) => (show V.heap[w3.heap.size + 1]? = some (.cells #[.int .i64 f, .int .i64 t, .int .i64 sb, .int .i64 xh, .int .i64 1, .int .i64 f, .int .i64 t, .int .i64 sb, .int .i64 xh, .int .i64 1] 24 (0, 0)) from by
        have h1 := heap_alloc_new (w3.alloc (.cells #[.int .i64 f, .int .i64 t, .int .i64 sb, .int .i64 xh, .int .i64 1] 24)) (.cells #[.int .i64 f, .int .i64 t, .int .i64 sb, .int .i64 xh, .int .i64 1, .int .i64 f, .int .i64 t, .int .i64 sb, .int .i64 xh, .int .i64 1] 24)
        rw [hs3] at h1
        exact (h.block (w3.heap.size + 1) (by rw [World.size_alloc, hs3]; omega)).trans h1))
      have HALLV := Lib.hid (fun V (h : Below ((w3.alloc (.cells #[.int .i64 f, .int .i64 t, .int .i64 sb, .int .i64 xh, .int .i64 1] 24)).alloc (.cells #[.int .i64 f, .int .i64 t, .int .i64 sb, .int .i64 xh, .int .i64 1, .int .i64 f, .int .i64 t, .int .i64 sb, .int .i64 xh, .int .i64 1] 24)).heap.size ((w3.alloc (.cells #[.int .i64 f, .int .i64 t, .int .i64 sb, .int .i64 xh, .int .i64 1] 24)).alloc (.cells #[.int .i64 f, .int .i64 t, .int .i64 sb, .int .i64 xh, .int .i64 1, .int .i64 f, .int .i64 t, .int .i64 sb, .int .i64 xh, .int .i64 1] 24)) V) => (show V.heap[w.heap.size]? = some (.cells #[.int .i64 f, .int .i64 t, .int .i64 s, .int .i64 xh, .int .i64 xd] 24 (0, 0)) ∧ V.heap[w2.heap.size]? = some (.cells #[.int .i64 f, .int .i64 t, .int .i64 sb, .int .i64 xh, .int .i64 1] 24 (0, 0)) ∧ Below w.heap.size w V from by
        have h3 := hv.trans (h.mono hv.size)
        have h2 := HG3.out.trans (h3.mono HG3.out.size)
        exact ⟨HX1.out _ (HG2.out.trans (h2.mono HG2.out.size)), HA2.out _ h2, HB2.out.trans (h2.mono HB2.out.size)⟩))
      clear hv hs3 y0 y1 y2 y3 y4 v0 v1 v2 v3 v4 HX1 HG2 HA2 HG3 HB3 HB2 HB1
      generalize ((w3.alloc (.cells #[.int .i64 f, .int .i64 t, .int .i64 sb, .int .i64 xh, .int .i64 1] 24)).alloc (.cells #[.int .i64 f, .int .i64 t, .int .i64 sb, .int .i64 xh, .int .i64 1, .int .i64 f, .int .i64 t, .int .i64 sb, .int .i64 xh, .int .i64 1] 24)) = U0 at *
      go_loopw [12] (fun s12 wx => ∃ i : Nat, i ≤ 2 ∧ s12 = .int .i64 i ∧ Below U0.heap.size U0 wx) (fun s12 _ => 2 - (RowKit.intOf s12).toNat)
      case atStart => exact ⟨0, by omega, rfl, Below.refl _ _⟩
      case round =>
        obtain ⟨i, hi, rfl, hb⟩ := hrel
        have HY := Lib.hid hb
        by_cases hlt : i < 2
        · obtain ⟨ex, -, -⟩ := HALLV.out _ hb
          obtain ⟨⟨z0, z1, z2, z3, z4⟩, -⟩ := cell5 ex
          obtain ⟨sy, dy, hgy, c0, c1, c2, c3, c4⟩ : ∃ (sy : Nat) (dy : Int), goodP l n f s t xh u sy dy ∧ wr.cell? ⟨w3.heap.size + 1, i * 5, none⟩ = some (.int .i64 f) ∧ wr.cell? ⟨w3.heap.size + 1, i * 5 + 1, none⟩ = some (.int .i64 t) ∧ wr.cell? ⟨w3.heap.size + 1, i * 5 + 2, none⟩ = some (.int .i64 sy) ∧ wr.cell? ⟨w3.heap.size + 1, i * 5 + 3, none⟩ = some (.int .i64 xh) ∧ wr.cell? ⟨w3.heap.size + 1, i * 5 + 4, none⟩ = some (.int .i64 dy) := by
            have hrow := HRW.out _ hb
            rcases i with _ | _ | i
            · exact ⟨sb, 1, HGOOD.out.1, cell_of_row _ _ 0 _ _ _ hrow, cell_of_row _ _ 1 _ _ _ hrow, cell_of_row _ _ 2 _ _ _ hrow, cell_of_row _ _ 3 _ _ _ hrow, cell_of_row _ _ 4 _ _ _ hrow⟩
            · exact ⟨sb, 1, HGOOD.out.2, cell_of_row _ _ 5 _ _ _ hrow, cell_of_row _ _ 6 _ _ _ hrow, cell_of_row _ _ 7 _ _ _ hrow, cell_of_row _ _ 8 _ _ _ hrow, cell_of_row _ _ 9 _ _ _ hrow⟩
            · omega
          obtain ⟨g1, g2, g3, g4, g5⟩ := hgy
          have i0 : (0 : Int) ≤ (i : Int) := by omega
          have i1 : (i : Int) < 2 := by omega
          have t1 : decide ((sy : Int) < (f : Int)) = false := decide_eq_false (by omega)
          have t1' : decide (sy < f) = false := decide_eq_false (by omega)
          have t2 : decide ((s : Int) < (sy : Int)) = false := decide_eq_false (by omega)
          have t2' : decide (s < sy) = false := decide_eq_false (by omega)
          have HWY := Lib.hid (HWD.out sy dy g3)
          have hby : Below U0.heap.size U0 (wr.alloc (.cells #[.int .i64 f, .int .i64 t, .int .i64 sy, .int .i64 xh, .int .i64 dy] 24)) := hb.alloc HY.out.size _
          have HBY := Lib.hid hby
          have HNEW := Lib.hid (fun V (h : Below (wr.alloc (.cells #[.int .i64 f, .int .i64 t, .int .i64 sy, .int .i64 xh, .int .i64 dy] 24)).heap.size (wr.alloc (.cells #[.int .i64 f, .int .i64 t, .int .i64 sy, .int .i64 xh, .int .i64 dy] 24)) V) => (show V.heap[wr.heap.size]? = some (.cells #[.int .i64 f, .int .i64 t, .int .i64 sy, .int .i64 xh, .int .i64 dy] 24 (0, 0)) from (h.block wr.heap.size (by rw [World.size_alloc]; omega)).trans (heap_alloc_new wr _)))
          have t3 : decide (u < wideP l ⟨f, t, sy, xh, dy⟩) = false := decide_eq_false (by omega)
          generalize wideP l ⟨f, t, sy, xh, dy⟩ = z at *
          obtain ⟨ey, -, -⟩ := HALLV.out _ hby
          obtain ⟨⟨p0, p1, p2, p3, p4⟩, -⟩ := cell5 ey
          clear hb hby ex ey g3 g4
          go_wp2_with fail
          refine (HWY.out _ (HALLV.out _ HBY.out).2.2).mono ?_
          rintro e w4 ⟨rfl, hb4⟩
          have HB4 := Lib.hid (HBY.out.trans (hb4.mono HBY.out.size))
          obtain ⟨⟨y0, y1, y2, y3, y4⟩, -⟩ := cell5 (HNEW.out _ hb4)
          obtain ⟨ex, -, -⟩ := HALLV.out _ HB4.out
          clear z0 z1 z2 z3 z4 c0 c1 c2 c3 c4 p0 p1 p2 p3 p4 hb4 HNEW
          obtain ⟨⟨z0, z1, z2, z3, z4⟩, -⟩ := cell5 ex
          clear ex
          rcases g5 with ⟨rfl, rfl⟩ | ⟨rfl, gm⟩
          · go_wp2_with fail
            exact ⟨⟨i + 1, by omega, by go_num, HB4.out⟩, by simp [RowKit.intOf]; omega⟩
          · by_cases hss : sy < s
            · have t5 : decide ((sy : Int) < (s : Int)) = true := decide_eq_true (by omega)
              have t5' : decide (sy < s) = true := decide_eq_true hss
              obtain ⟨g, off, rfl⟩ := HAD.out (by omega)
              have HM1 := Lib.hid (fun cc => HMO.out sy hss g1 cc w4 (HALLV.out _ HB4.out).2.2 g off rfl)
              rw [gm hss] at HM1
              have k0 : (0 : Int) ≤ (f : Int) := by omega
              have k1 : (f : Int) ≤ (sy : Int) + 1 := by omega
              have k2 : (sy : Int) + 1 ≤ (c : Int) := by omega
              have k3 : (f : Int) < (c : Int) := by omega
              have k4 : f < c := by omega
              have k5 : ¬ c = f := by omega
              have k6 : IntKind.i64.wrap ((sy : Int) + 1) = (sy : Int) + 1 := IntWalk.i64_in _ (by omega)
              have k7 : IntKind.i64.wrap (u - 1) = u - 1 := IntWalk.i64_in _ (by omega)
              have k8 : ((sy : Int) + 1 - (f : Int)) = ((sy + 1 - f : Nat) : Int) := by omega
              clear gm
              go_wp2_with fail
              refine (HM1.out _).mono ?_
              rintro e w5 ⟨rfl, rfl⟩
              go_wp2_with fail
              exact ⟨⟨i + 1, by omega, by go_num, HB4.out⟩, by simp [RowKit.intOf]; omega⟩
            · have t5 : decide ((sy : Int) < (s : Int)) = false := decide_eq_false (by omega)
              have t5' : decide (sy < s) = false := decide_eq_false hss
              go_wp2_with fail
              exact ⟨⟨i + 1, by omega, by go_num, HB4.out⟩, by simp [RowKit.intOf]; omega⟩
        · obtain rfl : i = 2 := by omega
          obtain ⟨-, ea, hbw⟩ := HALLV.out _ hb
          obtain ⟨⟨z0, z1, z2, z3, z4⟩, -⟩ := cell5 ea
          clear hb ea hbw
          go_wp2_with fail
          refine (HAG.out _ (HALLV.out _ HY.out).2.2).mono ?_
          rintro e w6 ⟨yl, rfl, hyl, hb6⟩
          have HB6 := Lib.hid (HY.out.trans (hb6.mono HY.out.size))
          have HB7 := Lib.hid (HB6.out.alloc HB6.out.size (.cells #[.int .i64 yl.f, .int .i64 yl.t, .int .i64 yl.s, .int .i64 yl.h, .int .i64 yl.d] 24))
          obtain ⟨-, ea, -⟩ := HALLV.out _ HB7.out
          clear hb6 z0 z1 z2 z3 z4
          obtain ⟨⟨z0, z1, z2, z3, z4⟩, -⟩ := cell5 ea
          clear ea
          clear hyl
          go_wp2_with fail
          refine (HA.out _).mono ?_
          rintro e w8 ⟨rfl, hb8⟩
          have hfin := (HALLV.out _ (HB7.out.trans (hb8.mono HB7.out.size))).2.2
          go_wp2_with fail
          go_ret
          exact ⟨rfl, hfin⟩
end Go.Proofs.Ytikjchebffohdaa.Ck
