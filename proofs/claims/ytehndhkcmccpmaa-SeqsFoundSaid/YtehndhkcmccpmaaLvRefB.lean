/-
  Proved here: what the document's own begin returns, for what is open in memory; it leaves what was in memory. Condition: what is open is as it may be; counts of at most 2^40.
-/
import Derived.Test.YtehndhkcmccpmaaLvRefE
set_option linter.unusedVariables false
namespace Go.Proofs.Ytehndhkcmccpmaa.Lv
open Go Go.RowKit Go.Lib Go.Proofs.Ytehndhkcmccpmaa.Cl

set_option maxHeartbeats 2000000 in
set_option maxRecDepth 100000 in
theorem nBegin_fits (o g c n : Nat) (e : E) (r : List E) (op : Nat) (w : World) (ho : o ≤ 1) (hO : NsAt w g c (e :: r)) (hn : r.length = n) (hr : n ≤ 500) (hl : e.lev ≤ 125) (hf : fits o ⟨e :: r, 0, 0, op⟩ = true) (h3 : op ≤ 1099511627776) :
    Calls Try.prog 61 #[.agg #[.slice (some ⟨g, 0, none⟩) (n + 1) c, .int .i64 0, .int .i64 0, .int .i64 op], .int .i64 o] w fun x w' => NPost ⟨⟨nxt o e.lev, -1, true⟩ :: e :: r, 0, 0, op + 1⟩ w x w' := by
  have HF := Lib.hid (fun W (h : Below w.heap.size w W) => nFits_any o g c n e r 0 0 op W ho (hO.below h) hn (by omega) hl (by omega) (by omega))
  rw [hf] at HF
  have HN := Lib.hid (fun W (h : Below w.heap.size w W) => nNext_any o g c n e r 0 0 op W ho (hO.below h) hn (by omega) hl)
  have HW := Lib.hid (fun W (h : Below w.heap.size w W) => nWith_ns g c (n + 1) (e :: r) ⟨nxt o e.lev, -1, true⟩ 0 0 op W (hO.below h) (by simp [hn]) (by omega) (by omega))
  have HI := Lib.hid infoS
  have hi0 : inI ⟨nxt o e.lev, -1, true⟩ = 1 := rfl
  rw [hi0] at HW
  unfold NPost
  simp only [List.length_cons]
  rw [hn]
  generalize nxt o e.lev = q at *
  clear hf hO hn hi0
  go_enter Try.func61, Try.ntmps61
  go_wp2_with fail
  obtain ⟨e0, e1, hbV, hsV⟩ := two_new w (.cells #[.slice (some ⟨g, 0, none⟩) (n + 1) c, .int .i64 0, .int .i64 0, .int .i64 op] 76) (.cells #[.slice none 0 0, .int .i64 0, .int .i64 0, .int .i64 0] 76)
  generalize ((w.alloc (.cells #[.slice (some ⟨g, 0, none⟩) (n + 1) c, .int .i64 0, .int .i64 0, .int .i64 op] 76)).alloc (.cells #[.slice none 0 0, .int .i64 0, .int .i64 0, .int .i64 0] 76)) = V at *
  have HC := Lib.hid (fun W (h : Below V.heap.size V W) => And.intro ((h.block w.heap.size (by omega)).trans e0) (And.intro ((h.block (w.heap.size + 1) (by omega)).trans e1) (hbV.trans (h.mono (by omega)))))
  refine (HF.out _ hbV).mono ?_
  rintro x w1 ⟨rfl, hb1⟩
  obtain ⟨b0, b1, hbw1⟩ := HC.out w1 hb1
  obtain ⟨⟨z0, z1, z2, z3⟩, -⟩ := four b0
  have HB1 := Lib.hid hb1
  have HBW1 := Lib.hid hbw1
  clear e0 e1 hbV hb1 b0 b1 hbw1 HF
  go_wp2_with fail
  rename_i K0 hK0
  obtain ⟨K1, hQ1⟩ : ∃ K1 : Act → World → Prop, ∀ y Z, K1 y Z ↔ (∃ g4 c4 : Nat, (Z.heap[w.heap.size]? = some (.cells #[.slice (some ⟨g4, 0, none⟩) (n + 1 + 1) c4, .int .i64 0, .int .i64 0, .int .i64 op] 76 (0, 0)) ∧ Z.heap[w.heap.size + 1]? = some (.cells #[.slice none 0 0, .int .i64 0, .int .i64 0, .int .i64 0] 76 (0, 0)) ∧ g4 ≠ w.heap.size ∧ g4 ≠ w.heap.size + 1 ∧ NsAt Z g4 c4 (⟨q, -1, true⟩ :: e :: r) ∧ Below w.heap.size w Z) ∧
    ∃ a5 a6 a7 a8 a9 a10 a11 a12 a13 a14 a15 a16 a17 a18 a19, y = ⟨#[.agg #[.slice (some ⟨g, 0, none⟩) (n + 1) c, .int .i64 0, .int .i64 0, .int .i64 op], .int .i64 o, .pointer (some ⟨w.heap.size, 0, none⟩), undef, .pointer (some ⟨w.heap.size + 1, 0, none⟩), a5, a6, a7, a8, a9, a10, a11, a12, a13, a14, a15, a16, a17, a18, a19, undef, undef, undef, undef, undef], []⟩) := ⟨_, fun _ _ => Iff.rfl⟩
  have HQ := Lib.hid hQ1
  clear hQ1
  refine wp_mono (Q := Exit.then K1 _) ?_ (then_to ?_)
  rotate_left
  · rintro y Z hh
    obtain ⟨g4, c4, ⟨b0, b1, hg0, hg1, hns, hbz⟩, a5, a6, a7, a8, a9, a10, a11, a12, a13, a14, a15, a16, a17, a18, a19, rfl⟩ := (HQ.out _ _).1 hh
    refine hK0 _ _ ?_
    obtain ⟨⟨q0, q1, q2, q3⟩, -, -, -, f3⟩ := four b0
    obtain ⟨⟨p0, p1, p2, p3⟩, d0, d1, d2, d3⟩ := four b1
    have H1 := Lib.hid b1
    have HBW := Lib.hid hbz
    have HNS1 := Lib.hid hns
    clear hh HQ b0 b1 hbz hns HN HW HC HB1 HBW1 z0 z1 z2 z3
    go_wp2_with fail
    refine bodyPost_ret (results_cell_row Try.results61 _ _ (w.heap.size + 1) 76 _ (0, 0) _ rfl (four_set _ _ _ _ ((heap_setCell_other Z ⟨w.heap.size, 3, none⟩ _ _ (by show w.heap.size + 1 ≠ w.heap.size; omega)).trans H1.out)) Try.underlying76 rfl HI.out) rfl ?_
    exact ⟨g4, c4, rfl, four_ns _ _ _ _ (HNS1.out.store (a := ⟨w.heap.size, 3, none⟩) hg0 _) hg1, four_below _ _ _ _ (HBW.out.setCell (p := ⟨w.heap.size, 3, none⟩) (Nat.le_refl _) _) (by omega)⟩
  go_region_with
    (first
      | (go_at_call 67
         refine (HN.out _ (by first | exact HBW1.out | exact HBW1.out.drew)).mono ?_
         rintro x w5 ⟨rfl, hb5⟩
         have hV5 : Below V.heap.size V w5 := HB1.out.drew.trans (hb5.mono HB1.out.size)
         obtain ⟨b05, b15, hbw5⟩ := HC.out w5 hV5
         obtain ⟨⟨y0, y1, y2, y3⟩, -⟩ := four b05)
      | (go_at_call 66
         refine (HW.out _ hbw5).mono ?_
         rintro x w6 ⟨g6, c6, rfl, hns6, hg6, hb6⟩
         have hV6 : Below V.heap.size V w6 := hV5.trans (hb6.mono hV5.size)
         obtain ⟨b06, b16, hbw6⟩ := HC.out w6 hV6
         obtain ⟨⟨x0, x1, x2, x3⟩, f0, f1, f2, f3⟩ := four b06))
  all_goals show K1 _ _
  all_goals refine (HQ.out _ _).2 ?_
  all_goals
    have hne6 : g6 ≠ w.heap.size := by have h1 := hbw5.size; have h2 := hV5.size; have h3 := hsV; omega
    have hne7 : g6 ≠ w.heap.size + 1 := by have h1 := hbw5.size; have h2 := hV5.size; have h3 := hsV; omega
    exact ⟨g6, c6, ⟨four_set _ _ _ _ b06, (heap_setCell_other _ ⟨w.heap.size, 3, none⟩ _ _ (by show w.heap.size + 1 ≠ w.heap.size; omega)).trans ((heap_setCell_other _ ⟨w.heap.size, 2, none⟩ _ _ (by show w.heap.size + 1 ≠ w.heap.size; omega)).trans ((heap_setCell_other _ ⟨w.heap.size, 1, none⟩ _ _ (by show w.heap.size + 1 ≠ w.heap.size; omega)).trans ((heap_setCell_other _ ⟨w.heap.size, 0, none⟩ _ _ (by show w.heap.size + 1 ≠ w.heap.size; omega)).trans b16))), hne6, hne7, four_ns _ _ _ _ hns6 hne6, four_below _ _ _ _ hbw6 (Nat.le_refl _)⟩, _, _, _, _, _, _, _, _, _, _, _, _, _, _, _, rfl⟩

set_option maxHeartbeats 2000000 in
set_option maxRecDepth 100000 in
theorem nBegin_not (o g c n : Nat) (e : E) (r : List E) (li ld op : Nat) (w : World) (ho : o ≤ 1) (hO : NsAt w g c (e :: r)) (hn : r.length = n) (hr : n ≤ 500) (hl : e.lev ≤ 125) (h1 : li ≤ 1099511627776) (h2 : ld ≤ 1099511627776) (hf : fits o ⟨e :: r, li, ld, op⟩ = false) :
  Calls Try.prog 61 #[.agg #[.slice (some ⟨g, 0, none⟩) (n + 1) c, .int .i64 li, .int .i64 ld, .int .i64 op], .int .i64 o] w fun x w' => NPost ⟨e :: r, li + 1, ld, op⟩ w x w' := by
  have HF := Lib.hid (fun W (h : Below w.heap.size w W) => nFits_any o g c n e r li ld op W ho (hO.below h) hn (by omega) hl (by omega) (by omega))
  rw [hf] at HF
  have HNS := Lib.hid (fun W (h : Below w.heap.size w W) => hO.below h)
  have hg := hO.1
  have HI := Lib.hid infoS
  unfold NPost
  simp only [List.length_cons]
  rw [hn]
  clear hf hO hn
  go_enter Try.func61, Try.ntmps61
  go_wp2_with fail
  generalize hV : (w.alloc (.cells #[.slice (some ⟨g, 0, none⟩) (n + 1) c, .int .i64 li, .int .i64 ld, .int .i64 op] 76)).alloc (.cells #[.slice none 0 0, .int .i64 0, .int .i64 0, .int .i64 0] 76) = V
  obtain ⟨hbV, hsV, hC⟩ := boxes w g c (n + 1) _ _ _ V hV
  clear hV
  have HC := Lib.hid hC
  refine (HF.out _ hbV).mono ?_
  rintro x w1 ⟨rfl, hb1⟩
  obtain ⟨b0, b1, hbw1⟩ := HC.out w1 hb1
  obtain ⟨⟨z0, z1, z2, z3⟩, -, f1, -⟩ := four b0
  obtain ⟨⟨p0, p1, p2, p3⟩, d0, d1, d2, d3⟩ := four b1
  have H1 := Lib.hid b1
  have HBW := Lib.hid hbw1
  have HNS1 := Lib.hid (HNS.out w1 hbw1)
  clear b0 b1 hbw1 hb1 hC HC HF HNS
  go_wp2_with fail
  refine bodyPost_ret (results_cell_row Try.results61 _ _ (w.heap.size + 1) 76 _ (0, 0) _ rfl (four_set _ _ _ _ ((heap_setCell_other w1 ⟨w.heap.size, 1, none⟩ _ _ (by show w.heap.size + 1 ≠ w.heap.size; omega)).trans H1.out)) Try.underlying76 rfl HI.out) rfl ?_
  exact ⟨g, c, rfl, four_ns _ _ _ _ (HNS1.out.store (a := ⟨w.heap.size, 1, none⟩) (by show g ≠ w.heap.size; omega) _) (by omega), four_below _ _ _ _ (HBW.out.setCell (p := ⟨w.heap.size, 1, none⟩) (Nat.le_refl _) _) (by omega)⟩

theorem nBegin_any (o g c n : Nat) (s : St) (w : World) (ho : o ≤ 1) (h0 : 0 < s.es.length) (hO : NsAt w g c s.es) (hn : s.es.length = n) (hr : n ≤ 500) (hl : (top s.es).lev ≤ 125) (h1 : s.li ≤ 1099511627776) (h2 : s.ld ≤ 1099511627776) (h3 : s.op ≤ 1099511627776) :
    Calls Try.prog 61 #[.agg #[.slice (some ⟨g, 0, none⟩) n c, .int .i64 s.li, .int .i64 s.ld, .int .i64 s.op], .int .i64 o] w fun x w' => NPost (beginS o s) w x w' := by
  obtain ⟨es, li, ld, op⟩ := s
  cases es with
  | nil => simp at h0
  | cons e r =>
    simp only [List.length_cons] at hn
    subst hn
    cases hf : fits o ⟨e :: r, li, ld, op⟩ with
    | true =>
      obtain ⟨f1, f2, f3⟩ := fits_iff.1 hf
      simp only at f2 f3
      subst f2 f3
      have e1 : beginS o ⟨e :: r, 0, 0, op⟩ = ⟨⟨nxt o e.lev, -1, true⟩ :: e :: r, 0, 0, op + 1⟩ := by unfold beginS; rw [if_pos hf]; rfl
      rw [e1]
      exact nBegin_fits o g c r.length e r op w ho hO rfl (by omega) hl hf h3
    | false =>
      have e1 : beginS o ⟨e :: r, li, ld, op⟩ = ⟨e :: r, li + 1, ld, op⟩ := by unfold beginS; rw [if_neg (by rw [hf]; decide)]
      rw [e1]
      exact nBegin_not o g c r.length e r li ld op w ho hO rfl (by omega) hl h1 h2 hf
end Go.Proofs.Ytehndhkcmccpmaa.Lv
