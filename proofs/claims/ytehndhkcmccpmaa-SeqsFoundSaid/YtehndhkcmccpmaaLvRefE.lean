/-
  Proved here: what the document's own embed, begin return, for what is open in memory; they leave what was in memory. Condition: what is open is as it may be; counts of at most 2^40.
-/
import Derived.Test.YtehndhkcmccpmaaLvRefO
import Derived.Deep.RegionWith
set_option linter.unusedVariables false
namespace Go.Proofs.Ytehndhkcmccpmaa.Lv
open Go Go.RowKit Go.Lib Go.Proofs.Ytehndhkcmccpmaa.Cl

/-- What is returned: a State. -/
def NPost (s : St) (w : World) (x : Ending) (w' : World) : Prop :=
  ∃ g c, x = .returned (.agg #[.slice (some ⟨g, 0, none⟩) s.es.length c, .int .i64 s.li, .int .i64 s.ld, .int .i64 s.op]) ∧ NsAt w' g c s.es ∧ Below w.heap.size w w'
theorem nWith_ns (g c n : Nat) (es : List E) (e : E) (li ld op : Int) (w : World) (hO : NsAt w g c es) (hn : es.length = n) (h0 : 0 < n) (hr : n ≤ 1000) :
    Calls Try.prog 66 #[.agg #[.slice (some ⟨g, 0, none⟩) n c, .int .i64 li, .int .i64 ld, .int .i64 op], .agg #[.int .i64 e.lev, .int .i64 e.ov, .int .i64 (inI e)]] w fun x w' =>
      ∃ g' c', x = .returned (.agg #[.slice (some ⟨g', 0, none⟩) (n + 1) c', .int .i64 li, .int .i64 ld, .int .i64 op]) ∧ NsAt w' g' c' (e :: es) ∧ w.heap.size ≤ g' ∧ Below w.heap.size w w' := by
  refine (nWith_any g c n es e.lev e.ov (inI e) li ld op w hO hn h0 hr).mono ?_
  rintro x w' ⟨g', c', rfl, ho, hb⟩
  obtain ⟨g2, c2, hv, hns, hg⟩ := nsAt_own (es := e :: es) ho (by simp [hn]) (by omega)
  cases hv
  exact ⟨g', c', rfl, hns, hg, hb⟩

set_option maxHeartbeats 2000000 in
set_option maxRecDepth 100000 in
theorem nEmbed_fits (o g c n : Nat) (v : Int) (e : E) (r : List E) (op : Nat) (w : World) (ho : o ≤ 1) (hO : NsAt w g c (e :: r)) (hn : r.length = n) (hr : n ≤ 500) (hl : e.lev ≤ 125) (hf : fits o ⟨e :: r, 0, 0, op⟩ = true) :
    Calls Try.prog 60 #[.agg #[.slice (some ⟨g, 0, none⟩) (n + 1) c, .int .i64 0, .int .i64 0, .int .i64 op], .int .i64 o, .int .i64 v] w fun x w' => NPost ⟨⟨nxt o e.lev, v, false⟩ :: e :: r, 0, 0, op⟩ w x w' := by
  have HF := Lib.hid (fun W (h : Below w.heap.size w W) => nFits_any o g c n e r 0 0 op W ho (hO.below h) hn (by omega) hl (by omega) (by omega))
  rw [hf] at HF
  have HN := Lib.hid (fun W (h : Below w.heap.size w W) => nNext_any o g c n e r 0 0 op W ho (hO.below h) hn (by omega) hl)
  have HW := Lib.hid (fun W (h : Below w.heap.size w W) => nWith_ns g c (n + 1) (e :: r) ⟨nxt o e.lev, v, false⟩ 0 0 op W (hO.below h) (by simp [hn]) (by omega) (by omega))
  have HI := Lib.hid infoS
  have hi0 : inI ⟨nxt o e.lev, v, false⟩ = 0 := rfl
  rw [hi0] at HW
  unfold NPost
  simp only [List.length_cons]
  rw [hn]
  generalize nxt o e.lev = q at *
  clear hf hO hn hi0
  go_enter Try.func60, Try.ntmps60
  go_wp2_with fail
  obtain ⟨e0, e1, hbV, hsV⟩ := two_new w (.cells #[.slice (some ⟨g, 0, none⟩) (n + 1) c, .int .i64 0, .int .i64 0, .int .i64 op] 76) (.cells #[.slice none 0 0, .int .i64 0, .int .i64 0, .int .i64 0] 76)
  generalize ((w.alloc (.cells #[.slice (some ⟨g, 0, none⟩) (n + 1) c, .int .i64 0, .int .i64 0, .int .i64 op] 76)).alloc (.cells #[.slice none 0 0, .int .i64 0, .int .i64 0, .int .i64 0] 76)) = V at *
  have HC := Lib.hid (fun W (h : Below V.heap.size V W) => And.intro ((h.block w.heap.size (by omega)).trans e0) (And.intro ((h.block (w.heap.size + 1) (by omega)).trans e1) (hbV.trans (h.mono (by omega)))))
  refine (HF.out _ hbV).mono ?_
  rintro x w1 ⟨rfl, hb1⟩
  obtain ⟨b0, b1, hbw1⟩ := HC.out w1 hb1
  obtain ⟨⟨z0, z1, z2, z3⟩, -⟩ := four b0
  have HB1 := Lib.hid hb1
  have HBW1 := Lib.hid hbw1
  clear e0 e1 hbV hb1 b0 b1 hbw1 HF
  go_wp2_with fail
  rename_i K0 hK0
  obtain ⟨K1, hQ1⟩ : ∃ K1 : Act → World → Prop, ∀ y Z, K1 y Z ↔ (∃ g4 c4 : Nat, (Z.heap[w.heap.size + 1]? = some (.cells #[.slice (some ⟨g4, 0, none⟩) (n + 1 + 1) c4, .int .i64 0, .int .i64 0, .int .i64 op] 76 (0, 0)) ∧ NsAt Z g4 c4 (⟨q, v, false⟩ :: e :: r) ∧ Below w.heap.size w Z) ∧
    ∃ a7 a8 a9 a10 a11 a12 a13 a14 a15 a16, y = ⟨#[.agg #[.slice (some ⟨g, 0, none⟩) (n + 1) c, .int .i64 0, .int .i64 0, .int .i64 op], .int .i64 o, .int .i64 v, .pointer (some ⟨w.heap.size, 0, none⟩), undef, undef, .pointer (some ⟨w.heap.size + 1, 0, none⟩), a7, a8, a9, a10, a11, a12, a13, a14, a15, a16, undef, undef, undef, undef, undef, undef, undef, undef], []⟩) := ⟨_, fun _ _ => Iff.rfl⟩
  have HQ := Lib.hid hQ1
  clear hQ1
  refine wp_mono (Q := Exit.then K1 _) ?_ (then_to ?_)
  rotate_left
  · rintro y Z hh
    obtain ⟨g4, c4, ⟨b1, hns, hbz⟩, a7, a8, a9, a10, a11, a12, a13, a14, a15, a16, rfl⟩ := (HQ.out _ _).1 hh
    refine hK0 _ _ ?_
    go_wp2_with fail
    refine bodyPost_ret (results_cell_row Try.results60 _ _ (w.heap.size + 1) 76 _ (0, 0) _ rfl b1 Try.underlying76 rfl HI.out) rfl ?_
    exact ⟨g4, c4, rfl, hns, hbz⟩
  go_region_with
    (first
      | (go_at_call 67
         refine (HN.out _ (by first | exact HBW1.out | exact HBW1.out.drew)).mono ?_
         rintro x w5 ⟨rfl, hb5⟩
         have hV5 : Below V.heap.size V w5 := HB1.out.drew.trans (hb5.mono HB1.out.size)
         obtain ⟨b05, b15, hbw5⟩ := HC.out w5 hV5
         obtain ⟨⟨y0, y1, y2, y3⟩, -⟩ := four b05)
      | (go_at_call 66
         refine (HW.out _ hbw5).mono ?_
         rintro x w6 ⟨g6, c6, rfl, hns6, hg6, hb6⟩
         have hV6 : Below V.heap.size V w6 := hV5.trans (hb6.mono hV5.size)
         obtain ⟨b06, b16, hbw6⟩ := HC.out w6 hV6
         obtain ⟨⟨x0, x1, x2, x3⟩, f0, f1, f2, f3⟩ := four b16))
  all_goals show K1 _ _
  all_goals refine (HQ.out _ _).2 ?_
  all_goals
    have hne6 : g6 ≠ w.heap.size + 1 := by have h1 := hbw5.size; have h2 := hV5.size; have h3 := hsV; omega
    exact ⟨g6, c6, ⟨heap_setCell_same _ _ 3 _ _ _ (heap_setCell_same _ _ 2 _ _ _ (heap_setCell_same _ _ 1 _ _ _ (heap_setCell_same _ _ 0 _ _ _ b16))), (((hns6.store (a := ⟨w.heap.size + 1, 0, none⟩) hne6 _).store (a := ⟨w.heap.size + 1, 1, none⟩) hne6 _).store (a := ⟨w.heap.size + 1, 2, none⟩) hne6 _).store (a := ⟨w.heap.size + 1, 3, none⟩) hne6 _, (((hbw6.setCell (p := ⟨w.heap.size + 1, 0, none⟩) (Nat.le_succ _) _).setCell (p := ⟨w.heap.size + 1, 1, none⟩) (Nat.le_succ _) _).setCell (p := ⟨w.heap.size + 1, 2, none⟩) (Nat.le_succ _) _).setCell (p := ⟨w.heap.size + 1, 3, none⟩) (Nat.le_succ _) _⟩, _, _, _, _, _, _, _, _, _, _, rfl⟩

/-- The new variables of a function that takes a State. -/
theorem boxes (w : World) (g c n : Nat) (li ld op : Int) (V : World) (hV : (w.alloc (.cells #[.slice (some ⟨g, 0, none⟩) n c, .int .i64 li, .int .i64 ld, .int .i64 op] 76)).alloc (.cells #[.slice none 0 0, .int .i64 0, .int .i64 0, .int .i64 0] 76) = V) :
    Below w.heap.size w V ∧ V.heap.size = w.heap.size + 2 ∧ ∀ W, Below V.heap.size V W → W.heap[w.heap.size]? = some (.cells #[.slice (some ⟨g, 0, none⟩) n c, .int .i64 li, .int .i64 ld, .int .i64 op] 76 (0, 0)) ∧ W.heap[w.heap.size + 1]? = some (.cells #[.slice none 0 0, .int .i64 0, .int .i64 0, .int .i64 0] 76 (0, 0)) ∧ Below w.heap.size w W := by
  subst hV
  obtain ⟨e0, e1, hbV, hsV⟩ := two_new w (.cells #[.slice (some ⟨g, 0, none⟩) n c, .int .i64 li, .int .i64 ld, .int .i64 op] 76) (.cells #[.slice none 0 0, .int .i64 0, .int .i64 0, .int .i64 0] 76)
  exact ⟨hbV, hsV, fun W h => ⟨(h.block w.heap.size (by omega)).trans e0, (h.block (w.heap.size + 1) (by omega)).trans e1, hbV.trans (h.mono (by omega))⟩⟩
theorem four_set {w : World} {g : Nat} {x0 x1 x2 x3 : Value} {t : TypeId} (v0 v1 v2 v3 : Value) (h : w.heap[g]? = some (.cells #[x0, x1, x2, x3] t)) :
    ((((w.setCell ⟨g, 0, none⟩ v0).setCell ⟨g, 1, none⟩ v1).setCell ⟨g, 2, none⟩ v2).setCell ⟨g, 3, none⟩ v3).heap[g]? = some (.cells #[v0, v1, v2, v3] t) :=
  heap_setCell_same _ _ 3 _ _ _ (heap_setCell_same _ _ 2 _ _ _ (heap_setCell_same _ _ 1 _ _ _ (heap_setCell_same _ _ 0 _ _ _ h)))
theorem four_below {w W : World} {B g : Nat} (v0 v1 v2 v3 : Value) (h : Below B w W) (hg : B ≤ g) :
    Below B w ((((W.setCell ⟨g, 0, none⟩ v0).setCell ⟨g, 1, none⟩ v1).setCell ⟨g, 2, none⟩ v2).setCell ⟨g, 3, none⟩ v3) :=
  (((h.setCell hg _).setCell hg _).setCell hg _).setCell hg _
theorem four_ns {W : World} {g c k : Nat} {es : List E} (v0 v1 v2 v3 : Value) (h : NsAt W g c es) (hg : g ≠ k) :
    NsAt ((((W.setCell ⟨k, 0, none⟩ v0).setCell ⟨k, 1, none⟩ v1).setCell ⟨k, 2, none⟩ v2).setCell ⟨k, 3, none⟩ v3) g c es :=
  (((h.store (a := ⟨k, 0, none⟩) hg _).store (a := ⟨k, 1, none⟩) hg _).store (a := ⟨k, 2, none⟩) hg _).store (a := ⟨k, 3, none⟩) hg _

set_option maxHeartbeats 2000000 in
set_option maxRecDepth 100000 in
theorem nEmbed_not (o g c n : Nat) (v : Int) (e : E) (r : List E) (li ld op : Nat) (w : World) (ho : o ≤ 1) (hO : NsAt w g c (e :: r)) (hn : r.length = n) (hr : n ≤ 500) (hl : e.lev ≤ 125) (h1 : li ≤ 1099511627776) (h2 : ld ≤ 1099511627776) (hf : fits o ⟨e :: r, li, ld, op⟩ = false) :
    Calls Try.prog 60 #[.agg #[.slice (some ⟨g, 0, none⟩) (n + 1) c, .int .i64 li, .int .i64 ld, .int .i64 op], .int .i64 o, .int .i64 v] w fun x w' => NPost (if li = 0 then ⟨e :: r, li, ld + 1, op⟩ else ⟨e :: r, li, ld, op⟩) w x w' := by
  have HF := Lib.hid (fun W (h : Below w.heap.size w W) => nFits_any o g c n e r li ld op W ho (hO.below h) hn (by omega) hl (by omega) (by omega))
  rw [hf] at HF
  have HNS := Lib.hid (fun W (h : Below w.heap.size w W) => hO.below h)
  have hg := hO.1
  have HI := Lib.hid infoS
  unfold NPost
  rcases Nat.eq_zero_or_pos li with hz | hz
  · subst hz
    rw [if_pos rfl]
    simp only [List.length_cons]
    rw [hn]
    clear hf hO hn
    go_enter Try.func60, Try.ntmps60
    go_wp2_with fail
    generalize hV : (w.alloc (.cells #[.slice (some ⟨g, 0, none⟩) (n + 1) c, .int .i64 (0 : Nat), .int .i64 ld, .int .i64 op] 76)).alloc (.cells #[.slice none 0 0, .int .i64 0, .int .i64 0, .int .i64 0] 76) = V
    obtain ⟨hbV, hsV, hC⟩ := boxes w g c (n + 1) _ _ _ V hV
    clear hV
    have HC := Lib.hid hC
    refine (HF.out _ hbV).mono ?_
    rintro x w1 ⟨rfl, hb1⟩
    obtain ⟨b0, b1, hbw1⟩ := HC.out w1 hb1
    obtain ⟨⟨z0, z1, z2, z3⟩, -, -, f2, -⟩ := four b0
    obtain ⟨⟨p0, p1, p2, p3⟩, d0, d1, d2, d3⟩ := four b1
    have H1 := Lib.hid b1
    have HBW := Lib.hid hbw1
    have HNS1 := Lib.hid (HNS.out w1 hbw1)
    clear b0 b1 hbw1 hb1 hC HC HF HNS
    go_wp2_with fail
    refine bodyPost_ret (results_cell_row Try.results60 _ _ (w.heap.size + 1) 76 _ (0, 0) _ rfl (four_set _ _ _ _ ((heap_setCell_other w1 ⟨w.heap.size, 2, none⟩ _ _ (by show w.heap.size + 1 ≠ w.heap.size; omega)).trans H1.out)) Try.underlying76 rfl HI.out) rfl ?_
    exact ⟨g, c, rfl, four_ns _ _ _ _ (HNS1.out.store (a := ⟨w.heap.size, 2, none⟩) (by show g ≠ w.heap.size; omega) _) (by omega), four_below _ _ _ _ (HBW.out.setCell (p := ⟨w.heap.size, 2, none⟩) (Nat.le_refl _) _) (by omega)⟩
  · rw [if_neg (by omega)]
    have kz : ((li : Int) == 0) = false := by simp; omega
    simp only [List.length_cons]
    rw [hn]
    clear hf hO hn
    go_enter Try.func60, Try.ntmps60
    go_wp2_with fail
    generalize hV : (w.alloc (.cells #[.slice (some ⟨g, 0, none⟩) (n + 1) c, .int .i64 li, .int .i64 ld, .int .i64 op] 76)).alloc (.cells #[.slice none 0 0, .int .i64 0, .int .i64 0, .int .i64 0] 76) = V
    obtain ⟨hbV, hsV, hC⟩ := boxes w g c (n + 1) _ _ _ V hV
    clear hV
    have HC := Lib.hid hC
    refine (HF.out _ hbV).mono ?_
    rintro x w1 ⟨rfl, hb1⟩
    obtain ⟨b0, b1, hbw1⟩ := HC.out w1 hb1
    obtain ⟨⟨z0, z1, z2, z3⟩, -⟩ := four b0
    obtain ⟨⟨p0, p1, p2, p3⟩, d0, d1, d2, d3⟩ := four b1
    have H1 := Lib.hid b1
    have HBW := Lib.hid hbw1
    have HNS1 := Lib.hid (HNS.out w1 hbw1)
    clear b0 b1 hbw1 hb1 hC HC HF HNS
    go_wp2_with fail
    refine bodyPost_ret (results_cell_row Try.results60 _ _ (w.heap.size + 1) 76 _ (0, 0) _ rfl (four_set _ _ _ _ H1.out) Try.underlying76 rfl HI.out) rfl ?_
    exact ⟨g, c, rfl, four_ns _ _ _ _ HNS1.out (by omega), four_below _ _ _ _ HBW.out (by omega)⟩

theorem nEmbed_any (o g c n : Nat) (v : Int) (s : St) (w : World) (ho : o ≤ 1) (h0 : 0 < s.es.length) (hO : NsAt w g c s.es) (hn : s.es.length = n) (hr : n ≤ 500) (hl : (top s.es).lev ≤ 125) (h1 : s.li ≤ 1099511627776) (h2 : s.ld ≤ 1099511627776) :
    Calls Try.prog 60 #[.agg #[.slice (some ⟨g, 0, none⟩) n c, .int .i64 s.li, .int .i64 s.ld, .int .i64 s.op], .int .i64 o, .int .i64 v] w fun x w' => NPost (embedS o v s) w x w' := by
  obtain ⟨es, li, ld, op⟩ := s
  cases es with
  | nil => simp at h0
  | cons e r =>
    simp only [List.length_cons] at hn
    subst hn
    cases hf : fits o ⟨e :: r, li, ld, op⟩ with
    | true =>
      obtain ⟨f1, f2, f3⟩ := fits_iff.1 hf
      simp only at f2 f3
      subst f2 f3
      have e1 : embedS o v ⟨e :: r, 0, 0, op⟩ = ⟨⟨nxt o e.lev, v, false⟩ :: e :: r, 0, 0, op⟩ := by unfold embedS; rw [if_pos hf]; rfl
      rw [e1]
      exact nEmbed_fits o g c r.length v e r op w ho hO rfl (by omega) hl hf
    | false =>
      have e1 : embedS o v ⟨e :: r, li, ld, op⟩ = if li = 0 then ⟨e :: r, li, ld + 1, op⟩ else ⟨e :: r, li, ld, op⟩ := by unfold embedS; rw [if_neg (by rw [hf]; decide)]
      rw [e1]
      exact nEmbed_not o g c r.length v e r li ld op w ho hO rfl (by omega) hl h1 h2 hf
end Go.Proofs.Ytehndhkcmccpmaa.Lv
