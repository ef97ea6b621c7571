/-
  Several texts in one, each with its own remark: LvRefO, LvRefE, LvRefP, LvRefB, BaRef, BaRefL.
-/
import Derived.Deep.RegionWith
import Derived.IntWalk
import Derived.Test.YtfclpecbnailgaaGreatR24
import Derived.Test.YtfclpecbnailgaaGreatR0
import Derived.Test.YtfclpecbnailgaaGreatR2

/-
 Proved here: what the document's own State.Without returns, for what is open in memory; it leaves what was in memory. Condition: what is open is as it may be.
-/
set_option linter.unusedVariables false
namespace Go.Proofs.YtfclpecbnailgaaGreat.Lv
open Go Go.RowKit Go.Lib Go.Proofs.YtfclpecbnailgaaGreat.Cl
set_option maxHeartbeats 2000000 in
set_option maxRecDepth 100000 in
theorem nWithout_any (g c n : Nat) (e : E) (r : List E) (li ld op : Int) (w : World) (hO : NsAt w g c (e :: r)) (hn : r.length = n) (h0 : 0 < n) (hr : n ≤ 1000) :
  Calls Tryz.prog 152 #[.agg #[.slice (some ⟨g, 0, none⟩) (n + 1) c, .int .i64 li, .int .i64 ld, .int .i64 op]] w fun x w' =>
   ∃ g' c', x = .returned (.agg #[.slice (some ⟨g', 0, none⟩) n c', .int .i64 li, .int .i64 ld, .int .i64 op]) ∧ NsAt w' g' c' r ∧ w.heap.size ≤ g' ∧ Below w.heap.size w w' := by
 obtain ⟨i0, hi, hz0, hz1, hz2⟩ := Cl.info_parts infoN3
 have hg := hO.1
 have hcap : n + 1 ≤ c := by have := hO.2.1; simp only [List.length_cons] at this; omega
 have HI := Lib.hid infoS
 have HO := Lib.hid hO.off
 have HN := Lib.hid hn
 have hlen : (nsC r).length = n * 3 := by rw [nsC_len, hn]
 clear hO hn
 go_enter Tryz.func152, Tryz.ntmps152
 go_wp2_with (at_builtin; refine wpList_append_src _ rfl _ _ 81 rfl (w.heap.size + 1 + 1) 80 i0 (.agg #[.int .i64 0, .int .i64 0, .int .i64 0]) 3 24 Tryz.underlying81 hi hz0 hz1 hz2 rfl (by decide) _ 0 [] rfl (made_at _ _ _ _ (by simp)) (some ⟨g, 0, none⟩) n c (nsC r) rfl hlen (fun e => by cases e) (fun ad had => ns_news had (HO.out.below (((Below.refl _ _).alloc (Nat.le_refl _) _).alloc (by simp) _ |>.alloc (by simp; omega) _))) (nsC_one r) (by unfold maxLen; omega) (by omega) (by simp) ?_)
 intro v3 w3 ho3 hg3
 obtain ⟨g3, c3, rfl, hns, hge⟩ := nsAt_own ho3 HN.out h0
 obtain ⟨e0, e1, hb2, hs2⟩ := two_new w (.cells #[.slice (some ⟨g, 0, none⟩) (n + 1) c, .int .i64 li, .int .i64 ld, .int .i64 op] 83) (.cells #[.slice none 0 0, .int .i64 0, .int .i64 0, .int .i64 0] 83)
 have hb3 := (Below.refl (w.heap.size + 1 + 1) _).grown hg3 (by simp) (fun k hk => by have e : some (w.heap.size + 1 + 1) = some k := hk; injection e with e; exact Nat.le_of_eq e)
 have hb3' := ((Below.refl (w.heap.size + 1 + 1) ((w.alloc (.cells #[.slice (some ⟨g, 0, none⟩) (n + 1) c, .int .i64 li, .int .i64 ld, .int .i64 op] 83)).alloc (.cells #[.slice none 0 0, .int .i64 0, .int .i64 0, .int .i64 0] 83))).alloc (by omega) _).trans hb3
 have q0 := (hb3'.block w.heap.size (by omega)).trans e0
 have q1 := (hb3'.block (w.heap.size + 1) (by omega)).trans e1
 have HBW := Lib.hid (hb2.trans (hb3'.mono (by omega)))
 obtain ⟨⟨z0, z1, z2, z3⟩, zf, -⟩ := four q0
 obtain ⟨⟨p0, p1, p2, p3⟩, d0, d1, d2, d3⟩ := four q1
 have HQ1 := Lib.hid q1
 have HNS := Lib.hid hns
 clear ho3 hg3 hns e0 e1 hb2 hs2 hb3 hb3' q0 q1 hi hz0 hz1 hz2 hlen
 go_wp2_with fail
 refine bodyPost_ret (results_cell_row Tryz.results152 _ _ (w.heap.size + 1) 83 _ (0, 0) _ rfl (heap_setCell_same _ _ 3 _ _ _ (heap_setCell_same _ _ 2 _ _ _ (heap_setCell_same _ _ 1 _ _ _ (heap_setCell_same _ _ 0 _ _ _ ((heap_setCell_other w3 ⟨w.heap.size, 0, none⟩ _ _ (by show w.heap.size + 1 ≠ w.heap.size; omega)).trans HQ1.out))))) Tryz.underlying83 rfl HI.out) rfl ?_
 refine ⟨g3, c3, rfl, ?_, by omega, ((((HBW.out.setCell (p := ⟨w.heap.size, 0, none⟩) (Nat.le_refl _) _).setCell (p := ⟨w.heap.size + 1, 0, none⟩) (by show w.heap.size ≤ w.heap.size + 1; omega) _).setCell (p := ⟨w.heap.size + 1, 1, none⟩) (by show w.heap.size ≤ w.heap.size + 1; omega) _).setCell (p := ⟨w.heap.size + 1, 2, none⟩) (by show w.heap.size ≤ w.heap.size + 1; omega) _).setCell (p := ⟨w.heap.size + 1, 3, none⟩) (by show w.heap.size ≤ w.heap.size + 1; omega) _⟩
 exact (((((HNS.out.store (a := ⟨w.heap.size, 0, none⟩) (by show g3 ≠ w.heap.size; omega) _).store (a := ⟨w.heap.size + 1, 0, none⟩) (by show g3 ≠ w.heap.size + 1; omega) _).store (a := ⟨w.heap.size + 1, 1, none⟩) (by show g3 ≠ w.heap.size + 1; omega) _).store (a := ⟨w.heap.size + 1, 2, none⟩) (by show g3 ≠ w.heap.size + 1; omega) _).store (a := ⟨w.heap.size + 1, 3, none⟩) (by show g3 ≠ w.heap.size + 1; omega) _)
end Go.Proofs.YtfclpecbnailgaaGreat.Lv

/-
  Proved here: what the document's own embed, begin return, for what is open in memory; they leave what was in memory. Condition: what is open is as it may be; counts of at most 2^40.
-/
set_option linter.unusedVariables false
namespace Go.Proofs.YtfclpecbnailgaaGreat.Lv
open Go Go.RowKit Go.Lib Go.Proofs.YtfclpecbnailgaaGreat.Cl
/-- What is returned: a State. -/
def NPost (s : St) (w : World) (x : Ending) (w' : World) : Prop :=
  ∃ g c, x = .returned (.agg #[.slice (some ⟨g, 0, none⟩) s.es.length c, .int .i64 s.li, .int .i64 s.ld, .int .i64 s.op]) ∧ NsAt w' g c s.es ∧ Below w.heap.size w w'
theorem nWith_ns (g c n : Nat) (es : List E) (e : E) (li ld op : Int) (w : World) (hO : NsAt w g c es) (hn : es.length = n) (h0 : 0 < n) (hr : n ≤ 1000) :
    Calls Tryz.prog 149 #[.agg #[.slice (some ⟨g, 0, none⟩) n c, .int .i64 li, .int .i64 ld, .int .i64 op], .agg #[.int .i64 e.lev, .int .i64 e.ov, .int .i64 (inI e)]] w fun x w' =>
      ∃ g' c', x = .returned (.agg #[.slice (some ⟨g', 0, none⟩) (n + 1) c', .int .i64 li, .int .i64 ld, .int .i64 op]) ∧ NsAt w' g' c' (e :: es) ∧ w.heap.size ≤ g' ∧ Below w.heap.size w w' := by
  refine (nWith_any g c n es e.lev e.ov (inI e) li ld op w hO hn h0 hr).mono ?_
  rintro x w' ⟨g', c', rfl, ho, hb⟩
  obtain ⟨g2, c2, hv, hns, hg⟩ := nsAt_own (es := e :: es) ho (by simp [hn]) (by omega)
  cases hv
  exact ⟨g', c', rfl, hns, hg, hb⟩
set_option maxHeartbeats 2000000 in
set_option maxRecDepth 100000 in
theorem nEmbed_fits (o g c n : Nat) (v : Int) (e : E) (r : List E) (op : Nat) (w : World) (ho : o ≤ 1) (hO : NsAt w g c (e :: r)) (hn : r.length = n) (hr : n ≤ 500) (hl : e.lev ≤ 125) (hf : fits o ⟨e :: r, 0, 0, op⟩ = true) :
    Calls Tryz.prog 108 #[.agg #[.slice (some ⟨g, 0, none⟩) (n + 1) c, .int .i64 0, .int .i64 0, .int .i64 op], .int .i64 o, .int .i64 v] w fun x w' => NPost ⟨⟨nxt o e.lev, v, false⟩ :: e :: r, 0, 0, op⟩ w x w' := by
  have HF := Lib.hid (fun W (h : Below w.heap.size w W) => nFits_any o g c n e r 0 0 op W ho (hO.below h) hn (by omega) hl (by omega) (by omega))
  rw [hf] at HF
  have HN := Lib.hid (fun W (h : Below w.heap.size w W) => nNext_any o g c n e r 0 0 op W ho (hO.below h) hn (by omega) hl)
  have HW := Lib.hid (fun W (h : Below w.heap.size w W) => nWith_ns g c (n + 1) (e :: r) ⟨nxt o e.lev, v, false⟩ 0 0 op W (hO.below h) (by simp [hn]) (by omega) (by omega))
  have HI := Lib.hid infoS
  have hi0 : inI ⟨nxt o e.lev, v, false⟩ = 0 := rfl
  rw [hi0] at HW
  unfold NPost
  simp only [List.length_cons]
  rw [hn]
  generalize nxt o e.lev = q at *
  clear hf hO hn hi0
  go_enter Tryz.func108, Tryz.ntmps108
  go_wp2_with fail
  obtain ⟨e0, e1, hbV, hsV⟩ := two_new w (.cells #[.slice (some ⟨g, 0, none⟩) (n + 1) c, .int .i64 0, .int .i64 0, .int .i64 op] 83) (.cells #[.slice none 0 0, .int .i64 0, .int .i64 0, .int .i64 0] 83)
  generalize ((w.alloc (.cells #[.slice (some ⟨g, 0, none⟩) (n + 1) c, .int .i64 0, .int .i64 0, .int .i64 op] 83)).alloc (.cells #[.slice none 0 0, .int .i64 0, .int .i64 0, .int .i64 0] 83)) = V at *
  have HC := Lib.hid (fun W (h : Below V.heap.size V W) => And.intro ((h.block w.heap.size (by omega)).trans e0) (And.intro ((h.block (w.heap.size + 1) (by omega)).trans e1) (hbV.trans (h.mono (by omega)))))
  refine (HF.out _ hbV).mono ?_
  rintro x w1 ⟨rfl, hb1⟩
  obtain ⟨b0, b1, hbw1⟩ := HC.out w1 hb1
  obtain ⟨⟨z0, z1, z2, z3⟩, -⟩ := four b0
  have HB1 := Lib.hid hb1
  have HBW1 := Lib.hid hbw1
  clear e0 e1 hbV hb1 b0 b1 hbw1 HF
  go_wp2_with fail
  rename_i K0 hK0
  obtain ⟨K1, hQ1⟩ : ∃ K1 : Act → World → Prop, ∀ y Z, K1 y Z ↔ (∃ g4 c4 : Nat, (Z.heap[w.heap.size + 1]? = some (.cells #[.slice (some ⟨g4, 0, none⟩) (n + 1 + 1) c4, .int .i64 0, .int .i64 0, .int .i64 op] 83 (0, 0)) ∧ NsAt Z g4 c4 (⟨q, v, false⟩ :: e :: r) ∧ Below w.heap.size w Z) ∧
    ∃ a7 a8 a9 a10 a11 a12 a13 a14 a15 a16, y = ⟨#[.agg #[.slice (some ⟨g, 0, none⟩) (n + 1) c, .int .i64 0, .int .i64 0, .int .i64 op], .int .i64 o, .int .i64 v, .pointer (some ⟨w.heap.size, 0, none⟩), undef, undef, .pointer (some ⟨w.heap.size + 1, 0, none⟩), a7, a8, a9, a10, a11, a12, a13, a14, a15, a16, undef, undef, undef, undef, undef, undef, undef, undef], []⟩) := ⟨_, fun _ _ => Iff.rfl⟩
  have HQ := Lib.hid hQ1
  clear hQ1
  refine wp_mono (Q := Exit.then K1 _) ?_ (then_to ?_)
  rotate_left
  · rintro y Z hh
    obtain ⟨g4, c4, ⟨b1, hns, hbz⟩, a7, a8, a9, a10, a11, a12, a13, a14, a15, a16, rfl⟩ := (HQ.out _ _).1 hh
    refine hK0 _ _ ?_
    go_wp2_with fail
    refine bodyPost_ret (results_cell_row Tryz.results108 _ _ (w.heap.size + 1) 83 _ (0, 0) _ rfl b1 Tryz.underlying83 rfl HI.out) rfl ?_
    exact ⟨g4, c4, rfl, hns, hbz⟩
  go_region_with
    (first
      | (go_at_call 150
         refine (HN.out _ (by first | exact HBW1.out | exact HBW1.out.drew)).mono ?_
         rintro x w5 ⟨rfl, hb5⟩
         have hV5 : Below V.heap.size V w5 := HB1.out.drew.trans (hb5.mono HB1.out.size)
         obtain ⟨b05, b15, hbw5⟩ := HC.out w5 hV5
         obtain ⟨⟨y0, y1, y2, y3⟩, -⟩ := four b05)
      | (go_at_call 149
         refine (HW.out _ hbw5).mono ?_
         rintro x w6 ⟨g6, c6, rfl, hns6, hg6, hb6⟩
         have hV6 : Below V.heap.size V w6 := hV5.trans (hb6.mono hV5.size)
         obtain ⟨b06, b16, hbw6⟩ := HC.out w6 hV6
         obtain ⟨⟨x0, x1, x2, x3⟩, f0, f1, f2, f3⟩ := four b16))
  all_goals show K1 _ _
  all_goals refine (HQ.out _ _).2 ?_
  all_goals
    have hne6 : g6 ≠ w.heap.size + 1 := by have h1 := hbw5.size; have h2 := hV5.size; have h3 := hsV; omega
    exact ⟨g6, c6, ⟨heap_setCell_same _ _ 3 _ _ _ (heap_setCell_same _ _ 2 _ _ _ (heap_setCell_same _ _ 1 _ _ _ (heap_setCell_same _ _ 0 _ _ _ b16))), (((hns6.store (a := ⟨w.heap.size + 1, 0, none⟩) hne6 _).store (a := ⟨w.heap.size + 1, 1, none⟩) hne6 _).store (a := ⟨w.heap.size + 1, 2, none⟩) hne6 _).store (a := ⟨w.heap.size + 1, 3, none⟩) hne6 _, (((hbw6.setCell (p := ⟨w.heap.size + 1, 0, none⟩) (Nat.le_succ _) _).setCell (p := ⟨w.heap.size + 1, 1, none⟩) (Nat.le_succ _) _).setCell (p := ⟨w.heap.size + 1, 2, none⟩) (Nat.le_succ _) _).setCell (p := ⟨w.heap.size + 1, 3, none⟩) (Nat.le_succ _) _⟩, _, _, _, _, _, _, _, _, _, _, rfl⟩
/-- The new variables of a function that takes a State. -/
theorem boxes (w : World) (g c n : Nat) (li ld op : Int) (V : World) (hV : (w.alloc (.cells #[.slice (some ⟨g, 0, none⟩) n c, .int .i64 li, .int .i64 ld, .int .i64 op] 83)).alloc (.cells #[.slice none 0 0, .int .i64 0, .int .i64 0, .int .i64 0] 83) = V) :
    Below w.heap.size w V ∧ V.heap.size = w.heap.size + 2 ∧ ∀ W, Below V.heap.size V W → W.heap[w.heap.size]? = some (.cells #[.slice (some ⟨g, 0, none⟩) n c, .int .i64 li, .int .i64 ld, .int .i64 op] 83 (0, 0)) ∧ W.heap[w.heap.size + 1]? = some (.cells #[.slice none 0 0, .int .i64 0, .int .i64 0, .int .i64 0] 83 (0, 0)) ∧ Below w.heap.size w W := by
  subst hV
  obtain ⟨e0, e1, hbV, hsV⟩ := two_new w (.cells #[.slice (some ⟨g, 0, none⟩) n c, .int .i64 li, .int .i64 ld, .int .i64 op] 83) (.cells #[.slice none 0 0, .int .i64 0, .int .i64 0, .int .i64 0] 83)
  exact ⟨hbV, hsV, fun W h => ⟨(h.block w.heap.size (by omega)).trans e0, (h.block (w.heap.size + 1) (by omega)).trans e1, hbV.trans (h.mono (by omega))⟩⟩
theorem four_set {w : World} {g : Nat} {x0 x1 x2 x3 : Value} {t : TypeId} (v0 v1 v2 v3 : Value) (h : w.heap[g]? = some (.cells #[x0, x1, x2, x3] t)) :
    ((((w.setCell ⟨g, 0, none⟩ v0).setCell ⟨g, 1, none⟩ v1).setCell ⟨g, 2, none⟩ v2).setCell ⟨g, 3, none⟩ v3).heap[g]? = some (.cells #[v0, v1, v2, v3] t) :=
  heap_setCell_same _ _ 3 _ _ _ (heap_setCell_same _ _ 2 _ _ _ (heap_setCell_same _ _ 1 _ _ _ (heap_setCell_same _ _ 0 _ _ _ h)))
theorem four_below {w W : World} {B g : Nat} (v0 v1 v2 v3 : Value) (h : Below B w W) (hg : B ≤ g) :
    Below B w ((((W.setCell ⟨g, 0, none⟩ v0).setCell ⟨g, 1, none⟩ v1).setCell ⟨g, 2, none⟩ v2).setCell ⟨g, 3, none⟩ v3) :=
  (((h.setCell hg _).setCell hg _).setCell hg _).setCell hg _
theorem four_ns {W : World} {g c k : Nat} {es : List E} (v0 v1 v2 v3 : Value) (h : NsAt W g c es) (hg : g ≠ k) :
    NsAt ((((W.setCell ⟨k, 0, none⟩ v0).setCell ⟨k, 1, none⟩ v1).setCell ⟨k, 2, none⟩ v2).setCell ⟨k, 3, none⟩ v3) g c es :=
  (((h.store (a := ⟨k, 0, none⟩) hg _).store (a := ⟨k, 1, none⟩) hg _).store (a := ⟨k, 2, none⟩) hg _).store (a := ⟨k, 3, none⟩) hg _
set_option maxHeartbeats 2000000 in
set_option maxRecDepth 100000 in
theorem nEmbed_not (o g c n : Nat) (v : Int) (e : E) (r : List E) (li ld op : Nat) (w : World) (ho : o ≤ 1) (hO : NsAt w g c (e :: r)) (hn : r.length = n) (hr : n ≤ 500) (hl : e.lev ≤ 125) (h1 : li ≤ 1099511627776) (h2 : ld ≤ 1099511627776) (hf : fits o ⟨e :: r, li, ld, op⟩ = false) :
    Calls Tryz.prog 108 #[.agg #[.slice (some ⟨g, 0, none⟩) (n + 1) c, .int .i64 li, .int .i64 ld, .int .i64 op], .int .i64 o, .int .i64 v] w fun x w' => NPost (if li = 0 then ⟨e :: r, li, ld + 1, op⟩ else ⟨e :: r, li, ld, op⟩) w x w' := by
  have HF := Lib.hid (fun W (h : Below w.heap.size w W) => nFits_any o g c n e r li ld op W ho (hO.below h) hn (by omega) hl (by omega) (by omega))
  rw [hf] at HF
  have HNS := Lib.hid (fun W (h : Below w.heap.size w W) => hO.below h)
  have hg := hO.1
  have HI := Lib.hid infoS
  unfold NPost
  rcases Nat.eq_zero_or_pos li with hz | hz
  · subst hz
    rw [if_pos rfl]
    simp only [List.length_cons]
    rw [hn]
    clear hf hO hn
    go_enter Tryz.func108, Tryz.ntmps108
    go_wp2_with fail
    generalize hV : (w.alloc (.cells #[.slice (some ⟨g, 0, none⟩) (n + 1) c, .int .i64 (0 : Nat), .int .i64 ld, .int .i64 op] 83)).alloc (.cells #[.slice none 0 0, .int .i64 0, .int .i64 0, .int .i64 0] 83) = V
    obtain ⟨hbV, hsV, hC⟩ := boxes w g c (n + 1) _ _ _ V hV
    clear hV
    have HC := Lib.hid hC
    refine (HF.out _ hbV).mono ?_
    rintro x w1 ⟨rfl, hb1⟩
    obtain ⟨b0, b1, hbw1⟩ := HC.out w1 hb1
    obtain ⟨⟨z0, z1, z2, z3⟩, -, -, f2, -⟩ := four b0
    obtain ⟨⟨p0, p1, p2, p3⟩, d0, d1, d2, d3⟩ := four b1
    have H1 := Lib.hid b1
    have HBW := Lib.hid hbw1
    have HNS1 := Lib.hid (HNS.out w1 hbw1)
    clear b0 b1 hbw1 hb1 hC HC HF HNS
    go_wp2_with fail
    refine bodyPost_ret (results_cell_row Tryz.results108 _ _ (w.heap.size + 1) 83 _ (0, 0) _ rfl (four_set _ _ _ _ ((heap_setCell_other w1 ⟨w.heap.size, 2, none⟩ _ _ (by show w.heap.size + 1 ≠ w.heap.size; omega)).trans H1.out)) Tryz.underlying83 rfl HI.out) rfl ?_
    exact ⟨g, c, rfl, four_ns _ _ _ _ (HNS1.out.store (a := ⟨w.heap.size, 2, none⟩) (by show g ≠ w.heap.size; omega) _) (by omega), four_below _ _ _ _ (HBW.out.setCell (p := ⟨w.heap.size, 2, none⟩) (Nat.le_refl _) _) (by omega)⟩
  · rw [if_neg (by omega)]
    have kz : ((li : Int) == 0) = false := by simp; omega
    simp only [List.length_cons]
    rw [hn]
    clear hf hO hn
    go_enter Tryz.func108, Tryz.ntmps108
    go_wp2_with fail
    generalize hV : (w.alloc (.cells #[.slice (some ⟨g, 0, none⟩) (n + 1) c, .int .i64 li, .int .i64 ld, .int .i64 op] 83)).alloc (.cells #[.slice none 0 0, .int .i64 0, .int .i64 0, .int .i64 0] 83) = V
    obtain ⟨hbV, hsV, hC⟩ := boxes w g c (n + 1) _ _ _ V hV
    clear hV
    have HC := Lib.hid hC
    refine (HF.out _ hbV).mono ?_
    rintro x w1 ⟨rfl, hb1⟩
    obtain ⟨b0, b1, hbw1⟩ := HC.out w1 hb1
    obtain ⟨⟨z0, z1, z2, z3⟩, -⟩ := four b0
    obtain ⟨⟨p0, p1, p2, p3⟩, d0, d1, d2, d3⟩ := four b1
    have H1 := Lib.hid b1
    have HBW := Lib.hid hbw1
    have HNS1 := Lib.hid (HNS.out w1 hbw1)
    clear b0 b1 hbw1 hb1 hC HC HF HNS
    go_wp2_with fail
    refine bodyPost_ret (results_cell_row Tryz.results108 _ _ (w.heap.size + 1) 83 _ (0, 0) _ rfl (four_set _ _ _ _ H1.out) Tryz.underlying83 rfl HI.out) rfl ?_
    exact ⟨g, c, rfl, four_ns _ _ _ _ HNS1.out (by omega), four_below _ _ _ _ HBW.out (by omega)⟩
theorem nEmbed_any (o g c n : Nat) (v : Int) (s : St) (w : World) (ho : o ≤ 1) (h0 : 0 < s.es.length) (hO : NsAt w g c s.es) (hn : s.es.length = n) (hr : n ≤ 500) (hl : (top s.es).lev ≤ 125) (h1 : s.li ≤ 1099511627776) (h2 : s.ld ≤ 1099511627776) :
    Calls Tryz.prog 108 #[.agg #[.slice (some ⟨g, 0, none⟩) n c, .int .i64 s.li, .int .i64 s.ld, .int .i64 s.op], .int .i64 o, .int .i64 v] w fun x w' => NPost (embedS o v s) w x w' := by
  obtain ⟨es, li, ld, op⟩ := s
  cases es with
  | nil => simp at h0
  | cons e r =>
    simp only [List.length_cons] at hn
    subst hn
    cases hf : fits o ⟨e :: r, li, ld, op⟩ with
    | true =>
      obtain ⟨f1, f2, f3⟩ := fits_iff.1 hf
      simp only at f2 f3
      subst f2 f3
      have e1 : embedS o v ⟨e :: r, 0, 0, op⟩ = ⟨⟨nxt o e.lev, v, false⟩ :: e :: r, 0, 0, op⟩ := by unfold embedS; rw [if_pos hf]; rfl
      rw [e1]
      exact nEmbed_fits o g c r.length v e r op w ho hO rfl (by omega) hl hf
    | false =>
      have e1 : embedS o v ⟨e :: r, li, ld, op⟩ = if li = 0 then ⟨e :: r, li, ld + 1, op⟩ else ⟨e :: r, li, ld, op⟩ := by unfold embedS; rw [if_neg (by rw [hf]; decide)]
      rw [e1]
      exact nEmbed_not o g c r.length v e r li ld op w ho hO rfl (by omega) hl h1 h2 hf
end Go.Proofs.YtfclpecbnailgaaGreat.Lv

/-
 Proved here: what the document's own pop, end return, for what is open in memory; they leave what was in memory. Condition: what is open is as it may be; counts of at most 2^40.
-/
set_option linter.unusedVariables false
namespace Go.Proofs.YtfclpecbnailgaaGreat.Lv
open Go Go.RowKit Go.Lib Go.Proofs.YtfclpecbnailgaaGreat.Cl
/-- A State is handed on. -/
theorem npost_as {V : World} {g c n : Nat} {s : St} {w : World} {li ld op : Int} (hn : s.es.length = n) (h1 : (s.li : Int) = li) (h2 : (s.ld : Int) = ld) (h3 : (s.op : Int) = op) (hns : NsAt V g c s.es) (hb : Below w.heap.size w V) : NPost s w (.returned (.agg #[.slice (some ⟨g, 0, none⟩) n c, .int .i64 li, .int .i64 ld, .int .i64 op])) V := by
 subst hn h1 h2 h3
 exact ⟨g, c, rfl, hns, hb⟩
set_option maxHeartbeats 2000000 in
set_option maxRecDepth 100000 in
theorem nPop_any (b g c n : Nat) (s : St) (w : World) (hb : b ≤ 1) (hc : Chain b s.es) (hO : NsAt w g c s.es) (hn : s.es.length = n) (h1 : s.li ≤ 1099511627776) (h2 : s.ld ≤ 1099511627776) :
  Calls Tryz.prog 112 #[.agg #[.slice (some ⟨g, 0, none⟩) n c, .int .i64 s.li, .int .i64 s.ld, .int .i64 s.op]] w fun x w' => NPost (popS s) w x w' := by
 have hs := hc.small hb
 have hg := hO.1
 have HI := Lib.hid infoS
 have HNS := Lib.hid (fun W (h : Below w.heap.size w W) => hO.below h)
 have HC0 := Lib.hid hc
 clear hO hc
 obtain ⟨es, li, ld, op⟩ := s
 simp only at *
 unfold popS
 simp only
 by_cases k1 : 0 < li
 ·rw [if_pos k1]
  have kz : decide (0 < li) = true := by simpa using k1
  go_enter Tryz.func112, Tryz.ntmps112
  go_wp2_with fail
  refine bodyPost_ret (results_cell_row Tryz.results112 _ _ (w.heap.size + 1) 83 _ (0, 0) _ rfl (two_new w _ _).2.1 Tryz.underlying83 rfl HI.out) rfl ?_
  exact npost_as hn rfl rfl rfl (HNS.out _ (two_new w _ _).2.2.1) (two_new w _ _).2.2.1
 ·rw [if_neg k1]
  obtain rfl : li = 0 := by omega
  clear k1
  by_cases k2 : 0 < ld
  ·rw [if_pos k2]
   obtain ⟨ld', rfl⟩ : ∃ ld', ld = ld' + 1 := ⟨ld - 1, by omega⟩
   have kz : decide (0 < ld' + 1) = true := by simp
   clear k2
   go_enter Tryz.func112, Tryz.ntmps112
   go_wp2_with fail
   refine bodyPost_ret (results_cell_row Tryz.results112 _ _ (w.heap.size + 1) 83 _ (0, 0) _ rfl (two_new w _ _).2.1 Tryz.underlying83 rfl HI.out) rfl ?_
   exact npost_as hn rfl rfl rfl (HNS.out _ (two_new w _ _).2.2.1) (two_new w _ _).2.2.1
  ·rw [if_neg k2]
   obtain rfl : ld = 0 := by omega
   clear k2
   cases es with
   | nil => exact HC0.out.elim
   | cons e r =>
    obtain ⟨n', hn'⟩ : ∃ n', r.length = n' := ⟨_, rfl⟩
    have hnn : n = n' + 1 := by rw [← hn, ← hn']; simp
    subst hnn
    clear hn
    have hs2 : n' ≤ 125 := by simp only [List.length_cons] at hs; omega
    have HT := Lib.hid (fun W (h : Below w.heap.size w W) => nTop_any g c n' e r 0 0 op W (HNS.out W h) hn' (by omega))
    have HF := Lib.hid (fun W => field_in e.lev e.ov (inI e) W)
    have hbx := boxes w g c (n' + 1) 0 0 op _ rfl
    obtain ⟨hbV, hsV, hC⟩ := hbx
    have HC := Lib.hid hC
    have HBV := Lib.hid hbV
    clear hC hbV hs
    obtain ⟨V, hV⟩ : ∃ V, (w.alloc (.cells #[.slice (some ⟨g, 0, none⟩) (n' + 1) c, .int .i64 0, .int .i64 0, .int .i64 op] 83)).alloc (.cells #[.slice none 0 0, .int .i64 0, .int .i64 0, .int .i64 0] 83) = V := ⟨_, rfl⟩
    rw [hV] at hsV HC HBV
    have HV := Lib.hid hV
    clear hV
    by_cases hi : e.iso = true
    ·rw [if_pos (.inl hi)]
     have hii : inI e = 1 := by unfold inI; rw [if_pos hi]
     rw [hii] at HT HF
     have hf := HF.out
     clear HF
     go_enter Tryz.func112, Tryz.ntmps112
     go_wp2_with fail
     rw [HV.out]
     refine (HT.out _ HBV.out).mono ?_
     rintro x w1 ⟨rfl, hb1⟩
     obtain ⟨b0, b1, hbw1⟩ := HC.out w1 hb1
     obtain ⟨⟨z0, z1, z2, z3⟩, -⟩ := four b0
     obtain ⟨⟨p0, p1, p2, p3⟩, d0, d1, d2, d3⟩ := four b1
     have H1 := Lib.hid b1
     have HBW := Lib.hid hbw1
     clear b0 b1 hb1 hbw1 HT HC
     go_wp2_with fail
     refine bodyPost_ret (results_cell_row Tryz.results112 _ _ (w.heap.size + 1) 83 _ (0, 0) _ rfl (four_set _ _ _ _ H1.out) Tryz.underlying83 rfl HI.out) rfl ?_
     exact npost_as (by simp [hn']) rfl rfl rfl (four_ns _ _ _ _ (HNS.out _ HBW.out) (by omega)) (four_below _ _ _ _ HBW.out (by omega))
    ·have hii : inI e = 0 := by unfold inI; rw [if_neg hi]
     rw [hii] at HT HF
     rcases Nat.eq_zero_or_pos n' with h0 | h0
     ·rw [if_pos (.inr (by simp [hn', h0]))]
      have kl : ((n' : Int) + 1 == 1) = true := by simp [h0]
      clear h0
      have hf := HF.out
      clear HF
      go_enter Tryz.func112, Tryz.ntmps112
      go_wp2_with fail
      rw [HV.out]
      refine (HT.out _ HBV.out).mono ?_
      rintro x w1 ⟨rfl, hb1⟩
      obtain ⟨b0, b1, hbw1⟩ := HC.out w1 hb1
      obtain ⟨⟨z0, z1, z2, z3⟩, -⟩ := four b0
      obtain ⟨⟨p0, p1, p2, p3⟩, d0, d1, d2, d3⟩ := four b1
      have H1 := Lib.hid b1
      have HBW := Lib.hid hbw1
      clear b0 b1 hb1 hbw1 HT HC
      go_wp2_with fail
      refine bodyPost_ret (results_cell_row Tryz.results112 _ _ (w.heap.size + 1) 83 _ (0, 0) _ rfl (four_set _ _ _ _ H1.out) Tryz.underlying83 rfl HI.out) rfl ?_
      exact npost_as (by simp [hn']) rfl rfl rfl (four_ns _ _ _ _ (HNS.out _ HBW.out) (by omega)) (four_below _ _ _ _ HBW.out (by omega))
     ·rw [if_neg (by rintro (h | h); exact hi h; simp [hn'] at h; omega)]
      simp only [List.tail_cons]
      have kl : ((n' : Int) + 1 == 1) = false := by simp; omega
      have HWO := Lib.hid (fun W (h : Below w.heap.size w W) => nWithout_any g c n' e r 0 0 op W (HNS.out W h) hn' h0 (by omega))
      have hf := HF.out
      clear HF
      go_enter Tryz.func112, Tryz.ntmps112
      go_wp2_with fail
      rw [HV.out]
      refine (HT.out _ HBV.out).mono ?_
      rintro x w1 ⟨rfl, hb1⟩
      obtain ⟨b0, b1, hbw1⟩ := HC.out w1 hb1
      obtain ⟨⟨z0, z1, z2, z3⟩, -⟩ := four b0
      obtain ⟨⟨p0, p1, p2, p3⟩, d0, d1, d2, d3⟩ := four b1
      have H1 := Lib.hid b1
      have HBW := Lib.hid hbw1
      clear b0 b1 HT
      go_wp2_with fail
      refine (HWO.out _ HBW.out).mono ?_
      rintro x w2 ⟨g2, c2, rfl, hns2, hg2, hb2⟩
      obtain ⟨b02, b12, hbw2⟩ := HC.out w2 (hb1.trans (hb2.mono hb1.size))
      obtain ⟨⟨y0, y1, y2, y3⟩, e0, e1, e2, e3⟩ := four b12
      have H2 := Lib.hid b12
      have HBW2 := Lib.hid hbw2
      have HNS2 := Lib.hid hns2
      have hs1 := hb1.size
      clear b02 b12 hb1 hb2 hbw2 hns2 HC HBW H1 p0 p1 p2 p3 d0 d1 d2 d3 z0 z1 z2 z3
      go_wp2_with fail
      refine bodyPost_ret (results_cell_row Tryz.results112 _ _ (w.heap.size + 1) 83 _ (0, 0) _ rfl (four_set _ _ _ _ H2.out) Tryz.underlying83 rfl HI.out) rfl ?_
      exact npost_as hn' rfl rfl rfl (four_ns _ _ _ _ HNS2.out (by omega)) (four_below _ _ _ _ HBW2.out (by omega))
/-- How many stand in a State's row, in a world. -/
def lenN (W : World) (h : Nat) : Nat := match W.cell? ⟨h, 0, none⟩ with
 | some (.slice _ n _) => n
 | _ => 0
theorem lenN_at {W : World} {h n c : Nat} {A : Option Addr} (hc : W.cell? ⟨h, 0, none⟩ = some (.slice A n c)) : lenN W h = n := by simp [lenN, hc]
set_option maxHeartbeats 2000000 in
set_option maxRecDepth 100000 in
theorem nEnd_any (b g c n : Nat) (s : St) (w : World) (hb : b ≤ 1) (hk : Ok b s) (hO : NsAt w g c s.es) (hn : s.es.length = n) (h1 : s.li ≤ 1099511627776) (h2 : s.ld ≤ 1099511627776) (h3 : s.op ≤ 1099511627776) :
  Calls Tryz.prog 111 #[.agg #[.slice (some ⟨g, 0, none⟩) n c, .int .i64 s.li, .int .i64 s.ld, .int .i64 s.op]] w fun x w' => NPost (endS s) w x w' := by
 have hs := hk.chain.small hb
 have hg := hO.1
 have HI := Lib.hid infoS
 have HNS := Lib.hid (fun W (h : Below w.heap.size w W) => hO.below h)
 obtain ⟨hc, hop⟩ := hk
 have HC0 := Lib.hid hc
 clear hO hc
 obtain ⟨es, li, ld, op⟩ := s
 simp only at *
 unfold endS
 simp only
 by_cases k1 : 0 < li
 ·rw [if_pos k1]
  obtain ⟨li', rfl⟩ : ∃ li', li = li' + 1 := ⟨li - 1, by omega⟩
  have kz : decide (0 < li' + 1) = true := by simp
  clear k1 hop
  go_enter Tryz.func111, Tryz.ntmps111
  go_wp2_with fail
  refine bodyPost_ret (results_cell_row Tryz.results111 _ _ (w.heap.size + 1) 83 _ (0, 0) _ rfl (two_new w _ _).2.1 Tryz.underlying83 rfl HI.out) rfl ?_
  exact npost_as hn rfl rfl rfl (HNS.out _ (two_new w _ _).2.2.1) (two_new w _ _).2.2.1
 ·rw [if_neg k1]
  obtain rfl : li = 0 := by omega
  clear k1
  by_cases hz : op = 0
  ·rw [if_pos hz]
   subst hz
   clear hop
   go_enter Tryz.func111, Tryz.ntmps111
   go_wp2_with fail
   refine bodyPost_ret (results_cell_row Tryz.results111 _ _ (w.heap.size + 1) 83 _ (0, 0) _ rfl (two_new w _ _).2.1 Tryz.underlying83 rfl HI.out) rfl ?_
   exact npost_as hn rfl rfl rfl (HNS.out _ (two_new w _ _).2.2.1) (two_new w _ _).2.2.1
  ·rw [if_neg hz]
   have kz : ((op : Int) == 0) = false := by simpa using hz
   have HP := Lib.hid (show 0 < isos es by omega)
   clear hop
   obtain ⟨op', rfl⟩ : ∃ op', op = op' + 1 := ⟨op - 1, by omega⟩
   have kz2 : ((op' : Int) + 1 == 0) = false := by simp; omega
   clear hz
   obtain ⟨e0, e1, hb2, hs2⟩ := two_new w (.cells #[.slice (some ⟨g, 0, none⟩) n c, .int .i64 0, .int .i64 0, .int .i64 op'] 83) (.cells #[.slice none 0 0, .int .i64 0, .int .i64 0, .int .i64 0] 83)
   have HST := Lib.hid (And.intro e0 (And.intro e1 (And.intro hb2 (HNS.out _ hb2))))
   clear e0 e1 hb2 hs2
   rw [show ((op' + 1 : Nat) : Int) = (op' : Int) + 1 from by omega, show ((0 : Nat) : Int) = 0 from rfl]
   go_enter Tryz.func111, Tryz.ntmps111
   go_wp2_with fail
   go_loopw [20] (fun _ wx => ∃ xs g c, Chain b xs ∧ 0 < isos xs ∧ cutI xs = cutI es ∧ NsAt wx g c xs ∧ g ≠ w.heap.size ∧ g ≠ w.heap.size + 1 ∧ wx.heap[w.heap.size]? = some (.cells #[.slice (some ⟨g, 0, none⟩) xs.length c, .int .i64 0, .int .i64 0, .int .i64 op'] 83 (0, 0)) ∧ wx.heap[w.heap.size + 1]? = some (.cells #[.slice none 0 0, .int .i64 0, .int .i64 0, .int .i64 0] 83 (0, 0)) ∧ Below w.heap.size w wx ∧ w.heap.size + 2 ≤ wx.heap.size) (fun _ wx => lenN wx w.heap.size)
   case atStart =>
    obtain ⟨e0, e1, hb2, hns⟩ := HST.out
    refine ⟨es, g, c, HC0.out, HP.out, rfl, hns, by omega, by omega, ?_, e1, hb2, by simp⟩
    rw [hn]
    exact e0
   case round =>
    obtain ⟨xs, g, c, hc, hp, hcut, hns, hg0, hg1, b0, b1, hbw, hsz⟩ := hrel
    have hs := hc.small hb
    clear HP HST HC0 HNS hn
    cases xs with
    | nil => exact hc.elim
    | cons e r =>
     cases r with
     | nil =>
      have hc : e = ⟨b, -1, false⟩ := hc
      subst hc
      simp [isos] at hp
     | cons t r =>
      obtain ⟨m, hm⟩ : ∃ m, (t :: r).length = m := ⟨_, rfl⟩
      have hm0 : 0 < m := by rw [← hm]; simp
      have hm1 : (e :: t :: r).length = m + 1 := by rw [← hm]; rfl
      rw [hm1] at b0 hs
      obtain ⟨⟨z0, z1, z2, z3⟩, f0, f1, f2, f3⟩ := four b0
      obtain ⟨⟨p0, p1, p2, p3⟩, d0, d1, d2, d3⟩ := four b1
      have hlen := lenN_at z0
      have HT := Lib.hid (nTop_any g c m e (t :: r) 0 0 op' wr hns hm (by omega))
      have HF := Lib.hid (fun W => field_in e.lev e.ov (inI e) W)
      have HWO := Lib.hid (fun W (h : Below wr.heap.size wr W) => nWithout_any g c m e (t :: r) 0 0 op' W (hns.below h) hm hm0 (by omega))
      have HCH := Lib.hid hc.2.2.2
      have HCU := Lib.hid hcut
      have HP := Lib.hid hp
      have H0 := Lib.hid b0
      have H1 := Lib.hid b1
      have HB := Lib.hid hbw
      have HL := Lib.hid hlen
      have hwr := hbw.size
      clear hc hcut hp hns b0 b1 hbw hlen hm1
      by_cases hi : e.iso = true
      ·have hii : inI e = 1 := by unfold inI; rw [if_pos hi]
       rw [hii] at HT HF
       have hcc : cutI es = t :: r := by rw [← HCU.out]; unfold cutI; rw [if_pos hi]
       have HCC := Lib.hid hcc
       clear hii hcc hi
       have hf := HF.out
       clear HF
       go_wp2_with fail
       refine HT.out.mono ?_
       rintro x w1 ⟨rfl, hb1⟩
       obtain ⟨⟨z0, z1, z2, z3⟩, -⟩ := four ((hb1.block w.heap.size (by omega)).trans H0.out)
       have HB1 := Lib.hid hb1
       clear hb1
       go_wp2_with fail
       refine (HWO.out _ HB1.out).mono ?_
       rintro x w2 ⟨g2, c2, rfl, hns2, hg2, hb2⟩
       have hb12 := HB1.out.trans (hb2.mono HB1.out.size)
       have b12 := (hb12.block (w.heap.size + 1) (by omega)).trans H1.out
       obtain ⟨⟨p0, p1, p2, p3⟩, d0, d1, d2, d3⟩ := four b12
       have H2 := Lib.hid b12
       have HBW2 := Lib.hid (HB.out.trans (hb12.mono hwr))
       have HNS2 := Lib.hid hns2
       have hs1 := HB1.out.size
       clear b12 hb2 hb12 hns2 z0 z1 z2 z3
       go_wp2_with fail
       refine bodyPost_ret (results_cell_row Tryz.results111 _ _ (w.heap.size + 1) 83 _ (0, 0) _ rfl (four_set _ _ _ _ H2.out) Tryz.underlying83 rfl HI.out) rfl ?_
       exact npost_as (by show (cutI es).length = m; rw [HCC.out]; exact hm) rfl rfl rfl (by show NsAt _ _ _ (cutI es); rw [HCC.out]; exact four_ns _ _ _ _ HNS2.out (by omega)) (four_below _ _ _ _ HBW2.out (by omega))
      ·have hii : inI e = 0 := by unfold inI; rw [if_neg hi]
       rw [hii] at HT HF
       have hcc : cutI (t :: r) = cutI es := by
        rw [← HCU.out]
        conv => rhs; unfold cutI
        rw [if_neg hi]
       have hpp : 0 < isos (t :: r) := by
        have := HP.out
        unfold isos at this
        rw [if_neg hi] at this
        exact this
       have HCC := Lib.hid (And.intro hcc hpp)
       clear hii hcc hpp hi
       have hf := HF.out
       clear HF
       go_wp2_with fail
       refine HT.out.mono ?_
       rintro x w1 ⟨rfl, hb1⟩
       obtain ⟨⟨z0, z1, z2, z3⟩, -⟩ := four ((hb1.block w.heap.size (by omega)).trans H0.out)
       have HB1 := Lib.hid hb1
       clear hb1
       go_wp2_with fail
       refine (HWO.out _ HB1.out).mono ?_
       rintro x w2 ⟨g2, c2, rfl, hns2, hg2, hb2⟩
       have hb12 := HB1.out.trans (hb2.mono HB1.out.size)
       have b02 := (hb12.block w.heap.size (by omega)).trans H0.out
       obtain ⟨⟨y0, y1, y2, y3⟩, e0, e1, e2, e3⟩ := four b02
       have b12 := (hb12.block (w.heap.size + 1) (by omega)).trans H1.out
       have H02 := Lib.hid b02
       have H12 := Lib.hid b12
       have HBW2 := Lib.hid (HB.out.trans (hb12.mono hwr))
       have HNS2 := Lib.hid hns2
       have hs1 := HB1.out.size
       have hs2 := hb2.size
       clear b12 hb2 hb12 hns2 z0 z1 z2 z3 b02
       go_wp2
       go_roundw
       case measure =>
        rw [HL.out]
        have hset := four_set (w := w2) (.slice (some ⟨g2, 0, none⟩) m c2) (.int .i64 0) (.int .i64 0) (.int .i64 op') H02.out
        rw [lenN_at (four hset).1.1]
        omega
       case rel =>
        refine ⟨t :: r, g2, c2, HCH.out, HCC.out.2, HCC.out.1, four_ns _ _ _ _ HNS2.out (by omega), by omega, by omega, ?_, (heap_setCell_other _ ⟨w.heap.size, 3, none⟩ _ _ (by show w.heap.size + 1 ≠ w.heap.size; omega)).trans ((heap_setCell_other _ ⟨w.heap.size, 2, none⟩ _ _ (by show w.heap.size + 1 ≠ w.heap.size; omega)).trans ((heap_setCell_other _ ⟨w.heap.size, 1, none⟩ _ _ (by show w.heap.size + 1 ≠ w.heap.size; omega)).trans ((heap_setCell_other _ ⟨w.heap.size, 0, none⟩ _ _ (by show w.heap.size + 1 ≠ w.heap.size; omega)).trans H12.out))), four_below _ _ _ _ HBW2.out (Nat.le_refl _), by simp; omega⟩
        rw [hm]
        exact four_set _ _ _ _ H02.out
end Go.Proofs.YtfclpecbnailgaaGreat.Lv

/-
  Proved here: what the document's own begin returns, for what is open in memory; it leaves what was in memory. Condition: what is open is as it may be; counts of at most 2^40.
-/
set_option linter.unusedVariables false
namespace Go.Proofs.YtfclpecbnailgaaGreat.Lv
open Go Go.RowKit Go.Lib Go.Proofs.YtfclpecbnailgaaGreat.Cl
set_option maxHeartbeats 2000000 in
set_option maxRecDepth 100000 in
theorem nBegin_fits (o g c n : Nat) (e : E) (r : List E) (op : Nat) (w : World) (ho : o ≤ 1) (hO : NsAt w g c (e :: r)) (hn : r.length = n) (hr : n ≤ 500) (hl : e.lev ≤ 125) (hf : fits o ⟨e :: r, 0, 0, op⟩ = true) (h3 : op ≤ 1099511627776) :
    Calls Tryz.prog 109 #[.agg #[.slice (some ⟨g, 0, none⟩) (n + 1) c, .int .i64 0, .int .i64 0, .int .i64 op], .int .i64 o] w fun x w' => NPost ⟨⟨nxt o e.lev, -1, true⟩ :: e :: r, 0, 0, op + 1⟩ w x w' := by
  have HF := Lib.hid (fun W (h : Below w.heap.size w W) => nFits_any o g c n e r 0 0 op W ho (hO.below h) hn (by omega) hl (by omega) (by omega))
  rw [hf] at HF
  have HN := Lib.hid (fun W (h : Below w.heap.size w W) => nNext_any o g c n e r 0 0 op W ho (hO.below h) hn (by omega) hl)
  have HW := Lib.hid (fun W (h : Below w.heap.size w W) => nWith_ns g c (n + 1) (e :: r) ⟨nxt o e.lev, -1, true⟩ 0 0 op W (hO.below h) (by simp [hn]) (by omega) (by omega))
  have HI := Lib.hid infoS
  have hi0 : inI ⟨nxt o e.lev, -1, true⟩ = 1 := rfl
  rw [hi0] at HW
  unfold NPost
  simp only [List.length_cons]
  rw [hn]
  generalize nxt o e.lev = q at *
  clear hf hO hn hi0
  go_enter Tryz.func109, Tryz.ntmps109
  go_wp2_with fail
  obtain ⟨e0, e1, hbV, hsV⟩ := two_new w (.cells #[.slice (some ⟨g, 0, none⟩) (n + 1) c, .int .i64 0, .int .i64 0, .int .i64 op] 83) (.cells #[.slice none 0 0, .int .i64 0, .int .i64 0, .int .i64 0] 83)
  generalize ((w.alloc (.cells #[.slice (some ⟨g, 0, none⟩) (n + 1) c, .int .i64 0, .int .i64 0, .int .i64 op] 83)).alloc (.cells #[.slice none 0 0, .int .i64 0, .int .i64 0, .int .i64 0] 83)) = V at *
  have HC := Lib.hid (fun W (h : Below V.heap.size V W) => And.intro ((h.block w.heap.size (by omega)).trans e0) (And.intro ((h.block (w.heap.size + 1) (by omega)).trans e1) (hbV.trans (h.mono (by omega)))))
  refine (HF.out _ hbV).mono ?_
  rintro x w1 ⟨rfl, hb1⟩
  obtain ⟨b0, b1, hbw1⟩ := HC.out w1 hb1
  obtain ⟨⟨z0, z1, z2, z3⟩, -⟩ := four b0
  have HB1 := Lib.hid hb1
  have HBW1 := Lib.hid hbw1
  clear e0 e1 hbV hb1 b0 b1 hbw1 HF
  go_wp2_with fail
  rename_i K0 hK0
  obtain ⟨K1, hQ1⟩ : ∃ K1 : Act → World → Prop, ∀ y Z, K1 y Z ↔ (∃ g4 c4 : Nat, (Z.heap[w.heap.size]? = some (.cells #[.slice (some ⟨g4, 0, none⟩) (n + 1 + 1) c4, .int .i64 0, .int .i64 0, .int .i64 op] 83 (0, 0)) ∧ Z.heap[w.heap.size + 1]? = some (.cells #[.slice none 0 0, .int .i64 0, .int .i64 0, .int .i64 0] 83 (0, 0)) ∧ g4 ≠ w.heap.size ∧ g4 ≠ w.heap.size + 1 ∧ NsAt Z g4 c4 (⟨q, -1, true⟩ :: e :: r) ∧ Below w.heap.size w Z) ∧
    ∃ a5 a6 a7 a8 a9 a10 a11 a12 a13 a14 a15 a16 a17 a18 a19, y = ⟨#[.agg #[.slice (some ⟨g, 0, none⟩) (n + 1) c, .int .i64 0, .int .i64 0, .int .i64 op], .int .i64 o, .pointer (some ⟨w.heap.size, 0, none⟩), undef, .pointer (some ⟨w.heap.size + 1, 0, none⟩), a5, a6, a7, a8, a9, a10, a11, a12, a13, a14, a15, a16, a17, a18, a19, undef, undef, undef, undef, undef], []⟩) := ⟨_, fun _ _ => Iff.rfl⟩
  have HQ := Lib.hid hQ1
  clear hQ1
  refine wp_mono (Q := Exit.then K1 _) ?_ (then_to ?_)
  rotate_left
  · rintro y Z hh
    obtain ⟨g4, c4, ⟨b0, b1, hg0, hg1, hns, hbz⟩, a5, a6, a7, a8, a9, a10, a11, a12, a13, a14, a15, a16, a17, a18, a19, rfl⟩ := (HQ.out _ _).1 hh
    refine hK0 _ _ ?_
    obtain ⟨⟨q0, q1, q2, q3⟩, -, -, -, f3⟩ := four b0
    obtain ⟨⟨p0, p1, p2, p3⟩, d0, d1, d2, d3⟩ := four b1
    have H1 := Lib.hid b1
    have HBW := Lib.hid hbz
    have HNS1 := Lib.hid hns
    clear hh HQ b0 b1 hbz hns HN HW HC HB1 HBW1 z0 z1 z2 z3
    go_wp2_with fail
    refine bodyPost_ret (results_cell_row Tryz.results109 _ _ (w.heap.size + 1) 83 _ (0, 0) _ rfl (four_set _ _ _ _ ((heap_setCell_other Z ⟨w.heap.size, 3, none⟩ _ _ (by show w.heap.size + 1 ≠ w.heap.size; omega)).trans H1.out)) Tryz.underlying83 rfl HI.out) rfl ?_
    exact ⟨g4, c4, rfl, four_ns _ _ _ _ (HNS1.out.store (a := ⟨w.heap.size, 3, none⟩) hg0 _) hg1, four_below _ _ _ _ (HBW.out.setCell (p := ⟨w.heap.size, 3, none⟩) (Nat.le_refl _) _) (by omega)⟩
  go_region_with
    (first
      | (go_at_call 150
         refine (HN.out _ (by first | exact HBW1.out | exact HBW1.out.drew)).mono ?_
         rintro x w5 ⟨rfl, hb5⟩
         have hV5 : Below V.heap.size V w5 := HB1.out.drew.trans (hb5.mono HB1.out.size)
         obtain ⟨b05, b15, hbw5⟩ := HC.out w5 hV5
         obtain ⟨⟨y0, y1, y2, y3⟩, -⟩ := four b05)
      | (go_at_call 149
         refine (HW.out _ hbw5).mono ?_
         rintro x w6 ⟨g6, c6, rfl, hns6, hg6, hb6⟩
         have hV6 : Below V.heap.size V w6 := hV5.trans (hb6.mono hV5.size)
         obtain ⟨b06, b16, hbw6⟩ := HC.out w6 hV6
         obtain ⟨⟨x0, x1, x2, x3⟩, f0, f1, f2, f3⟩ := four b06))
  all_goals show K1 _ _
  all_goals refine (HQ.out _ _).2 ?_
  all_goals
    have hne6 : g6 ≠ w.heap.size := by have h1 := hbw5.size; have h2 := hV5.size; have h3 := hsV; omega
    have hne7 : g6 ≠ w.heap.size + 1 := by have h1 := hbw5.size; have h2 := hV5.size; have h3 := hsV; omega
    exact ⟨g6, c6, ⟨four_set _ _ _ _ b06, (heap_setCell_other _ ⟨w.heap.size, 3, none⟩ _ _ (by show w.heap.size + 1 ≠ w.heap.size; omega)).trans ((heap_setCell_other _ ⟨w.heap.size, 2, none⟩ _ _ (by show w.heap.size + 1 ≠ w.heap.size; omega)).trans ((heap_setCell_other _ ⟨w.heap.size, 1, none⟩ _ _ (by show w.heap.size + 1 ≠ w.heap.size; omega)).trans ((heap_setCell_other _ ⟨w.heap.size, 0, none⟩ _ _ (by show w.heap.size + 1 ≠ w.heap.size; omega)).trans b16))), hne6, hne7, four_ns _ _ _ _ hns6 hne6, four_below _ _ _ _ hbw6 (Nat.le_refl _)⟩, _, _, _, _, _, _, _, _, _, _, _, _, _, _, _, rfl⟩
set_option maxHeartbeats 2000000 in
set_option maxRecDepth 100000 in
theorem nBegin_not (o g c n : Nat) (e : E) (r : List E) (li ld op : Nat) (w : World) (ho : o ≤ 1) (hO : NsAt w g c (e :: r)) (hn : r.length = n) (hr : n ≤ 500) (hl : e.lev ≤ 125) (h1 : li ≤ 1099511627776) (h2 : ld ≤ 1099511627776) (hf : fits o ⟨e :: r, li, ld, op⟩ = false) :
  Calls Tryz.prog 109 #[.agg #[.slice (some ⟨g, 0, none⟩) (n + 1) c, .int .i64 li, .int .i64 ld, .int .i64 op], .int .i64 o] w fun x w' => NPost ⟨e :: r, li + 1, ld, op⟩ w x w' := by
  have HF := Lib.hid (fun W (h : Below w.heap.size w W) => nFits_any o g c n e r li ld op W ho (hO.below h) hn (by omega) hl (by omega) (by omega))
  rw [hf] at HF
  have HNS := Lib.hid (fun W (h : Below w.heap.size w W) => hO.below h)
  have hg := hO.1
  have HI := Lib.hid infoS
  unfold NPost
  simp only [List.length_cons]
  rw [hn]
  clear hf hO hn
  go_enter Tryz.func109, Tryz.ntmps109
  go_wp2_with fail
  generalize hV : (w.alloc (.cells #[.slice (some ⟨g, 0, none⟩) (n + 1) c, .int .i64 li, .int .i64 ld, .int .i64 op] 83)).alloc (.cells #[.slice none 0 0, .int .i64 0, .int .i64 0, .int .i64 0] 83) = V
  obtain ⟨hbV, hsV, hC⟩ := boxes w g c (n + 1) _ _ _ V hV
  clear hV
  have HC := Lib.hid hC
  refine (HF.out _ hbV).mono ?_
  rintro x w1 ⟨rfl, hb1⟩
  obtain ⟨b0, b1, hbw1⟩ := HC.out w1 hb1
  obtain ⟨⟨z0, z1, z2, z3⟩, -, f1, -⟩ := four b0
  obtain ⟨⟨p0, p1, p2, p3⟩, d0, d1, d2, d3⟩ := four b1
  have H1 := Lib.hid b1
  have HBW := Lib.hid hbw1
  have HNS1 := Lib.hid (HNS.out w1 hbw1)
  clear b0 b1 hbw1 hb1 hC HC HF HNS
  go_wp2_with fail
  refine bodyPost_ret (results_cell_row Tryz.results109 _ _ (w.heap.size + 1) 83 _ (0, 0) _ rfl (four_set _ _ _ _ ((heap_setCell_other w1 ⟨w.heap.size, 1, none⟩ _ _ (by show w.heap.size + 1 ≠ w.heap.size; omega)).trans H1.out)) Tryz.underlying83 rfl HI.out) rfl ?_
  exact ⟨g, c, rfl, four_ns _ _ _ _ (HNS1.out.store (a := ⟨w.heap.size, 1, none⟩) (by show g ≠ w.heap.size; omega) _) (by omega), four_below _ _ _ _ (HBW.out.setCell (p := ⟨w.heap.size, 1, none⟩) (Nat.le_refl _) _) (by omega)⟩
theorem nBegin_any (o g c n : Nat) (s : St) (w : World) (ho : o ≤ 1) (h0 : 0 < s.es.length) (hO : NsAt w g c s.es) (hn : s.es.length = n) (hr : n ≤ 500) (hl : (top s.es).lev ≤ 125) (h1 : s.li ≤ 1099511627776) (h2 : s.ld ≤ 1099511627776) (h3 : s.op ≤ 1099511627776) :
    Calls Tryz.prog 109 #[.agg #[.slice (some ⟨g, 0, none⟩) n c, .int .i64 s.li, .int .i64 s.ld, .int .i64 s.op], .int .i64 o] w fun x w' => NPost (beginS o s) w x w' := by
  obtain ⟨es, li, ld, op⟩ := s
  cases es with
  | nil => simp at h0
  | cons e r =>
    simp only [List.length_cons] at hn
    subst hn
    cases hf : fits o ⟨e :: r, li, ld, op⟩ with
    | true =>
      obtain ⟨f1, f2, f3⟩ := fits_iff.1 hf
      simp only at f2 f3
      subst f2 f3
      have e1 : beginS o ⟨e :: r, 0, 0, op⟩ = ⟨⟨nxt o e.lev, -1, true⟩ :: e :: r, 0, 0, op + 1⟩ := by unfold beginS; rw [if_pos hf]; rfl
      rw [e1]
      exact nBegin_fits o g c r.length e r op w ho hO rfl (by omega) hl hf h3
    | false =>
      have e1 : beginS o ⟨e :: r, li, ld, op⟩ = ⟨e :: r, li + 1, ld, op⟩ := by unfold beginS; rw [if_neg (by rw [hf]; decide)]
      rw [e1]
      exact nBegin_not o g c r.length e r li ld op w ho hO rfl (by omega) hl h1 h2 hf
end Go.Proofs.YtfclpecbnailgaaGreat.Lv

/-
 Proved here: what the document's own answers of layer 10 return for classes (Initiator, End), for every row of numbers of at most 2^40: what the plain functions are. They leave what was in memory.
-/
set_option linter.unusedVariables false
namespace Go.Proofs.YtfclpecbnailgaaGreat.Ba
open Go.RowKit Go.Lib Go.Proofs.YtfclpecbnailgaaGreat.Cl
theorem isI_range (c : Int) : isI c = (decide (19 ≤ c) && decide (c ≤ 21)) := by
 have h : (isI c = true) = ((decide (19 ≤ c) && decide (c ≤ 21)) = true) := by
  simp only [isI, Bool.or_eq_true, Bool.and_eq_true, beq_iff_eq, decide_eq_true_eq, eq_iff_iff]
  omega
 cases h1 : isI c <;> cases h2 : (decide (19 ≤ c) && decide (c ≤ 21)) <;> simp_all
set_option maxHeartbeats 1000000 in
theorem init_any (c : Int) (w : World) :
  Calls Tryz.prog 69 #[.int .i64 c] w fun e w' => e = .returned (.bool (isI c)) ∧ w = w' := by
 rw [isI_range]
 by_cases h1 : 19 ≤ c
 ·have d1 : decide (19 ≤ c) = true := decide_eq_true h1
  rw [d1]
  cases h2 : decide (c ≤ 21)
  all_goals
   go_enter Tryz.func69, Tryz.ntmps69
   go_wp2
   go_ret
   exact ⟨rfl, rfl⟩
 ·have d1 : decide (19 ≤ c) = false := decide_eq_false h1
  rw [d1]
  go_enter Tryz.func69, Tryz.ntmps69
  go_wp2
  go_ret
  exact ⟨rfl, rfl⟩
set_option maxHeartbeats 2000000 in
set_option maxRecDepth 100000 in
theorem end_any (A : Option Addr) (l : List Int) (n m i : Nat) (w : World) (hl : l.length = n) (hR : IntsAt w A l) (hn : n ≤ 1099511627776) (hi : i < n) :
  Calls Tryz.prog 70 #[.slice A n m, .int .i64 i] w fun e w' => e = .returned (.int .i64 (endAt l i)) ∧ w = w' := by
 obtain ⟨x, hx⟩ : ∃ x, endAt l i = x := ⟨_, rfl⟩
 rw [hx]
 have HX := Lib.hid (show i + 1 + endL (l.drop (i + 1)) 0 = x from hx)
 have HR := Lib.hid hR
 have HL := Lib.hid hl
 clear hx hR hl
 go_enter Tryz.func70, Tryz.ntmps70
 go_wp2
 go_loop [5, 6] (fun s5 s6 => ∃ q d : Nat, s5 = .int .i64 d ∧ s6 = .int .i64 q ∧ q ≤ n ∧ d ≤ q ∧ q + endL (l.drop q) d = x) (fun _ s6 => n - (RowKit.intOf s6).toNat)
 case atStart => exact ⟨i + 1, 0, rfl, by go_num, by omega, Nat.zero_le _, HX.out⟩
 case round =>
  obtain ⟨q, d, rfl, rfl, hq, hd, hv⟩ := hrel
  have HV := Lib.hid hv
  clear hv
  by_cases hlt : q < n
  ·have hkl : q < l.length := by rw [HL.out]; exact hlt
   obtain ⟨b, off, rfl, hc0⟩ := HR.out.at_ hkl
   have HLI := Lib.hid (fun h => endL_I l q d hkl h)
   have HLP := Lib.hid (fun d h => endL_P l q d hkl h)
   have HLZ := Lib.hid (fun h => endL_P0 l q hkl h)
   have HLN := Lib.hid (fun h h2 => endL_N l q d hkl h h2)
   generalize l[q] = c at *
   by_cases hP : c = 22
   ·subst hP
    rcases Nat.eq_zero_or_pos d with hd0 | hd0
    ·subst hd0
     have hfin : x = q := by rw [← HV.out]; exact HLZ.out rfl
     subst hfin
     clear HLI HLP HLZ HLN HV
     go_wp2
     go_ret
     exact ⟨rfl, rfl⟩
    ·obtain ⟨d', rfl⟩ : ∃ d', d = d' + 1 := ⟨d - 1, by omega⟩
     have HV2 := Lib.hid (show q + 1 + endL (l.drop (q + 1)) d' = x by rw [← HV.out]; exact (HLP.out d' rfl).symm)
     have hdz : ((d' : Int) + 1 == 0) = false := by simp; omega
     clear HLI HLP HLZ HLN HV hd0
     go_wp2_with fail
     refine (init_any _ _).mono ?_
     rintro e w1 ⟨rfl, rfl⟩
     go_wp2
     go_round
     case measure => simp [RowKit.intOf]; omega
     case rel => exact ⟨q + 1, d', by go_num, by go_num, by omega, by omega, HV2.out⟩
   ·have hPf : isP c = false := by simpa [isP] using hP
    have hP2 : (c == 22) = false := by simpa using hP
    cases hI : isI c with
    | true =>
     have HV2 := Lib.hid (show q + 1 + endL (l.drop (q + 1)) (d + 1) = x by rw [← HV.out]; exact (HLI.out hI).symm)
     clear HLI HLP HLZ HLN HV hP hPf
     go_wp2_with fail
     refine (init_any _ _).mono ?_
     rintro e w1 ⟨rfl, rfl⟩
     rw [hI]
     go_wp2
     go_round
     case measure => simp [RowKit.intOf]; omega
     case rel => exact ⟨q + 1, d + 1, by go_num, by go_num, by omega, by omega, HV2.out⟩
    | false =>
     have HV2 := Lib.hid (show q + 1 + endL (l.drop (q + 1)) d = x by rw [← HV.out]; exact (HLN.out hPf hI).symm)
     clear HLI HLP HLZ HLN HV hP hPf
     go_wp2_with fail
     refine (init_any _ _).mono ?_
     rintro e w1 ⟨rfl, rfl⟩
     rw [hI]
     go_wp2
     go_round
     case measure => simp [RowKit.intOf]; omega
     case rel => exact ⟨q + 1, d, by go_num, by go_num, by omega, by omega, HV2.out⟩
  ·have hke : q = n := by omega
   subst hke
   have hv := HV.out
   rw [List.drop_eq_nil_of_le (by rw [HL.out]; exact Nat.le_refl _)] at hv
   have hv2 : x = q := by rw [← hv]; rfl
   subst hv2
   go_wp2
   go_ret
   exact ⟨rfl, rfl⟩
end Go.Proofs.YtfclpecbnailgaaGreat.Ba

/-
 Proved here: what the document's own answer parquetryref10.Level returns, for every row of numbers of at most 2^40: the plain levL. It leaves what was in memory.
-/
set_option linter.unusedVariables false
namespace Go.Proofs.YtfclpecbnailgaaGreat.Ba
open Go.RowKit Go.Lib Go.Proofs.YtfclpecbnailgaaGreat.Cl
/-- Whether an initiator stands at a place. -/
def isAt (l : List Int) (t : Nat) : Bool := match l[t]? with | none => false | some c => isI c
/-- Whether one of the first k places has an initiator that ends behind i. -/
def inB (l : List Int) (i k : Nat) : Bool := (List.range k).any fun t => isAt l t && decide (i < endAt l t)
theorem inB_succ (l : List Int) (i k : Nat) : inB l i (k + 1) = (inB l i k || (isAt l k && decide (i < endAt l k))) := by
 unfold inB
 rw [List.range_succ, List.any_append]
 simp
theorem isAt_eq {l : List Int} {t : Nat} (h : t < l.length) : isAt l t = isI l[t] := by simp [isAt, h]
theorem inB_end {l : List Int} {i : Nat} (hi : i < l.length) (hp : isP l[i] = false) : inB l i i = !(stk l i).isEmpty := by
 cases hs : stk l i with
 | nil =>
  unfold inB
  rw [List.any_eq_false.2]
  ·rfl
  intro t ht
  have ht := List.mem_range.1 ht
  rw [isAt_eq (by omega)]
  intro h
  simp only [Bool.and_eq_true, decide_eq_true_eq] at h
  have := (stk_iff (l := l) (k := i) (by omega) ht (by omega) h.1).2 (by omega)
  rw [hs] at this
  cases this
 | cons t r =>
  unfold inB
  rw [List.any_eq_true.2]
  ·rfl
  have hm : t ∈ stk l i := by rw [hs]; exact List.mem_cons_self ..
  obtain ⟨h1, h2, h3⟩ := stk_at l i (by omega) 0 t (by rw [hs]; rfl)
  have h4 : t < l.length := by omega
  rw [List.getElem?_eq_getElem h4] at h2
  have h2 : isI l[t] = true := by simpa using h2
  refine ⟨t, List.mem_range.2 h1, ?_⟩
  rw [isAt_eq h4, h2]
  have h5 := (stk_iff (l := l) (k := i) (by omega) h1 h4 h2).1 hm
  have h6 : endAt l t ≠ i := by
   intro e
   have := endAt_P l t (by omega)
   simp only [e] at this
   rw [hp] at this
   cases this
  simp
  omega
/-- The level, by what is open behind so many classes. -/
def levS (l : List Int) (k : Nat) : Int × Bool := levL (l.drop k) (stk l k).length
theorem levS_end (l : List Int) : levS l l.length = (0, false) := by
 unfold levS
 rw [List.drop_length]
 rfl
theorem levS_I {l : List Int} {k : Nat} (h : k < l.length) (hi : isI l[k] = true) : levS l k = levS l (k + 1) := by
 unfold levS
 rw [levL_I h hi, stk_I h hi, List.length_cons]
theorem levS_P {l : List Int} {k : Nat} (h : k < l.length) (hp : isP l[k] = true) : levS l k = levS l (k + 1) := by
 unfold levS
 rw [levL_P h hp, stk_P h hp, List.length_tail]
theorem levS_N {l : List Int} {k : Nat} (h : k < l.length) (hp : isP l[k] = false) (hi : isI l[k] = false) :
  levS l k = if inB l k k = false ∧ l[k] = 0 then (0, true) else if inB l k k = false ∧ (l[k] = 1 ∨ l[k] = 2) then (1, true) else levS l (k + 1) := by
 have hb := inB_end h hp
 unfold levS
 rw [levL_N h hp hi, stk_N h hp hi, hb]
 cases hs : stk l k with
 | nil => simp
 | cons t r => simp
set_option maxHeartbeats 2000000 in
set_option maxRecDepth 100000 in
theorem reflevel_any (A : Option Addr) (l : List Int) (n m : Nat) (w : World) (hl : l.length = n) (hR : IntsAt w A l) (hn : n ≤ 1099511627776) :
  Calls Tryz.prog 151 #[.slice A n m] w fun e w' => e = .returned (.tuple #[.int .i64 (levL l 0).1, .bool (levL l 0).2]) ∧ w = w' := by
 obtain ⟨x, hx⟩ : ∃ x, levL l 0 = x := ⟨_, rfl⟩
 rw [hx]
 have HX := Lib.hid (show levS l 0 = x from hx)
 have HR := Lib.hid hR
 have HL := Lib.hid hl
 have HE := Lib.hid (fun i hi => end_any A l n m i w hl hR hn hi)
 have HFIN := Lib.hid (show levS l n = (0, false) by rw [← hl]; exact levS_end l)
 clear hx hR hl
 go_enter Tryz.func151, Tryz.ntmps151
 go_wp2
 go_loop [4] (fun s4 => ∃ i : Nat, s4 = .int .i64 i ∧ i ≤ n ∧ levS l i = x) (fun s4 => n - (RowKit.intOf s4).toNat)
 case atStart => exact ⟨0, rfl, Nat.zero_le _, HX.out⟩
 case round =>
  obtain ⟨i, rfl, hi, hv⟩ := hrel
  have HV := Lib.hid hv
  clear hv
  by_cases hlt : i < n
  ·have hkl : i < l.length := by rw [HL.out]; exact hlt
   obtain ⟨b, off, rfl, hc0⟩ := HR.out.at_ hkl
   have HLI := Lib.hid (fun h => (levS_I hkl h).symm.trans HV.out)
   have HLP := Lib.hid (fun h => (levS_P hkl h).symm.trans HV.out)
   have HLN := Lib.hid (fun h h2 => (levS_N hkl h h2).symm.trans HV.out)
   generalize l[i] = c at *
   clear HFIN
   go_wp2
   go_loop [5, 6] (fun s5 s6 => ∃ k : Nat, s5 = .bool (inB l i k) ∧ s6 = .int .i64 k ∧ k ≤ i) (fun _ s6 => i - (RowKit.intOf s6).toNat)
   case atStart => exact ⟨0, rfl, rfl, Nat.zero_le _⟩
   case round =>
    obtain ⟨k, rfl, rfl, hk⟩ := hrel
    by_cases hki : k < i
    ·have hkl2 : k < l.length := by omega
     obtain ⟨b2, off2, hab, hc2⟩ := HR.out.at_ hkl2
     injection hab with hab
     injection hab with hab1 hab2
     subst hab1 hab2
     have HS := Lib.hid (inB_succ l i k)
     rw [isAt_eq hkl2] at HS
     have HE1 := Lib.hid (HE.out k (by omega))
     obtain ⟨y, hy⟩ : ∃ y, l[k] = y := ⟨_, rfl⟩
     obtain ⟨e, he⟩ : ∃ e, endAt l k = e := ⟨_, rfl⟩
     rw [hy] at hc2 HS
     rw [he] at HE1 HS
     clear hy he
     cases hB : inB l i k with
     | true =>
      rw [hB, Bool.true_or] at HS
      clear hB
      go_wp2
      go_round
      case measure => simp [RowKit.intOf]; omega
      case rel => exact ⟨k + 1, by rw [HS.out], by go_num, by omega⟩
     | false =>
      rw [hB, Bool.false_or] at HS
      clear hB
      cases hI : isI y with
      | false =>
       rw [hI, Bool.false_and] at HS
       go_wp2_with (first | (go_at_call 69; refine (init_any _ _).mono ?_; rintro e w' ⟨rfl, rfl⟩))
       go_round
       case measure => simp [RowKit.intOf]; omega
       case rel => exact ⟨k + 1, by rw [HS.out], by go_num, by omega⟩
      | true =>
       rw [hI, Bool.true_and] at HS
       by_cases hei : i < e
       ·have he2 : decide (i < e) = true := decide_eq_true hei
        rw [he2] at HS
        go_wp2_with (first | (go_at_call 69; refine (init_any _ _).mono ?_; rintro e w' ⟨rfl, rfl⟩) | (go_at_call 70; refine (HE1.out).mono ?_; rintro e w' ⟨rfl, rfl⟩))
        go_round
        case measure => simp [RowKit.intOf]; omega
        case rel => exact ⟨k + 1, by rw [HS.out], by go_num, by omega⟩
       ·have he2 : decide (i < e) = false := decide_eq_false hei
        rw [he2] at HS
        go_wp2_with (first | (go_at_call 69; refine (init_any _ _).mono ?_; rintro e w' ⟨rfl, rfl⟩) | (go_at_call 70; refine (HE1.out).mono ?_; rintro e w' ⟨rfl, rfl⟩))
        go_round
        case measure => simp [RowKit.intOf]; omega
        case rel => exact ⟨k + 1, by rw [HS.out], by go_num, by omega⟩
    ·obtain rfl : k = i := by omega
     cases hI : isI c with
     | true =>
      have HV2 := Lib.hid (HLI.out hI)
      have hcs : c = 19 ∨ c = 20 ∨ c = 21 := by simpa [isI] using hI
      clear HLI HLP HLN HV hI
      generalize inB l k k = B
      cases B
      all_goals
       rcases hcs with rfl | rfl | rfl
       all_goals
        go_wp2
        go_round
        case measure => simp [RowKit.intOf]; omega
        case rel => exact ⟨k + 1, by go_num, by omega, HV2.out⟩
     | false =>
      by_cases hP : c = 22
      ·subst hP
       have HV2 := Lib.hid (HLP.out rfl)
       clear HLI HLP HLN HV hI
       generalize inB l k k = B
       cases B
       all_goals
        go_wp2
        go_round
        case measure => simp [RowKit.intOf]; omega
        case rel => exact ⟨k + 1, by go_num, by omega, HV2.out⟩
      ·have hPf : isP c = false := by simpa [isP] using hP
       have hV := HLN.out hPf hI
       clear HLI HLP HLN HV hI
       generalize inB l k k = B at *
       cases B with
       | true =>
        rw [if_neg (fun h => by cases h.1), if_neg (fun h => by cases h.1)] at hV
        have HV2 := Lib.hid hV
        clear hV
        go_wp2
        go_round
        case measure => simp [RowKit.intOf]; omega
        case rel => exact ⟨k + 1, by go_num, by omega, HV2.out⟩
       | false =>
        by_cases h0 : c = 0
        ·subst h0
         have hv2 : x = (0, true) := hV.symm
         subst hv2
         clear hV
         go_wp2
         go_ret2
         exact ⟨rfl, rfl⟩
        ·have c5 : (c == 0) = false := by simpa using h0
         rw [if_neg (fun h => h0 h.2)] at hV
         by_cases h1 : c = 1
         ·subst h1
          have hv2 : x = (1, true) := hV.symm
          subst hv2
          clear hV
          go_wp2
          go_ret2
          exact ⟨rfl, rfl⟩
         ·have c6 : (c == 1) = false := by simpa using h1
          by_cases h2 : c = 2
          ·subst h2
           have hv2 : x = (1, true) := hV.symm
           subst hv2
           clear hV
           go_wp2
           go_ret2
           exact ⟨rfl, rfl⟩
          ·have c7 : (c == 2) = false := by simpa using h2
           rw [if_neg (fun h => by rcases h.2 with h | h; exact h1 h; exact h2 h)] at hV
           have HV2 := Lib.hid hV
           clear hV h0 h1 h2
           go_wp2
           go_round
           case measure => simp [RowKit.intOf]; omega
           case rel => exact ⟨k + 1, by go_num, by omega, HV2.out⟩
  ·have hke : i = n := by omega
   subst hke
   have hv2 : x = (0, false) := by rw [← HV.out]; exact HFIN.out
   subst hv2
   go_wp2
   go_ret2
   exact ⟨rfl, rfl⟩
end Go.Proofs.YtfclpecbnailgaaGreat.Ba
