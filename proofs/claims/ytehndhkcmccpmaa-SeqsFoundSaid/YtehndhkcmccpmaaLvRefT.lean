/-
  Proved here: what the document's own Step returns, for every row of numbers of at most 2^40; it leaves what was in memory. Condition: what is open is as it may be; counts of at most 2^40.
-/
import Derived.Test.YtehndhkcmccpmaaLvRefS
set_option linter.unusedVariables false
namespace Go.Proofs.Ytehndhkcmccpmaa.Lv
open Go Go.RowKit Go.Lib Go.Proofs.Ytehndhkcmccpmaa.Cl Go.Proofs.Ytehndhkcmccpmaa.Ba

theorem nsC_first (b : Nat) : ∀ {es : List E}, Chain b es → (nsC es)[0]? = some (.int .i64 b)
  | [], h => h.elim
  | [e], h => by
    have h : e = ⟨b, -1, false⟩ := h
    subst h
    rfl
  | e :: t :: r, h => by
    have h1 := nsC_first b h.2.2.2
    have h2 := nsC_len (t :: r)
    rw [nsC, List.getElem?_append_left (by rw [h2]; simp)]
    exact h1
theorem ns_ne {W : World} {b g c k n m : Nat} {es : List E} {A : Option Addr} {v1 v2 v3 : Value} {t : TypeId} (h : NsAt W g c es) (hc : Chain b es) (hk : W.heap[k]? = some (.cells #[.slice A n m, v1, v2, v3] t (0, 0))) : g ≠ k := by
  rintro rfl
  have h1 := h.2.2.1 0 _ (nsC_first b hc)
  rw [(four hk).1.1] at h1
  cases h1
theorem openS_I {c : Int} (hc : c = 20 ∨ c = 19 ∨ c = 21) (l : List Int) (s : St) : openS c l (closeS c s) = beginS (dirI c l) s := by
  rcases hc with rfl | rfl | rfl <;> rfl

set_option maxHeartbeats 4000000 in
set_option maxRecDepth 100000 in
theorem nStep_any (b g c n : Nat) (s : St) (A : Option Addr) (l : List Int) (N m k : Nat) (w : World) (hb : b ≤ 1) (hk : Ok b s) (hO : NsAt w g c s.es) (hn : s.es.length = n) (h1 : s.li ≤ 1099511627776) (h2 : s.ld ≤ 1099511627776)
    (hl : l.length = N) (hR : IntsAt w A l) (hN : N ≤ 1099511627776) (hNm : N ≤ m) (hkN : k < N) (hkl : k < l.length) :
    Calls Try.prog 54 #[.agg #[.slice (some ⟨g, 0, none⟩) n c, .int .i64 s.li, .int .i64 s.ld, .int .i64 s.op], .slice A N m, .int .i64 k] w fun x w' => NPost (openS l[k] (l.drop (k + 1)) (closeS l[k] s)) w x w' := by
  obtain ⟨ab, off, rfl, hc0⟩ := hR.at_ hkl
  have hs := hk.chain.small hb
  have hpos := hk.chain.pos
  have hmost := hk.chain.most hb
  have h3 : s.op ≤ 1099511627776 := by have h3 := hk.count; have h4 := isos_le s.es; omega
  have hab : ab < w.heap.size := World.block_lt_of_cell? w _ hc0
  have HI := Lib.hid infoS
  obtain ⟨hbV, hsV, hC⟩ := boxes w g c n s.li s.ld s.op _ rfl
  have HC := Lib.hid hC
  have HBV := Lib.hid hbV
  have HNX := Lib.hid ((hk.close l[k]).open_ l[k] (l.drop (k + 1)))
  have HEM := Lib.hid (fun o v W (ho : o ≤ 1) (h : Below w.heap.size w W) => nEmbed_any o g c n v s W ho hpos (hO.below h) hn (by omega) hmost h1 h2)
  have HBG := Lib.hid (fun o W (ho : o ≤ 1) (h : Below w.heap.size w W) => nBegin_any o g c n s W ho hpos (hO.below h) hn (by omega) hmost h1 h2 h3)
  have HPO := Lib.hid (fun W (h : Below w.heap.size w W) => nPop_any b g c n s W hb hk.chain (hO.below h) hn h1 h2)
  have HEN := Lib.hid (fun W (h : Below w.heap.size w W) => nEnd_any b g c n s W hb hk (hO.below h) hn h1 h2 h3)
  have HOD := Lib.hid (fun W (h : Below w.heap.size w W) => nOdd_any _ l N m k W hl (hR.below h) hN hNm hkN hkl)
  have HSA := Lib.hid (And.intro hn hO)
  have HDL := dirI_le l[k] (l.drop (k + 1))
  have hcA : ∀ o1 o2, ((w.alloc o1).alloc o2).cell? ⟨ab, off + k, none⟩ = some (.int .i64 l[k]) := fun o1 o2 => (cell_at _ o2 (off + k) (by simp; omega)).trans ((cell_at w o1 (off + k) hab).trans hc0)
  generalize l.drop (k + 1) = rest at *
  generalize l[k] = cc at *
  clear hC hbV hk hO hn hpos hmost h1 h2 h3 hl hR hs hc0
  obtain ⟨es, li, ld, op⟩ := s
  simp only at *
  by_cases e16 : cc = 16
  · subst e16
    have HX := Lib.hid (show openS 16 rest (closeS 16 ⟨es, li, ld, op⟩) = embedS 1 (-1) ⟨es, li, ld, op⟩ from rfl)
    rw [HX.out] at HNX ⊢
    clear HX HBG HPO HEN HOD
    go_enter Try.func54, Try.ntmps54
    go_wp2_with fail
    refine (HEM.out 1 (-1) _ (by omega) HBV.out).mono ?_
    rintro x w1 ⟨g1, c1, rfl, hns1, hb1⟩
    obtain ⟨b0, b1, hbw1⟩ := HC.out w1 hb1
    have hne := ns_ne hns1 HNX.out.chain b1
    obtain ⟨⟨p0, p1, p2, p3⟩, d0, d1, d2, d3⟩ := four b1
    have H1 := Lib.hid b1
    have HB1 := Lib.hid hbw1
    have HN1 := Lib.hid hns1
    clear hns1 b0 b1 hbw1 hb1 HC
    go_wp2_with fail
    refine bodyPost_ret (results_cell_row Try.results54 _ _ (w.heap.size + 1) 76 _ (0, 0) _ rfl (four_set _ _ _ _ H1.out) Try.underlying76 rfl HI.out) rfl ?_
    exact ⟨g1, c1, rfl, four_ns _ _ _ _ HN1.out hne, four_below _ _ _ _ HB1.out (by omega)⟩
  have k16 : (cc == 16) = false := by simpa using e16
  by_cases e14 : cc = 14
  · subst e14
    have HX := Lib.hid (show openS 14 rest (closeS 14 ⟨es, li, ld, op⟩) = embedS 0 (-1) ⟨es, li, ld, op⟩ from rfl)
    rw [HX.out] at HNX ⊢
    clear HX HBG HPO HEN HOD
    go_enter Try.func54, Try.ntmps54
    go_wp2_with fail
    refine (HEM.out 0 (-1) _ (by omega) HBV.out).mono ?_
    rintro x w1 ⟨g1, c1, rfl, hns1, hb1⟩
    obtain ⟨b0, b1, hbw1⟩ := HC.out w1 hb1
    have hne := ns_ne hns1 HNX.out.chain b1
    obtain ⟨⟨p0, p1, p2, p3⟩, d0, d1, d2, d3⟩ := four b1
    have H1 := Lib.hid b1
    have HB1 := Lib.hid hbw1
    have HN1 := Lib.hid hns1
    clear hns1 b0 b1 hbw1 hb1 HC
    go_wp2_with fail
    refine bodyPost_ret (results_cell_row Try.results54 _ _ (w.heap.size + 1) 76 _ (0, 0) _ rfl (four_set _ _ _ _ H1.out) Try.underlying76 rfl HI.out) rfl ?_
    exact ⟨g1, c1, rfl, four_ns _ _ _ _ HN1.out hne, four_below _ _ _ _ HB1.out (by omega)⟩
  have k14 : (cc == 14) = false := by simpa using e14
  by_cases e17 : cc = 17
  · subst e17
    have HX := Lib.hid (show openS 17 rest (closeS 17 ⟨es, li, ld, op⟩) = embedS 1 1 ⟨es, li, ld, op⟩ from rfl)
    rw [HX.out] at HNX ⊢
    clear HX HBG HPO HEN HOD
    go_enter Try.func54, Try.ntmps54
    go_wp2_with fail
    refine (HEM.out 1 1 _ (by omega) HBV.out).mono ?_
    rintro x w1 ⟨g1, c1, rfl, hns1, hb1⟩
    obtain ⟨b0, b1, hbw1⟩ := HC.out w1 hb1
    have hne := ns_ne hns1 HNX.out.chain b1
    obtain ⟨⟨p0, p1, p2, p3⟩, d0, d1, d2, d3⟩ := four b1
    have H1 := Lib.hid b1
    have HB1 := Lib.hid hbw1
    have HN1 := Lib.hid hns1
    clear hns1 b0 b1 hbw1 hb1 HC
    go_wp2_with fail
    refine bodyPost_ret (results_cell_row Try.results54 _ _ (w.heap.size + 1) 76 _ (0, 0) _ rfl (four_set _ _ _ _ H1.out) Try.underlying76 rfl HI.out) rfl ?_
    exact ⟨g1, c1, rfl, four_ns _ _ _ _ HN1.out hne, four_below _ _ _ _ HB1.out (by omega)⟩
  have k17 : (cc == 17) = false := by simpa using e17
  by_cases e15 : cc = 15
  · subst e15
    have HX := Lib.hid (show openS 15 rest (closeS 15 ⟨es, li, ld, op⟩) = embedS 0 0 ⟨es, li, ld, op⟩ from rfl)
    rw [HX.out] at HNX ⊢
    clear HX HBG HPO HEN HOD
    go_enter Try.func54, Try.ntmps54
    go_wp2_with fail
    refine (HEM.out 0 0 _ (by omega) HBV.out).mono ?_
    rintro x w1 ⟨g1, c1, rfl, hns1, hb1⟩
    obtain ⟨b0, b1, hbw1⟩ := HC.out w1 hb1
    have hne := ns_ne hns1 HNX.out.chain b1
    obtain ⟨⟨p0, p1, p2, p3⟩, d0, d1, d2, d3⟩ := four b1
    have H1 := Lib.hid b1
    have HB1 := Lib.hid hbw1
    have HN1 := Lib.hid hns1
    clear hns1 b0 b1 hbw1 hb1 HC
    go_wp2_with fail
    refine bodyPost_ret (results_cell_row Try.results54 _ _ (w.heap.size + 1) 76 _ (0, 0) _ rfl (four_set _ _ _ _ H1.out) Try.underlying76 rfl HI.out) rfl ?_
    exact ⟨g1, c1, rfl, four_ns _ _ _ _ HN1.out hne, four_below _ _ _ _ HB1.out (by omega)⟩
  have k15 : (cc == 15) = false := by simpa using e15
  by_cases eI : cc = 20 ∨ cc = 19 ∨ cc = 21
  · rw [openS_I eI] at HNX ⊢
    clear HEM HPO HEN e16 e14 e17 e15
    generalize dirI cc rest = o at *
    rcases eI with rfl | rfl | rfl
    all_goals
      go_enter Try.func54, Try.ntmps54
      go_wp2_with fail
      generalize hV : (w.alloc (.cells #[.slice (some ⟨g, 0, none⟩) n c, .int .i64 li, .int .i64 ld, .int .i64 op] 76)).alloc (.cells #[.slice none 0 0, .int .i64 0, .int .i64 0, .int .i64 0] 76) = V at *
      clear hV hcA
      have hbd := HBV.out.drew
      obtain ⟨b0, b1, -⟩ := HC.out V (Below.refl _ _)
      obtain ⟨⟨z0, z1, z2, z3⟩, -⟩ := four b0
      clear b0 b1
      go_region_with
        (first
          | (go_at_call 62
             refine (HOD.out _ hbd).mono ?_
             rintro x w5 ⟨rfl, rfl⟩)
          | (go_at_call 61
             refine (HBG.out o _ HDL hbd).mono ?_
             rintro x w1 ⟨g1, c1, rfl, hns1, hb1⟩
             obtain ⟨b0, b1, hbw1⟩ := HC.out w1 (Below.trans (Below.refl V.heap.size V).drew hb1)
             obtain ⟨⟨p0, p1, p2, p3⟩, d0, d1, d2, d3⟩ := four b1))
      all_goals
        have hne := ns_ne hns1 HNX.out.chain b1
        have H1 := Lib.hid b1
        have HB1 := Lib.hid hbw1
        have HN1 := Lib.hid hns1
        go_wp2_with fail
        refine bodyPost_ret (results_cell_row Try.results54 _ _ (w.heap.size + 1) 76 _ (0, 0) _ rfl (four_set _ _ _ _ H1.out) Try.underlying76 rfl HI.out) rfl ?_
        exact ⟨g1, c1, rfl, four_ns _ _ _ _ HN1.out hne, four_below _ _ _ _ HB1.out (by omega)⟩
  have k20 : (cc == 20) = false := by simp; omega
  have k19 : (cc == 19) = false := by simp; omega
  have k21 : (cc == 21) = false := by simp; omega
  by_cases e22 : cc = 22
  · subst e22
    have HX := Lib.hid (show openS 22 rest (closeS 22 ⟨es, li, ld, op⟩) = endS ⟨es, li, ld, op⟩ from rfl)
    rw [HX.out] at HNX ⊢
    clear HX HBG HEM HOD
    go_enter Try.func54, Try.ntmps54
    go_wp2_with fail
    refine (HEN.out _ HBV.out).mono ?_
    rintro x w1 ⟨g1, c1, rfl, hns1, hb1⟩
    obtain ⟨b0, b1, hbw1⟩ := HC.out w1 hb1
    have hne := ns_ne hns1 HNX.out.chain b1
    obtain ⟨⟨p0, p1, p2, p3⟩, d0, d1, d2, d3⟩ := four b1
    have H1 := Lib.hid b1
    have HB1 := Lib.hid hbw1
    have HN1 := Lib.hid hns1
    clear hns1 b0 b1 hbw1 hb1 HC
    go_wp2_with fail
    refine bodyPost_ret (results_cell_row Try.results54 _ _ (w.heap.size + 1) 76 _ (0, 0) _ rfl (four_set _ _ _ _ H1.out) Try.underlying76 rfl HI.out) rfl ?_
    exact ⟨g1, c1, rfl, four_ns _ _ _ _ HN1.out hne, four_below _ _ _ _ HB1.out (by omega)⟩
  have k22 : (cc == 22) = false := by simpa using e22
  by_cases e18 : cc = 18
  · subst e18
    have HX := Lib.hid (show openS 18 rest (closeS 18 ⟨es, li, ld, op⟩) = popS ⟨es, li, ld, op⟩ from rfl)
    rw [HX.out] at HNX ⊢
    clear HX HBG HEM HOD
    go_enter Try.func54, Try.ntmps54
    go_wp2_with fail
    refine (HPO.out _ HBV.out).mono ?_
    rintro x w1 ⟨g1, c1, rfl, hns1, hb1⟩
    obtain ⟨b0, b1, hbw1⟩ := HC.out w1 hb1
    have hne := ns_ne hns1 HNX.out.chain b1
    obtain ⟨⟨p0, p1, p2, p3⟩, d0, d1, d2, d3⟩ := four b1
    have H1 := Lib.hid b1
    have HB1 := Lib.hid hbw1
    have HN1 := Lib.hid hns1
    clear hns1 b0 b1 hbw1 hb1 HC
    go_wp2_with fail
    refine bodyPost_ret (results_cell_row Try.results54 _ _ (w.heap.size + 1) 76 _ (0, 0) _ rfl (four_set _ _ _ _ H1.out) Try.underlying76 rfl HI.out) rfl ?_
    exact ⟨g1, c1, rfl, four_ns _ _ _ _ HN1.out hne, four_below _ _ _ _ HB1.out (by omega)⟩
  have k18 : (cc == 18) = false := by simpa using e18
  have hX : openS cc rest (closeS cc ⟨es, li, ld, op⟩) = ⟨es, li, ld, op⟩ := by
    have e20 : cc ≠ 20 := fun h => eI (.inl h)
    have e19 : cc ≠ 19 := fun h => eI (.inr (.inl h))
    have e21 : cc ≠ 21 := fun h => eI (.inr (.inr h))
    unfold openS closeS
    rw [if_neg e16, if_neg e14, if_neg e17, if_neg e15, if_neg e20, if_neg e19, if_neg e21, if_neg e18, if_neg e22]
  rw [hX] at HNX ⊢
  clear hX HBG HEM HOD HPO HEN e16 e14 e17 e15 eI e18 e22
  go_enter Try.func54, Try.ntmps54
  go_wp2_with fail
  refine bodyPost_ret (results_cell_row Try.results54 _ _ (w.heap.size + 1) 76 _ (0, 0) _ rfl (two_new w _ _).2.1 Try.underlying76 rfl HI.out) rfl ?_
  exact npost_as HSA.out.1 rfl rfl rfl (HSA.out.2.below (two_new w _ _).2.2.1) (two_new w _ _).2.2.1
end Go.Proofs.Ytehndhkcmccpmaa.Lv
