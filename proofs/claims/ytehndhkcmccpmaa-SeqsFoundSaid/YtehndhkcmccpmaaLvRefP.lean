/-
  Proved here: what the document's own pop, end return, for what is open in memory; they leave what was in memory. Condition: what is open is as it may be; counts of at most 2^40.
-/
import Derived.Test.YtehndhkcmccpmaaLvRefE
set_option linter.unusedVariables false
namespace Go.Proofs.Ytehndhkcmccpmaa.Lv
open Go Go.RowKit Go.Lib Go.Proofs.Ytehndhkcmccpmaa.Cl

/-- A State is handed on. -/
theorem npost_as {V : World} {g c n : Nat} {s : St} {w : World} {li ld op : Int} (hn : s.es.length = n) (h1 : (s.li : Int) = li) (h2 : (s.ld : Int) = ld) (h3 : (s.op : Int) = op) (hns : NsAt V g c s.es) (hb : Below w.heap.size w V) : NPost s w (.returned (.agg #[.slice (some ⟨g, 0, none⟩) n c, .int .i64 li, .int .i64 ld, .int .i64 op])) V := by
  subst hn h1 h2 h3
  exact ⟨g, c, rfl, hns, hb⟩

set_option maxHeartbeats 2000000 in
set_option maxRecDepth 100000 in
theorem nPop_any (b g c n : Nat) (s : St) (w : World) (hb : b ≤ 1) (hc : Chain b s.es) (hO : NsAt w g c s.es) (hn : s.es.length = n) (h1 : s.li ≤ 1099511627776) (h2 : s.ld ≤ 1099511627776) :
    Calls Try.prog 64 #[.agg #[.slice (some ⟨g, 0, none⟩) n c, .int .i64 s.li, .int .i64 s.ld, .int .i64 s.op]] w fun x w' => NPost (popS s) w x w' := by
  have hs := hc.small hb
  have hg := hO.1
  have HI := Lib.hid infoS
  have HNS := Lib.hid (fun W (h : Below w.heap.size w W) => hO.below h)
  have HC0 := Lib.hid hc
  clear hO hc
  obtain ⟨es, li, ld, op⟩ := s
  simp only at *
  unfold popS
  simp only
  by_cases k1 : 0 < li
  · rw [if_pos k1]
    have kz : decide (0 < li) = true := by simpa using k1
    go_enter Try.func64, Try.ntmps64
    go_wp2_with fail
    refine bodyPost_ret (results_cell_row Try.results64 _ _ (w.heap.size + 1) 76 _ (0, 0) _ rfl (two_new w _ _).2.1 Try.underlying76 rfl HI.out) rfl ?_
    exact npost_as hn rfl rfl rfl (HNS.out _ (two_new w _ _).2.2.1) (two_new w _ _).2.2.1
  · rw [if_neg k1]
    obtain rfl : li = 0 := by omega
    clear k1
    by_cases k2 : 0 < ld
    · rw [if_pos k2]
      obtain ⟨ld', rfl⟩ : ∃ ld', ld = ld' + 1 := ⟨ld - 1, by omega⟩
      have kz : decide (0 < ld' + 1) = true := by simp
      clear k2
      go_enter Try.func64, Try.ntmps64
      go_wp2_with fail
      refine bodyPost_ret (results_cell_row Try.results64 _ _ (w.heap.size + 1) 76 _ (0, 0) _ rfl (two_new w _ _).2.1 Try.underlying76 rfl HI.out) rfl ?_
      exact npost_as hn rfl rfl rfl (HNS.out _ (two_new w _ _).2.2.1) (two_new w _ _).2.2.1
    · rw [if_neg k2]
      obtain rfl : ld = 0 := by omega
      clear k2
      cases es with
      | nil => exact HC0.out.elim
      | cons e r =>
        obtain ⟨n', hn'⟩ : ∃ n', r.length = n' := ⟨_, rfl⟩
        have hnn : n = n' + 1 := by rw [← hn, ← hn']; simp
        subst hnn
        clear hn
        have hs2 : n' ≤ 125 := by simp only [List.length_cons] at hs; omega
        have HT := Lib.hid (fun W (h : Below w.heap.size w W) => nTop_any g c n' e r 0 0 op W (HNS.out W h) hn' (by omega))
        have HF := Lib.hid (fun W => field_in e.lev e.ov (inI e) W)
        have hbx := boxes w g c (n' + 1) 0 0 op _ rfl
        obtain ⟨hbV, hsV, hC⟩ := hbx
        have HC := Lib.hid hC
        have HBV := Lib.hid hbV
        clear hC hbV hs
        obtain ⟨V, hV⟩ : ∃ V, (w.alloc (.cells #[.slice (some ⟨g, 0, none⟩) (n' + 1) c, .int .i64 0, .int .i64 0, .int .i64 op] 76)).alloc (.cells #[.slice none 0 0, .int .i64 0, .int .i64 0, .int .i64 0] 76) = V := ⟨_, rfl⟩
        rw [hV] at hsV HC HBV
        have HV := Lib.hid hV
        clear hV
        by_cases hi : e.iso = true
        · rw [if_pos (.inl hi)]
          have hii : inI e = 1 := by unfold inI; rw [if_pos hi]
          rw [hii] at HT HF
          have hf := HF.out
          clear HF
          go_enter Try.func64, Try.ntmps64
          go_wp2_with fail
          rw [HV.out]
          refine (HT.out _ HBV.out).mono ?_
          rintro x w1 ⟨rfl, hb1⟩
          obtain ⟨b0, b1, hbw1⟩ := HC.out w1 hb1
          obtain ⟨⟨z0, z1, z2, z3⟩, -⟩ := four b0
          obtain ⟨⟨p0, p1, p2, p3⟩, d0, d1, d2, d3⟩ := four b1
          have H1 := Lib.hid b1
          have HBW := Lib.hid hbw1
          clear b0 b1 hb1 hbw1 HT HC
          go_wp2_with fail
          refine bodyPost_ret (results_cell_row Try.results64 _ _ (w.heap.size + 1) 76 _ (0, 0) _ rfl (four_set _ _ _ _ H1.out) Try.underlying76 rfl HI.out) rfl ?_
          exact npost_as (by simp [hn']) rfl rfl rfl (four_ns _ _ _ _ (HNS.out _ HBW.out) (by omega)) (four_below _ _ _ _ HBW.out (by omega))
        · have hii : inI e = 0 := by unfold inI; rw [if_neg hi]
          rw [hii] at HT HF
          rcases Nat.eq_zero_or_pos n' with h0 | h0
          · rw [if_pos (.inr (by simp [hn', h0]))]
            have kl : ((n' : Int) + 1 == 1) = true := by simp [h0]
            clear h0
            have hf := HF.out
            clear HF
            go_enter Try.func64, Try.ntmps64
            go_wp2_with fail
            rw [HV.out]
            refine (HT.out _ HBV.out).mono ?_
            rintro x w1 ⟨rfl, hb1⟩
            obtain ⟨b0, b1, hbw1⟩ := HC.out w1 hb1
            obtain ⟨⟨z0, z1, z2, z3⟩, -⟩ := four b0
            obtain ⟨⟨p0, p1, p2, p3⟩, d0, d1, d2, d3⟩ := four b1
            have H1 := Lib.hid b1
            have HBW := Lib.hid hbw1
            clear b0 b1 hb1 hbw1 HT HC
            go_wp2_with fail
            refine bodyPost_ret (results_cell_row Try.results64 _ _ (w.heap.size + 1) 76 _ (0, 0) _ rfl (four_set _ _ _ _ H1.out) Try.underlying76 rfl HI.out) rfl ?_
            exact npost_as (by simp [hn']) rfl rfl rfl (four_ns _ _ _ _ (HNS.out _ HBW.out) (by omega)) (four_below _ _ _ _ HBW.out (by omega))
          · rw [if_neg (by rintro (h | h); exact hi h; simp [hn'] at h; omega)]
            simp only [List.tail_cons]
            have kl : ((n' : Int) + 1 == 1) = false := by simp; omega
            have HWO := Lib.hid (fun W (h : Below w.heap.size w W) => nWithout_any g c n' e r 0 0 op W (HNS.out W h) hn' h0 (by omega))
            have hf := HF.out
            clear HF
            go_enter Try.func64, Try.ntmps64
            go_wp2_with fail
            rw [HV.out]
            refine (HT.out _ HBV.out).mono ?_
            rintro x w1 ⟨rfl, hb1⟩
            obtain ⟨b0, b1, hbw1⟩ := HC.out w1 hb1
            obtain ⟨⟨z0, z1, z2, z3⟩, -⟩ := four b0
            obtain ⟨⟨p0, p1, p2, p3⟩, d0, d1, d2, d3⟩ := four b1
            have H1 := Lib.hid b1
            have HBW := Lib.hid hbw1
            clear b0 b1 HT
            go_wp2_with fail
            refine (HWO.out _ HBW.out).mono ?_
            rintro x w2 ⟨g2, c2, rfl, hns2, hg2, hb2⟩
            obtain ⟨b02, b12, hbw2⟩ := HC.out w2 (hb1.trans (hb2.mono hb1.size))
            obtain ⟨⟨y0, y1, y2, y3⟩, e0, e1, e2, e3⟩ := four b12
            have H2 := Lib.hid b12
            have HBW2 := Lib.hid hbw2
            have HNS2 := Lib.hid hns2
            have hs1 := hb1.size
            clear b02 b12 hb1 hb2 hbw2 hns2 HC HBW H1 p0 p1 p2 p3 d0 d1 d2 d3 z0 z1 z2 z3
            go_wp2_with fail
            refine bodyPost_ret (results_cell_row Try.results64 _ _ (w.heap.size + 1) 76 _ (0, 0) _ rfl (four_set _ _ _ _ H2.out) Try.underlying76 rfl HI.out) rfl ?_
            exact npost_as hn' rfl rfl rfl (four_ns _ _ _ _ HNS2.out (by omega)) (four_below _ _ _ _ HBW2.out (by omega))

/-- How many stand in a State's row, in a world. -/
def lenN (W : World) (h : Nat) : Nat := match W.cell? ⟨h, 0, none⟩ with
  | some (.slice _ n _) => n
  | _ => 0
theorem lenN_at {W : World} {h n c : Nat} {A : Option Addr} (hc : W.cell? ⟨h, 0, none⟩ = some (.slice A n c)) : lenN W h = n := by simp [lenN, hc]

set_option maxHeartbeats 2000000 in
set_option maxRecDepth 100000 in
theorem nEnd_any (b g c n : Nat) (s : St) (w : World) (hb : b ≤ 1) (hk : Ok b s) (hO : NsAt w g c s.es) (hn : s.es.length = n) (h1 : s.li ≤ 1099511627776) (h2 : s.ld ≤ 1099511627776) (h3 : s.op ≤ 1099511627776) :
    Calls Try.prog 63 #[.agg #[.slice (some ⟨g, 0, none⟩) n c, .int .i64 s.li, .int .i64 s.ld, .int .i64 s.op]] w fun x w' => NPost (endS s) w x w' := by
  have hs := hk.chain.small hb
  have hg := hO.1
  have HI := Lib.hid infoS
  have HNS := Lib.hid (fun W (h : Below w.heap.size w W) => hO.below h)
  obtain ⟨hc, hop⟩ := hk
  have HC0 := Lib.hid hc
  clear hO hc
  obtain ⟨es, li, ld, op⟩ := s
  simp only at *
  unfold endS
  simp only
  by_cases k1 : 0 < li
  · rw [if_pos k1]
    obtain ⟨li', rfl⟩ : ∃ li', li = li' + 1 := ⟨li - 1, by omega⟩
    have kz : decide (0 < li' + 1) = true := by simp
    clear k1 hop
    go_enter Try.func63, Try.ntmps63
    go_wp2_with fail
    refine bodyPost_ret (results_cell_row Try.results63 _ _ (w.heap.size + 1) 76 _ (0, 0) _ rfl (two_new w _ _).2.1 Try.underlying76 rfl HI.out) rfl ?_
    exact npost_as hn rfl rfl rfl (HNS.out _ (two_new w _ _).2.2.1) (two_new w _ _).2.2.1
  · rw [if_neg k1]
    obtain rfl : li = 0 := by omega
    clear k1
    by_cases hz : op = 0
    · rw [if_pos hz]
      subst hz
      clear hop
      go_enter Try.func63, Try.ntmps63
      go_wp2_with fail
      refine bodyPost_ret (results_cell_row Try.results63 _ _ (w.heap.size + 1) 76 _ (0, 0) _ rfl (two_new w _ _).2.1 Try.underlying76 rfl HI.out) rfl ?_
      exact npost_as hn rfl rfl rfl (HNS.out _ (two_new w _ _).2.2.1) (two_new w _ _).2.2.1
    · rw [if_neg hz]
      have kz : ((op : Int) == 0) = false := by simpa using hz
      have HP := Lib.hid (show 0 < isos es by omega)
      clear hop
      obtain ⟨op', rfl⟩ : ∃ op', op = op' + 1 := ⟨op - 1, by omega⟩
      have kz2 : ((op' : Int) + 1 == 0) = false := by simp; omega
      clear hz
      obtain ⟨e0, e1, hb2, hs2⟩ := two_new w (.cells #[.slice (some ⟨g, 0, none⟩) n c, .int .i64 0, .int .i64 0, .int .i64 op'] 76) (.cells #[.slice none 0 0, .int .i64 0, .int .i64 0, .int .i64 0] 76)
      have HST := Lib.hid (And.intro e0 (And.intro e1 (And.intro hb2 (HNS.out _ hb2))))
      clear e0 e1 hb2 hs2
      rw [show ((op' + 1 : Nat) : Int) = (op' : Int) + 1 from by omega, show ((0 : Nat) : Int) = 0 from rfl]
      go_enter Try.func63, Try.ntmps63
      go_wp2_with fail
      go_loopw [20] (fun _ wx => ∃ xs g c, Chain b xs ∧ 0 < isos xs ∧ cutI xs = cutI es ∧ NsAt wx g c xs ∧ g ≠ w.heap.size ∧ g ≠ w.heap.size + 1 ∧ wx.heap[w.heap.size]? = some (.cells #[.slice (some ⟨g, 0, none⟩) xs.length c, .int .i64 0, .int .i64 0, .int .i64 op'] 76 (0, 0)) ∧ wx.heap[w.heap.size + 1]? = some (.cells #[.slice none 0 0, .int .i64 0, .int .i64 0, .int .i64 0] 76 (0, 0)) ∧ Below w.heap.size w wx ∧ w.heap.size + 2 ≤ wx.heap.size) (fun _ wx => lenN wx w.heap.size)
      case atStart =>
        obtain ⟨e0, e1, hb2, hns⟩ := HST.out
        refine ⟨es, g, c, HC0.out, HP.out, rfl, hns, by omega, by omega, ?_, e1, hb2, by simp⟩
        rw [hn]
        exact e0
      case round =>
        obtain ⟨xs, g, c, hc, hp, hcut, hns, hg0, hg1, b0, b1, hbw, hsz⟩ := hrel
        have hs := hc.small hb
        clear HP HST HC0 HNS hn
        cases xs with
        | nil => exact hc.elim
        | cons e r =>
          cases r with
          | nil =>
            have hc : e = ⟨b, -1, false⟩ := hc
            subst hc
            simp [isos] at hp
          | cons t r =>
            obtain ⟨m, hm⟩ : ∃ m, (t :: r).length = m := ⟨_, rfl⟩
            have hm0 : 0 < m := by rw [← hm]; simp
            have hm1 : (e :: t :: r).length = m + 1 := by rw [← hm]; rfl
            rw [hm1] at b0 hs
            obtain ⟨⟨z0, z1, z2, z3⟩, f0, f1, f2, f3⟩ := four b0
            obtain ⟨⟨p0, p1, p2, p3⟩, d0, d1, d2, d3⟩ := four b1
            have hlen := lenN_at z0
            have HT := Lib.hid (nTop_any g c m e (t :: r) 0 0 op' wr hns hm (by omega))
            have HF := Lib.hid (fun W => field_in e.lev e.ov (inI e) W)
            have HWO := Lib.hid (fun W (h : Below wr.heap.size wr W) => nWithout_any g c m e (t :: r) 0 0 op' W (hns.below h) hm hm0 (by omega))
            have HCH := Lib.hid hc.2.2.2
            have HCU := Lib.hid hcut
            have HP := Lib.hid hp
            have H0 := Lib.hid b0
            have H1 := Lib.hid b1
            have HB := Lib.hid hbw
            have HL := Lib.hid hlen
            have hwr := hbw.size
            clear hc hcut hp hns b0 b1 hbw hlen hm1
            by_cases hi : e.iso = true
            · have hii : inI e = 1 := by unfold inI; rw [if_pos hi]
              rw [hii] at HT HF
              have hcc : cutI es = t :: r := by rw [← HCU.out]; unfold cutI; rw [if_pos hi]
              have HCC := Lib.hid hcc
              clear hii hcc hi
              have hf := HF.out
              clear HF
              go_wp2_with fail
              refine HT.out.mono ?_
              rintro x w1 ⟨rfl, hb1⟩
              obtain ⟨⟨z0, z1, z2, z3⟩, -⟩ := four ((hb1.block w.heap.size (by omega)).trans H0.out)
              have HB1 := Lib.hid hb1
              clear hb1
              go_wp2_with fail
              refine (HWO.out _ HB1.out).mono ?_
              rintro x w2 ⟨g2, c2, rfl, hns2, hg2, hb2⟩
              have hb12 := HB1.out.trans (hb2.mono HB1.out.size)
              have b12 := (hb12.block (w.heap.size + 1) (by omega)).trans H1.out
              obtain ⟨⟨p0, p1, p2, p3⟩, d0, d1, d2, d3⟩ := four b12
              have H2 := Lib.hid b12
              have HBW2 := Lib.hid (HB.out.trans (hb12.mono hwr))
              have HNS2 := Lib.hid hns2
              have hs1 := HB1.out.size
              clear b12 hb2 hb12 hns2 z0 z1 z2 z3
              go_wp2_with fail
              refine bodyPost_ret (results_cell_row Try.results63 _ _ (w.heap.size + 1) 76 _ (0, 0) _ rfl (four_set _ _ _ _ H2.out) Try.underlying76 rfl HI.out) rfl ?_
              exact npost_as (by show (cutI es).length = m; rw [HCC.out]; exact hm) rfl rfl rfl (by show NsAt _ _ _ (cutI es); rw [HCC.out]; exact four_ns _ _ _ _ HNS2.out (by omega)) (four_below _ _ _ _ HBW2.out (by omega))
            · have hii : inI e = 0 := by unfold inI; rw [if_neg hi]
              rw [hii] at HT HF
              have hcc : cutI (t :: r) = cutI es := by
                rw [← HCU.out]
                conv => rhs; unfold cutI
                rw [if_neg hi]
              have hpp : 0 < isos (t :: r) := by
                have := HP.out
                unfold isos at this
                rw [if_neg hi] at this
                exact this
              have HCC := Lib.hid (And.intro hcc hpp)
              clear hii hcc hpp hi
              have hf := HF.out
              clear HF
              go_wp2_with fail
              refine HT.out.mono ?_
              rintro x w1 ⟨rfl, hb1⟩
              obtain ⟨⟨z0, z1, z2, z3⟩, -⟩ := four ((hb1.block w.heap.size (by omega)).trans H0.out)
              have HB1 := Lib.hid hb1
              clear hb1
              go_wp2_with fail
              refine (HWO.out _ HB1.out).mono ?_
              rintro x w2 ⟨g2, c2, rfl, hns2, hg2, hb2⟩
              have hb12 := HB1.out.trans (hb2.mono HB1.out.size)
              have b02 := (hb12.block w.heap.size (by omega)).trans H0.out
              obtain ⟨⟨y0, y1, y2, y3⟩, e0, e1, e2, e3⟩ := four b02
              have b12 := (hb12.block (w.heap.size + 1) (by omega)).trans H1.out
              have H02 := Lib.hid b02
              have H12 := Lib.hid b12
              have HBW2 := Lib.hid (HB.out.trans (hb12.mono hwr))
              have HNS2 := Lib.hid hns2
              have hs1 := HB1.out.size
              have hs2 := hb2.size
              clear b12 hb2 hb12 hns2 z0 z1 z2 z3 b02
              go_wp2
              go_roundw
              case measure =>
                rw [HL.out]
                have hset := four_set (w := w2) (.slice (some ⟨g2, 0, none⟩) m c2) (.int .i64 0) (.int .i64 0) (.int .i64 op') H02.out
                rw [lenN_at (four hset).1.1]
                omega
              case rel =>
                refine ⟨t :: r, g2, c2, HCH.out, HCC.out.2, HCC.out.1, four_ns _ _ _ _ HNS2.out (by omega), by omega, by omega, ?_, (heap_setCell_other _ ⟨w.heap.size, 3, none⟩ _ _ (by show w.heap.size + 1 ≠ w.heap.size; omega)).trans ((heap_setCell_other _ ⟨w.heap.size, 2, none⟩ _ _ (by show w.heap.size + 1 ≠ w.heap.size; omega)).trans ((heap_setCell_other _ ⟨w.heap.size, 1, none⟩ _ _ (by show w.heap.size + 1 ≠ w.heap.size; omega)).trans ((heap_setCell_other _ ⟨w.heap.size, 0, none⟩ _ _ (by show w.heap.size + 1 ≠ w.heap.size; omega)).trans H12.out))), four_below _ _ _ _ HBW2.out (Nat.le_refl _), by simp; omega⟩
                rw [hm]
                exact four_set _ _ _ _ H02.out
end Go.Proofs.Ytehndhkcmccpmaa.Lv
