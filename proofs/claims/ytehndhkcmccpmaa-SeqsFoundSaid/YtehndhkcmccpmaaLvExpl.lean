/-
  Proved here: what level.Explicit returns, for every row of numbers of at most 2^40 and every level: two new rows, by the plain explL, or none. It leaves what was in memory.
-/
import Derived.Test.YtehndhkcmccpmaaLvPut
import Derived.Test.YtehndhkcmccpmaaLvDir
import Derived.Test.YtehndhkcmccpmaaAddInts
import Derived.Deep.OwnRows
set_option linter.unusedVariables false
namespace Go.Proofs.Ytehndhkcmccpmaa.Lv
open Go Go.RowKit Go.Lib Go.Proofs.Ytehndhkcmccpmaa.Cl Go.Proofs.Ytehndhkcmccpmaa.Ba

theorem own_kept {w w' : World} {B g c : Nat} {t : TypeId} {sz n : Nat} {xs : List Value} (h : w.ownsRow B t sz (.slice (some ⟨g, 0, none⟩) n c) n xs) {C : Nat} (hb : Below C w w') (hlt : g < C) : w'.ownsRow B t sz (.slice (some ⟨g, 0, none⟩) n c) n xs := by
  refine ⟨h.1, ?_⟩
  rcases h.2 with h2 | ⟨g', cap, cur, e1, e2, e3, e4⟩
  · exact .inl h2
  · cases e1
    exact .inr ⟨g, c, cur, rfl, e2, (hb.block g hlt).trans e3, e4⟩
theorem own_other {w : World} {B g c : Nat} {t : TypeId} {sz n : Nat} {xs : List Value} (h : w.ownsRow B t sz (.slice (some ⟨g, 0, none⟩) n c) n xs) {a : Addr} (ha : g ≠ a.block) (u : Value) : (w.setCell a u).ownsRow B t sz (.slice (some ⟨g, 0, none⟩) n c) n xs :=
  ownsRow_setCell_other h (fun e => ha (by have e2 : some g = some a.block := e; injection e2)) u
theorem infoI : (Try.prog.info? 3).map (fun i => (i.zero, i.size, i.bytes)) = some (some (.int .i64 0), 1, 8) := by kernel_rfl
theorem then_toE {K K1 : Act → World → Prop} {Q : Exit → Act → World → Prop} (h : ∀ a w, K1 a w → K a w) : ∀ e a w, Exit.then K1 Q e a w → Exit.then K Q e a w := by
  intro e a w
  cases e <;> first | exact h a w | exact id
/-- Two rows of zeros. -/
theorem two_made (w : World) (n : Nat) (hn : n ≤ maxLen) (t : TypeId) (o : Obj) (ho : o = .cells (madeCells #[.int .i64 0] n) t (0, 0)) : ((w.alloc o).alloc o).ownsRow w.heap.size t 1 (.slice (some ⟨w.heap.size, 0, none⟩) n n) n (rowF n (fun _ => 0)) ∧ ((w.alloc o).alloc o).ownsRow w.heap.size t 1 (.slice (some ⟨w.heap.size + 1, 0, none⟩) n n) n (rowF n (fun _ => 0)) ∧ Below w.heap.size w ((w.alloc o).alloc o) ∧ ((w.alloc o).alloc o).heap.size = w.heap.size + 2 := by
  subst ho
  have hm := toList_madeCells_one (.int .i64 0) n
  rw [← rowF_zero] at hm
  have ht : (madeCells #[Value.int .i64 0] n).toList.take (n * 1) = rowF n (fun _ => 0) := by
    rw [hm, Nat.mul_one]
    exact List.take_of_length_le (by rw [rowF_len]; exact Nat.le_refl _)
  have hz : (madeCells #[Value.int .i64 0] n).size = n * 1 := by rw [size_madeCells, Nat.mul_one]
  refine ⟨⟨by rw [rowF_len, Nat.mul_one], .inr ⟨w.heap.size, n, _, rfl, Nat.le_refl _, (Below.heap_alloc _ _ _ (by simp)).trans (heap_alloc_last _ _), Nat.le_refl _, hn, hz, ht⟩⟩, ⟨by rw [rowF_len, Nat.mul_one], .inr ⟨w.heap.size + 1, n, madeCells #[Value.int .i64 0] n, rfl, by omega, ?_, Nat.le_refl _, hn, hz, ht⟩⟩, ((Below.refl _ _).alloc (Nat.le_refl _) _).alloc (by simp) _, by simp⟩
  have h := heap_alloc_last (w.alloc (.cells (madeCells #[.int .i64 0] n) t (0, 0))) (.cells (madeCells #[.int .i64 0] n) t (0, 0))
  rw [show (w.alloc (.cells (madeCells #[Value.int .i64 0] n) t (0, 0))).heap.size = w.heap.size + 1 from by simp] at h
  exact h

def LK (W : List (Int × Int)) (k : Nat) : Nat → Int := fun i => if i < k then (W.getD i (0, 0)).1 else 0
def TK (W : List (Int × Int)) (k : Nat) : Nat → Int := fun i => if i < k then (W.getD i (0, 0)).2 else 0
theorem LK_step {W : List (Int × Int)} {n k : Nat} (hk : k < W.length) : rowF n (upd (LK W k) k W[k].1) = rowF n (LK W (k + 1)) := by
  refine rowF_ext fun i hi => ?_
  simp only [upd, LK]
  by_cases e : i = k
  · subst e
    rw [if_pos rfl, if_pos (by omega)]
    simp [hk]
  · rw [if_neg e]
    by_cases h : i < k
    · rw [if_pos h, if_pos (by omega)]
    · rw [if_neg h, if_neg (by omega)]
theorem TK_step {W : List (Int × Int)} {n k : Nat} (hk : k < W.length) : rowF n (upd (TK W k) k W[k].2) = rowF n (TK W (k + 1)) := by
  refine rowF_ext fun i hi => ?_
  simp only [upd, TK]
  by_cases e : i = k
  · subst e
    rw [if_pos rfl, if_pos (by omega)]
    simp [hk]
  · rw [if_neg e]
    by_cases h : i < k
    · rw [if_pos h, if_pos (by omega)]
    · rw [if_neg h, if_neg (by omega)]
theorem LK_zero (W : List (Int × Int)) (n : Nat) : rowF n (LK W 0) = rowF n (fun _ => 0) := rowF_ext fun i _ => by simp [LK]
theorem TK_zero (W : List (Int × Int)) (n : Nat) : rowF n (TK W 0) = rowF n (fun _ => 0) := rowF_ext fun i _ => by simp [TK]
theorem LK_all (W : List (Int × Int)) : rowF W.length (LK W W.length) = icl (W.map (·.1)) := by
  apply List.ext_getElem?
  intro i
  by_cases h : i < W.length
  · rw [rowF_at _ _ _ h]
    simp [icl, LK, h]
  · rw [List.getElem?_eq_none (by rw [rowF_len]; omega), List.getElem?_eq_none (by rw [icl_len, List.length_map]; omega)]
theorem TK_all (W : List (Int × Int)) : rowF W.length (TK W W.length) = icl (W.map (·.2)) := by
  apply List.ext_getElem?
  intro i
  by_cases h : i < W.length
  · rw [rowF_at _ _ _ h]
    simp [icl, TK, h]
  · rw [List.getElem?_eq_none (by rw [rowF_len]; omega), List.getElem?_eq_none (by rw [icl_len, List.length_map]; omega)]

/-- What Explicit returns: two new rows. -/
def ExplPost (l : List Int) (b n : Nat) (w : World) (x : Ending) (w' : World) : Prop :=
  ∃ g1 g2 : Nat, x = .returned (.tuple #[.slice (some ⟨g1, 0, none⟩) n n, .slice (some ⟨g2, 0, none⟩) n n]) ∧ g1 ≠ g2 ∧
    w'.ownsRow w.heap.size 3 1 (.slice (some ⟨g1, 0, none⟩) n n) n (icl ((explL l b).map (·.1))) ∧ w'.ownsRow w.heap.size 3 1 (.slice (some ⟨g2, 0, none⟩) n n) n (icl ((explL l b).map (·.2))) ∧ Below w.heap.size w w'

theorem ints_kept {w w' : World} {g off : Nat} {zs : List Int} (h : IntsAt w (some ⟨g, off, none⟩) zs) {C : Nat} (hb : Below C w w') (hlt : g < C) : IntsAt w' (some ⟨g, off, none⟩) zs := by
  rcases h with h | ⟨b, o, hA, hl, hc⟩
  · exact .inl h
  · injection hA with hA
    injection hA with e1 e2
    subst e1 e2
    exact .inr ⟨g, off, rfl, Nat.lt_of_lt_of_le hl hb.size, fun j z hz => (hb.cell (p := ⟨g, off + j, none⟩) hlt).trans (hc j z hz)⟩
theorem ints_store {w : World} {g off : Nat} {zs : List Int} (h : IntsAt w (some ⟨g, off, none⟩) zs) {a : Addr} (ha : g ≠ a.block) (u : Value) : IntsAt (w.setCell a u) (some ⟨g, off, none⟩) zs := by
  rcases h with h | ⟨b, o, hA, hl, hc⟩
  · exact .inl h
  · injection hA with hA
    injection hA with e1 e2
    subst e1 e2
    refine .inr ⟨g, off, rfl, by simpa using hl, fun j z hz => ?_⟩
    exact (World.cell?_of_block (w := w) (a := ⟨g, off + j, none⟩) (Below.heap_setCell _ _ _ _ ha)).trans (hc j z hz)

/-- One class on: what stands behind it, and what is answered of it. -/
theorem walk_at {b : Nat} {l : List Int} {s : St} {E : List (Int × Int)} {k : Nat} (h : walkL b (l.drop k) s = E.drop k) (hk : k < l.length) (hE : k < E.length) : outS b (closeS l[k] s) l[k] = E[k] ∧ walkL b (l.drop (k + 1)) (openS l[k] (l.drop (k + 1)) (closeS l[k] s)) = E.drop (k + 1) := by
  rw [List.drop_eq_getElem_cons hk, List.drop_eq_getElem_cons hE] at h
  simp only [walkL] at h
  injection h with h1 h2
  exact ⟨h1, h2⟩

set_option maxHeartbeats 4000000 in
set_option maxRecDepth 100000 in
theorem explicit_any (A : Option Addr) (l : List Int) (b n m : Nat) (w : World) (hb : b ≤ 1) (hl : l.length = n) (hR : IntsAt w A l) (hn : n ≤ 1000000) (hnm : n ≤ m) :
    Calls Try.prog 11 #[.slice A n m, .int .i64 b] w fun x w' => ExplPost l b n w x w' := by
  have hmk := fun W => run_make_row' (P := Try.prog) 22 3 (.int .i64 0) 8 Try.underlying22 infoI rfl .i64 .i64 n (by omega) (by omega) W
  have HTWO := Lib.hid (two_made w n (by unfold maxLen; omega) 3 _ rfl)
  have HR := Lib.hid hR
  have HL := Lib.hid hl
  have HEL := Lib.hid (explL_len l b)
  have HW0 := Lib.hid (show walkL b (l.drop 0) (startS b) = (explL l b).drop 0 from rfl)
  have HFIN := Lib.hid (And.intro (LK_all (explL l b)) (TK_all (explL l b)))
  clear hR hl
  have k01 : ((b : Int) != 0) = false ∨ (((b : Int) != 0) = true ∧ ((b : Int) != 1) = false) := by
    rcases (show b = 0 ∨ b = 1 by omega) with rfl | rfl
    · exact .inl rfl
    · exact .inr ⟨rfl, rfl⟩
  unfold ExplPost
  generalize explL l b = E at *
  go_enter Try.func11, Try.ntmps11
  rcases k01 with k0 | ⟨k0, k1⟩
  all_goals
    go_wp2_with fail
    rename_i Q0 K0 hK0
    obtain ⟨K1, hQ1⟩ : ∃ K1 : Act → World → Prop, ∀ y Z, K1 y Z ↔ (∃ g1 g2 : Nat, (g1 ≠ g2 ∧ Z.ownsRow w.heap.size 3 1 (.slice (some ⟨g1, 0, none⟩) n n) n (rowF n (fun _ => 0)) ∧ Z.ownsRow w.heap.size 3 1 (.slice (some ⟨g2, 0, none⟩) n n) n (rowF n (fun _ => 0)) ∧ Below w.heap.size w Z) ∧
      ∃ a10 a11 a12 a13 a14 a15 a16 a17 a18 a19 a20 a21, y = ⟨#[.slice A n m, .int .i64 b, undef, undef, .slice (some ⟨g1, 0, none⟩) n n, .slice (some ⟨g2, 0, none⟩) n n, undef, undef, undef, undef, a10, a11, a12, a13, a14, a15, a16, a17, a18, a19, a20, a21, undef, undef, undef, undef, undef, undef, undef, undef, undef, undef, undef, undef, undef, undef, undef, undef, undef, undef, undef, undef, undef, undef, undef, undef, undef, undef, undef, undef, undef, undef, undef, undef, undef, undef, undef, undef, undef, undef], []⟩) := ⟨_, fun _ _ => Iff.rfl⟩
    have HQ := Lib.hid hQ1
    clear hQ1
    refine wp_mono (Q := Exit.then K1 Q0) ?_ (then_toE ?_)
    · go_region
      all_goals show K1 _ _
      all_goals refine (HQ.out _ _).2 ?_
      all_goals
        obtain ⟨o1, o2, hbw, -⟩ := HTWO.out
        first
        | exact ⟨w.heap.size, w.heap.size + 1, ⟨by omega, o1, o2, hbw.drew⟩, _, _, _, _, _, _, _, _, _, _, _, _, rfl⟩
        | exact ⟨w.heap.size + 1, w.heap.size, ⟨by omega, o2, o1, hbw.drew⟩, _, _, _, _, _, _, _, _, _, _, _, _, rfl⟩
    rintro y Z hh
    obtain ⟨g1, g2, ⟨hne, ho1, ho2, hbz⟩, a10, a11, a12, a13, a14, a15, a16, a17, a18, a19, a20, a21, rfl⟩ := (HQ.out _ _).1 hh
    clear hh HQ HTWO hmk
    refine hK0 _ _ ?_
    have hlt1 := (ho1.lt g1 rfl).2
    have hlt2 := (ho2.lt g2 rfl).2
    have hge1 := (ho1.lt g1 rfl).1
    have hge2 := (ho2.lt g2 rfl).1
    have HO1 := Lib.hid ho1
    have HO2 := Lib.hid ho2
    have HBZ := Lib.hid hbz
    have HM := Lib.hid (match_any A l n m Z HL.out (HR.out.below hbz) (by omega))
    clear ho1 ho2 hbz
    go_wp2_with fail
    refine HM.out.mono ?_
    rintro x w1 ⟨gm, rfl, hom, hb1⟩
    have hltm := (hom.lt gm rfl).2
    have hgem := (hom.lt gm rfl).1
    have hsz1 := hb1.size
    obtain ⟨A', c', hv, hma⟩ := intsAt_icl (zs := matchL l) hom ((matchL_len l).trans HL.out)
    have hA' : A' = some ⟨gm, 0, none⟩ := by
      injection hv with h1 _ _
      exact h1.symm
    subst hA'
    clear hv
    have HMA := Lib.hid hma
    have HO1' := Lib.hid (own_kept HO1.out hb1 (by omega))
    have HO2' := Lib.hid (own_kept HO2.out hb1 (by omega))
    have HB1 := Lib.hid (HBZ.out.trans (hb1.mono HBZ.out.size))
    clear HO1 HO2 HBZ HM hom hb1 hma
    go_wp2_with fail
    refine (paragraph_any b w1).mono ?_
    rintro x w2 ⟨rfl, hop, hb2⟩
    have hgmN : gm ≠ g1 ∧ gm ≠ g2 := ⟨by omega, by omega⟩
    obtain ⟨B, hB⟩ : ∃ B, w1.heap.size + 1 = B := ⟨_, rfl⟩
    have hB1 : w1.heap.size = B - 1 := by omega
    rw [hB] at hop
    rw [hB]
    rw [hB1] at hb2 hltm hsz1
    have hl1 : g1 < B - 1 := by omega
    have hl2 : g2 < B - 1 := by omega
    have hhB : w.heap.size ≤ B - 1 := by have := HB1.out.size; omega
    have HOP := Lib.hid hop
    have HMA2 := Lib.hid (ints_kept HMA.out hb2 hltm)
    have HO1 := Lib.hid (own_kept HO1'.out hb2 (by omega))
    have HO2 := Lib.hid (own_kept HO2'.out hb2 (by omega))
    have HB2 := Lib.hid (HB1.out.trans (hb2.mono hhB))
    clear HMA HO1' HO2' HB1 hop hb2 hB hB1 hsz1
    go_wp2_with fail
    go_loopw [28] (fun s28 wx => ∃ (k : Nat) (s : St), s28 = .int .i64 k ∧ k ≤ n ∧ OpAt wx B s ∧ Ok b s ∧ Few k s ∧ walkL b (l.drop k) s = E.drop k ∧ wx.ownsRow w.heap.size 3 1 (.slice (some ⟨g1, 0, none⟩) n n) n (rowF n (LK E k)) ∧ wx.ownsRow w.heap.size 3 1 (.slice (some ⟨g2, 0, none⟩) n n) n (rowF n (TK E k)) ∧ IntsAt wx (some ⟨gm, 0, none⟩) (matchL l) ∧ Below w.heap.size w wx) (fun s28 _ => n - (RowKit.intOf s28).toNat)
    case atStart => exact ⟨0, startS b, rfl, Nat.zero_le _, HOP.out, Ok.start b, ⟨Nat.le_refl _, Nat.le_refl _⟩, HW0.out, by rw [LK_zero]; exact HO1.out, by rw [TK_zero]; exact HO2.out, HMA2.out, HB2.out⟩
    case round =>
      obtain ⟨k, s, rfl, hk, hop, hok, hfew, hwalk, ho1, ho2, hma, hbx⟩ := hrel
      clear HOP HO1 HO2 HMA2 HB2 HW0
      have HMA := Lib.hid hma
      have HO1 := Lib.hid ho1
      have HO2 := Lib.hid ho2
      have HBX := Lib.hid hbx
      clear hma ho1 ho2
      by_cases hlt : k < n
      · have hkl : k < l.length := by rw [HL.out]; exact hlt
        have hkE : k < E.length := by rw [HEL.out]; exact hkl
        obtain ⟨hout, hnext⟩ := walk_at hwalk hkl hkE
        have hir := HR.out.below hbx
        obtain ⟨bb, off, hA, hc0⟩ := hir.at_ hkl
        subst hA
        have HOK1 := Lib.hid (hok.close l[k])
        have HFEW1 := Lib.hid (hfew.close l[k])
        have HOK2 := Lib.hid ((hok.close l[k]).open_ l[k] (l.drop (k + 1)))
        have HFEW2 := Lib.hid ((hfew.close l[k]).open_ l[k] (l.drop (k + 1)))
        have hopn := hok.count
        have hops : isos s.es ≤ s.es.length := isos_le _
        have hsm := hok.chain.small hb
        have HCL := Lib.hid (close_any l[k] b B s wr hb hok hop (by have := hfew.1; omega) (by have := hfew.2; omega) (by omega))
        have HOUT := Lib.hid hout
        have HNEXT := Lib.hid hnext
        have HFSI := Lib.hid (fun (h : l[k] = 21) => h)
        have HISI := Lib.hid (fun (h : l[k] = 21) (h2 : k < l.length) => show isI l[k] = true by rw [h]; rfl)
        have HL1 := Lib.hid (LK_step (n := n) hkE)
        have HT1 := Lib.hid (TK_step (n := n) hkE)
        clear hout hnext hwalk hir hbx hok hfew hop hopn hops hsm
        generalize hcc : l[k] = c at *
        generalize hss : closeS c s = s1 at *
        generalize hee : E[k] = e1 at *
        obtain ⟨y1, y2⟩ := e1
        clear hcc hss hee
        go_wp2_with fail
        refine HCL.out.mono ?_
        rintro x w3 ⟨rfl, ho3, hb3⟩
        have hs3 := hb3.size
        have HT := Lib.hid (tell_any c b B s1 w3 hb HOK1.out.chain ho3)
        rw [HOUT.out] at HT
        have HO3 := Lib.hid ho3
        have HB3 := Lib.hid hb3
        have hB3 := ho3.lt
        clear ho3 hb3 HCL HOUT
        go_wp2_with fail
        refine HT.out.mono ?_
        rintro x w4 ⟨rfl, hb4⟩
        have hb34 := HB3.out.trans (hb4.mono (B' := B - 1) (by omega))
        have HOP4 := Lib.hid (HO3.out.below hb4)
        have ho1 := own_kept HO1.out hb34 (by omega)
        have ho2 := own_kept HO2.out hb34 (by omega)
        have HMA4 := Lib.hid (ints_kept HMA.out hb34 hltm)
        have HB4 := Lib.hid (HBX.out.trans (hb34.mono hhB))
        clear HT HO3 HB3 hb4 hb34 HO1 HO2 HMA HBX
        have p1 := (ho1.cellAt k (by omega)).trans (rowF_at n _ k hlt)
        have f1 := ho1.frozenAt k
        have ho1s := (ho1.stored k (.int .i64 y1)).1
        rw [rowF_set, HL1.out] at ho1s
        have ho2s := own_other ho2 (a := ⟨g1, k, none⟩) (by simp; omega) (.int .i64 y1)
        have p2 := (ho2s.cellAt k (by omega)).trans (rowF_at n _ k hlt)
        have f2 := ho2s.frozenAt k
        have ho2t := (ho2s.stored k (.int .i64 y2)).1
        rw [rowF_set, HT1.out] at ho2t
        have ho1t := own_other ho1s (a := ⟨g2, k, none⟩) (by simp; omega) (.int .i64 y2)
        have HOP5 := Lib.hid ((HOP4.out.store (a := ⟨g1, k, none⟩) hl1 (.int .i64 y1)).store (a := ⟨g2, k, none⟩) hl2 (.int .i64 y2))
        have HMA5 := Lib.hid (ints_store (ints_store HMA4.out (a := ⟨g1, k, none⟩) hgmN.1 (.int .i64 y1)) (a := ⟨g2, k, none⟩) hgmN.2 (.int .i64 y2))
        have HB5 := Lib.hid ((HB4.out.setCell (p := ⟨g1, k, none⟩) hge1 (.int .i64 y1)).setCell (p := ⟨g2, k, none⟩) hge2 (.int .i64 y2))
        have HO1 := Lib.hid ho1t
        have HO2 := Lib.hid ho2t
        clear HOP4 HMA4 HB4 ho1 ho2 ho1s ho2s ho1t ho2t HL1 HT1
        by_cases hF : c = 21
        · subst hF
          obtain ⟨z, hz⟩ : ∃ z, (if dirE (l.drop (k + 1)) = 1 then (20 : Int) else 19) = z := ⟨_, rfl⟩
          have hz21 : z ≠ 21 := by rw [← hz]; split <;> decide
          have HD := Lib.hid (directed_any _ _ l n m n k ((w4.setCell ⟨g1, k, none⟩ (.int .i64 y1)).setCell ⟨g2, k, none⟩ (.int .i64 y2)) HL.out (HR.out.below HB5.out) HMA5.out (by omega) hnm hlt (HISI.out rfl))
          have HN2 := openS_fsi (l.drop (k + 1)) s1
          rw [hz] at HD HN2
          rw [HN2] at HNEXT HOK2 HFEW2
          have HO := Lib.hid (open_any z hz21 b B s1 ((w4.setCell ⟨g1, k, none⟩ (.int .i64 y1)).setCell ⟨g2, k, none⟩ (.int .i64 y2)) hb HOK1.out HOP5.out (by have := HFEW1.out.1; omega) (by have := HFEW1.out.2; omega) (by have := HOK1.out.count; have := isos_le s1.es; have := HOK1.out.chain.small hb; omega))
          clear hz hz21 HOP5 HN2
          go_wp2_with fail
          refine HD.out.mono ?_
          rintro x w6 ⟨rfl, rfl⟩
          go_wp2_with fail
          refine HO.out.mono ?_
          rintro x w7 ⟨rfl, ho7, hb7⟩
          have HO1' := Lib.hid (own_kept HO1.out hb7 (by omega))
          have HO2' := Lib.hid (own_kept HO2.out hb7 (by omega))
          have HMA7 := Lib.hid (ints_kept HMA5.out hb7 hltm)
          have HB7 := Lib.hid (HB5.out.trans (hb7.mono hhB))
          clear HO HO1 HO2 HMA5 HB5 hb7
          go_wp2
          go_roundw
          case measure => simp [RowKit.intOf]; omega
          case rel => exact ⟨k + 1, _, by go_num, by omega, ho7, HOK2.out, HFEW2.out, HNEXT.out, HO1'.out, HO2'.out, HMA7.out, HB7.out⟩
        · have kF : (c == 21) = false := by simpa using hF
          have HO := Lib.hid (open_any c hF b B s1 ((w4.setCell ⟨g1, k, none⟩ (.int .i64 y1)).setCell ⟨g2, k, none⟩ (.int .i64 y2)) hb HOK1.out HOP5.out (by have := HFEW1.out.1; omega) (by have := HFEW1.out.2; omega) (by have := HOK1.out.count; have := isos_le s1.es; have := HOK1.out.chain.small hb; omega))
          have HN2 := openS_any hF (l.drop (k + 1)) [] s1
          rw [HN2] at HNEXT HOK2 HFEW2
          clear hF HOP5 HN2 HISI HFSI
          go_wp2_with fail
          refine HO.out.mono ?_
          rintro x w7 ⟨rfl, ho7, hb7⟩
          have HO1' := Lib.hid (own_kept HO1.out hb7 (by omega))
          have HO2' := Lib.hid (own_kept HO2.out hb7 (by omega))
          have HMA7 := Lib.hid (ints_kept HMA5.out hb7 hltm)
          have HB7 := Lib.hid (HB5.out.trans (hb7.mono hhB))
          clear HO HO1 HO2 HMA5 HB5 hb7
          go_wp2
          go_roundw
          case measure => simp [RowKit.intOf]; omega
          case rel => exact ⟨k + 1, _, by go_num, by omega, ho7, HOK2.out, HFEW2.out, HNEXT.out, HO1'.out, HO2'.out, HMA7.out, HB7.out⟩
      · obtain rfl : k = n := by omega
        go_wp2
        go_ret2
        have hEn : E.length = k := HEL.out.trans HL.out
        obtain ⟨h1, h2⟩ := HFIN.out
        rw [hEn] at h1 h2
        exact ⟨g1, g2, rfl, hne, by rw [← h1]; exact HO1.out, by rw [← h2]; exact HO2.out, HBX.out⟩
end Go.Proofs.Ytehndhkcmccpmaa.Lv
