/-
  Several texts in one, each with its own remark: LvExpl, LvReads, SqGoes, RuPlain, RuRows, BiTold.
-/
import Derived.Deep.OwnRows
import Derived.Laws.Rows
import Derived.Deep.RegionHeld3
import Derived.Test.YtfclpecbnailgaaGreatR4
import Derived.Test.YtfclpecbnailgaaGreatR2
import Derived.Test.YtfclpecbnailgaaGreatR3
import Derived.Test.YtfclpecbnailgaaGreatR1
import Derived.Test.YtfclpecbnailgaaGreatRows

/-
 Proved here: what level.Explicit returns, for every row of numbers of at most 2^40 and every level: two new rows, by the plain explL, or none. It leaves what was in memory.
-/
set_option linter.unusedVariables false
namespace Go.Proofs.YtfclpecbnailgaaGreat.Lv
open Go Go.RowKit Go.Lib Go.Proofs.YtfclpecbnailgaaGreat.Cl Go.Proofs.YtfclpecbnailgaaGreat.Ba
theorem own_kept {w w' : World} {B g c : Nat} {t : TypeId} {sz n : Nat} {xs : List Value} (h : w.ownsRow B t sz (.slice (some ⟨g, 0, none⟩) n c) n xs) {C : Nat} (hb : Below C w w') (hlt : g < C) : w'.ownsRow B t sz (.slice (some ⟨g, 0, none⟩) n c) n xs := by
 refine ⟨h.1, ?_⟩
 rcases h.2 with h2 | ⟨g', cap, cur, e1, e2, e3, e4⟩
 ·exact .inl h2
 ·cases e1
  exact .inr ⟨g, c, cur, rfl, e2, (hb.block g hlt).trans e3, e4⟩
theorem own_other {w : World} {B g c : Nat} {t : TypeId} {sz n : Nat} {xs : List Value} (h : w.ownsRow B t sz (.slice (some ⟨g, 0, none⟩) n c) n xs) {a : Addr} (ha : g ≠ a.block) (u : Value) : (w.setCell a u).ownsRow B t sz (.slice (some ⟨g, 0, none⟩) n c) n xs :=
 ownsRow_setCell_other h (fun e => ha (by have e2 : some g = some a.block := e; injection e2)) u
theorem infoI : (Tryz.prog.info? 3).map (fun i => (i.zero, i.size, i.bytes)) = some (some (.int .i64 0), 1, 8) := by kernel_rfl
theorem then_toE {K K1 : Act → World → Prop} {Q : Exit → Act → World → Prop} (h : ∀ a w, K1 a w → K a w) : ∀ e a w, Exit.then K1 Q e a w → Exit.then K Q e a w := by
 intro e a w
 cases e <;> first | exact h a w | exact id
/-- Two rows of zeros. -/
theorem two_made (w : World) (n : Nat) (hn : n ≤ maxLen) (t : TypeId) (o : Obj) (ho : o = .cells (madeCells #[.int .i64 0] n) t (0, 0)) : ((w.alloc o).alloc o).ownsRow w.heap.size t 1 (.slice (some ⟨w.heap.size, 0, none⟩) n n) n (rowF n (fun _ => 0)) ∧ ((w.alloc o).alloc o).ownsRow w.heap.size t 1 (.slice (some ⟨w.heap.size + 1, 0, none⟩) n n) n (rowF n (fun _ => 0)) ∧ Below w.heap.size w ((w.alloc o).alloc o) ∧ ((w.alloc o).alloc o).heap.size = w.heap.size + 2 := by
 subst ho
 have hm := toList_madeCells_one (.int .i64 0) n
 rw [← rowF_zero] at hm
 have ht : (madeCells #[Value.int .i64 0] n).toList.take (n * 1) = rowF n (fun _ => 0) := by
  rw [hm, Nat.mul_one]
  exact List.take_of_length_le (by rw [rowF_len]; exact Nat.le_refl _)
 have hz : (madeCells #[Value.int .i64 0] n).size = n * 1 := by rw [size_madeCells, Nat.mul_one]
 refine ⟨⟨by rw [rowF_len, Nat.mul_one], .inr ⟨w.heap.size, n, _, rfl, Nat.le_refl _, (Below.heap_alloc _ _ _ (by simp)).trans (heap_alloc_last _ _), Nat.le_refl _, hn, hz, ht⟩⟩, ⟨by rw [rowF_len, Nat.mul_one], .inr ⟨w.heap.size + 1, n, madeCells #[Value.int .i64 0] n, rfl, by omega, ?_, Nat.le_refl _, hn, hz, ht⟩⟩, ((Below.refl _ _).alloc (Nat.le_refl _) _).alloc (by simp) _, by simp⟩
 have h := heap_alloc_last (w.alloc (.cells (madeCells #[.int .i64 0] n) t (0, 0))) (.cells (madeCells #[.int .i64 0] n) t (0, 0))
 rw [show (w.alloc (.cells (madeCells #[Value.int .i64 0] n) t (0, 0))).heap.size = w.heap.size + 1 from by simp] at h
 exact h
def LK (W : List (Int × Int)) (k : Nat) : Nat → Int := fun i => if i < k then (W.getD i (0, 0)).1 else 0
def TK (W : List (Int × Int)) (k : Nat) : Nat → Int := fun i => if i < k then (W.getD i (0, 0)).2 else 0
theorem LK_step {W : List (Int × Int)} {n k : Nat} (hk : k < W.length) : rowF n (upd (LK W k) k W[k].1) = rowF n (LK W (k + 1)) := by
 refine rowF_ext fun i hi => ?_
 simp only [upd, LK]
 by_cases e : i = k
 ·subst e
  rw [if_pos rfl, if_pos (by omega)]
  simp [hk]
 ·rw [if_neg e]
  by_cases h : i < k
  ·rw [if_pos h, if_pos (by omega)]
  ·rw [if_neg h, if_neg (by omega)]
theorem TK_step {W : List (Int × Int)} {n k : Nat} (hk : k < W.length) : rowF n (upd (TK W k) k W[k].2) = rowF n (TK W (k + 1)) := by
 refine rowF_ext fun i hi => ?_
 simp only [upd, TK]
 by_cases e : i = k
 ·subst e
  rw [if_pos rfl, if_pos (by omega)]
  simp [hk]
 ·rw [if_neg e]
  by_cases h : i < k
  ·rw [if_pos h, if_pos (by omega)]
  ·rw [if_neg h, if_neg (by omega)]
theorem LK_zero (W : List (Int × Int)) (n : Nat) : rowF n (LK W 0) = rowF n (fun _ => 0) := rowF_ext fun i _ => by simp [LK]
theorem TK_zero (W : List (Int × Int)) (n : Nat) : rowF n (TK W 0) = rowF n (fun _ => 0) := rowF_ext fun i _ => by simp [TK]
theorem LK_all (W : List (Int × Int)) : rowF W.length (LK W W.length) = icl (W.map (·.1)) := by
 apply List.ext_getElem?
 intro i
 by_cases h : i < W.length
 ·rw [rowF_at _ _ _ h]
  simp [icl, LK, h]
 ·rw [List.getElem?_eq_none (by rw [rowF_len]; omega), List.getElem?_eq_none (by rw [icl_len, List.length_map]; omega)]
theorem TK_all (W : List (Int × Int)) : rowF W.length (TK W W.length) = icl (W.map (·.2)) := by
 apply List.ext_getElem?
 intro i
 by_cases h : i < W.length
 ·rw [rowF_at _ _ _ h]
  simp [icl, TK, h]
 ·rw [List.getElem?_eq_none (by rw [rowF_len]; omega), List.getElem?_eq_none (by rw [icl_len, List.length_map]; omega)]
/-- What Explicit returns: two new rows. -/
def ExplPost (l : List Int) (b n : Nat) (w : World) (x : Ending) (w' : World) : Prop :=
 ∃ g1 g2 : Nat, x = .returned (.tuple #[.slice (some ⟨g1, 0, none⟩) n n, .slice (some ⟨g2, 0, none⟩) n n]) ∧ g1 ≠ g2 ∧
  w'.ownsRow w.heap.size 3 1 (.slice (some ⟨g1, 0, none⟩) n n) n (icl ((explL l b).map (·.1))) ∧ w'.ownsRow w.heap.size 3 1 (.slice (some ⟨g2, 0, none⟩) n n) n (icl ((explL l b).map (·.2))) ∧ Below w.heap.size w w'
theorem ints_kept {w w' : World} {g off : Nat} {zs : List Int} (h : IntsAt w (some ⟨g, off, none⟩) zs) {C : Nat} (hb : Below C w w') (hlt : g < C) : IntsAt w' (some ⟨g, off, none⟩) zs := by
 rcases h with h | ⟨b, o, hA, hl, hc⟩
 ·exact .inl h
 ·injection hA with hA
  injection hA with e1 e2
  subst e1 e2
  exact .inr ⟨g, off, rfl, Nat.lt_of_lt_of_le hl hb.size, fun j z hz => (hb.cell (p := ⟨g, off + j, none⟩) hlt).trans (hc j z hz)⟩
theorem ints_store {w : World} {g off : Nat} {zs : List Int} (h : IntsAt w (some ⟨g, off, none⟩) zs) {a : Addr} (ha : g ≠ a.block) (u : Value) : IntsAt (w.setCell a u) (some ⟨g, off, none⟩) zs := by
 rcases h with h | ⟨b, o, hA, hl, hc⟩
 ·exact .inl h
 ·injection hA with hA
  injection hA with e1 e2
  subst e1 e2
  refine .inr ⟨g, off, rfl, by simpa using hl, fun j z hz => ?_⟩
  exact (World.cell?_of_block (w := w) (a := ⟨g, off + j, none⟩) (Below.heap_setCell _ _ _ _ ha)).trans (hc j z hz)
/-- One class on: what stands behind it, and what is answered of it. -/
theorem walk_at {b : Nat} {l : List Int} {s : St} {E : List (Int × Int)} {k : Nat} (h : walkL b (l.drop k) s = E.drop k) (hk : k < l.length) (hE : k < E.length) : outS b (closeS l[k] s) l[k] = E[k] ∧ walkL b (l.drop (k + 1)) (openS l[k] (l.drop (k + 1)) (closeS l[k] s)) = E.drop (k + 1) := by
 rw [List.drop_eq_getElem_cons hk, List.drop_eq_getElem_cons hE] at h
 simp only [walkL] at h
 injection h with h1 h2
 exact ⟨h1, h2⟩
set_option maxHeartbeats 4000000 in
set_option maxRecDepth 100000 in
theorem explicit_any (A : Option Addr) (l : List Int) (b n m : Nat) (w : World) (hb : b ≤ 1) (hl : l.length = n) (hR : IntsAt w A l) (hn : n ≤ 1000000) (hnm : n ≤ m) :
  Calls Tryz.prog 48 #[.slice A n m, .int .i64 b] w fun x w' => ExplPost l b n w x w' := by
 have hmk := fun W => run_make_row' (P := Tryz.prog) 25 3 (.int .i64 0) 8 Tryz.underlying25 infoI rfl .i64 .i64 n (by omega) (by omega) W
 have HTWO := Lib.hid (two_made w n (by unfold maxLen; omega) 3 _ rfl)
 have HR := Lib.hid hR
 have HL := Lib.hid hl
 have HEL := Lib.hid (explL_len l b)
 have HW0 := Lib.hid (show walkL b (l.drop 0) (startS b) = (explL l b).drop 0 from rfl)
 have HFIN := Lib.hid (And.intro (LK_all (explL l b)) (TK_all (explL l b)))
 clear hR hl
 have k01 : ((b : Int) != 0) = false ∨ (((b : Int) != 0) = true ∧ ((b : Int) != 1) = false) := by
  rcases (show b = 0 ∨ b = 1 by omega) with rfl | rfl
  ·exact .inl rfl
  ·exact .inr ⟨rfl, rfl⟩
 unfold ExplPost
 generalize explL l b = E at *
 go_enter Tryz.func48, Tryz.ntmps48
 rcases k01 with k0 | ⟨k0, k1⟩
 all_goals
  go_wp2_with fail
  rename_i Q0 K0 hK0
  obtain ⟨K1, hQ1⟩ : ∃ K1 : Act → World → Prop, ∀ y Z, K1 y Z ↔ (∃ g1 g2 : Nat, (g1 ≠ g2 ∧ Z.ownsRow w.heap.size 3 1 (.slice (some ⟨g1, 0, none⟩) n n) n (rowF n (fun _ => 0)) ∧ Z.ownsRow w.heap.size 3 1 (.slice (some ⟨g2, 0, none⟩) n n) n (rowF n (fun _ => 0)) ∧ Below w.heap.size w Z) ∧
   ∃ a10 a11 a12 a13 a14 a15 a16 a17 a18 a19 a20 a21, y = ⟨#[.slice A n m, .int .i64 b, undef, undef, .slice (some ⟨g1, 0, none⟩) n n, .slice (some ⟨g2, 0, none⟩) n n, undef, undef, undef, undef, a10, a11, a12, a13, a14, a15, a16, a17, a18, a19, a20, a21, undef, undef, undef, undef, undef, undef, undef, undef, undef, undef, undef, undef, undef, undef, undef, undef, undef, undef, undef, undef, undef, undef, undef, undef, undef, undef, undef, undef, undef, undef, undef, undef, undef, undef, undef, undef, undef, undef], []⟩) := ⟨_, fun _ _ => Iff.rfl⟩
  have HQ := Lib.hid hQ1
  clear hQ1
  refine wp_mono (Q := Exit.then K1 Q0) ?_ (then_toE ?_)
  ·go_region
   all_goals show K1 _ _
   all_goals refine (HQ.out _ _).2 ?_
   all_goals
    obtain ⟨o1, o2, hbw, -⟩ := HTWO.out
    first
    | exact ⟨w.heap.size, w.heap.size + 1, ⟨by omega, o1, o2, hbw.drew⟩, _, _, _, _, _, _, _, _, _, _, _, _, rfl⟩
    | exact ⟨w.heap.size + 1, w.heap.size, ⟨by omega, o2, o1, hbw.drew⟩, _, _, _, _, _, _, _, _, _, _, _, _, rfl⟩
  rintro y Z hh
  obtain ⟨g1, g2, ⟨hne, ho1, ho2, hbz⟩, a10, a11, a12, a13, a14, a15, a16, a17, a18, a19, a20, a21, rfl⟩ := (HQ.out _ _).1 hh
  clear hh HQ HTWO hmk
  refine hK0 _ _ ?_
  have hlt1 := (ho1.lt g1 rfl).2
  have hlt2 := (ho2.lt g2 rfl).2
  have hge1 := (ho1.lt g1 rfl).1
  have hge2 := (ho2.lt g2 rfl).1
  have HO1 := Lib.hid ho1
  have HO2 := Lib.hid ho2
  have HBZ := Lib.hid hbz
  have HM := Lib.hid (match_any A l n m Z HL.out (HR.out.below hbz) (by omega))
  clear ho1 ho2 hbz
  go_wp2_with fail
  refine HM.out.mono ?_
  rintro x w1 ⟨gm, rfl, hom, hb1⟩
  have hltm := (hom.lt gm rfl).2
  have hgem := (hom.lt gm rfl).1
  have hsz1 := hb1.size
  obtain ⟨A', c', hv, hma⟩ := intsAt_icl (zs := matchL l) hom ((matchL_len l).trans HL.out)
  have hA' : A' = some ⟨gm, 0, none⟩ := by
   injection hv with h1 _ _
   exact h1.symm
  subst hA'
  clear hv
  have HMA := Lib.hid hma
  have HO1' := Lib.hid (own_kept HO1.out hb1 (by omega))
  have HO2' := Lib.hid (own_kept HO2.out hb1 (by omega))
  have HB1 := Lib.hid (HBZ.out.trans (hb1.mono HBZ.out.size))
  clear HO1 HO2 HBZ HM hom hb1 hma
  go_wp2_with fail
  refine (paragraph_any b w1).mono ?_
  rintro x w2 ⟨rfl, hop, hb2⟩
  have hgmN : gm ≠ g1 ∧ gm ≠ g2 := ⟨by omega, by omega⟩
  obtain ⟨B, hB⟩ : ∃ B, w1.heap.size + 1 = B := ⟨_, rfl⟩
  have hB1 : w1.heap.size = B - 1 := by omega
  rw [hB] at hop
  rw [hB]
  rw [hB1] at hb2 hltm hsz1
  have hl1 : g1 < B - 1 := by omega
  have hl2 : g2 < B - 1 := by omega
  have hhB : w.heap.size ≤ B - 1 := by have := HB1.out.size; omega
  have HOP := Lib.hid hop
  have HMA2 := Lib.hid (ints_kept HMA.out hb2 hltm)
  have HO1 := Lib.hid (own_kept HO1'.out hb2 (by omega))
  have HO2 := Lib.hid (own_kept HO2'.out hb2 (by omega))
  have HB2 := Lib.hid (HB1.out.trans (hb2.mono hhB))
  clear HMA HO1' HO2' HB1 hop hb2 hB hB1 hsz1
  go_wp2_with fail
  go_loopw [28] (fun s28 wx => ∃ (k : Nat) (s : St), s28 = .int .i64 k ∧ k ≤ n ∧ OpAt wx B s ∧ Ok b s ∧ Few k s ∧ walkL b (l.drop k) s = E.drop k ∧ wx.ownsRow w.heap.size 3 1 (.slice (some ⟨g1, 0, none⟩) n n) n (rowF n (LK E k)) ∧ wx.ownsRow w.heap.size 3 1 (.slice (some ⟨g2, 0, none⟩) n n) n (rowF n (TK E k)) ∧ IntsAt wx (some ⟨gm, 0, none⟩) (matchL l) ∧ Below w.heap.size w wx) (fun s28 _ => n - (RowKit.intOf s28).toNat)
  case atStart => exact ⟨0, startS b, rfl, Nat.zero_le _, HOP.out, Ok.start b, ⟨Nat.le_refl _, Nat.le_refl _⟩, HW0.out, by rw [LK_zero]; exact HO1.out, by rw [TK_zero]; exact HO2.out, HMA2.out, HB2.out⟩
  case round =>
   obtain ⟨k, s, rfl, hk, hop, hok, hfew, hwalk, ho1, ho2, hma, hbx⟩ := hrel
   clear HOP HO1 HO2 HMA2 HB2 HW0
   have HMA := Lib.hid hma
   have HO1 := Lib.hid ho1
   have HO2 := Lib.hid ho2
   have HBX := Lib.hid hbx
   clear hma ho1 ho2
   by_cases hlt : k < n
   ·have hkl : k < l.length := by rw [HL.out]; exact hlt
    have hkE : k < E.length := by rw [HEL.out]; exact hkl
    obtain ⟨hout, hnext⟩ := walk_at hwalk hkl hkE
    have hir := HR.out.below hbx
    obtain ⟨bb, off, hA, hc0⟩ := hir.at_ hkl
    subst hA
    have HOK1 := Lib.hid (hok.close l[k])
    have HFEW1 := Lib.hid (hfew.close l[k])
    have HOK2 := Lib.hid ((hok.close l[k]).open_ l[k] (l.drop (k + 1)))
    have HFEW2 := Lib.hid ((hfew.close l[k]).open_ l[k] (l.drop (k + 1)))
    have hopn := hok.count
    have hops : isos s.es ≤ s.es.length := isos_le _
    have hsm := hok.chain.small hb
    have HCL := Lib.hid (close_any l[k] b B s wr hb hok hop (by have := hfew.1; omega) (by have := hfew.2; omega) (by omega))
    have HOUT := Lib.hid hout
    have HNEXT := Lib.hid hnext
    have HFSI := Lib.hid (fun (h : l[k] = 21) => h)
    have HISI := Lib.hid (fun (h : l[k] = 21) (h2 : k < l.length) => show isI l[k] = true by rw [h]; rfl)
    have HL1 := Lib.hid (LK_step (n := n) hkE)
    have HT1 := Lib.hid (TK_step (n := n) hkE)
    clear hout hnext hwalk hir hbx hok hfew hop hopn hops hsm
    generalize hcc : l[k] = c at *
    generalize hss : closeS c s = s1 at *
    generalize hee : E[k] = e1 at *
    obtain ⟨y1, y2⟩ := e1
    clear hcc hss hee
    go_wp2_with fail
    refine HCL.out.mono ?_
    rintro x w3 ⟨rfl, ho3, hb3⟩
    have hs3 := hb3.size
    have HT := Lib.hid (tell_any c b B s1 w3 hb HOK1.out.chain ho3)
    rw [HOUT.out] at HT
    have HO3 := Lib.hid ho3
    have HB3 := Lib.hid hb3
    have hB3 := ho3.lt
    clear ho3 hb3 HCL HOUT
    go_wp2_with fail
    refine HT.out.mono ?_
    rintro x w4 ⟨rfl, hb4⟩
    have hb34 := HB3.out.trans (hb4.mono (B' := B - 1) (by omega))
    have HOP4 := Lib.hid (HO3.out.below hb4)
    have ho1 := own_kept HO1.out hb34 (by omega)
    have ho2 := own_kept HO2.out hb34 (by omega)
    have HMA4 := Lib.hid (ints_kept HMA.out hb34 hltm)
    have HB4 := Lib.hid (HBX.out.trans (hb34.mono hhB))
    clear HT HO3 HB3 hb4 hb34 HO1 HO2 HMA HBX
    have p1 := (ho1.cellAt k (by omega)).trans (rowF_at n _ k hlt)
    have f1 := ho1.frozenAt k
    have ho1s := (ho1.stored k (.int .i64 y1)).1
    rw [rowF_set, HL1.out] at ho1s
    have ho2s := own_other ho2 (a := ⟨g1, k, none⟩) (by simp; omega) (.int .i64 y1)
    have p2 := (ho2s.cellAt k (by omega)).trans (rowF_at n _ k hlt)
    have f2 := ho2s.frozenAt k
    have ho2t := (ho2s.stored k (.int .i64 y2)).1
    rw [rowF_set, HT1.out] at ho2t
    have ho1t := own_other ho1s (a := ⟨g2, k, none⟩) (by simp; omega) (.int .i64 y2)
    have HOP5 := Lib.hid ((HOP4.out.store (a := ⟨g1, k, none⟩) hl1 (.int .i64 y1)).store (a := ⟨g2, k, none⟩) hl2 (.int .i64 y2))
    have HMA5 := Lib.hid (ints_store (ints_store HMA4.out (a := ⟨g1, k, none⟩) hgmN.1 (.int .i64 y1)) (a := ⟨g2, k, none⟩) hgmN.2 (.int .i64 y2))
    have HB5 := Lib.hid ((HB4.out.setCell (p := ⟨g1, k, none⟩) hge1 (.int .i64 y1)).setCell (p := ⟨g2, k, none⟩) hge2 (.int .i64 y2))
    have HO1 := Lib.hid ho1t
    have HO2 := Lib.hid ho2t
    clear HOP4 HMA4 HB4 ho1 ho2 ho1s ho2s ho1t ho2t HL1 HT1
    by_cases hF : c = 21
    ·subst hF
     obtain ⟨z, hz⟩ : ∃ z, (if dirE (l.drop (k + 1)) = 1 then (20 : Int) else 19) = z := ⟨_, rfl⟩
     have hz21 : z ≠ 21 := by rw [← hz]; split <;> decide
     have HD := Lib.hid (directed_any _ _ l n m n k ((w4.setCell ⟨g1, k, none⟩ (.int .i64 y1)).setCell ⟨g2, k, none⟩ (.int .i64 y2)) HL.out (HR.out.below HB5.out) HMA5.out (by omega) hnm hlt (HISI.out rfl))
     have HN2 := openS_fsi (l.drop (k + 1)) s1
     rw [hz] at HD HN2
     rw [HN2] at HNEXT HOK2 HFEW2
     have HO := Lib.hid (open_any z hz21 b B s1 ((w4.setCell ⟨g1, k, none⟩ (.int .i64 y1)).setCell ⟨g2, k, none⟩ (.int .i64 y2)) hb HOK1.out HOP5.out (by have := HFEW1.out.1; omega) (by have := HFEW1.out.2; omega) (by have := HOK1.out.count; have := isos_le s1.es; have := HOK1.out.chain.small hb; omega))
     clear hz hz21 HOP5 HN2
     go_wp2_with fail
     refine HD.out.mono ?_
     rintro x w6 ⟨rfl, rfl⟩
     go_wp2_with fail
     refine HO.out.mono ?_
     rintro x w7 ⟨rfl, ho7, hb7⟩
     have HO1' := Lib.hid (own_kept HO1.out hb7 (by omega))
     have HO2' := Lib.hid (own_kept HO2.out hb7 (by omega))
     have HMA7 := Lib.hid (ints_kept HMA5.out hb7 hltm)
     have HB7 := Lib.hid (HB5.out.trans (hb7.mono hhB))
     clear HO HO1 HO2 HMA5 HB5 hb7
     go_wp2
     go_roundw
     case measure => simp [RowKit.intOf]; omega
     case rel => exact ⟨k + 1, _, by go_num, by omega, ho7, HOK2.out, HFEW2.out, HNEXT.out, HO1'.out, HO2'.out, HMA7.out, HB7.out⟩
    ·have kF : (c == 21) = false := by simpa using hF
     have HO := Lib.hid (open_any c hF b B s1 ((w4.setCell ⟨g1, k, none⟩ (.int .i64 y1)).setCell ⟨g2, k, none⟩ (.int .i64 y2)) hb HOK1.out HOP5.out (by have := HFEW1.out.1; omega) (by have := HFEW1.out.2; omega) (by have := HOK1.out.count; have := isos_le s1.es; have := HOK1.out.chain.small hb; omega))
     have HN2 := openS_any hF (l.drop (k + 1)) [] s1
     rw [HN2] at HNEXT HOK2 HFEW2
     clear hF HOP5 HN2 HISI HFSI
     go_wp2_with fail
     refine HO.out.mono ?_
     rintro x w7 ⟨rfl, ho7, hb7⟩
     have HO1' := Lib.hid (own_kept HO1.out hb7 (by omega))
     have HO2' := Lib.hid (own_kept HO2.out hb7 (by omega))
     have HMA7 := Lib.hid (ints_kept HMA5.out hb7 hltm)
     have HB7 := Lib.hid (HB5.out.trans (hb7.mono hhB))
     clear HO HO1 HO2 HMA5 HB5 hb7
     go_wp2
     go_roundw
     case measure => simp [RowKit.intOf]; omega
     case rel => exact ⟨k + 1, _, by go_num, by omega, ho7, HOK2.out, HFEW2.out, HNEXT.out, HO1'.out, HO2'.out, HMA7.out, HB7.out⟩
   ·obtain rfl : k = n := by omega
    go_wp2
    go_ret2
    have hEn : E.length = k := HEL.out.trans HL.out
    obtain ⟨h1, h2⟩ := HFIN.out
    rw [hEn] at h1 h2
    exact ⟨g1, g2, rfl, hne, by rw [← h1]; exact HO1.out, by rw [← h2]; exact HO2.out, HBX.out⟩
end Go.Proofs.YtfclpecbnailgaaGreat.Lv

/-
 Proved here: what level.Explicit returns, as it is read; in a paragraph of no level. It leaves what was in memory.
-/
set_option linter.unusedVariables false
namespace Go.Proofs.YtfclpecbnailgaaGreat.Lv
open Go Go.RowKit Go.Lib Go.Proofs.YtfclpecbnailgaaGreat.Cl
/-- What Explicit returns, as it is read. -/
def ReadPost (xs ys : List Int) (n : Nat) (w : World) (x : Ending) (w' : World) : Prop :=
 ∃ g1 g2 : Nat, x = .returned (.tuple #[.slice (some ⟨g1, 0, none⟩) n n, .slice (some ⟨g2, 0, none⟩) n n]) ∧ g1 ≠ g2 ∧ w.heap.size ≤ g1 ∧ w.heap.size ≤ g2 ∧
  w'.ownsRow w.heap.size 3 1 (.slice (some ⟨g1, 0, none⟩) n n) n (icl xs) ∧ w'.ownsRow w.heap.size 3 1 (.slice (some ⟨g2, 0, none⟩) n n) n (icl ys) ∧ IntsAt w' (some ⟨g1, 0, none⟩) xs ∧ IntsAt w' (some ⟨g2, 0, none⟩) ys ∧ Below w.heap.size w w'
theorem explicit_reads (A : Option Addr) (l : List Int) (b n m : Nat) (w : World) (hb : b ≤ 1) (hl : l.length = n) (hR : IntsAt w A l) (hn : n ≤ 1000000) (hnm : n ≤ m) :
  Calls Tryz.prog 48 #[.slice A n m, .int .i64 b] w fun x w' => ReadPost ((explL l b).map (·.1)) ((explL l b).map (·.2)) n w x w' := by
 refine (explicit_any A l b n m w hb hl hR hn hnm).mono ?_
 rintro x w' ⟨g1, g2, rfl, hne, h1, h2, hbw⟩
 have e1 : ((explL l b).map (·.1)).length = n := by rw [List.length_map, explL_len, hl]
 have e2 : ((explL l b).map (·.2)).length = n := by rw [List.length_map, explL_len, hl]
 obtain ⟨A1, c1, hv1, i1⟩ := intsAt_icl h1 e1
 obtain ⟨A2, c2, hv2, i2⟩ := intsAt_icl h2 e2
 have ha1 : some ⟨g1, 0, none⟩ = A1 := by injection hv1
 have ha2 : some ⟨g2, 0, none⟩ = A2 := by injection hv2
 exact ⟨g1, g2, rfl, hne, (h1.lt g1 rfl).1, (h2.lt g2 rfl).1, h1, h2, ha1 ▸ i1, ha2 ▸ i2, hbw⟩
set_option maxHeartbeats 1000000 in
set_option maxRecDepth 100000 in
theorem explicit_none (A : Option Addr) (x : Int) (n m : Nat) (w : World) (h0 : x ≠ 0) (h1 : x ≠ 1) :
  Calls Tryz.prog 48 #[.slice A n m, .int .i64 x] w fun e w' => e = .returned (.tuple #[.slice none 0 0, .slice none 0 0]) ∧ w = w' := by
 have k0 : (x != 0) = true := by simpa using h0
 have k1 : (x != 1) = true := by simpa using h1
 clear h0 h1
 go_enter Tryz.func48, Tryz.ntmps48
 go_wp2
 go_ret2
 exact ⟨rfl, rfl⟩
end Go.Proofs.YtfclpecbnailgaaGreat.Lv

/-
 Proved here: what seqs' explicit, and the closure that tells where a sequence goes on return. They leave what was in memory.
-/
set_option linter.unusedVariables false
set_option linter.unusedSimpArgs false
namespace Go.Proofs.YtfclpecbnailgaaGreat.Sq
open Go Go.RowKit Go.Lib Go.Proofs.YtfclpecbnailgaaGreat.Cl Go.Proofs.YtfclpecbnailgaaGreat.Ba Go.Proofs.YtfclpecbnailgaaGreat.Lv
theorem threeG {w : World} {g : Nat} {v0 v1 v2 : Value} {t : TypeId} (h : w.heap[g]? = some (.cells #[v0, v1, v2] t (0, 0))) : w.cell? ⟨g, 0, none⟩ = some v0 ∧ w.cell? ⟨g, 1, none⟩ = some v1 ∧ w.cell? ⟨g, 2, none⟩ = some v2 :=
 ⟨cell_of_row w g 0 _ _ _ h, cell_of_row w g 1 _ _ _ h, cell_of_row w g 2 _ _ _ h⟩
theorem ints_set {w : World} {A : Option Addr} {zs : List Int} {g : Nat} (h : IntsAt w A zs) (hA : ∀ b o, A = some ⟨b, o, none⟩ → b ≠ g) (j : Nat) (u : Value) : IntsAt (w.setCell ⟨g, j, none⟩ u) A zs := by
 rcases h with h | ⟨b, off, e, hlt, hc⟩
 ·exact .inl h
 ·refine .inr ⟨b, off, e, by simpa using hlt, fun k z hz => ?_⟩
  exact (World.cell?_of_block (heap_setCell_other w ⟨g, j, none⟩ b u (hA b off e))).trans (hc k z hz)
theorem below_drew {B : Nat} {a w : World} (h : Below B a w) : Below B a w.drew := h.drew
theorem step_belowB {wr V V' : World} (h : Below wr.heap.size wr V) (h' : Below V.heap.size V V') : Below wr.heap.size wr V' := h.trans (h'.mono h.size)
/-- Where a sequence goes on, by what Match answers. -/
def goesB (t M : Nat) (m : Int) : Bool := decide ((t : Int) < m) && decide (m < (M : Int))
theorem goes_match {c : List Int} {t : Nat} (h : t < c.length) {m : Int} (hm : (matchL c)[t]? = some m) : (goesB t c.length m = true ↔ isI (c.getD t 0) = true ∧ endAt c t < c.length) ∧ (goesB t c.length m = true → m = endAt c t) := by
 have hm' : m = mtK c c.length t := by
  rw [List.getElem?_eq_getElem (by rw [matchL_len]; exact h), matchL_at c t h] at hm
  injection hm with hm
  exact hm.symm
 have hg : c.getD t 0 = c[t] := by simp [List.getD, List.getElem?_eq_getElem h]
 rw [hg]
 unfold goesB
 rw [Bool.and_eq_true_iff, decide_eq_true_eq, decide_eq_true_eq]
 cases hi : isI c[t] with
 | true =>
  rw [hm', mt_I h hi]
  have := endAt_gt c t
  refine ⟨⟨fun h2 => ⟨rfl, by omega⟩, fun h2 => ⟨by omega, by omega⟩⟩, fun _ => rfl⟩
 | false =>
  have hle : m < (t : Int) ∨ m = -1 := by
   rw [hm']
   cases hp : isP c[t] with
   | true =>
    rw [mt_P h hp]
    cases hs : stk c t with
    | nil => exact .inr rfl
    | cons u r =>
     have := (stk_at c t (by omega) 0 u (by rw [hs]; rfl)).1
     left
     show (u : Int) < t
     omega
   | false => exact .inr (mt_N h hp hi)
  refine ⟨⟨fun h2 => by omega, fun h2 => by cases h2.1⟩, fun h2 => by omega⟩
set_option maxHeartbeats 2000000 in
set_option maxRecDepth 100000 in
theorem goes_any (a b c : Int) (A A2 : Option Addr) (cp n M c2 B t : Nat) (l : List Nat) (zs : List Int) (m : Int) (w : World) (hl : l.length = n) (hne : l ≠ []) (hR : IntsAt w A (ns l)) (hn : n ≤ 1099511627776) (hz : zs.length = M) (hM : M ≤ 1099511627776) (hR2 : IntsAt w A2 zs) (hc : w.cell? ⟨B, 2, none⟩ = some (.slice A2 M c2)) (ht : lst l = t) (hm : zs[t]? = some m) :
  Calls Tryz.prog 50 #[.agg #[.int .i64 a, .int .i64 b, .int .i64 c, .slice A n cp], .pointer (some ⟨B, 0, none⟩)] w fun e w' => e = .returned (.tuple #[.int .i64 m, .bool (goesB t M m)]) ∧ Below w.heap.size w w' := by
 have hb := (Below.refl w.heap.size w).alloc (Nat.le_refl _) (.cells #[.int .i64 a, .int .i64 b, .int .i64 c, .slice A n cp] 72)
 obtain ⟨W1, hW1⟩ : ∃ W1, w.alloc (.cells #[.int .i64 a, .int .i64 b, .int .i64 c, .slice A n cp] 72) = W1 := ⟨_, rfl⟩
 rw [hW1] at hb
 have hbox : W1.heap[w.heap.size]? = some (.cells #[.int .i64 a, .int .i64 b, .int .i64 c, .slice A n cp] 72 (0, 0)) := by rw [← hW1]; exact heap_alloc_last _ _
 have hblt : w.heap.size < W1.heap.size := (Array.getElem?_eq_some_iff.1 hbox).1
 have hBlt := World.block_lt_of_cell? w _ hc
 have htM : t < M := by rw [← hz]; exact (List.getElem?_eq_some_iff.1 hm).1
 obtain ⟨b2, o2, rfl, hmc⟩ := at_val hR2 hm
 have hb2 := World.block_lt_of_cell? w _ hmc
 have HLAST := Lib.hid (fun V (h : Below W1.heap.size W1 V) => last_any a b c A cp n l V hl hne (hR.below (hb.trans (h.mono hb.size))) hn)
 rw [ht] at HLAST
 have HS := Lib.hid (fun V (h : Below W1.heap.size W1 V) => (show V.cell? ⟨B, 2, none⟩ = some (.slice (some ⟨b2, o2, none⟩) M c2) ∧ V.cell? ⟨b2, o2 + t, none⟩ = some (.int .i64 m) ∧ V.cell? ⟨w.heap.size, 0, none⟩ = some (.int .i64 a) ∧ V.cell? ⟨w.heap.size, 1, none⟩ = some (.int .i64 b) ∧ V.cell? ⟨w.heap.size, 2, none⟩ = some (.int .i64 c) ∧ V.cell? ⟨w.heap.size, 3, none⟩ = some (.slice A n cp) ∧ Below W1.heap.size W1 V from by
  have hwV := hb.trans (h.mono hb.size)
  obtain ⟨⟨e0, e1, e2, e3⟩, -⟩ := four ((h.block _ hblt).trans hbox)
  exact ⟨(hwV.cell (p := ⟨B, 2, none⟩) hBlt).trans hc, (hwV.cell (p := ⟨b2, o2 + t, none⟩) hb2).trans hmc, e0, e1, e2, e3, h⟩))
 obtain ⟨f1, f2, f3, f4, f5, f6, -⟩ := HS.out W1 (Below.refl _ _)
 have hti : (0 : Int) ≤ (t : Int) := by omega
 have hti2 : (t : Int) < (M : Int) := by omega
 have HB := Lib.hid hb
 unfold goesB
 clear hb hbox hblt hBlt hb2 hmc hc hR hR2 hm hz hl hne
 cases hA : decide ((t : Int) < m) with
 | true =>
  rw [Bool.true_and]
  go_enter Tryz.func50, Tryz.ntmps50
  go_wp2_with fail
  go_region_held3 (fun V => V.cell? ⟨B, 2, none⟩ = some (.slice (some ⟨b2, o2, none⟩) M c2) ∧ V.cell? ⟨b2, o2 + t, none⟩ = some (.int .i64 m) ∧ V.cell? ⟨w.heap.size, 0, none⟩ = some (.int .i64 a) ∧ V.cell? ⟨w.heap.size, 1, none⟩ = some (.int .i64 b) ∧ V.cell? ⟨w.heap.size, 2, none⟩ = some (.int .i64 c) ∧ V.cell? ⟨w.heap.size, 3, none⟩ = some (.slice A n cp) ∧ Below W1.heap.size W1 V) (first | exact HS.out _ (below_drew (Below.refl _ _)) | exact HS.out _ (by assumption) | exact HS.out _ (below_drew (by assumption)))
   (first | (go_at_call 51; ((with_reducible refine (HLAST.out _ (by first | assumption | exact below_drew (Below.refl _ _) | exact below_drew (by assumption))).mono ?_); rintro e w7 ⟨rfl, hb7⟩; have hbx := step_belowB (wr := W1) (by first | assumption | exact below_drew (Below.refl _ _) | exact below_drew (by assumption)) hb7; clear hb7)))
  rename_i hh1
  have HV1 := Lib.hid hh1.2.2.2.2.2.2
  have hv1 := hh1.2.2.2.2.2.2
  obtain ⟨g1, g2, g3, g4, g5, g6, -⟩ := hh1
  go_wp2_with fail
  go_region_held3 (fun V => V.cell? ⟨B, 2, none⟩ = some (.slice (some ⟨b2, o2, none⟩) M c2) ∧ V.cell? ⟨b2, o2 + t, none⟩ = some (.int .i64 m) ∧ V.cell? ⟨w.heap.size, 0, none⟩ = some (.int .i64 a) ∧ V.cell? ⟨w.heap.size, 1, none⟩ = some (.int .i64 b) ∧ V.cell? ⟨w.heap.size, 2, none⟩ = some (.int .i64 c) ∧ V.cell? ⟨w.heap.size, 3, none⟩ = some (.slice A n cp) ∧ Below W1.heap.size W1 V) (first | exact HS.out _ (below_drew (Below.refl _ _)) | exact HS.out _ (by assumption) | exact HS.out _ (below_drew (by assumption)))
   (first | (go_at_call 51; ((with_reducible refine (HLAST.out _ (by first | assumption | exact below_drew (Below.refl _ _) | exact below_drew (by assumption))).mono ?_); rintro e w7 ⟨rfl, hb7⟩; have hbx := step_belowB (wr := W1) (by first | assumption | exact below_drew (Below.refl _ _) | exact below_drew (by assumption)) hb7; clear hb7)))
  rename_i hh2
  have HV2 := Lib.hid hh2.2.2.2.2.2.2
  clear hh2
  go_wp2_with fail
  go_ret2
  exact ⟨rfl, HB.out.trans (HV2.out.mono HB.out.size)⟩
 | false =>
  rw [Bool.false_and]
  go_enter Tryz.func50, Tryz.ntmps50
  go_wp2_with fail
  go_region_held3 (fun V => V.cell? ⟨B, 2, none⟩ = some (.slice (some ⟨b2, o2, none⟩) M c2) ∧ V.cell? ⟨b2, o2 + t, none⟩ = some (.int .i64 m) ∧ V.cell? ⟨w.heap.size, 0, none⟩ = some (.int .i64 a) ∧ V.cell? ⟨w.heap.size, 1, none⟩ = some (.int .i64 b) ∧ V.cell? ⟨w.heap.size, 2, none⟩ = some (.int .i64 c) ∧ V.cell? ⟨w.heap.size, 3, none⟩ = some (.slice A n cp) ∧ Below W1.heap.size W1 V) (first | exact HS.out _ (below_drew (Below.refl _ _)) | exact HS.out _ (by assumption) | exact HS.out _ (below_drew (by assumption)))
   (first | (go_at_call 51; ((with_reducible refine (HLAST.out _ (by first | assumption | exact below_drew (Below.refl _ _) | exact below_drew (by assumption))).mono ?_); rintro e w7 ⟨rfl, hb7⟩; have hbx := step_belowB (wr := W1) (by first | assumption | exact below_drew (Below.refl _ _) | exact below_drew (by assumption)) hb7; clear hb7)))
  rename_i hh1
  have HV1 := Lib.hid hh1.2.2.2.2.2.2
  have hv1 := hh1.2.2.2.2.2.2
  obtain ⟨g1, g2, g3, g4, g5, g6, -⟩ := hh1
  go_wp2_with fail
  refine wp_region_held_drew (S := (fun V => V.cell? ⟨B, 2, none⟩ = some (.slice (some ⟨b2, o2, none⟩) M c2) ∧ V.cell? ⟨b2, o2 + t, none⟩ = some (.int .i64 m) ∧ V.cell? ⟨w.heap.size, 0, none⟩ = some (.int .i64 a) ∧ V.cell? ⟨w.heap.size, 1, none⟩ = some (.int .i64 b) ∧ V.cell? ⟨w.heap.size, 2, none⟩ = some (.int .i64 c) ∧ V.cell? ⟨w.heap.size, 3, none⟩ = some (.slice A n cp) ∧ Below W1.heap.size W1 V)) (by kernel_rfl) (HS.out _ (below_drew hv1)) (fun hHeld => ?_)
  change wpAnyH _ _ _ _ _ 14 #[false, false, false, false, false, false, false, false, false, false, false, false, false, false] _ _
  refine wpAnyH_take (i := 0) (v := ?_) rfl (by kernel_rfl) (by kernel_rfl) (by kernel_rfl) (fun _ _ _ h => h) (Or.inl ⟨by rfl, ?_⟩) (by assumption) ?_
  rotate_left
  ·intro w hSw
   try dsimp only at hSw
   first | (go_simp; done) | (go_simp; with_reducible rfl)
  simp only [List.getElem_toArray, List.getElem_cons_zero, List.getElem_cons_succ, Act.put, List.setIfInBounds_toArray, List.set_cons_zero, List.set_cons_succ]
  refine wpAnyH_take (i := 1) (v := ?_) rfl (by kernel_rfl) (by kernel_rfl) (by kernel_rfl) (fun _ _ _ h => h) (Or.inl ⟨by rfl, ?_⟩) (by assumption) ?_
  rotate_left
  ·intro w hSw
   try dsimp only at hSw
   first | (go_simp; done) | (go_simp; with_reducible rfl)
  simp only [List.getElem_toArray, List.getElem_cons_zero, List.getElem_cons_succ, Act.put, List.setIfInBounds_toArray, List.set_cons_zero, List.set_cons_succ]
  refine wpAnyH_take (i := 2) (v := ?_) rfl (by kernel_rfl) (by kernel_rfl) (by kernel_rfl) (fun _ _ _ h => h) (Or.inl ⟨by rfl, ?_⟩) (by assumption) ?_
  rotate_left
  ·intro w hSw
   try dsimp only at hSw
   first | (go_simp; done) | (go_simp; with_reducible rfl)
  simp only [List.getElem_toArray, List.getElem_cons_zero, List.getElem_cons_succ, Act.put, List.setIfInBounds_toArray, List.set_cons_zero, List.set_cons_succ]
  refine wpAnyH_ready (rs := [3]) (by kernel_rfl) (by simp) ?_
  refine AllReadyH.cons rfl (fun K hK => ?_) AllReadyH.nil
  go_simp
  go_at_call 51
  refine (HLAST.out _ (below_drew hv1)).mono ?_
  rintro e w7 ⟨rfl, hb7⟩
  have hb8 := step_belowB (wr := W1) (below_drew hv1) hb7
  refine hK.out _ _ (HS.out _ hb8) (fun hHeld => ?_)
  simp only [List.getElem_toArray, List.getElem_cons_zero, List.getElem_cons_succ, Act.put, List.setIfInBounds_toArray, List.set_cons_zero, List.set_cons_succ]
  refine wpAnyH_take (i := 4) (v := ?_) rfl (by kernel_rfl) (by kernel_rfl) (by kernel_rfl) (fun _ _ _ h => h) (Or.inl ⟨by rfl, ?_⟩) (by assumption) ?_
  rotate_left
  ·intro w hSw
   try dsimp only at hSw
   first | (go_simp; done) | (go_simp; with_reducible rfl)
  simp only [List.getElem_toArray, List.getElem_cons_zero, List.getElem_cons_succ, Act.put, List.setIfInBounds_toArray, List.set_cons_zero, List.set_cons_succ]
  refine wpAnyH_take (i := 5) (v := ?_) rfl (by kernel_rfl) (by kernel_rfl) (by kernel_rfl) (fun _ _ _ h => h) (Or.inl ⟨by rfl, ?_⟩) (by assumption) ?_
  rotate_left
  ·intro w hSw
   try dsimp only at hSw
   first | (go_simp; done) | (go_simp; with_reducible rfl)
  simp only [List.getElem_toArray, List.getElem_cons_zero, List.getElem_cons_succ, Act.put, List.setIfInBounds_toArray, List.set_cons_zero, List.set_cons_succ]
  refine wpAnyH_take (i := 6) (v := undef) rfl (by kernel_rfl) (by kernel_rfl) (by kernel_rfl) (fun _ _ _ h => h) (Or.inr ⟨by rfl, rfl⟩) (by assumption) ?_
  simp only [List.getElem_toArray, List.getElem_cons_zero, List.getElem_cons_succ, Act.put, List.setIfInBounds_toArray, List.set_cons_zero, List.set_cons_succ]
  refine wpAnyH_take (i := 7) (v := undef) rfl (by kernel_rfl) (by kernel_rfl) (by kernel_rfl) (fun _ _ _ h => h) (Or.inr ⟨by rfl, rfl⟩) (by assumption) ?_
  simp only [List.getElem_toArray, List.getElem_cons_zero, List.getElem_cons_succ, Act.put, List.setIfInBounds_toArray, List.set_cons_zero, List.set_cons_succ]
  refine wpAnyH_take (i := 8) (v := undef) rfl (by kernel_rfl) (by kernel_rfl) (by kernel_rfl) (fun _ _ _ h => h) (Or.inr ⟨by rfl, rfl⟩) (by assumption) ?_
  simp only [List.getElem_toArray, List.getElem_cons_zero, List.getElem_cons_succ, Act.put, List.setIfInBounds_toArray, List.set_cons_zero, List.set_cons_succ]
  refine wpAnyH_take (i := 9) (v := undef) rfl (by kernel_rfl) (by kernel_rfl) (by kernel_rfl) (fun _ _ _ h => h) (Or.inr ⟨by rfl, rfl⟩) (by assumption) ?_
  simp only [List.getElem_toArray, List.getElem_cons_zero, List.getElem_cons_succ, Act.put, List.setIfInBounds_toArray, List.set_cons_zero, List.set_cons_succ]
  refine wpAnyH_take (i := 10) (v := undef) rfl (by kernel_rfl) (by kernel_rfl) (by kernel_rfl) (fun _ _ _ h => h) (Or.inr ⟨by rfl, rfl⟩) (by assumption) ?_
  simp only [List.getElem_toArray, List.getElem_cons_zero, List.getElem_cons_succ, Act.put, List.setIfInBounds_toArray, List.set_cons_zero, List.set_cons_succ]
  refine wpAnyH_take (i := 11) (v := ?_) rfl (by kernel_rfl) (by kernel_rfl) (by kernel_rfl) (fun _ _ _ h => h) (Or.inl ⟨by rfl, ?_⟩) (by assumption) ?_
  rotate_left
  ·intro w hSw
   try dsimp only at hSw
   first | (go_simp; done) | (go_simp; with_reducible rfl)
  simp only [List.getElem_toArray, List.getElem_cons_zero, List.getElem_cons_succ, Act.put, List.setIfInBounds_toArray, List.set_cons_zero, List.set_cons_succ]
  refine wpAnyH_take (i := 12) (v := ?_) rfl (by kernel_rfl) (by kernel_rfl) (by kernel_rfl) (fun _ _ _ h => h) (Or.inl ⟨by rfl, ?_⟩) (by assumption) ?_
  rotate_left
  ·intro w hSw
   try dsimp only at hSw
   first | (go_simp; done) | (go_simp; with_reducible rfl)
  simp only [List.getElem_toArray, List.getElem_cons_zero, List.getElem_cons_succ, Act.put, List.setIfInBounds_toArray, List.set_cons_zero, List.set_cons_succ]
  refine wpAnyH_take (i := 13) (v := ?_) rfl (by kernel_rfl) (by kernel_rfl) (by kernel_rfl) (fun _ _ _ h => h) (Or.inl ⟨by rfl, ?_⟩) (by assumption) ?_
  rotate_left
  ·intro w hSw
   try dsimp only at hSw
   first | (go_simp; done) | (go_simp; with_reducible rfl)
  simp only [List.getElem_toArray, List.getElem_cons_zero, List.getElem_cons_succ, Act.put, List.setIfInBounds_toArray, List.set_cons_zero, List.set_cons_succ]
  refine wpAnyH_done (by kernel_rfl) ?_ _
  go_wp2_with fail
  go_ret2
  exact ⟨rfl, HB.out.trans (hb8.mono HB.out.size)⟩
/-- The levels of a paragraph; none, if its level is neither 0 nor 1. -/
def zOf (c : List Int) (x : Int) : List Int := if x = 0 then (explL c 0).map (·.1) else if x = 1 then (explL c 1).map (·.1) else []
theorem zOf_le (c : List Int) (x : Int) : (zOf c x).length ≤ c.length := by
 unfold zOf
 split
 ·simp [explL_len]
 ·split
  ·simp [explL_len]
  ·simp
theorem explicit_as (A : Option Addr) (c : List Int) (x : Int) (n m : Nat) (w : World) (hl : c.length = n) (hR : IntsAt w A c) (hn : n ≤ 1000000) (hnm : n ≤ m) :
  Calls Tryz.prog 48 #[.slice A n m, .int .i64 x] w fun e w' => ∃ A1 c1 A2 n2 c2, e = .returned (.tuple #[.slice A1 (zOf c x).length c1, .slice A2 n2 c2]) ∧ IntsAt w' A1 (zOf c x) ∧ Below w.heap.size w w' ∧ (∀ b o, A1 = some ⟨b, o, none⟩ → w.heap.size ≤ b) := by
 by_cases h0 : x = 0
 ·subst h0
  refine (explicit_reads A c 0 n m w (by omega) hl hR hn hnm).mono ?_
  rintro e w' ⟨g1, g2, rfl, -, hg1, -, -, -, i1, -, hb⟩
  have e1 : (zOf c 0) = (explL c 0).map (·.1) := by unfold zOf; rw [if_pos rfl]
  rw [e1, show ((explL c 0).map (·.1)).length = n from by rw [List.length_map, explL_len, hl]]
  exact ⟨_, _, _, _, _, rfl, i1, hb, fun b o e => by injection e with e; injection e with e; omega⟩
 ·by_cases h1 : x = 1
  ·subst h1
   refine (explicit_reads A c 1 n m w (by omega) hl hR hn hnm).mono ?_
   rintro e w' ⟨g1, g2, rfl, -, hg1, -, -, -, i1, -, hb⟩
   have e1 : (zOf c 1) = (explL c 1).map (·.1) := by unfold zOf; rw [if_neg (by omega), if_pos rfl]
   rw [e1, show ((explL c 1).map (·.1)).length = n from by rw [List.length_map, explL_len, hl]]
   exact ⟨_, _, _, _, _, rfl, i1, hb, fun b o e => by injection e with e; injection e with e; omega⟩
  ·refine (explicit_none A x n m w h0 h1).mono ?_
   rintro e w' ⟨rfl, rfl⟩
   have e1 : zOf c x = [] := by unfold zOf; rw [if_neg h0, if_neg h1]
   rw [e1]
   exact ⟨none, 0, none, 0, 0, rfl, .inl rfl, Below.refl _ _, fun b o e => by cases e⟩
set_option maxHeartbeats 2000000 in
set_option maxRecDepth 100000 in
theorem parag_any (A : Option Addr) (c : List Int) (x : Int) (n m : Nat) (w : World) (hl : c.length = n) (hR : IntsAt w A c) (hn : n ≤ 1000000) (hnm : n ≤ m) :
  Calls Tryz.prog 49 #[.slice A n m, .int .i64 x] w fun e w' => ∃ A1 c1 A2 c2, e = .returned (.agg #[.int .i64 x, .slice A1 (zOf c x).length c1, .slice A2 n c2]) ∧ IntsAt w' A1 (zOf c x) ∧ IntsAt w' A2 (matchL c) ∧ Below w.heap.size w w' := by
 obtain ⟨W1, hW1⟩ : ∃ W1, w.alloc (.cells #[.int .i64 0, .slice none 0 0, .slice none 0 0] 69) = W1 := ⟨_, rfl⟩
 have hb : Below w.heap.size w W1 := by rw [← hW1]; exact (Below.refl _ _).alloc (Nat.le_refl _) _
 have hbox : W1.heap[w.heap.size]? = some (.cells #[.int .i64 0, .slice none 0 0, .slice none 0 0] 69 (0, 0)) := by rw [← hW1]; exact heap_alloc_last _ _
 have hblt : w.heap.size < W1.heap.size := (Array.getElem?_eq_some_iff.1 hbox).1
 have HE := Lib.hid (explicit_as A c x n m W1 hl (hR.below hb) hn hnm)
 have HMT := Lib.hid (fun V (h : Below W1.heap.size W1 V) => match_any A c n m V hl (hR.below (hb.trans (h.mono hb.size))) (by omega))
 have HI := Lib.hid (show (Tryz.prog.info? 69).map (·.size) = some 3 from by kernel_rfl)
 have HB := Lib.hid hb
 have HX := Lib.hid hbox
 have hml : (matchL c).length = n := by rw [matchL_len, hl]
 have HML := Lib.hid hml
 clear hb hbox hR hml
 generalize hz : zOf c x = z at *
 generalize hmm : matchL c = mt at *
 clear hz hmm hl
 go_enter Tryz.func49, Tryz.ntmps49
 go_wp2_with fail
 refine HE.out.mono ?_
 rintro e w2 ⟨A1, c1, A2, n2, c2, rfl, hz, hb2, hA1⟩
 have HB2 := Lib.hid hb2
 have HZ := Lib.hid hz
 clear hb2 hz
 go_wp2_with fail
 refine (HMT.out _ HB2.out).mono ?_
 rintro e w3 ⟨g3, rfl, hown, hb3⟩
 obtain ⟨A3, c3, hv, hm3⟩ := intsAt_icl hown HML.out
 obtain ⟨rfl, rfl⟩ : some ⟨g3, 0, none⟩ = A3 ∧ n = c3 := by injection hv with e1 e2 e3; exact ⟨e1, e3⟩
 have hs2 := HB2.out.size
 have hx3 : w3.heap[w.heap.size]? = some (.cells #[.int .i64 0, .slice none 0 0, .slice none 0 0] 69 (0, 0)) := (hb3.block _ (by omega)).trans ((HB2.out.block _ hblt).trans HX.out)
 obtain ⟨q0, q1, q2⟩ := threeG hx3
 have f0 := frozen_of_row w3 w.heap.size 0 _ _ hx3
 have f1 := frozen_of_row w3 w.heap.size 1 _ _ hx3
 have f2 := frozen_of_row w3 w.heap.size 2 _ _ hx3
 have HX3 := Lib.hid hx3
 have HZ3 := Lib.hid (HZ.out.below hb3)
 have HM3 := Lib.hid hm3
 have HB3 := Lib.hid (HB.out.trans ((HB2.out.trans (hb3.mono hs2)).mono HB.out.size))
 have hgB : w.heap.size < g3 := by have := (hown.lt g3 rfl).1; omega
 have HZb := Lib.hid (show ∀ b2 o2, A1 = some ⟨b2, o2, none⟩ → b2 ≠ w.heap.size from fun b o e => by have := hA1 b o e; omega)
 clear hA1
 clear hx3 hm3 hown hb3 HB HX HE HMT HB2 HZ
 go_wp2_with fail
 refine bodyPost_ret (results_cell_row Tryz.results49 _ _ w.heap.size 69 _ (0, 0) _ rfl (heap_setCell_same _ w.heap.size 2 _ _ _ (heap_setCell_same _ w.heap.size 1 _ _ _ (heap_setCell_same w3 w.heap.size 0 _ _ _ HX3.out))) Tryz.underlying69 rfl HI.out) rfl ?_
 have hn3 : ∀ b2 o2, some (⟨g3, 0, none⟩ : Addr) = some ⟨b2, o2, none⟩ → b2 ≠ w.heap.size := fun b2 o2 e => by injection e with e; injection e with e; omega
 exact ⟨A1, c1, _, n, rfl, ints_set (ints_set (ints_set HZ3.out HZb.out _ _) HZb.out _ _) HZb.out _ _, ints_set (ints_set (ints_set HM3.out hn3 _ _) hn3 _ _) hn3 _ _, ((HB3.out.setCell (p := ⟨w.heap.size, 0, none⟩) (Nat.le_refl _) _).setCell (p := ⟨w.heap.size, 1, none⟩) (Nat.le_refl _) _).setCell (p := ⟨w.heap.size, 2, none⟩) (Nat.le_refl _) _⟩
end Go.Proofs.YtfclpecbnailgaaGreat.Sq

/-
 A rune as three numbers. No program in it.
-/
set_option linter.unusedVariables false
namespace Go.Proofs.YtfclpecbnailgaaGreat.Ku
/-- A rune: where it begins, its size, its number. -/
abbrev R3 := Int × Int × Int
/-- A number that an int holds. -/
def okN (n : Int) : Prop := -9223372036854775808 ≤ n ∧ n ≤ 9223372036854775807
end Go.Proofs.YtfclpecbnailgaaGreat.Ku

/-
 Rows of runes in memory, of the call's own or of what came in: small facts.
-/
set_option linter.unusedVariables false
namespace Go.Proofs.YtfclpecbnailgaaGreat.Ku
open Go.RowKit Go.Lib
def cellsR (l : List R3) : List Value := l.flatMap fun r => [.int .i64 r.1, .int .i64 r.2.1, .int .i64 r.2.2]
theorem cellsR_len (l : List R3) : (cellsR l).length = l.length * 3 := by
 induction l with
 | nil => rfl
 | cons r l ih => simp [cellsR] at ih ⊢; omega
theorem cellsR_at : ∀ (l : List R3) (k : Nat) (hk : k < l.length), (cellsR l)[k * 3]? = some (.int .i64 l[k].1) ∧ (cellsR l)[k * 3 + 1]? = some (.int .i64 l[k].2.1) ∧ (cellsR l)[k * 3 + 2]? = some (.int .i64 l[k].2.2)
 | r :: l, 0, _ => ⟨rfl, rfl, rfl⟩
 | r :: l, k + 1, hk => by
  have := cellsR_at l k (by simpa using hk)
  rw [show (k + 1) * 3 = k * 3 + 3 from by omega]
  exact this
theorem cellsR_one (l : List R3) : ∀ u ∈ cellsR l, u.oneCell' = true := by
 intro u hu
 simp only [cellsR, List.mem_flatMap] at hu
 obtain ⟨x, _, hu⟩ := hu
 simp at hu
 rcases hu with rfl | rfl | rfl <;> rfl
/-- A row of runes: nothing, or cells below the heap's end. -/
def RuAt (w : World) (A : Option Addr) (l : List R3) : Prop :=
 l = [] ∨ ∃ b off, A = some ⟨b, off, none⟩ ∧ b < w.heap.size ∧ ∀ k (hk : k < l.length), w.cell? ⟨b, off + k * 3, none⟩ = some (.int .i64 l[k].1) ∧ w.cell? ⟨b, off + k * 3 + 1, none⟩ = some (.int .i64 l[k].2.1) ∧ w.cell? ⟨b, off + k * 3 + 2, none⟩ = some (.int .i64 l[k].2.2)
theorem RuAt.below {w w' : World} {A : Option Addr} {l : List R3} (h : RuAt w A l) (hb : Below w.heap.size w w') : RuAt w' A l := by
 rcases h with h | ⟨b, off, hA, hlt, hc⟩
 ·exact .inl h
 ·refine .inr ⟨b, off, hA, Nat.lt_of_lt_of_le hlt hb.size, fun k hk => ?_⟩
  obtain ⟨h0, h1, h2⟩ := hc k hk
  exact ⟨(hb.cell (p := ⟨b, off + k * 3, none⟩) hlt).trans h0, (hb.cell (p := ⟨b, off + k * 3 + 1, none⟩) hlt).trans h1, (hb.cell (p := ⟨b, off + k * 3 + 2, none⟩) hlt).trans h2⟩
theorem RuAt.at_ {w : World} {A : Option Addr} {l : List R3} (h : RuAt w A l) {k : Nat} (hk : k < l.length) : ∃ b off, A = some ⟨b, off, none⟩ ∧ b < w.heap.size ∧ w.cell? ⟨b, off + k * 3, none⟩ = some (.int .i64 l[k].1) ∧ w.cell? ⟨b, off + k * 3 + 1, none⟩ = some (.int .i64 l[k].2.1) ∧ w.cell? ⟨b, off + k * 3 + 2, none⟩ = some (.int .i64 l[k].2.2) := by
 rcases h with rfl | ⟨b, off, hA, hlt, hc⟩
 ·simp at hk
 ·obtain ⟨h0, h1, h2⟩ := hc k hk
  exact ⟨b, off, hA, hlt, h0, h1, h2⟩
theorem RuAt.heap {w w' : World} {A : Option Addr} {l : List R3} (h : RuAt w A l) (e : w'.heap = w.heap) : RuAt w' A l := by
 unfold RuAt World.cell? at h ⊢
 rw [e]
 exact h
theorem add_off (b off k : Nat) : (⟨b, off, none⟩ : Addr).add k = ⟨b, off + k, none⟩ := by unfold Addr.add; split <;> simp_all
theorem ruAt_own {w : World} {B : Nat} {t : TypeId} {v : Value} {l : List R3} (h : w.ownsRow B t 3 v l.length (cellsR l)) : ∃ A c, v = .slice A l.length c ∧ RuAt w A l := by
 have hc := @World.ownsRow.cells _ _ _ _ _ _ _ h
 rcases h.2 with ⟨rfl, hn⟩ | ⟨g, cap, cur, rfl, _, hg, _⟩
 ·exact ⟨none, 0, by rw [hn], .inl (List.eq_nil_of_length_eq_zero hn)⟩
 ·refine ⟨_, cap, rfl, .inr ⟨g, 0, rfl, (Array.getElem?_eq_some_iff.1 hg).1, fun k hk => ?_⟩⟩
  obtain ⟨h0, h1, h2⟩ := cellsR_at l k hk
  refine ⟨?_, ?_, ?_⟩
  ·have := hc (g := g) rfl _ _ h0; rw [add_off] at this; exact this
  ·have := hc (g := g) rfl _ _ h1; rw [add_off] at this; exact this
  ·have := hc (g := g) rfl _ _ h2; rw [add_off] at this; exact this
theorem RuAt.news {w : World} {ad : Addr} {l : List R3} (h : RuAt w (some ad) l) : ∀ j u, (cellsR l)[j]? = some u → w.cell? (ad.add j) = some u := by
 intro j u hu
 rcases h with rfl | ⟨b, off, hA, hlt, hc⟩
 ·simp [cellsR] at hu
 ·injection hA with hA
  subst hA
  have hlen := cellsR_len l
  have hj : j < l.length * 3 := by
   have := (List.getElem?_eq_some_iff.1 hu).1
   omega
  have hk : j / 3 < l.length := by omega
  obtain ⟨h0, h1, h2⟩ := hc (j / 3) hk
  obtain ⟨g0, g1, g2⟩ := cellsR_at l (j / 3) hk
  rw [add_off]
  have : j = j / 3 * 3 ∨ j = j / 3 * 3 + 1 ∨ j = j / 3 * 3 + 2 := by omega
  rcases this with e | e | e
  ·rw [e, g0] at hu; rw [e]; rw [← hu]; exact h0
  ·rw [e, g1] at hu; rw [e]; rw [← hu]; exact h1
  ·rw [e, g2] at hu; rw [e]; rw [← hu]; exact h2
theorem infoR : (Tryz.prog.info? 38).map (fun i => (i.zero, i.size, i.bytes)) = some (some (.agg #[.int .i64 0, .int .i64 0, .int .i64 0]), 3, 24) := by kernel_rfl
end Go.Proofs.YtfclpecbnailgaaGreat.Ku

/-
 What is told of a paragraph, for any number as its level; what a sequence's levels are put into; facts that the code's way and the document's share. No program in it but its types.
-/
set_option linter.unusedVariables false
namespace Go.Proofs.YtfclpecbnailgaaGreat.Bi
open Go Go.RowKit Go.Lib Go.Proofs.YtfclpecbnailgaaGreat.Cl Go.Proofs.YtfclpecbnailgaaGreat.Ba Go.Proofs.YtfclpecbnailgaaGreat.Lv Go.Proofs.YtfclpecbnailgaaGreat.Sq Go.Proofs.YtfclpecbnailgaaGreat.Wk Go.Proofs.YtfclpecbnailgaaGreat.Pr Go.Proofs.YtfclpecbnailgaaGreat.Ne
/-- The classes told, for any number as the paragraph's level. -/
def tOf (c : List Int) (x : Int) : List Int := if x = 0 then toldB c 0 else if x = 1 then toldB c 1 else []
theorem zOf_01 (c : List Int) (x : Int) : (∃ b : Nat, b ≤ 1 ∧ x = (b : Int) ∧ zOf c x = zB c b ∧ tOf c x = toldB c b) ∨ (x ≠ 0 ∧ x ≠ 1 ∧ zOf c x = [] ∧ tOf c x = []) := by
 by_cases h0 : x = 0
 ·subst h0; exact .inl ⟨0, by omega, rfl, rfl, rfl⟩
 ·by_cases h1 : x = 1
  ·subst h1; exact .inl ⟨1, by omega, rfl, rfl, rfl⟩
  ·exact .inr ⟨h0, h1, by unfold zOf; rw [if_neg h0, if_neg h1], by unfold tOf; rw [if_neg h0, if_neg h1]⟩
/-- A slice of these numbers. -/
def OkI (zs : List Int) (m : Nat) (v : Value) (w : World) : Prop := ∃ A c, v = .slice A m c ∧ IntsAt w A zs
theorem OkI.later {zs : List Int} {m : Nat} {v : Value} {w w' : World} (h : OkI zs m v w) (hb : Below w.heap.size w w') : OkI zs m v w' := by
 obtain ⟨A, c, e, h1⟩ := h
 exact ⟨A, c, e, h1.below hb⟩
theorem OkI.of {zs : List Int} {m B : Nat} {A : Option Addr} {c : Nat} {w : World} (h : w.ownsRow B 3 1 (.slice A m c) m (icl zs)) (hl : zs.length = m) : OkI zs m (.slice A m c) w := by
 obtain ⟨A', c', e, h1⟩ := intsAt_icl h hl
 injection e with e1 _ _
 subst e1
 exact ⟨_, c, rfl, h1⟩
theorem putR_snoc : ∀ (p : List Nat) (d o : List Int) {k : Nat} (hk : k < p.length) (hd : d.length = p.length), putR o (p.take (k + 1)) (d.take (k + 1)) = (putR o (p.take k) (d.take k)).set p[k] (d[k]'(by omega))
 | [], _, _, _, hk, _ => by simp at hk
 | _ :: _, [], _, _, _, hd => by simp at hd
 | i :: p, x :: d, o, 0, _, _ => by simp [putR]
 | i :: p, x :: d, o, k + 1, hk, hd => by
  have ih := putR_snoc p d (o.set i x) (k := k) (by simpa using hk) (by simpa using hd)
  simpa [putR] using ih
theorem outP_snoc (F : Rule) (told codes own z : List Int) {T : List S4} {i : Nat} (h : i < T.length) : outP F told codes own z (T.take (i + 1)) = putR (outP F told codes own z (T.take i)) T[i].p (rowP F told codes own T[i]) := by
 unfold outP
 rw [List.take_succ_eq_append_getElem h, List.foldl_append]
 rfl
theorem own_int {V : World} {base g n c : Nat} {O : List Int} (h : V.ownsRow base 3 1 (.slice (some ⟨g, 0, none⟩) n c) n (icl O)) {i : Nat} {x : Int} (hx : O[i]? = some x) : V.cell? ⟨g, i, none⟩ = some (.int .i64 x) ∧ V.frozen? ⟨g, i, none⟩ = false := by
 have hi := (List.getElem?_eq_some_iff.1 hx).1
 have hl : (icl O).length = n * 1 := h.1
 rw [icl_len] at hl
 refine ⟨?_, h.frozenAt _⟩
 rw [h.cellAt _ (by omega)]
 simp [icl, hx]
theorem row_set {B g n c : Nat} {w wx : World} {O : List Int} (h : Row B (some ⟨g, 0, none⟩) n c w O wx) (i : Nat) (x : Int) : Row B (some ⟨g, 0, none⟩) n c w (O.set i x) (wx.setCell ⟨g, i, none⟩ (.int .i64 x)) := by
 obtain ⟨h1, h2⟩ := h.own.stored i (.int .i64 x)
 refine ⟨?_, grown_trans h.gr h2⟩
 rw [show (icl O).set i (.int .i64 x) = icl (O.set i x) from by simp [icl]] at h1
 exact h1
theorem own_head {V : World} {B n c : Nat} {A : Option Addr} {xs : List Value} (h : V.ownsRow B 3 1 (.slice A n c) n xs) (hn : 0 < n) : ∃ g, A = some ⟨g, 0, none⟩ := by
 rcases h.2 with ⟨e, h0⟩ | ⟨g, cap, cur, e, _⟩
 ·omega
 ·injection e with e1 _ _
  exact ⟨g, e1⟩
theorem fill_at (a : Int) : ∀ (l : List Int) {k : Nat} (hk : k < l.length), (fillP a l)[k]? = some (if l[k] < 0 then (if k = 0 then a else (fillP a l).getD (k - 1) 0) else l[k])
 | [], _, hk => by simp at hk
 | x :: r, 0, _ => by simp [fillP]
 | x :: r, k + 1, hk => by
  have hkr : k < r.length := by simpa using hk
  simp only [fillP, List.getElem?_cons_succ, List.getElem_cons_succ]
  rw [fill_at _ r hkr]
  cases k with
  | zero => simp
  | succ k => simp
theorem ints_kept2 {w w' : World} {A : Option Addr} {zs : List Int} {row : Option Nat} (h : IntsAt w A zs) (hg : w.grownBy w' row) (hne : ∀ a, A = some a → some a.block ≠ row) : IntsAt w' A zs := by
 rcases h with rfl | ⟨b, off, e, hb, hz⟩
 ·exact .inl rfl
 ·exact .inr ⟨b, off, e, Nat.lt_of_lt_of_le hb hg.size, fun j z hj => hg.cell (hz j z hj) (show some b ≠ row from hne ⟨b, off, none⟩ e)⟩
theorem own_cap {V : World} {B n c : Nat} {A : Option Addr} {xs : List Value} (h : V.ownsRow B 3 1 (.slice A n c) n xs) : n ≤ c := by
 rcases h.2 with ⟨e, h0⟩ | ⟨g, cap, cur, e, hB, hg, hle, -⟩
 ·omega
 ·injection e with _ _ e3
  rw [e3]
  exact hle
theorem up_len : ∀ (l : List Nat) (lo n : Nat), l.Pairwise (· < ·) → (∀ p ∈ l, lo ≤ p ∧ p < n) → lo ≤ n → l.length + lo ≤ n
 | [], lo, n, _, _, h => by simpa using h
 | x :: r, lo, n, hp, h, _ => by
  have hx := h x (by simp)
  have ih := up_len r (x + 1) n (List.pairwise_cons.1 hp).2 (fun p hpm => ⟨(List.pairwise_cons.1 hp).1 p hpm, (h p (by simp [hpm])).2⟩) (by omega)
  simp only [List.length_cons]
  omega
theorem zB_most {c : List Int} {b : Nat} (hb : b ≤ 1) (i : Nat) : L (zB c b) i ≤ 125 := by
 rcases Nat.lt_or_ge i c.length with h | h
 ·obtain ⟨P, s', p1, p2, p3⟩ := walk_split b (c.drop i) (c.take i) (startS b) (Ok.start b)
  have hPl : P.length = i := by rw [p1, List.length_take]; omega
  rw [List.take_append_drop] at p2
  have hy : (explL c b)[i]? = some (outS b (closeS c[i] s') c[i]) := by
   unfold explL
   rw [p2, List.getElem?_append_right (by omega), hPl, Nat.sub_self, List.drop_eq_getElem_cons h]
   rfl
  rw [L_zB hy]
  generalize ho : outS b (closeS c[i] s') c[i] = y
  obtain ⟨z1, z2⟩ := y
  show z1 ≤ 125
  rcases deep_cases hb (p3.close c[i]) ho with ⟨_, _, e, _⟩ | ⟨_, _, e, _⟩ | ⟨_, _, _, e, _⟩ | ⟨_, _, _, e, _⟩ <;> omega
 ·have : L (zB c b) i = -1 := Classical.byContradiction fun hn => by have := L_lt hn; rw [zB_len] at this; omega
  omega
theorem seq_facts {C : List Int} {x : Int} {T : List S4} (h : SeqsOk C (zOf C x) x T) : ∀ s ∈ T, (∀ p ∈ s.p, p < (zOf C x).length) ∧ (∀ p ∈ s.p, p < C.length) ∧ s.p.length ≤ C.length ∧ 0 ≤ s.a ∧ s.a ≤ 125 := by
 rcases zOf_01 C x with ⟨b, hb, rfl, e1, _⟩ | ⟨_, _, e1, _⟩
 ·rw [e1] at h ⊢
  have ha := ok_all (iso_zB C b) h
  intro s hs
  have hp : ∀ p ∈ s.p, p < (zB C b).length := fun p hp => L_lt (ha.lev s hs p hp).1
  have hp2 : ∀ p ∈ s.p, p < C.length := fun p hpm => by have := hp p hpm; rwa [zB_len] at this
  obtain ⟨q, hq⟩ := List.exists_mem_of_ne_nil _ (h.each s hs).ne
  have hq2 := ha.lev s hs q hq
  refine ⟨hp, hp2, up_len s.p 0 C.length (ha.up s hs) (fun p hpm => ⟨Nat.zero_le _, hp2 p hpm⟩) (Nat.zero_le _), ?_, ?_⟩
  ·rcases zB_ok C b q with e | e
   ·exact absurd e hq2.1
   ·rw [hq2.2] at e; exact e
  ·rw [← hq2.2]; exact zB_most hb q
 ·rw [e1] at h
  have hT : T = [] := by
   have := h.heads
   simpa [headsTo] using this
  subst hT
  intro s hs
  cases hs
theorem res_gen {C K : List Int} {x : Int} {T : List S4} (h : SeqsOk C (zOf C x) x T) : fillP x (outP rule (tOf C x) K C (zOf C x) T) = resZ C K x := by
 rcases zOf_01 C x with ⟨b, hb, rfl, e1, e2⟩ | ⟨h0, h1, e1, e2⟩
 ·rw [e1] at h
  rw [e1, e2, resZ_some C K hb, seqsB_eq h]
  rfl
 ·rw [e1] at h
  have hT : T = [] := by
   have := h.heads
   simpa [headsTo] using this
  subst hT
  rw [e1, resZ_none C K h0 h1]
  rfl
def codR (l : List Ku.R3) : List Int := l.map fun r => r.2.2
theorem codR_len (l : List Ku.R3) : (codR l).length = l.length := by simp [codR]
theorem codR_take {l : List Ku.R3} {k : Nat} (h : k < l.length) : (codR l).take (k + 1) = (codR l).take k ++ [l[k].2.2] := by
 rw [List.take_succ_eq_append_getElem (by rw [codR_len]; exact h)]
 simp [codR]
end Go.Proofs.YtfclpecbnailgaaGreat.Bi
