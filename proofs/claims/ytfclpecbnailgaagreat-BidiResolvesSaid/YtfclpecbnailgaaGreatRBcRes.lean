/-
 Proved here: what bidi.Resolve returns, for every row of runes of at most 1000000, and every number as the paragraph's level: the plain levels. It leaves what was in memory.
-/
import Derived.RegionTactic
import Derived.ChangeAlike
import Derived.BigRegion
import Derived.Test.YtfclpecbnailgaaGreatRBcSet
import Derived.Test.YtfclpecbnailgaaGreatR17
import Derived.Test.YtfclpecbnailgaaGreatRSqSeqs
import Derived.Test.YtfclpecbnailgaaGreatRSqCheck
set_option linter.unusedVariables false
namespace Go.Proofs.YtfclpecbnailgaaGreat.Bi
open Go Go.RowKit Go.Lib Go.Proofs.YtfclpecbnailgaaGreat.Cl Go.Proofs.YtfclpecbnailgaaGreat.Ba Go.Proofs.YtfclpecbnailgaaGreat.Lv Go.Proofs.YtfclpecbnailgaaGreat.Sq Go.Proofs.YtfclpecbnailgaaGreat.Wk Go.Proofs.YtfclpecbnailgaaGreat.Pr Go.Proofs.YtfclpecbnailgaaGreat.Ne
theorem putR_mem : ∀ (p : List Nat) (d o : List Int) (y : Int), y ∈ putR o p d → y ∈ o ∨ y ∈ d
 | [], _, o, y, h => .inl (by simpa [putR] using h)
 | _ :: _, [], o, y, h => .inl (by simpa [putR] using h)
 | i :: p, x :: d, o, y, h => by
  rcases putR_mem p d (o.set i x) y (by simpa [putR] using h) with h1 | h1
  ·rcases List.mem_or_eq_of_mem_set h1 with h2 | rfl
   ·exact .inl h2
   ·exact .inr (List.mem_cons_self ..)
  ·exact .inr (List.mem_cons_of_mem _ h1)
theorem out_ok (told codes own : List Int) : ∀ (T : List S4) (z : List Int), (∀ y ∈ z, y = -1 ∨ 0 ≤ y) → (∀ s ∈ T, 0 ≤ s.a) → ∀ y ∈ outP rule told codes own z T, y = -1 ∨ 0 ≤ y
 | [], z, hz, _, y, h => hz y h
 | s :: T, z, hz, hT, y, h => by
  refine out_ok told codes own T (putR z s.p (rowP rule told codes own s)) (fun y hy => ?_) (fun s hs => hT s (List.mem_cons_of_mem _ hs)) y h
  rcases putR_mem _ _ _ y hy with h1 | h1
  ·exact hz y h1
  ·exact .inr (rule_pos _ _ _ _ _ _ (hT s (List.mem_cons_self ..)) y h1)
theorem zOf_ok (c : List Int) (x : Int) : ∀ y ∈ zOf c x, y = -1 ∨ 0 ≤ y := by
 intro y hy
 rcases zOf_01 c x with ⟨b, hb, rfl, e1, _⟩ | ⟨_, _, e1, _⟩
 ·rw [e1] at hy
  obtain ⟨i, hi, rfl⟩ := List.getElem_of_mem hy
  have := zB_ok c b i
  rwa [L_at hi] at this
 ·rw [e1] at hy
  cases hy
set_option maxHeartbeats 4000000 in
set_option maxRecDepth 100000 in
theorem resolve_any (A : Option Addr) (l : List Ku.R3) (x : Int) (n m0 : Nat) (w : World) (hl : l.length = n) (hR : Ku.RuAt w A l) (hn : n ≤ 1000000) :
  Calls Tryz.prog 12 #[.slice A n m0, .int .i64 x] w fun e w' => ∃ A' c', e = .returned (.slice A' (resZ (clsR l) (codR l) x).length c') ∧ w'.ownsRow w.heap.size 3 1 (.slice A' (resZ (clsR l) (codR l) x).length c') (resZ (clsR l) (codR l) x).length (icl (resZ (clsR l) (codR l) x)) ∧ Below w.heap.size w w' := by
 have HPO := Lib.hid (parag_of A l x n m0 w hl hR hn)
 obtain ⟨C, hC⟩ : ∃ C, clsR l = C := ⟨_, rfl⟩
 have hCl : C.length = n := by rw [← hC, ← hl]; exact clsR_len l
 obtain ⟨K, hK⟩ : ∃ K, codR l = K := ⟨_, rfl⟩
 have hKl : K.length = n := by rw [← hK, ← hl]; exact codR_len l
 rw [hC, hK] at HPO ⊢
 have HCL := Lib.hid hCl
 have HKL := Lib.hid hKl
 clear hl hR hC hK hCl hKl
 go_enter Tryz.func12, Tryz.ntmps12
 go_wp2_with fail
 refine HPO.out.mono ?_
 rintro e w1 ⟨AK, cK, AC, cC, AL, cL, AT, cT, N, g0, hN, hTL, rfl, iK, iC, iT, oL, hg0, hAK, hAC, two, hnc, hb1⟩
 have HRG := Lib.hid (fun (T : List S4) (h : SeqsOk C (zOf C x) x T) => res_gen (K := K) h)
 have HSF := Lib.hid (fun (T : List S4) (h : SeqsOk C (zOf C x) x T) => seq_facts h)
 have HZK := Lib.hid (zOf_ok C x)
 have hNn : N ≤ n := by rw [hN]; have := zOf_le C x; have := HCL.out; omega
 have HSQ0 := Lib.hid (fun (V : World) (h : IntsAt V AC C) => seqs_any AC C x n cC V HCL.out h hn hnc (zOf_iso C x))
 obtain ⟨z, hz⟩ : ∃ z, zOf C x = z := ⟨_, rfl⟩
 obtain ⟨tl, htl⟩ : ∃ tl, tOf C x = tl := ⟨_, rfl⟩
 rw [hz] at hN oL HRG HSF HSQ0 HZK
 rw [htl] at hTL iT HRG
 have HNZ := Lib.hid hN
 have HTL := Lib.hid hTL
 have HB1 := Lib.hid hb1
 have HG0 := Lib.hid hg0
 have HOL := Lib.hid oL
 have HTW := Lib.hid two
 have HNAK := Lib.hid hAK
 have HNAC := Lib.hid hAC
 -- the paragraph's variable
 obtain ⟨W5, hW5⟩ : ∃ W5, w1.alloc (.cells #[.slice AK n cK, .slice AC n cC, .slice AL N cL, .slice AT N cT] 45) = W5 := ⟨_, rfl⟩
 have hb5 : Below w1.heap.size w1 W5 := by rw [← hW5]; exact below_made _ _
 have hx5 : W5.heap[w1.heap.size]? = some (.cells #[.slice AK n cK, .slice AC n cC, .slice AL N cL, .slice AT N cT] 45 (0, 0)) := by rw [← hW5]; exact heap_alloc_last _ _
 have hs5 : W5.heap.size = w1.heap.size + 1 := by rw [← hW5]; exact World.size_alloc _ _
 have HIK := Lib.hid (iK.below hb5)
 have HIC := Lib.hid (iC.below hb5)
 have HIT := Lib.hid (iT.below hb5)
 have HX5 := Lib.hid hx5
 have HS5 := Lib.hid hs5
 have HB5 := Lib.hid hb5
 have HSQ1 := Lib.hid (HSQ0.out W5 HIC.out)
 clear hN hTL hz htl hb1 hg0 oL two hAK hAC iK iC iT hb5 hx5 hs5 hnc HPO HSQ0
 have p1 := cell_of_row _ w1.heap.size 1 _ _ _ HX5.out
 go_wp2_with fail
 clear hW5 p1
 refine HSQ1.out.mono ?_
 rintro e w4 ⟨v10, Ts, X, rfl, hsq, hsa, hb4⟩
 have hok := hsa.ok
 obtain ⟨Aq, cq, rfl, -⟩ := hsq.reads
 have HSI := Lib.hid hsq
 have HFA := Lib.hid (HSF.out Ts hok)
 have HRG2 := Lib.hid (HRG.out Ts hok)
 have HOK := Lib.hid (out_ok tl K C Ts z HZK.out (fun s hs => (HFA.out s hs).2.2.2.1))
 have hqn : Ts.length ≤ n := by
  have h1 := congrArg List.length hok.heads
  rw [List.length_map] at h1
  have h2 : (headsTo C z z.length).length ≤ z.length := by
   unfold headsTo
   exact Nat.le_trans (List.length_filter_le _ _) (by simp)
  have h3 := HNZ.out
  omega
 have hlt6 := HOL.out.lt
 have hs5 := HS5.out
 have HO64 := Lib.hid (ownsRow_below (ownsRow_below HOL.out HB5.out) hb4)
 have HBW := Lib.hid (below_bt (below_bt HB1.out HB5.out) hb4)
 have HBX4 := Lib.hid ((hb4.block w1.heap.size (by omega)).trans HX5.out)
 have HKP := Lib.hid (fun (V : World) (hg : w4.grownBy V (Value.slice AL N cL).ownBlock) => show IntsAt V AC C ∧ IntsAt V AK K ∧ IntsAt V AT tl ∧ SqI 50 W5.heap.size V (.slice Aq Ts.length cq) Ts X ∧ V.heap[w1.heap.size]? = some (.cells #[.slice AK n cK, .slice AC n cC, .slice AL N cL, .slice AT N cT] 45 (0, 0)) from by
  refine ⟨ints_kept2 (HIC.out.below hb4) hg (fun a h e => ?_), ints_kept2 (HIK.out.below hb4) hg (fun a h e => ?_), ints_kept2 (HIT.out.below hb4) hg (fun a h e => ?_), HSI.out.kept hg (fun k hk => ?_), (hg.block w1.heap.size (Array.getElem?_eq_some_iff.1 HBX4.out).1 (fun e => ?_)).trans HBX4.out⟩
  ·have h1 := HNAC.out a h
   have h2 := (hlt6 _ e.symm).1
   omega
  ·have h1 := HNAK.out a h
   have h2 := (hlt6 _ e.symm).1
   omega
  ·rcases HTW.out with h1 | h1
   ·rw [h1] at e; cases e
   ·exact h1 (by rw [← e, h]; rfl)
  ·have := (hlt6 k hk).2
   omega
  ·have := (hlt6 _ e.symm).2
   omega)
 have HLT6 := Lib.hid (fun (k : Nat) (h : (Value.slice AL N cL).ownBlock = some k) => show w.heap.size ≤ k ∧ k < w1.heap.size from ⟨by have := (hlt6 k h).1; have := HG0.out; omega, (hlt6 k h).2⟩)
 have hs4 := hb4.size
 have HS4 := Lib.hid (show w1.heap.size < w4.heap.size from by omega)
 clear hsq hsa hok hb4 hlt6 hs5 hs4 HSF HRG HSQ1 HTW HIT HIC HIK HOL HNAK HNAC HSI HX5 HBX4 HZK
 have HSTEP := Lib.hid (fun (i : Nat) (h : i < Ts.length) => outP_snoc rule tl K C z h)
 have HLEN0 := Lib.hid (fun (T' : List S4) => (fold_len rule tl K C T' z).trans HNZ.out.symm)
 obtain ⟨q, hq⟩ : ∃ q, Ts.length = q := ⟨_, rfl⟩
 rw [hq] at HKP hqn ⊢
 have HQ := Lib.hid hq
 clear hq
 go_wp2_with fail
 go_loopw [22] (fun s22 wx => ∃ i : Nat, i ≤ q ∧ s22 = .int .i64 i ∧ Row g0 AL N cL w4 (outP rule tl K C z (Ts.take i)) wx) (fun s22 _ => q - (RowKit.intOf s22).toNat)
 case atStart => exact ⟨0, Nat.zero_le _, rfl, Row.start HO64.out⟩
 case round =>
  obtain ⟨i, hi, rfl, hrow⟩ := hrel
  have HRW := Lib.hid hrow
  clear hrow HO64
  have hbK := (HBW.out).grown HRW.out.gr (HBW.out.size) (fun k hk => (HLT6.out k hk).1)
  by_cases hlt : i < q
  ·have hiT : i < Ts.length := by rw [HQ.out]; exact hlt
   obtain ⟨jC, jK, jT, hsq, hbx⟩ := HKP.out wr HRW.out.gr
   obtain ⟨g, cap, xx, At, ct, ev, hBg, hglt, hXx, exx, hip, q0, q1, q2, q3, -⟩ := hsq.get hiT
   have HXlt := Lib.hid (fun (k : Nat) (h : (Value.slice At Ts[i].p.length ct).ownBlock = some k) => hsq.lt hXx (by rw [exx]; exact h))
   injection ev with ev1 ev2 ev3
   subst ev1
   subst ev3
   clear ev2
   subst exx
   obtain ⟨f1, f2, f3, f4, f5⟩ := HFA.out Ts[i] (List.getElem_mem hiT)
   have HSS := Lib.hid (HSTEP.out i hiT)
   have HON := Lib.hid (HLEN0.out (Ts.take i))
   generalize Ts[i] = s at *
   generalize outP rule tl K C z (Ts.take i) = O at *
   generalize hsa : s.a = sa at *
   generalize hsb : s.b = sb at *
   generalize hsc : s.c = sc at *
   generalize hp : s.p = p at *
   obtain ⟨m, hm⟩ : ∃ m, p.length = m := ⟨_, rfl⟩
   rw [hm] at q3 HXlt f3
   have HPM := Lib.hid hm
   have HPT := Lib.hid (show ∀ t ∈ p, t < N from fun t ht => by rw [HNZ.out]; exact f1 t ht)
   have HPN := Lib.hid (show ∀ t ∈ p, t < n from fun t ht => by have := f2 t ht; have := HCL.out; omega)
   have hm6 : m ≤ n := by have := HCL.out; omega
   have HROW := Lib.hid (show rowP rule tl K C s = (settleN sa sc sb (settleZ (weak sb (pick tl p)) (pick K p) (pick C p) sa sb)).map (levN sa) from by
    unfold rowP rule
    rw [hsa, hsb, hsc, hp, if_pos ⟨by rw [pick_len, pick_len], by rw [pick_len, pick_len]⟩])
   have HRLEN := Lib.hid (show (rowP rule tl K C s).length = m from by unfold rowP; rw [rule_len, pick_len, hp, hm])
   generalize rowP rule tl K C s = D at *
   have hi0 : (0 : Int) ≤ (i : Int) := by omega
   have hi1 : (i : Int) < (q : Int) := by omega
   have hi2 : decide (i < q) = true := decide_eq_true hlt
   -- the sequence's variables
   obtain ⟨W6, hW6⟩ : ∃ W6, wr.alloc (.cells #[.int .i64 sa, .int .i64 sb, .int .i64 sc, .slice At m ct] 50) = W6 := ⟨_, rfl⟩
   obtain ⟨W7, hW7⟩ : ∃ W7, W6.alloc (.cells #[.int .i64 sa, .int .i64 sb, .int .i64 sc, .slice At m ct, .slice AK n cK, .slice AC n cC, .slice AL N cL, .slice AT N cT] 52) = W7 := ⟨_, rfl⟩
   have hb6 : Below wr.heap.size wr W6 := by rw [← hW6]; exact below_made _ _
   have hb7 : Below W6.heap.size W6 W7 := by rw [← hW7]; exact below_made _ _
   have hx6 : W6.heap[wr.heap.size]? = some (.cells #[.int .i64 sa, .int .i64 sb, .int .i64 sc, .slice At m ct] 50 (0, 0)) := by rw [← hW6]; exact heap_alloc_last _ _
   have hs6 : W6.heap.size = wr.heap.size + 1 := by rw [← hW6]; exact World.size_alloc _ _
   have hx7 : W7.heap[W6.heap.size]? = some (.cells #[.int .i64 sa, .int .i64 sb, .int .i64 sc, .slice At m ct, .slice AK n cK, .slice AC n cC, .slice AL N cL, .slice AT N cT] 52 (0, 0)) := by rw [← hW7]; exact heap_alloc_last _ _
   have HB67 := Lib.hid (below_bt hb6 hb7)
   have hgrs := HRW.out.gr.size
   have hS4 := HS4.out
   have hbx6 := (hb6.block w1.heap.size (by omega)).trans hbx
   have HST := Lib.hid (settled_any sa sb sc At AK AC AL AT m ct n cK n cC N cL N cT K C tl p W7 (hip.below HB67.out) (jK.below HB67.out) (jC.below HB67.out) (jT.below HB67.out) hm HKL.out HCL.out HTL.out (by omega) (by omega) (by omega) (by omega) HPN.out HPN.out HPT.out f4 (by omega))
   have HBX7 := Lib.hid ((HB67.out.block w1.heap.size (by omega)).trans hbx)
   have HIP := Lib.hid (hip.below HB67.out)
   have HX7 := Lib.hid hx7
   have HS6 := Lib.hid hs6
   have b60 := cell_of_row _ w1.heap.size 0 _ _ _ hbx6
   have b61 := cell_of_row _ w1.heap.size 1 _ _ _ hbx6
   have b62 := cell_of_row _ w1.heap.size 2 _ _ _ hbx6
   have b63 := cell_of_row _ w1.heap.size 3 _ _ _ hbx6
   have s60 := cell_of_row _ wr.heap.size 0 _ _ _ hx6
   have s61 := cell_of_row _ wr.heap.size 1 _ _ _ hx6
   have s62 := cell_of_row _ wr.heap.size 2 _ _ _ hx6
   have s63 := cell_of_row _ wr.heap.size 3 _ _ _ hx6
   have d60 := cell_of_row _ W6.heap.size 0 _ _ _ hx7
   have d61 := cell_of_row _ W6.heap.size 1 _ _ _ hx7
   have d62 := cell_of_row _ W6.heap.size 2 _ _ _ hx7
   have d63 := cell_of_row _ W6.heap.size 3 _ _ _ hx7
   have d64 := cell_of_row _ W6.heap.size 4 _ _ _ hx7
   have d65 := cell_of_row _ W6.heap.size 5 _ _ _ hx7
   have d66 := cell_of_row _ W6.heap.size 6 _ _ _ hx7
   have d67 := cell_of_row _ W6.heap.size 7 _ _ _ hx7
   have HS7 := Lib.hid (show W7.heap.size = W6.heap.size + 1 from by rw [← hW7]; exact World.size_alloc _ _)
   have HGS := Lib.hid hgrs
   clear hsq hXx hip hsa hsb hsc hp hm hiT f1 f2 f3 f4 f5 hBg hbK jC jK jT hbx hb6 hb7 hx6 hx7 hs6 hgrs hS4 hbx6 HSTEP HLEN0
   go_wp2_with fail
   clear hW6 hW7
   refine HST.out.mono ?_
   rintro e w16 ⟨A16, c16, rfl, o16, hb16⟩
   rw [← HROW.out] at o16
   have HB16 := Lib.hid (below_bt HB67.out hb16)
   obtain ⟨A16', c16', e16, i16⟩ := intsAt_icl o16 HRLEN.out
   injection e16 with e161 _ e163
   subst e161
   subst e163
   have HI16 := Lib.hid i16
   have HR16 := Lib.hid (HRW.out.below HB16.out)
   have hgs := HGS.out
   have hs4 := HS4.out
   have hs6 := HS6.out
   have hs7 := HS7.out
   have HBX16 := Lib.hid ((hb16.block w1.heap.size (by omega)).trans HBX7.out)
   have HX16 := Lib.hid ((hb16.block W6.heap.size (by omega)).trans HX7.out)
   have HIP16 := Lib.hid (HIP.out.below hb16)
   have HNA := Lib.hid (fun (a : Addr) (h : At = some a) => show some a.block ≠ (Value.slice AL N cL).ownBlock from fun e => by
    have h1 := (HXlt.out a.block (by rw [h]; rfl)).1
    have h2 := (HLT6.out _ e.symm).2
    have h3 := HS5.out
    omega)
   have HN16 := Lib.hid (fun (a : Addr) (h : A16 = some a) => show some a.block ≠ (Value.slice AL N cL).ownBlock from fun e => by
    have h1 := (o16.lt a.block (by rw [h]; rfl)).1
    have h2 := (HLT6.out _ e.symm).2
    omega)
   have HNB := Lib.hid (show some w1.heap.size ≠ (Value.slice AL N cL).ownBlock from fun e => by
    have h2 := (HLT6.out _ e.symm).2
    omega)
   have HNB8 := Lib.hid (show some W6.heap.size ≠ (Value.slice AL N cL).ownBlock from fun e => by
    have h2 := (HLT6.out _ e.symm).2
    omega)
   clear o16 i16 hb16 HST HB67 HIP HX7 HBX7 hgs hs4 hs6 hs7 b60 b61 b62 b63 s60 s61 s62 s63 d60 d61 d62 d63 d64 d65 d66 d67 q0 q1 q2 q3
   go_wp2_with fail
   go_loopw [32] (fun s32 wx => ∃ k : Nat, k ≤ m ∧ s32 = .int .i64 k ∧ Row g0 AL N cL w16 (putR O (p.take k) (D.take k)) wx) (fun s32 _ => m - (RowKit.intOf s32).toNat)
   case atStart => exact ⟨0, Nat.zero_le _, rfl, by simpa [putR] using Row.start HR16.out.own⟩
   case round =>
    obtain ⟨k, hk, rfl, hrow⟩ := hrel
    have HRX := Lib.hid hrow
    clear hrow
    by_cases hkm : k < m
    ·have hkp : k < p.length := by rw [HPM.out]; exact hkm
     have hkd : k < D.length := by rw [HRLEN.out]; exact hkm
     have hpN := HPT.out _ (List.getElem_mem hkp)
     have HSN := Lib.hid (putR_snoc p D O hkp (by rw [HRLEN.out, HPM.out]))
     have hkn : k < (ns p).length := by rw [ns_len]; exact hkp
     obtain ⟨ga, oa, hAt, hca⟩ := (ints_kept2 HIP16.out HRX.out.gr HNA.out).at_ hkn
     obtain ⟨gd, od, hAd, hcd⟩ := (ints_kept2 HI16.out HRX.out.gr HN16.out).at_ hkd
     have hns : (ns p)[k] = ((p[k] : Nat) : Int) := by simp [ns]
     rw [hns] at hca
     have hbx := HRX.out.gr.cell (cell_of_row w16 w1.heap.size 2 _ _ _ HBX16.out) HNB.out
     have hbs := HRX.out.gr.cell (cell_of_row w16 W6.heap.size 3 _ _ _ HX16.out) HNB8.out
     rw [hAt] at hbs
     have hq6 : p[k] < (putR O (p.take k) (D.take k)).length := by rw [putR_len, HON.out]; exact hpN
     have h6 := own_head HRX.out.own (by omega)
     obtain ⟨g6, hg6⟩ := h6
     subst hg6
     subst hAd
     obtain ⟨hc6, hf6⟩ := own_int HRX.out.own (List.getElem?_eq_getElem hq6)
     have hrn := row_set HRX.out p[k] D[k]
     rw [← HSN.out] at hrn
     have HRN := Lib.hid hrn.drew
     clear hrn
     generalize (putR O (p.take k) (D.take k))[p[k]] = old at *
     generalize D[k] = y at *
     generalize p[k] = t at *
     have jk0 : (0 : Int) ≤ (k : Int) := by omega
     have jk1 : (k : Int) < (m : Int) := by omega
     have jt0 : (0 : Int) ≤ (t : Int) := by omega
     have jt1 : (t : Int) < (N : Int) := by omega
     have t1 : decide ((t : Int) < 0) = false := decide_eq_false (by omega)
     have t2 : decide ((k : Int) < 0) = false := decide_eq_false (by omega)
     have t3 : decide ((N : Int) ≤ (t : Int)) = false := decide_eq_false (by omega)
     have t4 : decide ((m : Int) ≤ (k : Int)) = false := decide_eq_false (by omega)
     have t5 : decide (N ≤ t) = false := decide_eq_false (by omega)
     have t6 : decide (m ≤ k) = false := decide_eq_false (by omega)
     clear hkp hkd hkn hns hq6 hpN hAt
     go_wp2_with fail
     go_region
     all_goals go_wp2_with fail
     all_goals go_roundw
     case rel => exact ⟨k + 1, by omega, by go_num, HRN.out⟩
     case measure => simp [RowKit.intOf] <;> omega
    ·obtain rfl : k = m := by omega
     have HFIN := Lib.hid (show Row g0 AL N cL w4 (outP rule tl K C z (Ts.take (i + 1))) wr from by
      have e : putR O (p.take k) (D.take k) = putR O p D := by
       rw [List.take_of_length_le (by rw [HPM.out]; exact Nat.le_refl _), List.take_of_length_le (by rw [HRLEN.out]; exact Nat.le_refl _)]
      rw [HSS.out, ← e]
      exact ⟨HRX.out.own, grown_trans HR16.out.gr HRX.out.gr⟩)
     go_wp2_with fail
     go_roundw
     case rel => exact ⟨i + 1, by omega, by go_num, HFIN.out⟩
     case measure => simp [RowKit.intOf] <;> omega
  ·obtain rfl : i = q := by omega
   have hTk : Ts.take i = Ts := List.take_of_length_le (by rw [HQ.out]; exact Nat.le_refl _)
   rw [hTk] at HRW
   have HOLN := Lib.hid (HLEN0.out Ts)
   obtain ⟨-, -, -, -, hbx⟩ := HKP.out wr HRW.out.gr
   have HBXF := Lib.hid hbx
   generalize outP rule tl K C z Ts = O at *
   have HST0 := Lib.hid (show Row g0 AL N cL wr ((fillP x O).take 0 ++ O.drop 0) wr from by
    have h := Row.start HRW.out.own
    simpa using h)
   have HBK := Lib.hid hbK
   have HAL := Lib.hid (fun (V : World) (h : wr.grownBy V (Value.slice AL N cL).ownBlock) => show V.heap[w1.heap.size]? = some (.cells #[.slice AK n cK, .slice AC n cC, .slice AL N cL, .slice AT N cT] 45 (0, 0)) from
    (h.block w1.heap.size (Array.getElem?_eq_some_iff.1 hbx).1 (fun e => by have := (HLT6.out _ e.symm).2; omega)).trans hbx)
   have q2 := cell_of_row _ w1.heap.size 2 _ _ _ hbx
   clear hTk hbK HSTEP HLEN0 HFA HKP HQ HRW hbx HBXF
   go_wp2_with fail
   go_loopw [11, 53] (fun s11 s53 wx => ∃ (k : Nat) (v : Int), k ≤ N ∧ s53 = .int .i64 k ∧ s11 = .int .i64 v ∧ v = (if k = 0 then x else (fillP x O).getD (k - 1) 0) ∧ Row g0 AL N cL wr ((fillP x O).take k ++ O.drop k) wx) (fun _ s53 _ => N - (RowKit.intOf s53).toNat)
   case atStart => exact ⟨0, x, Nat.zero_le _, rfl, rfl, rfl, HST0.out⟩
   case round =>
    obtain ⟨k, v, hk, rfl, rfl, hv, hrow⟩ := hrel
    have HRX := Lib.hid hrow
    clear hrow HST0 q2
    have hbx := HAL.out _ HRX.out.gr
    have q2 := cell_of_row _ w1.heap.size 2 _ _ _ hbx
    by_cases hkN : k < N
    ·have hkO : k < O.length := by rw [HOLN.out]; exact hkN
     have hfl : (fillP x O).length = N := by rw [fill_len, HOLN.out]
     have hlk : ((fillP x O).take k).length = k := by rw [List.length_take]; omega
     have hat : ((fillP x O).take k ++ O.drop k)[k]? = some O[k] := by
      rw [List.getElem?_append_right (by omega), hlk, Nat.sub_self, List.drop_eq_getElem_cons hkO]
      rfl
     have hset : ∀ y, (fillP x O)[k]? = some y → ((fillP x O).take k ++ O.drop k).set k y = (fillP x O).take (k + 1) ++ O.drop (k + 1) := fun y hy => by
      rw [List.set_append_right _ _ (by omega), hlk, Nat.sub_self, List.drop_eq_getElem_cons hkO, List.set_cons_zero, List.take_add_one, hy]
      simp
     have hfa := fill_at x O hkO
     rw [← hv] at hfa
     have hgd : ∀ y, (fillP x O)[k]? = some y → (fillP x O).getD (k + 1 - 1) 0 = y := fun y hy => by
      rw [Nat.add_sub_cancel, List.getD_eq_getElem?_getD, hy]
      rfl
     have hok := HOK.out O[k] (List.getElem_mem hkO)
     obtain ⟨g6, hg6⟩ := own_head HRX.out.own (by omega)
     subst hg6
     obtain ⟨hc6, hf6⟩ := own_int HRX.out.own hat
     have jk0 : (0 : Int) ≤ (k : Int) := by omega
     have jk1 : (k : Int) < (N : Int) := by omega
     rcases hok with he | he
     ·rw [if_pos (by omega)] at hfa
      have n1 : (O[k] == -1) = true := by rw [he]; rfl
      have hrn := row_set HRX.out k v
      have hbn := cell_of_row _ w1.heap.size 2 _ _ _ (HAL.out _ hrn.gr)
      have hcn := own_int hrn.own (i := k) (x := v) (by rw [List.getElem?_set_self (by rw [List.length_append, List.length_drop]; omega)])
      rw [hset v hfa] at hrn
      have HRN := Lib.hid hrn
      have HV := Lib.hid (hgd v hfa)
      obtain ⟨hcn1, -⟩ := hcn
      generalize O[k] = o at *
      clear hset hfa hgd hat hlk hfl hkO hbx hrn hv he
      go_wp2_with fail
      go_roundw
      case rel => exact ⟨k + 1, v, by omega, by go_num, rfl, by rw [if_neg (by omega), HV.out], HRN.out⟩
      case measure => simp [RowKit.intOf] <;> omega
     ·rw [if_neg (by omega)] at hfa
      have n1 : (O[k] == -1) = false := beq_eq_false_iff_ne.2 (by omega)
      have HRN := Lib.hid (show Row g0 (some ⟨g6, 0, none⟩) N cL _ ((fillP x O).take (k + 1) ++ O.drop (k + 1)) wr from by
       have e : (fillP x O).take (k + 1) ++ O.drop (k + 1) = (fillP x O).take k ++ O.drop k := by
        rw [List.take_add_one, hfa, List.drop_eq_getElem_cons hkO]
        simp
       rw [e]
       exact HRX.out)
      have HV := Lib.hid (hgd _ hfa)
      generalize O[k] = o at *
      clear hset hfa hgd hat hlk hfl hkO hbx hv he
      go_wp2_with fail
      go_roundw
      case rel => exact ⟨k + 1, o, by omega, by go_num, rfl, by rw [if_neg (by omega), HV.out], HRN.out⟩
      case measure => simp [RowKit.intOf] <;> omega
    ·obtain rfl : k = N := by omega
     have HE := Lib.hid (show (fillP x O).take k ++ O.drop k = resZ C K x from by
      rw [List.take_of_length_le (by rw [fill_len, HOLN.out]; exact Nat.le_refl _), List.drop_eq_nil_of_le (by rw [HOLN.out]; exact Nat.le_refl _), List.append_nil]
      exact HRG2.out)
     have HLN := Lib.hid (show (resZ C K x).length = k from by rw [← HRG2.out, fill_len, HOLN.out])
     have HBF := Lib.hid (HBK.out.grown HRX.out.gr HBK.out.size (fun k hk => (HLT6.out k hk).1))
     go_wp2_with fail
     go_ret
     refine ⟨AL, cL, by rw [HLN.out]; rfl, ?_, HBF.out⟩
     rw [HLN.out, ← HE.out]
     exact HRX.out.own.mono HG0.out
end Go.Proofs.YtfclpecbnailgaaGreat.Bi
