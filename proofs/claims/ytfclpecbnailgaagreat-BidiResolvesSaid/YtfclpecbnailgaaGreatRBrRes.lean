/-
 Proved here: what parquetryref16.Resolve returns, for every row of runes of at most 1000000, and every number as the paragraph's level: the plain levels. It leaves what was in memory.
-/
import Derived.Test.YtfclpecbnailgaaGreatR26
import Derived.Test.YtfclpecbnailgaaGreatR5
import Derived.Test.YtfclpecbnailgaaGreatR6
import Derived.Test.YtfclpecbnailgaaGreatR2
import Derived.Test.YtfclpecbnailgaaGreatRSrSeqs
import Derived.Test.YtfclpecbnailgaaGreatRWkRefW
import Derived.Test.YtfclpecbnailgaaGreatRPrRefK
import Derived.Test.YtfclpecbnailgaaGreatRNeRefL
set_option linter.unusedVariables false
namespace Go.Proofs.YtfclpecbnailgaaGreat.Bi
open Go Go.RowKit Go.Lib Go.Proofs.YtfclpecbnailgaaGreat.Cl Go.Proofs.YtfclpecbnailgaaGreat.Ba Go.Proofs.YtfclpecbnailgaaGreat.Lv Go.Proofs.YtfclpecbnailgaaGreat.Sq Go.Proofs.YtfclpecbnailgaaGreat.Wk Go.Proofs.YtfclpecbnailgaaGreat.Pr Go.Proofs.YtfclpecbnailgaaGreat.Ne Go.Proofs.YtfclpecbnailgaaGreat.Words
/-- Explicit, for any number. -/
theorem rexpl_gen (A : Option Addr) (c : List Int) (x : Int) (n m : Nat) (w : World) (hl : c.length = n) (hR : IntsAt w A c) (hn : n ≤ 1000000) (hnm : n ≤ m) :
  Calls Tryz.prog 30 #[.slice A n m, .int .i64 x] w fun e w' => ∃ A1 c1 A2 c2 N, N = (zOf c x).length ∧ (tOf c x).length = N ∧ e = .returned (.tuple #[.slice A1 N c1, .slice A2 N c2]) ∧ w'.ownsRow w.heap.size 3 1 (.slice A1 N c1) N (icl (zOf c x)) ∧ w'.ownsRow w.heap.size 3 1 (.slice A2 N c2) N (icl (tOf c x)) ∧ Two (.slice A1 N c1) (.slice A2 N c2) ∧ Below w.heap.size w w' := by
 rcases zOf_01 c x with ⟨b, hb, rfl, e1, e2⟩ | ⟨h0, h1, e1, e2⟩
 ·refine (nexplicit_own A c b n m w hb hl hR hn hnm).mono ?_
  rintro e w' ⟨A1, c1, A2, c2, rfl, o1, o2, tw, hbl⟩
  rw [e1, e2]
  exact ⟨A1, c1, A2, c2, n, by rw [zB_len, hl], by rw [told_len, hl], rfl, o1, o2, tw, hbl⟩
 ·refine (rexplicit_none A x n m w h0 h1).mono ?_
  rintro e w' ⟨rfl, rfl⟩
  rw [e1, e2]
  exact ⟨none, 0, none, 0, 0, rfl, rfl, rfl, World.ownsRow_nil _ _ _ _, World.ownsRow_nil _ _ _ _, .inl rfl, Below.refl _ _⟩
def Phi13 (A7 : Option Addr) (N c7 b12 : Nat) (At : Option Addr) (m ct : Nat) (tl : List Int) (p : List Nat) (sb : Int) : Nat → Value → World → Prop
 | 0, v, w => v = .slice A7 N c7
 | 1, v, w => v = .pointer (some ⟨b12, 3, none⟩)
 | 2, v, w => v = .slice At m ct
 | 3, v, w => OkI (pick tl p) m v w
 | 4, v, w => v = .pointer (some ⟨b12, 1, none⟩)
 | 5, v, w => v = .int .i64 sb
 | 6, v, w => OkI (weak sb (pick tl p)) m v w
 | 7, v, w => OkI (weak sb (pick tl p)) m v w
 | _, _, _ => True
theorem Phi13.later (A7 : Option Addr) (N c7 b12 : Nat) (At : Option Addr) (m ct : Nat) (tl : List Int) (p : List Nat) (sb : Int) : ∀ (i : Nat) (v : Value) (w w' : World), Phi13 A7 N c7 b12 At m ct tl p sb i v w → Below w.heap.size w w' → Phi13 A7 N c7 b12 At m ct tl p sb i v w'
 | 0, _, _, _, h, _ => h
 | 1, _, _, _, h, _ => h
 | 2, _, _, _, h, _ => h
 | 3, _, _, _, h, hb => OkI.later h hb
 | 4, _, _, _, h, _ => h
 | 5, _, _, _, h, _ => h
 | 6, _, _, _, h, hb => OkI.later h hb
 | 7, _, _, _, h, hb => OkI.later h hb
 | _ + 8, _, _, _, _, _ => trivial
def Phi14 (A13 : Option Addr) (c13 : Nat) (A8 : Option Addr) (n c8 : Nat) (A5 : Option Addr) (c5 b12 : Nat) (At : Option Addr) (m ct : Nat) (tl K C : List Int) (p : List Nat) (sa sb : Int) : Nat → Value → World → Prop
 | 0, v, w => v = .slice A13 m c13
 | 1, v, w => v = .slice A8 n c8
 | 2, v, w => v = .pointer (some ⟨b12, 3, none⟩)
 | 3, v, w => v = .slice At m ct
 | 4, v, w => OkI (pick K p) m v w
 | 5, v, w => v = .slice A5 n c5
 | 6, v, w => v = .pointer (some ⟨b12, 3, none⟩)
 | 7, v, w => v = .slice At m ct
 | 8, v, w => OkI (pick C p) m v w
 | 9, v, w => v = .pointer (some ⟨b12, 0, none⟩)
 | 10, v, w => v = .int .i64 sa
 | 11, v, w => v = .pointer (some ⟨b12, 1, none⟩)
 | 12, v, w => v = .int .i64 sb
 | 13, v, w => OkI (settleZ (weak sb (pick tl p)) (pick K p) (pick C p) sa sb) m v w
 | 14, v, w => OkI (settleZ (weak sb (pick tl p)) (pick K p) (pick C p) sa sb) m v w
 | _, _, _ => True
theorem Phi14.later (A13 : Option Addr) (c13 : Nat) (A8 : Option Addr) (n c8 : Nat) (A5 : Option Addr) (c5 b12 : Nat) (At : Option Addr) (m ct : Nat) (tl K C : List Int) (p : List Nat) (sa sb : Int) : ∀ (i : Nat) (v : Value) (w w' : World), Phi14 A13 c13 A8 n c8 A5 c5 b12 At m ct tl K C p sa sb i v w → Below w.heap.size w w' → Phi14 A13 c13 A8 n c8 A5 c5 b12 At m ct tl K C p sa sb i v w'
 | 0, _, _, _, h, _ => h
 | 1, _, _, _, h, _ => h
 | 2, _, _, _, h, _ => h
 | 3, _, _, _, h, _ => h
 | 4, _, _, _, h, hb => OkI.later h hb
 | 5, _, _, _, h, _ => h
 | 6, _, _, _, h, _ => h
 | 7, _, _, _, h, _ => h
 | 8, _, _, _, h, hb => OkI.later h hb
 | 9, _, _, _, h, _ => h
 | 10, _, _, _, h, _ => h
 | 11, _, _, _, h, _ => h
 | 12, _, _, _, h, _ => h
 | 13, _, _, _, h, hb => OkI.later h hb
 | 14, _, _, _, h, hb => OkI.later h hb
 | _ + 15, _, _, _, _, _ => trivial
set_option maxHeartbeats 1600000 in
set_option maxRecDepth 100000 in
theorem rresolve_any (A : Option Addr) (l : List Ku.R3) (x : Int) (n m0 : Nat) (w : World) (hl : l.length = n) (hR : Ku.RuAt w A l) (hn : n ≤ 1000000) :
  Calls Tryz.prog 13 #[.slice A n m0, .int .i64 x] w fun e w' => ∃ A' c', e = .returned (.slice A' (resZ (clsR l) (codR l) x).length c') ∧ w'.ownsRow w.heap.size 3 1 (.slice A' (resZ (clsR l) (codR l) x).length c') (resZ (clsR l) (codR l) x).length (icl (resZ (clsR l) (codR l) x)) ∧ Below w.heap.size w w' := by
 subst hl
 have HR := Lib.hid hR
 have HAL := Lib.hid (Rc.refallR_any A l m0 w hR (by omega))
 obtain ⟨C, hC⟩ : ∃ C, clsR l = C := ⟨_, rfl⟩
 have hCl : C.length = l.length := by rw [← hC]; exact clsR_len l
 rw [hC] at HAL ⊢
 have HCL := Lib.hid hCl
 have HKL0 := Lib.hid (codR_len l)
 obtain ⟨K, hK⟩ : ∃ K, codR l = K := ⟨_, rfl⟩
 have HKT := Lib.hid (fun (k : Nat) (h : k < l.length) => codR_take h)
 rw [hK] at HKT HKL0 ⊢
 have HKL := Lib.hid HKL0.out
 clear hR hC hCl hK HKL0
 go_enter Tryz.func13, Tryz.ntmps13
 go_wp2_with fail
 refine HAL.out.mono ?_
 rintro e w1 ⟨v5, rfl, ho1, hb1⟩
 obtain ⟨A5, c5, rfl, i5⟩ := intsAt_icl (zs := C) ho1 HCL.out
 have HO1 := Lib.hid ho1
 have HB1 := Lib.hid hb1
 have HI5 := Lib.hid i5
 have HEX := Lib.hid (rexpl_gen A5 C x l.length c5 w1 HCL.out i5 hn (own_cap ho1))
 clear ho1 hb1 i5 HAL
 go_wp2_with fail
 refine HEX.out.mono ?_
 rintro e w2 ⟨A6, c6, A7, c7, N, hN, hTL, rfl, o6, o7, two, hb2⟩
 have HRG := Lib.hid (fun (T : List S4) (h : SeqsOk C (zOf C x) x T) => res_gen (K := K) h)
 have HSF := Lib.hid (fun (T : List S4) (h : SeqsOk C (zOf C x) x T) => seq_facts h)
 have hNn : N ≤ l.length := by rw [hN]; have := zOf_le C x; have := HCL.out; omega
 have hx01 : 0 < N → x = 0 ∨ x = 1 := fun h0 => by
  rcases zOf_01 C x with ⟨b, hb, rfl, _, _⟩ | ⟨_, _, e1, _⟩
  ·omega
  ·rw [e1] at hN; simp at hN; omega
 obtain ⟨z, hz⟩ : ∃ z, zOf C x = z := ⟨_, rfl⟩
 obtain ⟨tl, htl⟩ : ∃ tl, tOf C x = tl := ⟨_, rfl⟩
 have HSQ0 := Lib.hid (fun (V : World) (cap : Nat) (h : IntsAt V A5 C) (hc : l.length ≤ cap) => rseqs_any A5 C x l.length cap V HCL.out h hn hc)
 rw [hz] at hN o6 HRG HSF HSQ0
 rw [htl] at hTL o7 HRG
 have HO6 := Lib.hid o6
 have HO7 := Lib.hid o7
 have HI7 := Lib.hid (OkI.of o7 hTL)
 have HTW := Lib.hid two
 have HB2 := Lib.hid hb2
 have HTL := Lib.hid hTL
 have HNZ := Lib.hid hN
 have HX01 := Lib.hid hx01
 have HR2 := Lib.hid ((HR.out.below HB1.out).below hb2)
 clear hN hTL o6 o7 two hb2 HEX hz htl hx01 HR
 go_wp2_with fail
 go_loopw [8, 9] (fun s8 s9 wx => ∃ k : Nat, k ≤ l.length ∧ s9 = .int .i64 k ∧ wx.ownsRow w2.heap.size 3 1 s8 k (icl (K.take k)) ∧ Below w2.heap.size w2 wx) (fun _ s9 _ => l.length - (RowKit.intOf s9).toNat)
 case atStart => exact ⟨0, Nat.zero_le _, rfl, World.ownsRow_nil _ _ _ _, Below.refl _ _⟩
 case round =>
  obtain ⟨k, hk, rfl, hown, hb⟩ := hrel
  have HO := Lib.hid hown
  have HB := Lib.hid hb
  clear hown
  by_cases hlt : k < l.length
  ·obtain ⟨g, off, rfl, hg, c0, c1, c2⟩ := (HR2.out.below hb).at_ hlt
   have HT := Lib.hid (HKT.out k hlt)
   generalize l[k] = r at *
   have hsz := HB.out.size
   have hk0 : (0 : Int) ≤ (k : Int) := by omega
   have hk1 : (k : Int) < (l.length : Int) := by omega
   clear hb
   go_wp2_with (at_builtin; refine wpList_add rfl _ _ rfl w2.heap.size _ k (K.take k) rfl (ownsRow_below HO.out (below_made _ _)) (some ⟨wr.heap.size, 0, none⟩) 1 1 [(r.2.2 : Int)] rfl (made_ints [(r.2.2 : Int)] _ _ _ rfl) rfl (by omega) (by simp; omega) ?_)
   intro v' w9 hown2 hb9
   have hb3 := (HB.out.trans ((below_made wr (.cells #[.int .i64 (r.2.2)] 3)).mono hsz)).trans hb9
   have HO2 := Lib.hid (show w9.ownsRow w2.heap.size 3 1 v' (k + 1) (icl (K.take (k + 1))) from by rw [HT.out]; exact hown2)
   have HB3 := Lib.hid hb3
   clear hown2 hb9 hb3
   go_wp2_with fail
   go_roundw
   case rel => exact ⟨k + 1, by omega, by go_num, HO2.out, HB3.out⟩
   case measure => simp [RowKit.intOf]; omega
  ·obtain rfl : k = l.length := by omega
   rw [List.take_of_length_le (by rw [HKL.out]; exact Nat.le_refl _)] at HO
   obtain ⟨A8, c8, rfl, i8⟩ := intsAt_icl HO.out HKL.out
   have HI8 := Lib.hid i8
   have hcap := own_cap HO1.out
   have HSQ1 := Lib.hid (HSQ0.out wr c5 ((HI5.out.below HB2.out).below HB.out) hcap)
   clear hb i8 hcap HSQ0 HR2 HKT hlt hk
   generalize l.length = n at *
   go_wp2_with fail
   refine HSQ1.out.mono ?_
   rintro e w4 ⟨v10, Ts, X, rfl, hsq, hok, hb4⟩
   obtain ⟨Aq, cq, rfl, -⟩ := hsq.reads
   have HSI := Lib.hid hsq
   have HFA := Lib.hid (HSF.out Ts hok)
   have HRG2 := Lib.hid (HRG.out Ts hok)
   have hqn : Ts.length ≤ n := by
    have h1 := congrArg List.length hok.heads
    rw [List.length_map] at h1
    have h2 : (headsTo C z z.length).length ≤ z.length := by
     unfold headsTo
     exact Nat.le_trans (List.length_filter_le _ _) (by simp)
    have h3 := HNZ.out
    omega
   have HB4 := Lib.hid (hb4)
   have HBW := Lib.hid (bt (bt (bt HB1.out HB2.out) HB.out) hb4)
   have hb24 := bt HB.out hb4
   have HO64 := Lib.hid (ownsRow_below HO6.out hb24)
   have hs12 := HB1.out.size
   have hs23 := HB2.out.size
   have hs34 := HB.out.size
   have hlt6 := HO6.out.lt
   have HNE5 := Lib.hid (fun (a : Addr) (h : A5 = some a) => show some a.block ≠ (Value.slice A6 N c6).ownBlock from fun e => by
    have h1 := (HO1.out.lt a.block (by rw [h]; rfl)).2
    have h2 := (hlt6 _ e.symm).1
    omega)
   have HNE8 := Lib.hid (fun (a : Addr) (h : A8 = some a) => show some a.block ≠ (Value.slice A6 N c6).ownBlock from fun e => by
    have h1 := (HO.out.lt a.block (by rw [h]; rfl)).1
    have h2 := (hlt6 _ e.symm).2
    omega)
   have HNE7 := Lib.hid (fun (a : Addr) (h : A7 = some a) => show some a.block ≠ (Value.slice A6 N c6).ownBlock from fun e => by
    rcases HTW.out with h1 | h1
    ·rw [h1] at e; cases e
    ·exact h1 (by rw [← e, h]; rfl))
   have HKP := Lib.hid (fun (V : World) (hg : w4.grownBy V (Value.slice A6 N c6).ownBlock) => show IntsAt V A5 C ∧ IntsAt V A8 K ∧ IntsAt V A7 tl ∧ SqI 50 wr.heap.size V (.slice Aq Ts.length cq) Ts X from by
    obtain ⟨A7', c7', e7, j7⟩ := HI7.out
    injection e7 with e71 _ _
    subst e71
    refine ⟨ints_kept2 (((HI5.out.below HB2.out).below HB.out).below hb4) hg HNE5.out, ints_kept2 (HI8.out.below hb4) hg HNE8.out, ints_kept2 (j7.below hb24) hg HNE7.out, HSI.out.kept hg (fun k hk => ?_)⟩
    have := (hlt6 k hk).2
    omega)
   have HLT6 := Lib.hid (fun (k : Nat) (h : (Value.slice A6 N c6).ownBlock = some k) => show w.heap.size ≤ k ∧ k < wr.heap.size from ⟨by have := (hlt6 k h).1; omega, by have := (hlt6 k h).2; omega⟩)
   clear hsq hok hb4 hb24 hs12 hs23 hs34 hlt6 HSF HRG HSQ1 HTW HI7 HI5 HI8 HO6 HO7 HNE5 HNE7 HNE8 HSI
   have HSTEP := Lib.hid (fun (i : Nat) (h : i < Ts.length) => outP_snoc rule tl K C z h)
   have HLEN0 := Lib.hid (fun (T' : List S4) => (fold_len rule tl K C T' z).trans HNZ.out.symm)
   obtain ⟨q, hq⟩ : ∃ q, Ts.length = q := ⟨_, rfl⟩
   rw [hq] at HKP hqn ⊢
   have HQ := Lib.hid hq
   clear hq
   go_wp2_with fail
   go_loopw [11] (fun s11 wx => ∃ i : Nat, i ≤ q ∧ s11 = .int .i64 i ∧ Row w1.heap.size A6 N c6 w4 (outP rule tl K C z (Ts.take i)) wx) (fun s11 _ => q - (RowKit.intOf s11).toNat)
   case atStart => exact ⟨0, Nat.zero_le _, rfl, Row.start HO64.out⟩
   case round =>
    obtain ⟨i, hi, rfl, hrow⟩ := hrel
    have HRW := Lib.hid hrow
    clear hrow HO64
    obtain ⟨wk, hwk⟩ : ∃ wk : World, wk = wr := ⟨_, rfl⟩
    have hbK := (HBW.out).grown HRW.out.gr (HBW.out.size) (fun k hk => (HLT6.out k hk).1)
    by_cases hlt : i < q
    ·have hiT : i < Ts.length := by rw [HQ.out]; exact hlt
     obtain ⟨j5, j8, j7, hsq⟩ := HKP.out wr HRW.out.gr
     obtain ⟨g, cap, xx, At, ct, ev, hBg, hglt, hXx, exx, hip, q0, q1, q2, q3, -⟩ := hsq.get hiT
     have HXlt := Lib.hid (fun (k : Nat) (h : (Value.slice At Ts[i].p.length ct).ownBlock = some k) => hsq.lt hXx (by rw [exx]; exact h))
     injection ev with ev1 ev2 ev3
     subst ev1
     subst ev3
     clear ev2
     subst exx
     obtain ⟨f1, f2, f3, f4, f5⟩ := HFA.out Ts[i] (List.getElem_mem hiT)
     have HSS := Lib.hid (HSTEP.out i hiT)
     have HON := Lib.hid (HLEN0.out (Ts.take i))
     generalize Ts[i] = s at *
     generalize outP rule tl K C z (Ts.take i) = O at *
     generalize hsa : s.a = sa at *
     generalize hsb : s.b = sb at *
     generalize hsc : s.c = sc at *
     generalize hp : s.p = p at *
     obtain ⟨m, hm⟩ : ∃ m, p.length = m := ⟨_, rfl⟩
     rw [hm] at q3 HXlt f3
     have HPM := Lib.hid hm
     have HPT := Lib.hid (show ∀ t ∈ p, t < N from fun t ht => by rw [HNZ.out]; exact f1 t ht)
     have HPN := Lib.hid (show ∀ t ∈ p, t < n from fun t ht => by have := f2 t ht; have := HCL.out; omega)
     have hm6 : m ≤ n := by have := HCL.out; omega
     have HROW := Lib.hid (show rowP rule tl K C s = (settleN sa sc sb (settleZ (weak sb (pick tl p)) (pick K p) (pick C p) sa sb)).map (levN sa) from by
      unfold rowP rule
      rw [hsa, hsb, hsc, hp, if_pos ⟨by rw [pick_len, pick_len], by rw [pick_len, pick_len]⟩])
     have HSLEN := Lib.hid (show (settleZ (weak sb (pick tl p)) (pick K p) (pick C p) sa sb).length = m from by rw [settleZ_len sa sb (by rw [weak_len, pick_len, pick_len]) (by rw [pick_len, pick_len]), weak_len, pick_len, hm])
     have HRLEN := Lib.hid (show (rowP rule tl K C s).length = m from by unfold rowP; rw [rule_len, pick_len, hp, hm])
     generalize rowP rule tl K C s = D at *
     have hi0 : (0 : Int) ≤ (i : Int) := by omega
     have hi1 : (i : Int) < (q : Int) := by omega
     have hi2 : decide (i < q) = true := decide_eq_true hlt
     have HF4 := Lib.hid f4
     have HF5 := Lib.hid (show sa ≤ 2147483647 from by omega)
     -- the sequence's variable
     have HW1 := Lib.hid (heap_alloc_new wr (.cells #[.int .i64 sa, .int .i64 sb, .int .i64 sc, .slice At m ct] 50))
     have HBW1 := Lib.hid (below_made wr (.cells #[.int .i64 sa, .int .i64 sb, .int .i64 sc, .slice At m ct] 50))
     have HJ5 := Lib.hid j5
     have HJ7 := Lib.hid j7
     have HJ8 := Lib.hid j8
     have HIP := Lib.hid hip
     clear hsq hXx hip hsa hsb hsc hp hm hiT f1 f2 f3 f4 f5 hBg hbK j5 j7 j8 HSTEP HLEN0
     go_wp2_with fail
     obtain ⟨W1, hW1⟩ : ∃ W1, wr.alloc (.cells #[.int .i64 sa, .int .i64 sb, .int .i64 sc, .slice At m ct] 50) = W1 := ⟨_, rfl⟩
     rw [hW1] at HW1 HBW1 ⊢
     obtain ⟨b12, hb12⟩ : ∃ b12, wr.heap.size = b12 := ⟨_, rfl⟩
     rw [hb12] at HW1 ⊢
     have hblt : b12 < W1.heap.size := (Array.getElem?_eq_some_iff.1 HW1.out).1
     have HBOX := Lib.hid (fun (V : World) (h : Below W1.heap.size W1 V) => show V.cell? ⟨b12, 0, none⟩ = some (.int .i64 sa) ∧ V.cell? ⟨b12, 1, none⟩ = some (.int .i64 sb) ∧ V.cell? ⟨b12, 2, none⟩ = some (.int .i64 sc) ∧ V.cell? ⟨b12, 3, none⟩ = some (.slice At m ct) from
      ⟨cell_of_row V b12 0 _ _ _ ((h.block _ hblt).trans HW1.out), cell_of_row V b12 1 _ _ _ ((h.block _ hblt).trans HW1.out), cell_of_row V b12 2 _ _ _ ((h.block _ hblt).trans HW1.out), cell_of_row V b12 3 _ _ _ ((h.block _ hblt).trans HW1.out)⟩)
     have HIN := Lib.hid (fun (V : World) (h : Below W1.heap.size W1 V) => show IntsAt V A7 tl ∧ IntsAt V At (ns p) from ⟨(HJ7.out.below HBW1.out).below h, (HIP.out.below HBW1.out).below h⟩)
     have HIN2 := Lib.hid (fun (V : World) (h : Below W1.heap.size W1 V) => show IntsAt V A5 C ∧ IntsAt V A8 K ∧ IntsAt V At (ns p) from ⟨(HJ5.out.below HBW1.out).below h, (HJ8.out.below HBW1.out).below h, (HIP.out.below HBW1.out).below h⟩)
     clear hW1 hblt q0 q1 q2 q3
     refine wp_region_words (Φ := Phi13 A7 N c7 b12 At m ct tl p sb) (N := 137) [54, 55, 56, 57, 58, 59, 60, 13] (by kernel_rfl) (by kernel_rfl) (by rfl) (by kernel_rfl) (Phi13.later A7 N c7 b12 At m ct tl p sb) ?step ?done
     case step =>
      intro i o ho f wx hb hd K9 hK
      have HD := Lib.hid hd
      obtain ⟨k0, k1, k2, k3⟩ := HBOX.out wx hb
      obtain ⟨it, ip⟩ := HIN.out wx hb
      simp only [setF, List.foldl_cons, List.foldl_nil, List.setIfInBounds_toArray, List.set_cons_zero, List.set_cons_succ] at hK ⊢
      clear hd
      match i, ho, hK, HD with
      | 0, ho, hK, HD =>
       obtain rfl := Option.some.inj ho
       clear ho
       go_simp
       exact hK.out (.slice A7 N c7) _ rfl (Below.refl _ _)
      | 1, ho, hK, HD =>
       obtain rfl := Option.some.inj ho
       clear ho
       go_simp
       exact hK.out (.pointer (some ⟨b12, 3, none⟩)) _ rfl (Below.refl _ _)
      | 2, ho, hK, HD =>
       obtain rfl := Option.some.inj ho
       clear ho
       have h55 : f 55 = .pointer (some ⟨b12, 3, none⟩) := HD.out ⟨1, .data⟩ (by simp) rfl
       simp only [h55] at hK ⊢
       go_simp
       exact hK.out (.slice At m ct) _ rfl (Below.refl _ _)
      | 3, ho, hK, HD =>
       obtain rfl := Option.some.inj ho
       clear ho
       have h54 : f 54 = .slice A7 N c7 := HD.out ⟨0, .data⟩ (by simp) rfl
       simp only [h54] at hK ⊢
       have h56 : f 56 = .slice At m ct := HD.out ⟨2, .data⟩ (by simp) rfl
       simp only [h56] at hK ⊢
       go_simp
       go_at_call 33
       refine (rpick_any A7 At tl p N m c7 ct wx it ip HTL.out HPM.out (by omega) (by omega) (by rw [HTL.out]; exact HPT.out)).mono ?_
       rintro e w2 ⟨A9, c9, rfl, o9, hb9⟩
       exact hK.out _ _ (OkI.of o9 (by rw [pick_len, HPM.out])) hb9
      | 4, ho, hK, HD =>
       obtain rfl := Option.some.inj ho
       clear ho
       go_simp
       exact hK.out (.pointer (some ⟨b12, 1, none⟩)) _ rfl (Below.refl _ _)
      | 5, ho, hK, HD =>
       obtain rfl := Option.some.inj ho
       clear ho
       have h58 : f 58 = .pointer (some ⟨b12, 1, none⟩) := HD.out ⟨4, .data⟩ (by simp) rfl
       simp only [h58] at hK ⊢
       go_simp
       exact hK.out (.int .i64 sb) _ rfl (Below.refl _ _)
      | 6, ho, hK, HD =>
       obtain rfl := Option.some.inj ho
       clear ho
       obtain ⟨A9, cA9, h57, i57⟩ : OkI (pick tl p) m (f 57) wx := HD.out ⟨3, .data⟩ (by simp) rfl
       simp only [h57] at hK ⊢
       have h59 : f 59 = .int .i64 sb := HD.out ⟨5, .data⟩ (by simp) rfl
       simp only [h59] at hK ⊢
       go_simp
       go_at_call 32
       refine (refweak_any A9 (pick tl p) m cA9 sb wx i57 (by rw [pick_len, HPM.out]) (by omega)).mono ?_
       rintro e w2 ⟨A10, c10, rfl, o10, hb10⟩
       exact hK.out _ _ (OkI.of o10 (by rw [weak_len, pick_len, HPM.out])) hb10
      | 7, ho, hK, HD =>
       obtain rfl := Option.some.inj ho
       clear ho
       obtain ⟨A9, cA9, h60, i60⟩ : OkI (weak sb (pick tl p)) m (f 60) wx := HD.out ⟨6, .data⟩ (by simp) rfl
       simp only [h60] at hK ⊢
       go_simp
       exact hK.out _ _ ⟨A9, cA9, rfl, i60⟩ (Below.refl _ _)
      | i + 8, ho, hK, HD => simp at ho
     case done =>
      intro f wx hb hall
      obtain ⟨A13, c13, h13, i13⟩ : OkI (weak sb (pick tl p)) m (f 13) wx := hall 7 (by decide)
      have HB13 := Lib.hid hb
      have H13 := Lib.hid i13
      clear hb hall i13
      simp only [setF, List.foldl_cons, List.foldl_nil, List.setIfInBounds_toArray, List.set_cons_zero, List.set_cons_succ]
      rw [h13]
      clear h13
      generalize f 54 = y54
      generalize f 55 = y55
      generalize f 56 = y56
      generalize f 57 = y57
      generalize f 58 = y58
      generalize f 59 = y59
      generalize f 60 = y60
      clear f
      go_wp2_with fail
      refine wp_region_words (Φ := Phi14 A13 c13 A8 n c8 A5 c5 b12 At m ct tl K C p sa sb) (N := 137) [61, 62, 63, 64, 65, 66, 67, 68, 69, 70, 71, 72, 73, 74, 14] (by kernel_rfl) (by kernel_rfl) (by rfl) (by kernel_rfl) (Phi14.later A13 c13 A8 n c8 A5 c5 b12 At m ct tl K C p sa sb) ?step ?done
      case step =>
       intro i o ho f wx hb hd K9 hK
       have HD := Lib.hid hd
       obtain ⟨k0, k1, k2, k3⟩ := HBOX.out wx (bt HB13.out hb)
       obtain ⟨i5, i8, ip⟩ := HIN2.out wx (bt HB13.out hb)
       have i13 := H13.out.below hb
       simp only [setF, List.foldl_cons, List.foldl_nil, List.setIfInBounds_toArray, List.set_cons_zero, List.set_cons_succ] at hK ⊢
       clear hd
       match i, ho, hK, HD with
       | 0, ho, hK, HD =>
        obtain rfl := Option.some.inj ho
        clear ho
        go_simp
        exact hK.out (.slice A13 m c13) _ rfl (Below.refl _ _)
       | 1, ho, hK, HD =>
        obtain rfl := Option.some.inj ho
        clear ho
        go_simp
        exact hK.out (.slice A8 n c8) _ rfl (Below.refl _ _)
       | 2, ho, hK, HD =>
        obtain rfl := Option.some.inj ho
        clear ho
        go_simp
        exact hK.out (.pointer (some ⟨b12, 3, none⟩)) _ rfl (Below.refl _ _)
       | 3, ho, hK, HD =>
        obtain rfl := Option.some.inj ho
        clear ho
        have h63 : f 63 = .pointer (some ⟨b12, 3, none⟩) := HD.out ⟨2, .data⟩ (by simp) rfl
        simp only [h63] at hK ⊢
        go_simp
        exact hK.out (.slice At m ct) _ rfl (Below.refl _ _)
       | 4, ho, hK, HD =>
        obtain rfl := Option.some.inj ho
        clear ho
        have h62 : f 62 = .slice A8 n c8 := HD.out ⟨1, .data⟩ (by simp) rfl
        simp only [h62] at hK ⊢
        have h64 : f 64 = .slice At m ct := HD.out ⟨3, .data⟩ (by simp) rfl
        simp only [h64] at hK ⊢
        go_simp
        go_at_call 33
        refine (rpick_any A8 At K p n m c8 ct wx i8 ip HKL.out HPM.out (by omega) (by omega) (by rw [HKL.out]; exact HPN.out)).mono ?_
        rintro e w2 ⟨A9, c9, rfl, o9, hb9⟩
        exact hK.out _ _ (OkI.of o9 (by rw [pick_len, HPM.out])) hb9
       | 5, ho, hK, HD =>
        obtain rfl := Option.some.inj ho
        clear ho
        go_simp
        exact hK.out (.slice A5 n c5) _ rfl (Below.refl _ _)
       | 6, ho, hK, HD =>
        obtain rfl := Option.some.inj ho
        clear ho
        go_simp
        exact hK.out (.pointer (some ⟨b12, 3, none⟩)) _ rfl (Below.refl _ _)
       | 7, ho, hK, HD =>
        obtain rfl := Option.some.inj ho
        clear ho
        have h67 : f 67 = .pointer (some ⟨b12, 3, none⟩) := HD.out ⟨6, .data⟩ (by simp) rfl
        simp only [h67] at hK ⊢
        go_simp
        exact hK.out (.slice At m ct) _ rfl (Below.refl _ _)
       | 8, ho, hK, HD =>
        obtain rfl := Option.some.inj ho
        clear ho
        have h66 : f 66 = .slice A5 n c5 := HD.out ⟨5, .data⟩ (by simp) rfl
        simp only [h66] at hK ⊢
        have h68 : f 68 = .slice At m ct := HD.out ⟨7, .data⟩ (by simp) rfl
        simp only [h68] at hK ⊢
        go_simp
        go_at_call 33
        refine (rpick_any A5 At C p n m c5 ct wx i5 ip HCL.out HPM.out (by omega) (by omega) (by rw [HCL.out]; exact HPN.out)).mono ?_
        rintro e w2 ⟨A9, c9, rfl, o9, hb9⟩
        exact hK.out _ _ (OkI.of o9 (by rw [pick_len, HPM.out])) hb9
       | 9, ho, hK, HD =>
        obtain rfl := Option.some.inj ho
        clear ho
        go_simp
        exact hK.out (.pointer (some ⟨b12, 0, none⟩)) _ rfl (Below.refl _ _)
       | 10, ho, hK, HD =>
        obtain rfl := Option.some.inj ho
        clear ho
        have h70 : f 70 = .pointer (some ⟨b12, 0, none⟩) := HD.out ⟨9, .data⟩ (by simp) rfl
        simp only [h70] at hK ⊢
        go_simp
        exact hK.out (.int .i64 sa) _ rfl (Below.refl _ _)
       | 11, ho, hK, HD =>
        obtain rfl := Option.some.inj ho
        clear ho
        go_simp
        exact hK.out (.pointer (some ⟨b12, 1, none⟩)) _ rfl (Below.refl _ _)
       | 12, ho, hK, HD =>
        obtain rfl := Option.some.inj ho
        clear ho
        have h72 : f 72 = .pointer (some ⟨b12, 1, none⟩) := HD.out ⟨11, .data⟩ (by simp) rfl
        simp only [h72] at hK ⊢
        go_simp
        exact hK.out (.int .i64 sb) _ rfl (Below.refl _ _)
       | 13, ho, hK, HD =>
        obtain rfl := Option.some.inj ho
        clear ho
        have h61 : f 61 = .slice A13 m c13 := HD.out ⟨0, .data⟩ (by simp) rfl
        simp only [h61] at hK ⊢
        obtain ⟨A9, cA9, h65, i65⟩ : OkI (pick K p) m (f 65) wx := HD.out ⟨4, .data⟩ (by simp) rfl
        simp only [h65] at hK ⊢
        obtain ⟨A10, cA10, h69, i69⟩ : OkI (pick C p) m (f 69) wx := HD.out ⟨8, .data⟩ (by simp) rfl
        simp only [h69] at hK ⊢
        have h71 : f 71 = .int .i64 sa := HD.out ⟨10, .data⟩ (by simp) rfl
        simp only [h71] at hK ⊢
        have h73 : f 73 = .int .i64 sb := HD.out ⟨12, .data⟩ (by simp) rfl
        simp only [h73] at hK ⊢
        go_simp
        go_at_call 34
        refine (Pb.rbrackets_any A13 A9 A10 (weak sb (pick tl p)) (pick K p) (pick C p) m m m c13 cA9 cA10 sa sb wx i13 i65 i69 (by rw [weak_len, pick_len, HPM.out]) (by rw [pick_len, HPM.out]) (by rw [pick_len, HPM.out]) (by omega)).mono ?_
        rintro e w2 ⟨A11, c11, rfl, o11, hb11⟩
        have hsl : (settleZ (weak sb (pick tl p)) (pick K p) (pick C p) sa sb).length = m := by rw [settleZ_len sa sb (by rw [weak_len, pick_len, pick_len]) (by rw [pick_len, pick_len]), weak_len, pick_len, HPM.out]
        rw [hsl] at o11 ⊢
        exact hK.out _ _ (OkI.of o11 hsl) hb11
       | 14, ho, hK, HD =>
        obtain rfl := Option.some.inj ho
        clear ho
        obtain ⟨A9, cA9, h74, i74⟩ : OkI (settleZ (weak sb (pick tl p)) (pick K p) (pick C p) sa sb) m (f 74) wx := HD.out ⟨13, .data⟩ (by simp) rfl
        simp only [h74] at hK ⊢
        go_simp
        exact hK.out _ _ ⟨A9, cA9, rfl, i74⟩ (Below.refl _ _)
       | i + 15, ho, hK, HD => simp at ho
      case done =>
       intro f wy hb hall
       obtain ⟨A14, c14, h14, i14⟩ : OkI (settleZ (weak sb (pick tl p)) (pick K p) (pick C p) sa sb) m (f 14) wy := hall 14 (by decide)
       have HB14 := Lib.hid (bt HB13.out hb)
       have HST := Lib.hid (rsettle_any A14 (settleZ (weak sb (pick tl p)) (pick K p) (pick C p) sa sb) m c14 sa sb sc wy i14 HSLEN.out (by omega))
       obtain ⟨e0, e1, e2, e3⟩ := HBOX.out wy HB14.out
       clear hb hall i14 H13 HB13 HIN HIN2
       simp only [setF, List.foldl_cons, List.foldl_nil, List.setIfInBounds_toArray, List.set_cons_zero, List.set_cons_succ]
       rw [h14]
       clear h14
       generalize f 61 = y61
       generalize f 62 = y62
       generalize f 63 = y63
       generalize f 64 = y64
       generalize f 65 = y65
       generalize f 66 = y66
       generalize f 67 = y67
       generalize f 68 = y68
       generalize f 69 = y69
       generalize f 70 = y70
       generalize f 71 = y71
       generalize f 72 = y72
       generalize f 73 = y73
       generalize f 74 = y74
       clear f
       go_wp2_with fail
       refine HST.out.mono ?_
       rintro e w15 ⟨A15, c15, rfl, o15, hb15⟩
       obtain ⟨A15', c15', e15, i15⟩ := intsAt_icl o15 (by rw [settle_len, HSLEN.out])
       injection e15 with e151 _ e153
       subst e151
       subst e153
       have HLV := Lib.hid (rlevels_any A15 (settleN sa sc sb (settleZ (weak sb (pick tl p)) (pick K p) (pick C p) sa sb)) m c15 sa w15 i15 (by rw [settle_len, HSLEN.out]) (by omega) HF4.out HF5.out)
       have HB15 := Lib.hid (bt HB14.out hb15)
       obtain ⟨e0, e1, e2, e3⟩ := HBOX.out w15 HB15.out
       clear o15 i15 hb15 HST HB14
       go_wp2_with fail
       refine HLV.out.mono ?_
       rintro e w16 ⟨A16, c16, rfl, o16, hb16⟩
       rw [← HROW.out] at o16
       have HB16 := Lib.hid (bt HB15.out hb16)
       have HO16 := Lib.hid o16
       obtain ⟨A16', c16', e16, i16⟩ := intsAt_icl o16 HRLEN.out
       injection e16 with e161 _ e163
       subst e161
       subst e163
       have HI16 := Lib.hid i16
       have HR16 := Lib.hid ((HRW.out.below HBW1.out).below HB16.out)
       have hsz16 := HB16.out.size
       have hszW := HBW1.out.size
       have hs16 := hb16.size
       have hs15 := HB15.out.size
       have HNA := Lib.hid (fun (a : Addr) (h : At = some a) => show some a.block ≠ (Value.slice A6 N c6).ownBlock from fun e => by
        have h1 := (HXlt.out a.block (by rw [h]; rfl)).1
        have h2 := (HLT6.out _ e.symm).2
        omega)
       have HN16 := Lib.hid (fun (a : Addr) (h : A16 = some a) => show some a.block ≠ (Value.slice A6 N c6).ownBlock from fun e => by
        have h1 := (HO16.out.lt a.block (by rw [h]; rfl)).1
        have h2 := (HRW.out.base _ e.symm).2
        omega)
       have HNB := Lib.hid (show some b12 ≠ (Value.slice A6 N c6).ownBlock from fun e => by
        have h2 := (HRW.out.base _ e.symm).2
        omega)
       have HIP16 := Lib.hid ((HIP.out.below HBW1.out).below HB16.out)
       clear o16 i16 hb16 HLV HB15 hs16 hs15
       go_wp2_with fail
       go_loopw [17] (fun s17 wx => ∃ k : Nat, k ≤ m ∧ s17 = .int .i64 k ∧ Row w1.heap.size A6 N c6 w16 (putR O (p.take k) (D.take k)) wx) (fun s17 _ => m - (RowKit.intOf s17).toNat)
       case atStart => exact ⟨0, Nat.zero_le _, rfl, by simpa [putR] using Row.start HR16.out.own⟩
       case round =>
        obtain ⟨k, hk, rfl, hrow⟩ := hrel
        have HRX := Lib.hid hrow
        clear hrow
        by_cases hkm : k < m
        ·have hkp : k < p.length := by rw [HPM.out]; exact hkm
         have hkd : k < D.length := by rw [HRLEN.out]; exact hkm
         have hpN := HPT.out _ (List.getElem_mem hkp)
         have HSN := Lib.hid (putR_snoc p D O hkp (by rw [HRLEN.out, HPM.out]))
         have hkn : k < (ns p).length := by rw [ns_len]; exact hkp
         obtain ⟨ga, oa, hAt, hca⟩ := (ints_kept2 HIP16.out HRX.out.gr HNA.out).at_ hkn
         obtain ⟨gd, od, hAd, hcd⟩ := (ints_kept2 HI16.out HRX.out.gr HN16.out).at_ hkd
         have hns : (ns p)[k] = ((p[k] : Nat) : Int) := by simp [ns]
         rw [hns] at hca
         have hbx := HRX.out.gr.cell (HBOX.out w16 HB16.out).2.2.2 HNB.out
         rw [hAt] at hbx
         have hq6 : p[k] < (putR O (p.take k) (D.take k)).length := by rw [putR_len, HON.out]; exact hpN
         have hlt6 := HLT6.out
         have h6 := own_head HRX.out.own (by omega)
         obtain ⟨g6, hg6⟩ := h6
         subst hg6
         subst hAd
         obtain ⟨hc6, hf6⟩ := own_int HRX.out.own (List.getElem?_eq_getElem hq6)
         have hrn := row_set HRX.out p[k] D[k]
         rw [← HSN.out] at hrn
         have HRN := Lib.hid hrn.drew
         clear hrn
         generalize (putR O (p.take k) (D.take k))[p[k]] = old at *
         generalize D[k] = y at *
         generalize p[k] = t at *
         have jk0 : (0 : Int) ≤ (k : Int) := by omega
         have jk1 : (k : Int) < (m : Int) := by omega
         have jt0 : (0 : Int) ≤ (t : Int) := by omega
         have jt1 : (t : Int) < (N : Int) := by omega
         have t1 : decide ((t : Int) < 0) = false := decide_eq_false (by omega)
         have t2 : decide ((k : Int) < 0) = false := decide_eq_false (by omega)
         have t3 : decide ((N : Int) ≤ (t : Int)) = false := decide_eq_false (by omega)
         have t4 : decide ((m : Int) ≤ (k : Int)) = false := decide_eq_false (by omega)
         have t5 : decide (N ≤ t) = false := decide_eq_false (by omega)
         have t6 : decide (m ≤ k) = false := decide_eq_false (by omega)
         clear hkp hkd hkn hns hq6 hpN hlt6 hAt e0 e1 e2 e3
         go_wp2_with fail
         go_region
         all_goals go_wp2_with fail
         all_goals go_roundw
         case rel => exact ⟨k + 1, by omega, by go_num, HRN.out⟩
         case measure => simp [RowKit.intOf] <;> omega
        ·obtain rfl : k = m := by omega
         have HFIN := Lib.hid (show Row w1.heap.size A6 N c6 w4 (outP rule tl K C z (Ts.take (i + 1))) wr from by
          have e : putR O (p.take k) (D.take k) = putR O p D := by
           rw [List.take_of_length_le (by rw [HPM.out]; exact Nat.le_refl _), List.take_of_length_le (by rw [HRLEN.out]; exact Nat.le_refl _)]
          rw [HSS.out, ← e]
          exact ⟨HRX.out.own, grown_trans HR16.out.gr HRX.out.gr⟩)
         clear e0 e1 e2 e3
         go_wp2_with fail
         go_roundw
         case rel => exact ⟨i + 1, by omega, by go_num, HFIN.out⟩
         case measure => simp [RowKit.intOf] <;> omega
    ·obtain rfl : i = q := by omega
     have hTk : Ts.take i = Ts := List.take_of_length_le (by rw [HQ.out]; exact Nat.le_refl _)
     rw [hTk] at HRW
     have HOL := Lib.hid (HLEN0.out Ts)
     generalize outP rule tl K C z Ts = O at *
     have HST0 := Lib.hid (show wr.ownsRow w1.heap.size 3 1 (.slice A6 N c6) N (icl ((fillP x O).take 0 ++ O.drop 0)) from by simpa using HRW.out.own)
     have HBK := Lib.hid hbK
     have hw1 := HB1.out.size
     clear hTk hbK HSTEP HLEN0 HFA HKP HQ
     go_wp2_with fail
     go_loopw [18] (fun s18 wx => ∃ k : Nat, k ≤ N ∧ s18 = .int .i64 k ∧ wx.ownsRow w1.heap.size 3 1 (.slice A6 N c6) N (icl ((fillP x O).take k ++ O.drop k)) ∧ Below w.heap.size w wx) (fun s18 _ => N - (RowKit.intOf s18).toNat)
     case atStart => exact ⟨0, Nat.zero_le _, rfl, HST0.out, HBK.out⟩
     case round =>
      obtain ⟨k, hk, rfl, hown, hb⟩ := hrel
      have HOX := Lib.hid hown
      have HBX := Lib.hid hb
      clear hown hb HST0 HBK
      by_cases hkN : k < N
      ·have hkO : k < O.length := by rw [HOL.out]; exact hkN
       have hx := HX01.out (by omega)
       have hfl : (fillP x O).length = N := by rw [fill_len, HOL.out]
       have hlk : ((fillP x O).take k).length = k := by rw [List.length_take]; omega
       have hat : ((fillP x O).take k ++ O.drop k)[k]? = some O[k] := by
        rw [List.getElem?_append_right (by omega), hlk, Nat.sub_self, List.drop_eq_getElem_cons hkO]
        rfl
       have hset : ∀ y, (fillP x O)[k]? = some y → ((fillP x O).take k ++ O.drop k).set k y = (fillP x O).take (k + 1) ++ O.drop (k + 1) := fun y hy => by
        rw [List.set_append_right _ _ (by omega), hlk, Nat.sub_self, List.drop_eq_getElem_cons hkO, List.set_cons_zero, List.take_add_one, hy]
        simp
       have hfa := fill_at x O hkO
       obtain ⟨g6, hg6⟩ := own_head HOX.out (by omega)
       subst hg6
       obtain ⟨hc6, hf6⟩ := own_int HOX.out hat
       have hgw := (HOX.out.lt g6 rfl).1
       have jk0 : (0 : Int) ≤ (k : Int) := by omega
       have jk1 : (k : Int) < (N : Int) := by omega
       by_cases hneg : O[k] < 0
       ·rw [if_pos hneg] at hfa
        have n1 : decide (O[k] < 0) = true := decide_eq_true hneg
        cases k with
        | zero =>
         rw [if_pos rfl] at hfa
         have hp := (HOX.out.stored 0 (.int .i64 x)).1
         rw [show (icl ((fillP x O).take 0 ++ O.drop 0)).set 0 (.int .i64 x) = icl (((fillP x O).take 0 ++ O.drop 0).set 0 x) from by simp [icl], hset x hfa] at hp
         have HP := Lib.hid hp
         have HBP := Lib.hid (HBX.out.setCell (p := ⟨g6, 0, none⟩) (show w.heap.size ≤ g6 by omega) (.int .i64 x))
         have x1 : decide (x < 0) = false := decide_eq_false (by omega)
         generalize O[0] = o at *
         clear hneg hset hfa hat hlk hfl hp hkO hx
         go_wp2_with fail
         go_roundw
         case rel => exact ⟨1, by omega, by go_num, HP.out, HBP.out⟩
         case measure => simp [RowKit.intOf] <;> omega
        | succ j =>
         rw [if_neg (by omega), show j + 1 - 1 = j from rfl] at hfa
         have hjf : j < (fillP x O).length := by omega
         have hy : ((fillP x O).take (j + 1) ++ O.drop (j + 1))[j]? = some ((fillP x O).getD j 0) := by
          rw [List.getElem?_append_left (by omega), List.getElem?_take, if_pos (by omega), List.getD_eq_getElem?_getD, List.getElem?_eq_getElem hjf]
          rfl
         obtain ⟨hc7, -⟩ := own_int HOX.out hy
         generalize (fillP x O).getD j 0 = y at *
         have hp := (HOX.out.stored (j + 1) (.int .i64 y)).1
         rw [show (icl ((fillP x O).take (j + 1) ++ O.drop (j + 1))).set (j + 1) (.int .i64 y) = icl (((fillP x O).take (j + 1) ++ O.drop (j + 1)).set (j + 1) y) from by simp [icl], hset y hfa] at hp
         have HP := Lib.hid hp
         have HBP := Lib.hid (HBX.out.setCell (p := ⟨g6, j + 1, none⟩) (show w.heap.size ≤ g6 by omega) (.int .i64 y))
         generalize O[j + 1] = o at *
         have jz : (((j + 1 : Nat) : Int) == 0) = false := beq_eq_false_iff_ne.2 (by omega)
         have jz2 : (((j : Nat) : Int) + 1 == 0) = false := beq_eq_false_iff_ne.2 (by omega)
         have jj0 : (0 : Int) ≤ (j : Int) := by omega
         have jj1 : (j : Int) < (N : Int) := by omega
         have jw : IntKind.i64.wrap ((j : Int) + 1 - 1) = (j : Int) := by rw [IntKind.wrap_i64]; omega
         clear hneg hset hfa hat hlk hfl hp hkO hx hjf hy
         go_wp2_with fail
         all_goals go_roundw
         case rel => exact ⟨j + 1 + 1, by omega, by go_num, HP.out, HBP.out⟩
         case measure => simp [RowKit.intOf] <;> omega
       ·rw [if_neg hneg] at hfa
        have n1 : decide (O[k] < 0) = false := decide_eq_false hneg
        have HP := Lib.hid (show wr.ownsRow w1.heap.size 3 1 (.slice (some ⟨g6, 0, none⟩) N c6) N (icl ((fillP x O).take (k + 1) ++ O.drop (k + 1))) from by
         have e : (fillP x O).take (k + 1) ++ O.drop (k + 1) = (fillP x O).take k ++ O.drop k := by
          rw [List.take_add_one, hfa, List.drop_eq_getElem_cons hkO]
          simp
         rw [e]
         exact HOX.out)
        generalize O[k] = o at *
        clear hneg hset hfa hat hlk hfl hkO hx
        go_wp2_with fail
        go_roundw
        case rel => exact ⟨k + 1, by omega, by go_num, HP.out, HBX.out⟩
        case measure => simp [RowKit.intOf] <;> omega
      ·obtain rfl : k = N := by omega
       have HE := Lib.hid (show (fillP x O).take k ++ O.drop k = resZ C K x from by
        rw [List.take_of_length_le (by rw [fill_len, HOL.out]; exact Nat.le_refl _), List.drop_eq_nil_of_le (by rw [HOL.out]; exact Nat.le_refl _), List.append_nil]
        exact HRG2.out)
       have HLN := Lib.hid (show (resZ C K x).length = k from by rw [← HRG2.out, fill_len, HOL.out])
       go_wp2_with fail
       go_ret
       refine ⟨A6, c6, by rw [HLN.out]; rfl, ?_, HBX.out⟩
       rw [HLN.out, ← HE.out]
       exact HOX.out.mono HB1.out.size
end Go.Proofs.YtfclpecbnailgaaGreat.Bi
