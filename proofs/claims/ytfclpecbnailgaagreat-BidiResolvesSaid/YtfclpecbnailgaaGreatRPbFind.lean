/-
 Proved here: what pairs.Find returns: a new row of the pairs, by the plain findP. It leaves what was in memory.
-/
import Derived.Test.YtfclpecbnailgaaGreatR9
import Derived.Test.YtfclpecbnailgaaGreatR10
import Derived.Test.YtfclpecbnailgaaGreatR4
set_option linter.unusedVariables false
set_option linter.unusedSimpArgs false
namespace Go.Proofs.YtfclpecbnailgaaGreat.Pb
open Go Go.RowKit Go.Lib Go.Shelf Go.Proofs.YtfclpecbnailgaaGreat.Cl Go.Proofs.YtfclpecbnailgaaGreat.Pr Go.Proofs.YtfclpecbnailgaaGreat.Mi Go.Proofs.YtfclpecbnailgaaGreat.Wk
attribute [local go_sem] Oper.semAt_some
theorem found_start (w : World) (cs : Value) : FindAt w (((w.alloc (.cells #[cs] 25)).alloc (.cells #[.slice none 0 0] 91)).alloc (.cells #[.slice none 0 0] 150)) cs (.slice none 0 0) (.slice none 0 0) [] [] := by
 refine ⟨((Boxed.new w _ cs).alloc _).alloc _, ?_, ?_, World.ownsRow_nil _ _ _ _, World.ownsRow_nil _ _ _ _, ?_⟩
 ·have h := Boxed.new (w.alloc (.cells #[cs] 25)) 91 (.slice none 0 0)
  rw [World.size_alloc] at h
  exact h.alloc _
 ·have h := Boxed.new ((w.alloc (.cells #[cs] 25)).alloc (.cells #[.slice none 0 0] 91)) 150 (.slice none 0 0)
  rw [World.size_alloc, World.size_alloc] at h
  exact h
 ·have h1 := below_made w (.cells #[cs] 25)
  have h2 := h1.trans ((below_made _ (.cells #[.slice none 0 0] 91)).mono h1.size)
  exact h2.trans ((below_made _ _).mono h2.size)
/-- What holds behind the places. -/
def EndAt (w : World) (tv cs : Value) (L : List (Nat × Nat)) (a : Act) (W : World) : Prop :=
 ∃ (Ds : List Nat) (vl vo : Value) (Z : List Int) (nv iv : Value), FitPbFi a (Ds.map markOf) tv (.pointer (some ⟨w.heap.size, 0, none⟩)) (.slice none 0 0) (.pointer (some ⟨w.heap.size + 1, 0, none⟩)) (.pointer (some ⟨w.heap.size + 1 + 1, 0, none⟩)) cs nv iv ∧
  Ds.Nodup ∧ (∀ D ∈ Ds, w.heap.size ≤ D ∧ W.heap[D]? = some (.deferred (some []))) ∧ FindAt w W cs vl vo L Z
def LoopAt (w : World) (T C : List Int) (tv cs : Value) (n : Nat) (a : Act) (W : World) : Prop :=
 ∃ (Ds : List Nat) (vl vo : Value) (L : List (Nat × Nat)) (st : List (Nat × Int)) (i : Nat), FitPbFi a (Ds.map markOf) tv (.pointer (some ⟨w.heap.size, 0, none⟩)) (.slice none 0 0) (.pointer (some ⟨w.heap.size + 1, 0, none⟩)) (.pointer (some ⟨w.heap.size + 1 + 1, 0, none⟩)) cs (.int .i64 n) (.int .i64 i) ∧
  Ds.Nodup ∧ (∀ D ∈ Ds, w.heap.size ≤ D ∧ W.heap[D]? = some (.deferred (some []))) ∧ FindAt w W cs vl vo L (stI st) ∧ i ≤ n ∧ Pr.Open T C i st ∧ st.length ≤ 63 ∧ L ++ ends i st ((T.zip C).drop i) = ends 0 [] (T.zip C)
theorem boxed_new {W : World} {B : Nat} (t : TypeId) (v : Value) (hB : W.heap.size = B) : Boxed (W.alloc (.cells #[v] t)) B t v := by
 subst hB
 exact Boxed.new W t v
theorem cells_new {w : World} {B : Nat} {vs : List Value} {t : TypeId} (h : w.heap.size = B) : ∀ j u, vs[j]? = some u → (w.alloc (.cells vs.toArray t)).cell? ((⟨B, 0, none⟩ : Addr).add j) = some u := by
 intro j u hj
 subst h
 rw [add_offP, Nat.zero_add, cell_of_row _ _ _ _ _ _ (heap_alloc_last _ _)]
 simpa using hj
theorem push_own {W : World} {b i : Nat} {v : Value} {st : List (Nat × Int)} (c : Int) (h : W.ownsRow b 3 1 v (st.length + 1) (icl (stI st) ++ [.int .i64 i])) : W.ownsRow b 3 1 v (stI ((i, c) :: st)).length (icl (stI ((i, c) :: st))) := by
 rw [stI_len, stI_push, icl_append]
 exact h
theorem keeps_below {W W' : World} (h : Below W.heap.size W W') : KeepsOthers W W' := ⟨h.size, fun k o hk _ => (h.block k (Array.getElem?_eq_some_iff.1 hk).1).trans hk⟩
theorem marks_kept {B : Nat} {W W' : World} {Ds : List Nat} (h : KeepsOthers W W') (hD : ∀ D ∈ Ds, B ≤ D ∧ W.heap[D]? = some (.deferred (some []))) : ∀ D ∈ Ds, B ≤ D ∧ W'.heap[D]? = some (.deferred (some [])) :=
 fun D hd => ⟨(hD D hd).1, h.same D _ (hD D hd).2 rfl⟩
theorem own_shape {W : World} {b e s n : Nat} {v : Value} {xs : List Value} (h : W.ownsRow b e s v n xs) : ∃ A cap, v = .slice A n cap := by
 rcases h.2 with ⟨rfl, rfl⟩ | ⟨g, cap, cur, rfl, _⟩
 ·exact ⟨_, _, rfl⟩
 ·exact ⟨_, _, rfl⟩
theorem infoPair : (Tryz.prog.info? 95).map (fun i => (i.zero, i.size, i.bytes)) = some (some (.agg #[.int .i64 0, .int .i64 0]), 2, 16) := by kernel_rfl
/-- Where a round leaves: a pair more, and the stack cut. -/
def OutAt (w W2 : World) (cs : Value) (st : List (Nat × Int)) (c : Int) (L : List (Nat × Nat)) (i : Nat) (Ds : List Nat) (code : Code) (_ : List (Nat × Int)) (V : World) : Prop :=
 code = .exit 1 ∧ ∃ (s1 : List (Nat × Int)) (k : Nat) (o : Int) (s2 : List (Nat × Int)) (vl vo : Value), st = s1 ++ (k, o) :: s2 ∧ meetT o c = true ∧ (∀ y : Nat × Int, y ∈ s1 → meetT y.2 c = false) ∧ FindAt w V cs vl vo (L ++ [(k, i)]) (stI s2) ∧
  ∀ D ∈ Ds, w.heap.size ≤ D ∧ D < W2.heap.size ∧ V.heap[D]? = some (.deferred (some []))
theorem OutAt.own (w W2 : World) (cs : Value) (st : List (Nat × Int)) (c : Int) (L : List (Nat × Nat)) (i : Nat) (Ds : List Nat) (hw : w.heap.size ≤ W2.heap.size) (code : Code) : OwnFrom W2.heap.size (OutAt w W2 cs st c L i Ds code) := by
 rintro s X Y row ⟨he, s1, k, o, s2, vl, vo, h1, h2, h3, h4, h5⟩ hg hr
 refine ⟨he, s1, k, o, s2, vl, vo, h1, h2, h3, h4.kept hg (fun r e => ⟨Nat.le_trans hw (hr r e).1, (hr r e).2⟩), fun D hD => ?_⟩
 obtain ⟨g1, g2, g3⟩ := h5 D hD
 exact ⟨g1, g2, (hg.block D (Array.getElem?_eq_some_iff.1 g3).1 (fun e => by have := (hr D e.symm).1; omega)).trans g3⟩
theorem marks_more {B : Nat} {W2 V : World} {Ds : List Nat} {D : Nat} (hD : W2.heap.size ≤ D) (h : ∀ D ∈ Ds, B ≤ D ∧ D < W2.heap.size ∧ W2.heap[D]? = some (.deferred (some []))) (hk : ∀ D ∈ Ds, V.heap[D]? = some (.deferred (some []))) (hm : V.heap[D]? = some (.deferred (some []))) (hB : B ≤ W2.heap.size) :
  ∀ D' ∈ D :: Ds, B ≤ D' ∧ V.heap[D']? = some (.deferred (some [])) := by
 intro D' hd
 rcases List.mem_cons.1 hd with rfl | hd
 ·exact ⟨Nat.le_trans hB hD, hm⟩
 ·exact ⟨(h D' hd).1, hk D' hd⟩
theorem nodup_more {B : Nat} {W2 : World} {Ds : List Nat} {D : Nat} (hD : W2.heap.size ≤ D) (h : ∀ D ∈ Ds, B ≤ D ∧ D < W2.heap.size ∧ W2.heap[D]? = some (.deferred (some []))) (hn : Ds.Nodup) : (D :: Ds).Nodup :=
 List.nodup_cons.2 ⟨fun hm => by have := (h D hm).2.1; omega, hn⟩
theorem ints_cell {w : World} {b off : Nat} {zs : List Int} (h : IntsAt w (some ⟨b, off, none⟩) zs) {k : Nat} {z : Int} (hz : zs[k]? = some z) : w.cell? ⟨b, off + k, none⟩ = some (.int .i64 z) := by
 obtain ⟨hk, rfl⟩ := List.getElem?_eq_some_iff.1 hz
 obtain ⟨b', off', e, hc⟩ := h.at_ hk
 injection e with e
 injection e with e1 e2
 subst e1 e2
 exact hc
theorem own_some {W : World} {b e s n cap m : Nat} {A : Option Addr} {xs : List Value} (h : W.ownsRow b e s (.slice A n cap) m xs) (hm : 0 < m) : ∃ g, A = some ⟨g, 0, none⟩ ∧ n ≤ cap := by
 rcases h.2 with ⟨_, h0⟩ | ⟨g, cap', cur, e, _, _, hle, _⟩
 ·omega
 ·injection e with e1 e2 e3
  subst e1 e2 e3
  exact ⟨g, rfl, hle⟩
theorem pair_own {W : World} {b k i : Nat} {v : Value} {L : List (Nat × Nat)} (h : W.ownsRow b 95 2 v (L.length + 1) (cellsP L ++ [.int .i64 k, .int .i64 i])) : W.ownsRow b 95 2 v (L ++ [(k, i)]).length (cellsP (L ++ [(k, i)])) := by
 rw [List.length_append, cellsP_snoc]
 exact h
theorem ends_len : ∀ (r : List (Int × Int)) (i : Nat) (st : List (Nat × Int)), (ends i st r).length ≤ r.length
 | [], _, _ => Nat.le_refl _
 | (t, c) :: r, i, st => by
  rw [ends]
  split
  ·have := ends_len r (i + 1) st; simp; omega
  ·split
   ·split
    ·simp
    ·have := ends_len r (i + 1) ((i, c) :: st); simp; omega
   ·split
    ·have := ends_len r (i + 1) st; simp; omega
    ·have := ends_len r (i + 1) ‹_›; simp; omega
theorem ends_firsts (T C : List Int) : (ends 0 [] (T.zip C)).Pairwise fun p q => p.1 ≠ q.1 :=
 (ends_apart T C _ 0 [] (Pr.Open.nil T C 0) (fun j t c => zip_at j t c)).imp (fun h => h.2.2.1)
theorem rising_of {M L : List (Nat × Nat)} (hp : M.Perm L) (hs : M.Pairwise fun p q => p.1 ≤ q.1) (hL : L.Pairwise fun p q => p.1 ≠ q.1) : Rising M := by
 have h2 : M.Pairwise fun p q => p.1 ≠ q.1 := (hp.pairwise_iff (fun h e => h e.symm)).2 hL
 exact (List.pairwise_and_iff.2 ⟨hs, h2⟩).imp (fun h => by omega)
set_option maxHeartbeats 4000000 in
set_option maxRecDepth 100000 in
theorem find_like (A1 A2 : Option Addr) (T C : List Int) (n c1 c2 : Nat) (w : World) (hT : IntsAt w A1 T) (hC : IntsAt w A2 C) (hlT : T.length = n) (hlC : C.length = n) (hn : n ≤ 1099511627776) :
  Calls Tryz.prog 100 #[.slice A1 n c1, .slice A2 n c2] w fun e w' => ∃ v, e = .returned v ∧ w'.ownsRow w.heap.size 95 2 v (findP T C).length (cellsP (findP T C)) ∧ Below w.heap.size w w' := by
 have HT := Lib.hid hT
 have HC := Lib.hid hC
 have HLT := Lib.hid hlT
 have HLC := Lib.hid hlC
 clear hT hC hlT hlC
 refine (callsIn_wide (n := 6)).1 ?_
 refine callsIn_of_wp_marks Tryz.func100 rfl trivial (wpIn_wide.2 ?_) rfl
 simp only [Tryz.ntmps100, List.size_toArray, List.length_cons, List.length_nil, Nat.reduceAdd, Nat.reduceSub, Array.replicate_succ, Array.replicate_zero, List.push_toArray, List.append_toArray, List.nil_append, List.cons_append]
 go_wp2_with fail
 refine Cv.wp_scope_many (fun _ _ _ => False) (fun _ _ _ => 0) ?_ (fun _ _ _ h => h.elim)
 go_wp2_with fail
 have h0 := found_start w (.slice A2 n c2)
 obtain ⟨w3, hw3⟩ : ∃ W, ((w.alloc (.cells #[.slice A2 n c2] 25)).alloc (.cells #[.slice none 0 0] 91)).alloc (.cells #[.slice none 0 0] 150) = W := ⟨_, rfl⟩
 rw [hw3] at h0 ⊢
 clear hw3
 go_step3
 rename_i K hK
 refine hK _ _ ?_
 clear hK
 refine wp_seq_k (fun K2 hK2 => ?_)
 have HE : ∀ a W, EndAt w (.slice A1 n c1) (.slice A2 n c2) (ends 0 [] (T.zip C)) a W → K2 a W := by
  rintro a W ⟨Ds, vl, vo, Z, nv, iv, hfit, hnd, hD, hF⟩
  refine hK2 _ _ ?_
  clear hK2
  obtain ⟨g, rfl⟩ := hfit.opened
  have hcl := hF.bl.cell
  have HS := Lib.hid (sort_any w.heap.size vl _ _ W hF.ol (by
   have := ends_len (T.zip C) 0 []
   rw [List.length_zip, HLT.out, HLC.out] at this
   omega))
  have HF := Lib.hid hF
  have HD := Lib.hid hD
  have HN := Lib.hid hnd
  clear hfit hF hD hnd
  go_wp2_with fail
  refine HS.out.mono ?_
  rintro e W2 ⟨rfl, M, hp, hs, hown, hgr⟩
  have hbl := HF.out.bl.kept hgr (HF.out.bl.not_row (by decide) HF.out.ol)
  have hcl2 := hbl.cell
  have HM := Lib.hid (show M = findP T C from find_unique (by rw [HLT.out, HLC.out]) (rising_of hp hs (ends_firsts T C)) (fun p => hp.mem_iff))
  have HO := Lib.hid hown
  have HG := Lib.hid hgr
  have HB := Lib.hid (HF.out.below.grown hgr HF.out.below.size (fun k e => (HF.out.ol.lt k e).1))
  clear hcl hbl hp hs hown hgr HS
  go_wp2_with fail
  show LeavesInM Fence.wide 6 Tryz.prog Tryz.f100 _ _ (Ds.map markOf) .returning W2
  refine leaves_marks (fun W => W.ownsRow w.heap.size 95 2 vl (ends 0 [] (T.zip C)).length (cellsP M) ∧ Below w.heap.size w W) w.heap.size ?_ ?_ Ds W2 HN.out (fun D hD => ⟨(HD.out D hD).1, ?_⟩) ⟨HO.out, HB.out⟩
  ·rintro W D ⟨h1, h2⟩ h3 h4
   exact ⟨ownsRow_putObj h1 _ h4 rfl, h2.trans (belowK_b (w := w) (Nat.le_refl _) W D _ _ h3 h4 rfl rfl)⟩
  ·rintro W ⟨h1, h2⟩
   refine ⟨_, results_tmp rfl _ _ _, vl, rfl, ?_, h2⟩
   rw [← HM.out]
   have hl : M.length = (ends 0 [] (T.zip C)).length := by
    have := h1.1
    rw [cellsP_len] at this
    omega
   rw [hl]
   exact h1
  ·have h1 := (HD.out D hD).2
   refine (HG.out.block D (Array.getElem?_eq_some_iff.1 h1).1 (fun e => ?_)).trans h1
   rcases HF.out.ol.2 with ⟨e2, _⟩ | ⟨g', cap', cur', e2, _, hg', _⟩
   ·rw [e2] at e; cases e
   ·rw [e2] at e
    obtain rfl : D = g' := by simpa [Value.ownBlock] using e
    rw [hg'] at h1
    cases h1
 have HEND := Lib.hid HE
 clear HE hK2
 have hcb := h0.bc.cell
 go_wp2_with fail
 refine wp_loop (fun a W => LoopAt w T C (.slice A1 n c1) (.slice A2 n c2) n a W) (fun a _ => n - (RowKit.intOf (a.tmps.getD 20 undef)).toNat) ?_ ?_
 ·exact ⟨[], _, _, [], [], 0, ⟨rfl, rfl, rfl, rfl, rfl, rfl, rfl, rfl, rfl, rfl⟩, .nil, fun D hD => (by cases hD), h0, Nat.zero_le _, Pr.Open.nil T C 0, Nat.zero_le _, rfl⟩
 clear h0 hcb
 rintro a W ⟨Ds, vl, vo, L, st, i, hfit, hnd, hD, hF, hi, hO, h63, hL⟩
 obtain ⟨g, rfl⟩ := hfit.opened
 have HN := Lib.hid hnd
 have HD := Lib.hid hD
 have HF := Lib.hid hF
 have HO := Lib.hid hO
 have HL := Lib.hid hL
 clear hfit hnd hD hO hL
 by_cases hlt : i < n
 ·have hT := HT.out.below hF.below
  have hC := HC.out.below hF.below
  have hiT : i < T.length := by rw [HLT.out]; exact hlt
  have hiC : i < C.length := by rw [HLC.out]; exact hlt
  obtain ⟨b1, o1, rfl, hcT⟩ := hT.at_ hiT
  obtain ⟨b2, o2, rfl, hcC⟩ := hC.at_ hiC
  have HTI := Lib.hid (List.getElem?_eq_getElem hiT)
  have HCI := Lib.hid (List.getElem?_eq_getElem hiC)
  have hb1 := World.block_lt_of_cell? W _ hcT
  have hb2 := World.block_lt_of_cell? W _ hcC
  generalize T[i] = t at *
  generalize C[i] = c at *
  have HZD := Lib.hid (zip_drop HTI.out HCI.out)
  have hi0 : (0 : Int) ≤ (i : Int) := by omega
  have hi1 : (i : Int) < (n : Int) := by omega
  have e1 : IntKind.i64.wrap ((i : Int) + 1) = (i : Int) + 1 := IntWalk.i64_in _ (by omega)
  clear hT hC hiT hiC
  have HF1 := Lib.hid ((HF.out.alloc (.cells #[.int .i64 i] 3)).alloc (.cells #[.int .i64 c] 3))
  have HK1 := Lib.hid ((KeepsOthers.alloc W (.cells #[.int .i64 i] 3)).trans (KeepsOthers.alloc _ (.cells #[.int .i64 c] 3)))
  have HB7 := Lib.hid ((Boxed.new W 3 (.int .i64 i)).alloc (.cells #[.int .i64 c] 3))
  have HB8 := Lib.hid (boxed_new (W := W.alloc (.cells #[.int .i64 i] 3)) (B := W.heap.size + 1) 3 (.int .i64 c) (by rw [World.size_alloc]))
  by_cases h13 : t = 13
  ·subst h13
   go_wp2_with fail
   generalize (W.alloc (.cells #[.int .i64 i] 3)).alloc (.cells #[.int .i64 c] 3) = W1 at *
   refine (mPair_any c _).mono ?_
   rintro e W2 ⟨rfl, hb⟩
   have hF2 := HF1.out.later hb
   have HK2 := Lib.hid (HK1.out.trans (keeps_below hb))
   have h7 := (HB7.out.kept (grown_below none hb) (by simp)).cell
   have h8 := (HB8.out.kept (grown_below none hb) (by simp)).cell
   have hlo := stI_len st
   obtain ⟨A3, cap3, hvo⟩ := own_shape hF2.oo
   rw [hlo] at hvo
   subst hvo
   have h6 := hF2.bo.cell
   have HF2 := Lib.hid hF2
   have HOO := Lib.hid (fun (o : Obj) => show (W2.alloc o).ownsRow w.heap.size 3 1 (.slice A3 st.length cap3) st.length (icl (stI st)) from by
    have := (HF2.out.alloc o).oo
    rwa [hlo] at this)
   clear hcT hcC hb1 hb2 HB7 HB8 hb
   rcases kind_012 c with hk | hk | hk
   ·have HLN := Lib.hid (show L ++ ends (i + 1) st ((T.zip C).drop (i + 1)) = ends 0 [] (T.zip C) from by rw [← HL.out, HZD.out, ends_skip (.inr hk)])
    have hk' : (pairT c).1 = 0 := hk
    rw [hk']
    clear hk hk' hF2 h6 h7 h8 HL HZD
    go_wp2_with fail
    exact ⟨⟨Ds, vl, _, L, st, i + 1, ⟨rfl, rfl, rfl, rfl, rfl, rfl, rfl, rfl, rfl, rfl⟩, HN.out, marks_kept HK2.out HD.out, HF2.out, hlt, HO.out.next, h63, HLN.out⟩, by simp [RowKit.intOf]; omega⟩
   ·have hk' : (pairT c).1 = 1 := hk
    rw [hk']
    by_cases hfull : 63 ≤ st.length
    ·have HLN := Lib.hid (show L = ends 0 [] (T.zip C) from by rw [← HL.out, HZD.out, ends_full hk hfull, List.append_nil])
     have hs : st.length = 63 := by omega
     rw [hs] at h6
     clear hk hk' hfull hF2 h7 h8 HL HZD
     go_wp2_with fail
     exact HEND.out _ _ ⟨Ds, vl, _, stI st, _, _, ⟨rfl, rfl, rfl, rfl, rfl, rfl, rfl, rfl, rfl, rfl⟩, HN.out, marks_kept HK2.out HD.out, HLN.out ▸ HF2.out⟩
    ·have HLN := Lib.hid (show L ++ ends (i + 1) ((i, c) :: st) ((T.zip C).drop (i + 1)) = ends 0 [] (T.zip C) from by rw [← HL.out, HZD.out, ends_push hk (by omega)])
     have hbt : ((st.length : Int) == 63) = false := by simp; omega
     have HON := Lib.hid (HO.out.push HTI.out HCI.out)
     have hlen : st.length ≤ 62 := by omega
     obtain ⟨i0, hi, hz0, hz1, hz2⟩ := info_parts infoInt
     clear hk hk' hfull HL HZD hF2 h8
     go_wp2_with (at_builtin; refine wpList_append_own _ rfl _ _ 150 rfl w.heap.size 3 i0 _ 1 8 Tryz.underlying150 hi hz0 hz1 hz2 rfl (by decide) _ _ _ rfl (HOO.out _) ⟨W2.heap.size, 0, none⟩ 1 1 [.int .i64 i] rfl rfl (cells_new rfl) (by simp [Value.oneCell']) (by unfold maxLen; omega) (by omega) (by have := HF2.out.below.size; simp; omega) ?_; intro v' w1 hown hg hnil; clear hnil; obtain ⟨g', cap', rfl⟩ := ownsRow_succ hown; obtain ⟨hbo, hF3, hk3⟩ := (HF2.out.alloc (.cells #[.int .i64 i] 3)).pushed (push_own c hown) hg; have c6 := hbo.cell; have f6 := hbo.frozen; have HF3 := Lib.hid hF3; have HK3 := Lib.hid hk3; clear hbo hF3 hk3 hown hg)
     exact ⟨⟨Ds, vl, _, L, (i, c) :: st, i + 1, ⟨rfl, rfl, rfl, rfl, rfl, rfl, rfl, rfl, rfl, rfl⟩, HN.out, marks_kept (HK2.out.trans ((KeepsOthers.alloc W2 _).trans HK3.out)) HD.out, HF3.out, hlt, HON.out, Nat.succ_le_succ hlen, HLN.out⟩, by simp [RowKit.intOf]; omega⟩
   ·have hk' : (pairT c).1 = 2 := hk
    rw [hk']
    obtain ⟨iP, hi, hz0, hz1, hz2⟩ := info_parts infoPair
    have HDlt := Lib.hid (fun D (hd : D ∈ Ds) => show w.heap.size ≤ D ∧ D < W2.heap.size ∧ W2.heap[D]? = some (.deferred (some [])) from
     let h := marks_kept HK2.out HD.out D hd
     ⟨h.1, (Array.getElem?_eq_some_iff.1 h.2).1, h.2⟩)
    have HCC := Lib.hid (fun (V : World) (h : Below W2.heap.size W2 V) => HC.out.below (HF2.out.below.trans (h.mono HF2.out.below.size)))
    have h7b := World.block_lt_of_cell? W2 _ h7
    have h8b := World.block_lt_of_cell? W2 _ h8
    have HSTK := Lib.hid (show IntsAt W2 A3 (stI st) from by
     obtain ⟨A4, c4, e4, hat⟩ := intsAt_icl HF2.out.oo rfl
     injection e4 with e4
     rw [e4]
     exact hat)
    have H7 := Lib.hid (fun (V : World) (h : Below W2.heap.size W2 V) => (h.cell (p := ⟨W.heap.size, 0, none⟩) h7b).trans h7)
    have H8 := Lib.hid (fun (V : World) (h : Below W2.heap.size W2 V) => (h.cell (p := ⟨W.heap.size + 1, 0, none⟩) h8b).trans h8)
    generalize (pairT c).2 = m at *
    clear hF2 h7 h8 h7b h8b hk'
    go_wp2_with fail
    refine wpIn_wide.1 (wp_rangeStops (n := 6) (by omega) (gf := 140) (la := #[.slice A3 st.length cap3]) rfl (enters_of Tryz.func140 (by kernel_rfl) rfl) (down_stops _ (by omega) A3 st.length cap3 (stI st) W2 W2 hlo HSTK.out (by omega) (Below.refl _ _)) (Below.refl _ _) (Nat.le_refl _) (fun _ => rfl)
     (fun pre V => Below W2.heap.size W2 V ∧ Gone st c pre) (OutAt w W2 (.slice (some ⟨b2, o2, none⟩) n c2) st c L i Ds) (OwnFrom.and (ownFrom_below (Nat.le_refl _) (Nat.le_refl _)) (ownFrom_pure _ _)) (OutAt.own _ _ _ _ _ _ _ _ HF2.out.below.size) ⟨Below.refl _ _, Gone.nil st c⟩
     (fun x : Nat × Int => { tmps := #[.slice (some ⟨b1, o1, none⟩) n c1, g 1, g 2, .pointer (some ⟨w.heap.size, 0, none⟩), .slice none 0 0, .pointer (some ⟨w.heap.size + 1, 0, none⟩), .pointer (some ⟨w.heap.size + 1 + 1, 0, none⟩), .pointer (some ⟨W.heap.size, 0, none⟩), .pointer (some ⟨W.heap.size + 1, 0, none⟩), .int .i64 2, .int .i64 m, .int .i64 x.1, .int .i64 x.2, g 13, g 14, g 15, g 16, g 17, .slice (some ⟨b2, o2, none⟩) n c2, .int .i64 n, .int .i64 i, .bool true, .int .i64 i, .pointer (some ⟨b2, o2 + i, none⟩), .int .i64 c, .slice (some ⟨b1, o1, none⟩) n c1, .int .i64 i, .pointer (some ⟨b1, o1 + i, none⟩), .int .i64 13, .bool false, .tuple #[.int .i64 2, .int .i64 m], .int .i64 c, .tuple #[.int .i64 2, .int .i64 m], .int .i64 2, .int .i64 m, .int .i64 2, .bool false, .bool false, g 38, g 39, g 40, g 41, g 42, g 43, g 44, .bool true, .bool true, .slice A3 st.length cap3, .func (.func 140) #[.slice A3 st.length cap3] #[], .int .i64 x.1, .int .i64 x.2, g 51, g 52, g 53, g 54, g 55, g 56, g 57, g 58, g 59, g 60, g 61, g 62, g 63, g 64, g 65, g 66, g 67, g 68, g 69], defers := [] }) ?assign ?body ?done ?stop)
    case assign =>
     intro l x V K hK
     gi_wp2_with fail
     exact hK
    case done =>
     rintro D V hD ⟨hbV, hgone⟩ hmark
     have HLN := Lib.hid (show L ++ ends (i + 1) st ((T.zip C).drop (i + 1)) = ends 0 [] (T.zip C) from by rw [← HL.out, HZD.out, ends_lone hk hgone.all])
     have HFV := Lib.hid (HF2.out.later hbV)
     have HMK := Lib.hid (marks_more hD HDlt.out (fun D' hd => (keeps_below hbV).same D' _ (HDlt.out D' hd).2.2 rfl) hmark HF2.out.below.size)
     have HND := Lib.hid (nodup_more hD HDlt.out HN.out)
     have hwD := HF2.out.below.size
     clear hgone hmark hbV HL HZD hk
     go_wp2_with fail
     exact ⟨⟨D :: Ds, vl, _, L, st, i + 1, ⟨rfl, rfl, rfl, rfl, rfl, rfl, rfl, rfl, rfl, rfl⟩, HND.out, fun D' hd => HMK.out D' hd, HFV.out, hlt, HO.out.next, h63, HLN.out⟩, by simp [RowKit.intOf]; omega⟩
    case stop =>
     rintro D c' pre V hD ⟨rfl, s1, k, o, s2, vl', vo', rfl, hm, hno, hFV, hds⟩ hmark
     have HLN := Lib.hid (show (L ++ [(k, i)]) ++ ends (i + 1) s2 ((T.zip C).drop (i + 1)) = ends 0 [] (T.zip C) from by rw [← HL.out, HZD.out, ends_pair hk (dropTo_some hm hno)]; simp)
     have HFV := Lib.hid hFV
     have HMK := Lib.hid (marks_more hD HDlt.out (fun D' hd => (hds D' hd).2.2) hmark HF2.out.below.size)
     have HND := Lib.hid (nodup_more hD HDlt.out HN.out)
     have hwD := HF2.out.below.size
     have HOB := Lib.hid HO.out.below.1
     have h63' : s2.length ≤ 63 := by rw [List.length_append, List.length_cons] at h63; omega
     clear hds hmark HL HZD hk hFV
     refine wpIn_wide.2 ?_
     go_wp2_with fail
     exact ⟨⟨D :: Ds, vl', vo', L ++ [(k, i)], s2, i + 1, ⟨rfl, rfl, rfl, rfl, rfl, rfl, rfl, rfl, rfl, rfl⟩, HND.out, fun D' hd => HMK.out D' hd, HFV.out, hlt, HOB.out, h63', HLN.out⟩, by simp [RowKit.intOf]; omega⟩
    case body =>
     rintro l pre x V ⟨hbV, hgone⟩ hpre
     obtain ⟨s1, k, o, s2, hst, rfl, hno, hgo⟩ := hgone.next hpre
     have hCk : C[k]? = some o := (HO.out.are (k, o) (by rw [hst]; simp)).2
     have hkn : k < n := by rw [← HLC.out]; exact (List.getElem?_eq_some_iff.1 hCk).1
     have HSS := Lib.hid (fun (U : World) (h : Below W2.heap.size W2 U) => show U.cell? ⟨w.heap.size, 0, none⟩ = some (.slice (some ⟨b2, o2, none⟩) n c2) ∧ U.cell? ⟨b2, o2 + k, none⟩ = some (.int .i64 o) ∧ U.cell? ⟨W.heap.size + 1, 0, none⟩ = some (.int .i64 c) from
      ⟨(HF2.out.later h).bc.cell, ints_cell (HCC.out U h) hCk, H8.out U h⟩)
     have hk0 : (0 : Int) ≤ (k : Int) := by omega
     have hk1 : (k : Int) < (n : Int) := by omega
     have HGO := Lib.hid hgo
     have HNO := Lib.hid hno
     have HST := Lib.hid hst
     clear hgone hpre hCk hgo hno hst hk
     gi_wp2_with fail
     refine round_drawn (S := fun U => U.cell? ⟨w.heap.size, 0, none⟩ = some (.slice (some ⟨b2, o2, none⟩) n c2) ∧ U.cell? ⟨b2, o2 + k, none⟩ = some (.int .i64 o) ∧ U.cell? ⟨W.heap.size + 1, 0, none⟩ = some (.int .i64 c)) (by kernel_rfl) (by kernel_rfl) (by rintro ⟨_, _, h⟩; exact h) (HSS.out _ hbV.drew) (fun hHeld => ?_)
     change wpAnyH _ _ _ _ _ 6 #[false, false, false, false, false, false] _ _
     refine wpAnyH_take (i := 0) (v := ?_) rfl (by kernel_rfl) (by kernel_rfl) (by kernel_rfl) (fun _ _ _ h => h) (Or.inl ⟨by rfl, ?_⟩) (by assumption) ?_
     rotate_left
     ·intro w hSw
      try dsimp only at hSw
      first | (go_simp; done) | (go_simp; with_reducible rfl)
     simp only [List.getElem_toArray, List.getElem_cons_zero, List.getElem_cons_succ, Act.put, List.setIfInBounds_toArray, List.set_cons_zero, List.set_cons_succ]
     refine wpAnyH_take (i := 1) (v := ?_) rfl (by kernel_rfl) (by kernel_rfl) (by kernel_rfl) (fun _ _ _ h => h) (Or.inl ⟨by rfl, ?_⟩) (by assumption) ?_
     rotate_left
     ·intro w hSw
      try dsimp only at hSw
      first | (go_simp; done) | (go_simp; with_reducible rfl)
     simp only [List.getElem_toArray, List.getElem_cons_zero, List.getElem_cons_succ, Act.put, List.setIfInBounds_toArray, List.set_cons_zero, List.set_cons_succ]
     refine wpAnyH_take (i := 2) (v := ?_) rfl (by kernel_rfl) (by kernel_rfl) (by kernel_rfl) (fun _ _ _ h => h) (Or.inl ⟨by rfl, ?_⟩) (by assumption) ?_
     rotate_left
     ·intro w hSw
      try dsimp only at hSw
      first | (go_simp; done) | (go_simp; with_reducible rfl)
     simp only [List.getElem_toArray, List.getElem_cons_zero, List.getElem_cons_succ, Act.put, List.setIfInBounds_toArray, List.set_cons_zero, List.set_cons_succ]
     refine wpAnyH_take (i := 3) (v := ?_) rfl (by kernel_rfl) (by kernel_rfl) (by kernel_rfl) (fun _ _ _ h => h) (Or.inl ⟨by rfl, ?_⟩) (by assumption) ?_
     rotate_left
     ·intro w hSw
      try dsimp only at hSw
      first | (go_simp; done) | (go_simp; with_reducible rfl)
     simp only [List.getElem_toArray, List.getElem_cons_zero, List.getElem_cons_succ, Act.put, List.setIfInBounds_toArray, List.set_cons_zero, List.set_cons_succ]
     refine wpAnyH_take (i := 4) (v := ?_) rfl (by kernel_rfl) (by kernel_rfl) (by kernel_rfl) (fun _ _ _ h => h) (Or.inl ⟨by rfl, ?_⟩) (by assumption) ?_
     rotate_left
     ·intro w hSw
      try dsimp only at hSw
      first | (go_simp; done) | (go_simp; with_reducible rfl)
     simp only [List.getElem_toArray, List.getElem_cons_zero, List.getElem_cons_succ, Act.put, List.setIfInBounds_toArray, List.set_cons_zero, List.set_cons_succ]
     refine wpAnyH_ready (rs := [5]) (by kernel_rfl) (by simp) ?_
     refine AllReadyH.cons rfl (fun K hK => ?_) AllReadyH.nil
     go_simp
     go_at_call 141
     refine (mMeet_any o c _).mono ?_
     rintro e V5 ⟨rfl, hb5⟩
     have HB5 := Lib.hid (show Below V.heap.size V V5 from (Below.refl V.heap.size V).drew.trans (hb5.mono (Nat.le_refl _)))
     have hbV5 := hbV.trans (HB5.out.mono hbV.size)
     refine hK.out _ _ (HSS.out _ hbV5) (fun hHeld => ?_)
     simp only [List.getElem_toArray, List.getElem_cons_zero, List.getElem_cons_succ, Act.put, List.setIfInBounds_toArray, List.set_cons_zero, List.set_cons_succ]
     refine wpAnyH_done (by kernel_rfl) ?_ _
     cases hm : meetT o c with
     | false =>
      have HG := Lib.hid (HGO.out hm)
      gi_wp2_with fail
      exact ⟨(keeps_below HB5.out).from _, HB5.out.mono hbV.size, hbV5, HG.out⟩
     | true =>
      have HM := Lib.hid hm
      have hF5 := HF2.out.later hbV5
      obtain ⟨A4, cap4, hvl⟩ := own_shape hF5.ol
      subst hvl
      obtain ⟨g3, hA3, hle3⟩ := own_some hF5.oo (by rw [hlo, HST.out, List.length_append, List.length_cons]; omega)
      subst hA3
      have hLn : L.length ≤ 1099511627776 := by
       have h1 := congrArg List.length HL.out
       have h2 := ends_len (T.zip C) 0 []
       rw [List.length_append] at h1
       rw [List.length_zip, HLT.out, HLC.out] at h2
       omega
      have h5 := hF5.bl.cell
      have h7 := H7.out V5 hbV5
      have HF5 := Lib.hid hF5
      have HOL := Lib.hid (fun (o : Obj) => (HF5.out.alloc o).ol)
      have hsz := HF5.out.below.size
      have hs2 : s2.length ≤ st.length := by rw [HST.out]; simp; omega
      have hsc : (s2.length : Int) ≤ (cap3 : Int) := by omega
      clear hm hF5 HGO
      gi_wp2_with (gi_at_builtin; refine wpListIn_append_own _ rfl _ _ 91 rfl w.heap.size 95 iP _ 2 16 Tryz.underlying91 hi hz0 hz1 hz2 rfl (by decide) _ _ _ rfl (HOL.out _) ⟨V5.heap.size, 0, none⟩ 1 1 [.int .i64 k, .int .i64 i] rfl rfl (cells_new rfl) (by simp [Value.oneCell']) (by unfold maxLen; omega) (by omega) (by simp; omega) ?_; intro v' w1 hown hg hnil; clear hnil; obtain ⟨g', cap', rfl⟩ := ownsRow_succ hown; obtain ⟨hbl, hF6, hk6⟩ := (HF5.out.alloc (.cells #[.int .i64 k, .int .i64 i] 95)).paired (pair_own hown) hg; have c5 := hbl.cell; have f5 := hbl.frozen; have c6 := hF6.bo.cell; have f6 := hF6.bo.frozen; have HF6 := Lib.hid hF6; have HK6 := Lib.hid hk6; clear hbl hF6 hk6 hown hg)
      obtain ⟨hF7, hk7⟩ := HF6.out.cut (k := s2.length) (by rw [hlo]; exact hs2)
      have hz : (stI st).take s2.length = stI s2 := by rw [HST.out]; exact stI_take s1 s2 k o
      rw [hz] at hF7
      have hkk : KeepsOthers V _ := (keeps_below HB5.out).trans ((KeepsOthers.alloc V5 (.cells #[.int .i64 k, .int .i64 i] 95)).trans (HK6.out.trans hk7))
      exact ⟨hkk.from _, rfl, s1, k, o, s2, _, _, HST.out, HM.out, HNO.out, hF7, fun D hD => ⟨(HDlt.out D hD).1, (HDlt.out D hD).2.1, ((keeps_below hbV).trans hkk).same D _ (HDlt.out D hD).2.2 rfl⟩⟩
  ·have HLN := Lib.hid (show L ++ ends (i + 1) st ((T.zip C).drop (i + 1)) = ends 0 [] (T.zip C) from by rw [← HL.out, HZD.out, ends_skip (.inl h13)])
   have hb : (t != 13) = true := by simpa using h13
   clear HL HZD
   go_wp2_with fail
   exact ⟨⟨Ds, vl, vo, L, st, i + 1, ⟨rfl, rfl, rfl, rfl, rfl, rfl, rfl, rfl, rfl, rfl⟩, HN.out, marks_kept HK1.out HD.out, HF1.out, hlt, HO.out.next, h63, HLN.out⟩, by simp [RowKit.intOf]; omega⟩
 ·obtain rfl : i = n := by omega
  have HX := Lib.hid (show L = ends 0 [] (T.zip C) from by
   have := HL.out
   rw [List.drop_eq_nil_of_le (by rw [List.length_zip, HLT.out, HLC.out]; omega)] at this
   simpa [ends] using this)
  clear hF hlt h63 hi
  go_wp2_with fail
  exact HEND.out _ _ ⟨Ds, vl, vo, stI st, _, _, ⟨rfl, rfl, rfl, rfl, rfl, rfl, rfl, rfl, rfl, rfl⟩, HN.out, HD.out, HX.out ▸ HF.out⟩
set_option maxHeartbeats 1000000 in
set_option maxRecDepth 100000 in
theorem find_unlike_any (A1 A2 : Option Addr) (T C : List Int) (n m c1 c2 : Nat) (w : World) (hlT : T.length = n) (hlC : C.length = m) (hnm : n ≠ m) :
  Calls Tryz.prog 100 #[.slice A1 n c1, .slice A2 m c2] w fun e w' => ∃ v, e = .returned v ∧ w'.ownsRow w.heap.size 95 2 v (findP T C).length (cellsP (findP T C)) ∧ Below w.heap.size w w' := by
 rw [find_unlike (by rw [hlT, hlC]; exact hnm)]
 have hb : (((n : Int)) != (m : Int)) = true := bne_iff_ne.2 (by omega)
 clear hnm hlT hlC
 go_enter Tryz.func100, Tryz.ntmps100
 go_wp2_with fail
 refine Cv.wp_scope_many (fun _ _ _ => False) (fun _ _ _ => 0) ?_ (fun _ _ _ h => h.elim)
 go_wp2_with fail
 simp only [Cv.jumps]
 go_ret
 exact ⟨_, rfl, World.ownsRow_nil _ _ _ _, below_made w _⟩
theorem find_any (A1 A2 : Option Addr) (T C : List Int) (n m c1 c2 : Nat) (w : World) (hT : IntsAt w A1 T) (hC : IntsAt w A2 C) (hlT : T.length = n) (hlC : C.length = m) (hn : n ≤ 1099511627776) :
  Calls Tryz.prog 100 #[.slice A1 n c1, .slice A2 m c2] w fun e w' => ∃ v, e = .returned v ∧ w'.ownsRow w.heap.size 95 2 v (findP T C).length (cellsP (findP T C)) ∧ Below w.heap.size w w' := by
 by_cases h : n = m
 ·subst h
  exact find_like A1 A2 T C n c1 c2 w hT hC hlT hlC hn
 ·exact find_unlike_any A1 A2 T C n m c1 c2 w hlT hlC h
end Go.Proofs.YtfclpecbnailgaaGreat.Pb
