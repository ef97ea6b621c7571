/-
  Proved here: what parquetryref06.Of and .Split return: the same clusters; they leave what was in memory.
-/
import Derived.Deep.RegionHeld3
import Derived.Test.YtlocnjenkanmpaaDoorMKrJoin
import Derived.Test.YtlocnjenkanmpaaDoorM11
import Derived.Test.YtlocnjenkanmpaaDoorM0
import Derived.Test.YtlocnjenkanmpaaDoorM2
set_option linter.unusedVariables false
set_option linter.unusedSimpArgs false
namespace Go.Proofs.YtlocnjenkanmpaaDoor.Ku
open Go.RowKit Go.Lib Go.Proofs.YtlocnjenkanmpaaDoor.Arr Go.Proofs.YtlocnjenkanmpaaDoor.Gc
open Go.Proofs.YtlocnjenkanmpaaDoor.Cl (IntsAt)
theorem codes_take (l : List R3) (k : Nat) : codes (l.take k) = (codes l).take k := by simp [codes]
theorem codes_get (l : List R3) (k : Nat) (hk : k < l.length) : (codes l)[k]'(by rw [codes_len]; exact hk) = (l[k]).2.2 := by simp [codes]
theorem codes_seg (l : List R3) (f i : Nat) : codes (seg l f i) = ((codes l).drop f).take (i - f) := by simp [codes, seg]
theorem ints_cut' {w : World} {A : Option Addr} {zs : List Int} {g off : Nat} (hA : A = some ⟨g, off, none⟩) (h : IntsAt w A zs) (a m : Nat) (ha : a + m ≤ zs.length) : IntsAt w (some ⟨g, off + a, none⟩) ((zs.drop a).take m) := by
  subst hA
  rcases h with rfl | ⟨b, o, hA, hlt, hc⟩
  · exact .inl (by simp)
  · injection hA with hA
    injection hA with e1 e2
    subst e1 e2
    refine .inr ⟨g, off + a, rfl, hlt, fun j z hj => ?_⟩
    have hjm : j < m := by
      have := (List.getElem?_eq_some_iff.1 hj).1
      simp at this
      omega
    rw [List.getElem?_take, if_pos hjm, List.getElem?_drop] at hj
    have := hc (a + j) z hj
    rwa [← Nat.add_assoc] at this
theorem ints_own_cap {w : World} {B n : Nat} {v : Value} {zs : List Int} (h : w.ownsRow B 3 1 v n (zs.map (Value.int .i64))) (hn : zs.length = n) : ∃ A c, v = .slice A n c ∧ IntsAt w A zs ∧ n ≤ c := by
  subst hn
  obtain ⟨A, c, e, hI⟩ := Cl.intsAt_own h
  refine ⟨A, c, e, hI, ?_⟩
  rcases h.2 with ⟨rfl, h0⟩ | ⟨g, cap, cur, rfl, hb, hg, hnc, _⟩
  · injection e with _ _ e
    omega
  · injection e with _ _ e
    omega
set_option maxHeartbeats 4000000 in
set_option maxRecDepth 100000 in
theorem rof_any (A : Option Addr) (l : List R3) (c0 : Nat) (w : World) (hR : RuAt w A l) (hn : l.length ≤ 100000) :
    Calls Tryd.prog 22 #[.slice A l.length c0] w fun e w' => ∃ v, e = .returned v ∧ w'.ownsRow w.heap.size 40 6 v (ofC l).length (cellsC (ofC l)) ∧ Below w.heap.size w w' := by
  obtain ⟨i0, hi, hz0, hzs, hzb⟩ := Cl.info_parts infoC
  obtain ⟨j0, hj, hy0, hys, hyb⟩ := Cl.info_parts Cl.infoInt
  have HI := Lib.hid hi
  have HQ0 := Lib.hid hz0
  have HQ1 := Lib.hid hzs
  have HQ2 := Lib.hid hzb
  have HJ := Lib.hid hj
  have HY0 := Lib.hid hy0
  have HY1 := Lib.hid hys
  have HY2 := Lib.hid hyb
  have HR := Lib.hid hR
  have HCL := Lib.hid (codes_len l)
  clear hi hz0 hzs hzb hj hy0 hys hyb hR
  go_enter Tryd.func22, Tryd.ntmps22
  go_wp2_with fail
  go_loopw [3, 4] (fun s3 s4 wx => ∃ k : Nat, k ≤ l.length ∧ s4 = .int .i64 k ∧ Below w.heap.size w wx ∧ wx.ownsRow w.heap.size 3 1 s3 k ((codes (l.take k)).map (Value.int .i64))) (fun _ s4 _ => l.length - (RowKit.intOf s4).toNat)
  case atStart => exact ⟨0, Nat.zero_le _, rfl, Below.refl _ _, World.ownsRow_nil _ _ _ _⟩
  case round =>
    obtain ⟨k, hk, rfl, hb, hown⟩ := hrel
    by_cases hlt : k < l.length
    · obtain ⟨b, off, rfl, hblt, q0, q1, q2⟩ := (HR.out.below hb).at_ hlt
      have htk : codes (l.take (k + 1)) = codes (l.take k) ++ [(l[k]).2.2] := by
        rw [List.take_succ_eq_append_getElem hlt]
        unfold codes
        rw [List.map_append]
        rfl
      have HTK := Lib.hid htk
      have HOWN := Lib.hid hown
      have HB := Lib.hid hb
      have hltm := hown.lt
      clear htk hown hb
      generalize (l[k]).2.2 = rc at *
      go_wp2_with (at_builtin; refine wpList_append_own _ rfl _ _ 23 rfl w.heap.size 3 j0 (.int .i64 0) 1 8 Tryd.underlying23 HJ.out HY0.out HY1.out HY2.out rfl (by decide) _ _ _ rfl (HOWN.out.alloc _) ⟨wr.heap.size, 0, none⟩ 1 1 [.int .i64 rc] rfl rfl ?c1 ?c2 ?c3 ?c4 ?c5 ?_)
      try case c1 =>
        intro j u hj
        match j, hj with
        | 0, hj => simp at hj; subst hj; simp [Addr.add]
        | (j + 1), hj => simp at hj
      try case c2 => first | rfl | (intro u hu; simp at hu; subst hu; rfl)
      try case c3 => unfold maxLen; omega
      try case c4 => omega
      try case c5 => first | omega | (have := HB.out.size; simp; omega)
      intro v' w5 hown' hgrow _
      have HO := Lib.hid hown'
      have HG := Lib.hid hgrow
      clear hown' hgrow
      go_wp2
      go_roundw
      case rel =>
        refine ⟨k + 1, by omega, by go_num, ?_, ?_⟩
        · exact (HB.out.alloc HB.out.size _).grown HG.out (by have := HB.out.size; simp; omega) (fun q hq => (hltm q hq).1)
        · rw [HTK.out, List.map_append]
          exact HO.out
      case measure => simp [RowKit.intOf]; omega
    · obtain rfl : k = l.length := by omega
      rw [List.take_length] at hown
      obtain ⟨B, c, rfl, hI, hcap⟩ := ints_own_cap hown HCL.out
      have HIC := Lib.hid hI
      have HBK := Lib.hid hb
      have HRV := Lib.hid (HR.out.below hb)
      clear hown hI hb HR
      generalize wr = V0 at *
      go_wp2_with fail
      go_loopw [5, 6, 7] (fun s5 s6 s7 wx => ∃ (i f : Nat) (pre : List C6), 1 ≤ i ∧ i ≤ l.length + 1 ∧ s7 = .int .i64 i ∧ s6 = .int .i64 f ∧ Below V0.heap.size V0 wx ∧ wx.ownsRow V0.heap.size 40 6 s5 pre.length (cellsC pre) ∧ pre.length ≤ i ∧ ((i ≤ l.length ∧ ∃ x, Cur l f i x ∧ pre ++ run (stAt l i) i x (l.drop i) = ofC l) ∨ (i = l.length + 1 ∧ pre = ofC l))) (fun _ _ s7 _ => l.length + 1 - (RowKit.intOf s7).toNat)
      case atStart =>
        refine ⟨1, 0, [], Nat.le_refl _, by omega, rfl, rfl, Below.refl _ _, World.ownsRow_nil _ _ _ _, by simp, ?_⟩
        by_cases h0 : 0 < l.length
        · exact .inl ⟨h0, _, cur_start l h0, (ofC_start l h0).symm⟩
        · exact .inr ⟨by omega, by rw [List.eq_nil_of_length_eq_zero (by omega : l.length = 0)]; rfl⟩
      case round =>
        obtain ⟨i, f, pre, hi1, hi2, rfl, rfl, hbw, hown, hpi, hrel⟩ := hrel
        by_cases hle : i ≤ l.length
        · obtain ⟨x, hcur, hrun⟩ : ∃ x, Cur l f i x ∧ pre ++ run (stAt l i) i x (l.drop i) = ofC l := by
            rcases hrel with ⟨_, h⟩ | ⟨h, _⟩
            · exact h
            · omega
          obtain ⟨hfi, hil, hxe, hal⟩ := hcur
          have hfl : f < l.length := by omega
          have HOWN := Lib.hid hown
          have HBW := Lib.hid hbw
          clear hrel hown hbw
          by_cases hlt : i < l.length
          · have HJN := Lib.hid (fun W (h : Below V0.heap.size V0 W) => rjoins_any B (codes l) c i W (HIC.out.below h) (by rw [HCL.out]; omega) hi1 (by rw [HCL.out]; exact hlt))
            rw [codes_get l i hlt, ← codes_take, HCL.out] at HJN
            have hst : stR (codes (l.take i)).reverse = stAt l i := rfl
            rw [hst] at HJN
            cases hj : joins (stAt l i) (l[i]).2.2 with
            | true =>
              rw [hj] at HJN
              have HN := Lib.hid (And.intro (cur_ext l f i x hlt ⟨hfi, hil, hxe, hal⟩ hj) (by rw [← run_at l i hlt x hj]; exact hrun : pre ++ run (stAt l (i + 1)) (i + 1) (ext (stAt l i) x i l[i]) (l.drop (i + 1)) = ofC l))
              clear hst hj hrun hxe hal hil
              go_wp2_with fail
              refine (HJN.out _ HBW.out).mono ?_
              rintro e w5 ⟨rfl, hb5⟩
              go_wp2
              go_roundw
              case rel => exact ⟨i + 1, f, pre, by omega, by omega, by go_num, rfl, HBW.out.trans (hb5.mono HBW.out.size), Cl.ownsRow_below HOWN.out hb5, by omega, .inl ⟨hlt, _, HN.out.1, HN.out.2⟩⟩
              case measure => simp [RowKit.intOf]; omega
            | false =>
              rw [hj] at HJN
              have HN := Lib.hid (And.intro (cur_new l i hlt hj) (by rw [run_at_no l i hlt x hj, hxe] at hrun; rw [List.append_assoc]; exact hrun : (pre ++ [refX l f i hfl]) ++ run (stAt l (i + 1)) (i + 1) (ext (stAt l i) (new i l[i]) i l[i]) (l.drop (i + 1)) = ofC l))
              clear hst hj hrun hxe hal hil
              go_wp2_with fail
              refine (HJN.out _ HBW.out).mono ?_
              rintro e w5 ⟨rfl, hb5⟩
              go_wp2_with fail
              have HBE := Lib.hid (HBW.out.trans (hb5.mono HBW.out.size))
              have HOE := Lib.hid (Cl.ownsRow_below HOWN.out hb5)
              clear HOWN HBW
              generalize w5 = W at *
              obtain ⟨b, off, rfl, hbl, q0, q1, q2⟩ := (HRV.out.below HBE.out).at_ hfl
              obtain ⟨gB, oB, rfl, p0⟩ := (HIC.out.below HBE.out).at_ (show f < (codes l).length by rw [HCL.out]; exact hfl)
              rw [codes_get l f hfl] at p0
              have hgl : gB < W.heap.size := World.block_lt_of_cell? W _ p0
              have hcut : f + (i - f) ≤ (codes l).length := by rw [HCL.out]; omega
              have HWC := Lib.hid (fun V (h : Below V0.heap.size V0 V) => rwide_any (some ⟨gB, oB + f, none⟩) (((codes l).drop f).take (i - f)) (c - f) V (ints_cut' rfl (HIC.out.below h) f (i - f) hcut) (by rw [cut_len _ _ _ hcut]; omega) (by rw [cut_len _ _ _ hcut]; omega))
              rw [cut_len _ _ _ hcut, ← codes_seg l f i] at HWC
              obtain ⟨wv, hwv⟩ : ∃ wv, wideR (codes (seg l f i)) = wv := ⟨_, rfl⟩
              rw [hwv] at HWC
              have HWV := Lib.hid hwv
              obtain ⟨a, ha⟩ : ∃ a, (l[f]).1 = a := ⟨_, rfl⟩
              obtain ⟨rc, hrc⟩ : ∃ rc, (l[f]).2.2 = rc := ⟨_, rfl⟩
              rw [ha] at q0
              rw [hrc] at p0
              have HAC := Lib.hid (And.intro ha hrc)
              have HSW := Lib.hid (show ∀ V : World, Below W.heap.size W V → (V.cell? ⟨b, off + f * 3, none⟩ = some (.int .i64 a) ∧ V.cell? ⟨gB, oB + f, none⟩ = some (.int .i64 rc) ∧ Below W.heap.size W V) from fun V h => ⟨(h.cell (p := ⟨b, off + f * 3, none⟩) hbl).trans q0, (h.cell (p := ⟨gB, oB + f, none⟩) hgl).trans p0, h⟩)
              have hs1 : (f : Int) < l.length := by omega
              have hs2 : (f : Int) ≤ i := by omega
              have hs3 : (i : Int) ≤ c := by omega
              have hs4 : (f : Int) < c := by omega
              have hs5 : (0 : Int) ≤ f := by omega
              have hs6 : (0 : Int) ≤ i := by omega
              have hs7 : f < i := hfi
              have hs8 : i ≤ c := by omega
              have hs9 : ¬ c = f := by omega
              clear hwv ha hrc q0 q1 q2 p0 hcut
              refine wp_region_held_drew (S := fun V => V.cell? ⟨b, off + f * 3, none⟩ = some (.int .i64 a) ∧ V.cell? ⟨gB, oB + f, none⟩ = some (.int .i64 rc) ∧ Below W.heap.size W V) (by kernel_rfl) ?_ (fun hHeld => ?_)
              · exact HSW.out _ (below_drew (Below.refl _ _))
              change wpAnyH _ _ _ _ _ 19 #[false, false, false, false, false, false, false, false, false, false, false, false, false, false, false, false, false, false, false] _ _
              refine wpAnyH_take (i := 0) (v := ?v0) rfl (by kernel_rfl) (by kernel_rfl) (by kernel_rfl) (fun _ _ _ h => h) (Or.inl ⟨by rfl, ?hy0⟩) (by assumption) ?rest0
              case hy0 =>
                intro w hSw
                try dsimp only at hSw
                first | (go_simp; done) | (go_simp; with_reducible rfl)
              simp only [Act.put, List.setIfInBounds_toArray, List.set_cons_zero, List.set_cons_succ]
              refine wpAnyH_take (i := 1) (v := ?v1) rfl (by kernel_rfl) (by kernel_rfl) (by kernel_rfl) (fun _ _ _ h => h) (Or.inl ⟨by rfl, ?hy1⟩) (by assumption) ?rest1
              case hy1 =>
                intro w hSw
                try dsimp only at hSw
                first | (go_simp; done) | (go_simp; with_reducible rfl)
              simp only [Act.put, List.setIfInBounds_toArray, List.set_cons_zero, List.set_cons_succ]
              refine wpAnyH_take (i := 2) (v := ?v2) rfl (by kernel_rfl) (by kernel_rfl) (by kernel_rfl) (fun _ _ _ h => h) (Or.inl ⟨by rfl, ?hy2⟩) (by assumption) ?rest2
              case hy2 =>
                intro w hSw
                try dsimp only at hSw
                first | (go_simp; done) | (go_simp; with_reducible rfl)
              simp only [Act.put, List.setIfInBounds_toArray, List.set_cons_zero, List.set_cons_succ]
              refine wpAnyH_take (i := 3) (v := ?v3) rfl (by kernel_rfl) (by kernel_rfl) (by kernel_rfl) (fun _ _ _ h => h) (Or.inl ⟨by rfl, ?hy3⟩) (by assumption) ?rest3
              case hy3 =>
                intro w hSw
                try dsimp only at hSw
                first | (go_simp; done) | (go_simp; with_reducible rfl)
              simp only [Act.put, List.setIfInBounds_toArray, List.set_cons_zero, List.set_cons_succ]
              refine wpAnyH_take (i := 4) (v := ?v4) rfl (by kernel_rfl) (by kernel_rfl) (by kernel_rfl) (fun _ _ _ h => h) (Or.inl ⟨by rfl, ?hy4⟩) (by assumption) ?rest4
              case hy4 =>
                intro w hSw
                try dsimp only at hSw
                first | (go_simp; done) | (go_simp; with_reducible rfl)
              simp only [Act.put, List.setIfInBounds_toArray, List.set_cons_zero, List.set_cons_succ]
              refine wpAnyH_take (i := 5) (v := ?v5) rfl (by kernel_rfl) (by kernel_rfl) (by kernel_rfl) (fun _ _ _ h => h) (Or.inl ⟨by rfl, ?hy5⟩) (by assumption) ?rest5
              case hy5 =>
                intro w hSw
                try dsimp only at hSw
                first | (go_simp; done) | (go_simp; with_reducible rfl)
              simp only [Act.put, List.setIfInBounds_toArray, List.set_cons_zero, List.set_cons_succ]
              refine wpAnyH_take (i := 6) (v := ?v6) rfl (by kernel_rfl) (by kernel_rfl) (by kernel_rfl) (fun _ _ _ h => h) (Or.inl ⟨by rfl, ?hy6⟩) (by assumption) ?rest6
              case hy6 =>
                intro w hSw
                try dsimp only at hSw
                first | (go_simp; done) | (go_simp; with_reducible rfl)
              simp only [Act.put, List.setIfInBounds_toArray, List.set_cons_zero, List.set_cons_succ]
              refine wpAnyH_take (i := 7) (v := ?v7) rfl (by kernel_rfl) (by kernel_rfl) (by kernel_rfl) (fun _ _ _ h => h) (Or.inl ⟨by rfl, ?hy7⟩) (by assumption) ?rest7
              case hy7 =>
                intro w hSw
                try dsimp only at hSw
                first | (go_simp; done) | (go_simp; with_reducible rfl)
              simp only [Act.put, List.setIfInBounds_toArray, List.set_cons_zero, List.set_cons_succ]
              refine wpAnyH_take (i := 8) (v := ?v8) rfl (by kernel_rfl) (by kernel_rfl) (by kernel_rfl) (fun _ _ _ h => h) (Or.inl ⟨by rfl, ?hy8⟩) (by assumption) ?rest8
              case hy8 =>
                intro w hSw
                try dsimp only at hSw
                first | (go_simp; done) | (go_simp; with_reducible rfl)
              simp only [Act.put, List.setIfInBounds_toArray, List.set_cons_zero, List.set_cons_succ]
              refine wpAnyH_take (i := 9) (v := ?v9) rfl (by kernel_rfl) (by kernel_rfl) (by kernel_rfl) (fun _ _ _ h => h) (Or.inl ⟨by rfl, ?hy9⟩) (by assumption) ?rest9
              case hy9 =>
                intro w hSw
                try dsimp only at hSw
                first | (go_simp; done) | (go_simp; with_reducible rfl)
              simp only [Act.put, List.setIfInBounds_toArray, List.set_cons_zero, List.set_cons_succ]
              refine wpAnyH_take (i := 10) (v := ?v10) rfl (by kernel_rfl) (by kernel_rfl) (by kernel_rfl) (fun _ _ _ h => h) (Or.inl ⟨by rfl, ?hy10⟩) (by assumption) ?rest10
              case hy10 =>
                intro w hSw
                try dsimp only at hSw
                first | (go_simp; done) | (go_simp; with_reducible rfl)
              simp only [Act.put, List.setIfInBounds_toArray, List.set_cons_zero, List.set_cons_succ]
              refine wpAnyH_take (i := 11) (v := ?v11) rfl (by kernel_rfl) (by kernel_rfl) (by kernel_rfl) (fun _ _ _ h => h) (Or.inl ⟨by rfl, ?hy11⟩) (by assumption) ?rest11
              case hy11 =>
                intro w hSw
                try dsimp only at hSw
                first | (go_simp; done) | (go_simp; with_reducible rfl)
              simp only [Act.put, List.setIfInBounds_toArray, List.set_cons_zero, List.set_cons_succ]
              refine wpAnyH_take (i := 12) (v := ?v12) rfl (by kernel_rfl) (by kernel_rfl) (by kernel_rfl) (fun _ _ _ h => h) (Or.inl ⟨by rfl, ?hy12⟩) (by assumption) ?rest12
              case hy12 =>
                intro w hSw
                try dsimp only at hSw
                first | (go_simp; done) | (go_simp; with_reducible rfl)
              simp only [Act.put, List.setIfInBounds_toArray, List.set_cons_zero, List.set_cons_succ]
              refine wpAnyH_take (i := 13) (v := ?v13) rfl (by kernel_rfl) (by kernel_rfl) (by kernel_rfl) (fun _ _ _ h => h) (Or.inl ⟨by rfl, ?hy13⟩) (by assumption) ?rest13
              case hy13 =>
                intro w hSw
                try dsimp only at hSw
                first | (go_simp; done) | (go_simp; with_reducible rfl)
              simp only [Act.put, List.setIfInBounds_toArray, List.set_cons_zero, List.set_cons_succ]
              refine wpAnyH_take (i := 14) (v := ?v14) rfl (by kernel_rfl) (by kernel_rfl) (by kernel_rfl) (fun _ _ _ h => h) (Or.inl ⟨by rfl, ?hy14⟩) (by assumption) ?rest14
              case hy14 =>
                intro w hSw
                try dsimp only at hSw
                first | (go_simp; done) | (go_simp; with_reducible rfl)
              simp only [Act.put, List.setIfInBounds_toArray, List.set_cons_zero, List.set_cons_succ]
              refine wpAnyH_ready (rs := [15, 17]) (by kernel_rfl) (by simp) ?_
              refine AllReadyH.cons rfl (fun K hK => ?_) ?_
              · go_simp
                go_at_call 38
                refine (HWC.out _ (below_drew HBE.out)).mono ?_
                rintro e w9 ⟨rfl, hb9⟩
                have hbx : Below W.heap.size W w9 := (below_drew (Below.refl _ _)).trans hb9
                refine hK.out _ _ (HSW.out _ hbx) (fun hHeld => ?_)
                simp only [Act.put, List.setIfInBounds_toArray, List.set_cons_zero, List.set_cons_succ]
                refine wpAnyH_take (i := 16) (v := ?v15) rfl (by kernel_rfl) (by kernel_rfl) (by kernel_rfl) (fun _ _ _ h => h) (Or.inl ⟨by rfl, ?hy15⟩) (by assumption) ?rest15
                case hy15 =>
                  intro w hSw
                  try dsimp only at hSw
                  first | (go_simp; done) | (go_simp; with_reducible rfl)
                simp only [Act.put, List.setIfInBounds_toArray, List.set_cons_zero, List.set_cons_succ]
                refine wpAnyH_ready (rs := [17]) (by kernel_rfl) (by simp) ?_
                refine AllReadyH.cons rfl (fun K hK => ?_) AllReadyH.nil
                go_simp
                refine hK.out _ _ (HSW.out _ (hbx.alloc hbx.size _)) (fun hHeld => ?_)
                simp only [Act.put, List.setIfInBounds_toArray, List.set_cons_zero, List.set_cons_succ]
                refine wpAnyH_ready (rs := [18]) (by kernel_rfl) (by simp) ?_
                refine AllReadyH.cons rfl (fun K hK => ?_) AllReadyH.nil
                go_simp
                refine hK.out _ _ (HSW.out _ (hbx.alloc hbx.size _)) (fun hHeld => ?_)
                simp only [Act.put, List.setIfInBounds_toArray, List.set_cons_zero, List.set_cons_succ]
                refine wpAnyH_done (by kernel_rfl) ?_ _
                clear hHeld
                have hz := heap_alloc_last w9 (.cells #[.int .i64 a, .int .i64 0, .int .i64 f, .int .i64 i, .int .i64 wv, .int .i64 rc] 40)
                have hbz : Below W.heap.size W (w9.alloc (.cells #[.int .i64 a, .int .i64 0, .int .i64 f, .int .i64 i, .int .i64 wv, .int .i64 rc] 40)) := hbx.alloc hbx.size _
                have hb8 := hbx.size
                have hb8' := hbx.size
                clear hb9 hbx
                generalize w9.alloc (.cells #[.int .i64 a, .int .i64 0, .int .i64 f, .int .i64 i, .int .i64 wv, .int .i64 rc] 40) = Z at *
                generalize w9.heap.size = b8 at *
                have HZ0 := Lib.hid (And.intro hz (And.intro hb8 hbz))
                clear hz hb8 hbz hs1 hs2 hs3 hs4 hs5 hs6 hs8 hs9
                go_wp2_with fail
                go_loopw [9] (fun s9 wy => ∃ k : Nat, f ≤ k ∧ k ≤ i ∧ s9 = .int .i64 k ∧ Below W.heap.size W wy ∧ wy.heap[b8]? = some (.cells #[.int .i64 a, .int .i64 (szF (seg l f k)), .int .i64 f, .int .i64 i, .int .i64 wv, .int .i64 rc] 40)) (fun s9 _ => i - (RowKit.intOf s9).toNat)
                case atStart => exact ⟨f, Nat.le_refl _, Nat.le_of_lt hfi, rfl, HZ0.out.2.2, by rw [seg_none]; exact HZ0.out.1⟩
                case round =>
                  obtain ⟨k, hfk, hki, rfl, hby, hzy⟩ := hrel
                  have HBY := Lib.hid hby
                  by_cases hkl : k < i
                  · have hkl2 : k < l.length := by omega
                    obtain ⟨b', off', hA', hbl', q0, q1, q2⟩ := (HRV.out.below (HBE.out.trans (hby.mono HBE.out.size))).at_ hkl2
                    injection hA' with hA'
                    injection hA' with e1 e2
                    subst e1 e2
                    have hsn := szF_snoc (seg l f k) l[k]
                    rw [← seg_snoc l f k hfk hkl2] at hsn
                    have HSN := Lib.hid hsn.symm
                    obtain ⟨rz, hrz⟩ : ∃ rz, (l[k]).2.1 = rz := ⟨_, rfl⟩
                    rw [hrz] at q1 HSN
                    obtain ⟨Z0, hZ0⟩ : ∃ Z0, szF (seg l f k) = Z0 := ⟨_, rfl⟩
                    rw [hZ0] at hzy HSN
                    obtain ⟨Z1, hZ1⟩ : ∃ Z1, szF (seg l f (k + 1)) = Z1 := ⟨_, rfl⟩
                    rw [hZ1] at HSN
                    have hwz := HSN.out
                    have HZZ := Lib.hid hZ1
                    have HZY := Lib.hid hzy
                    obtain ⟨⟨-, y1, -⟩, -, z1, -⟩ := six hzy
                    have hlb8 : b8 < wr.heap.size := (Array.getElem?_eq_some_iff.1 hzy).1
                    clear hby hzy hsn hrz hZ0 hZ1 q0 q2
                    go_wp2_with fail
                    go_region
                    go_wp2
                    go_roundw
                    case rel =>
                      refine ⟨k + 1, by omega, by omega, by go_num, below_drew (HBY.out.setCell hb8' _), ?_⟩
                      rw [HZZ.out]
                      exact heap_setCell_same wr b8 1 _ _ _ HZY.out
                    case measure => simp [RowKit.intOf]; omega
                  · obtain rfl : k = i := by omega
                    have HFULL := Lib.hid (show cellsC (pre ++ [refX l f k hfl]) = cellsC pre ++ [.int .i64 a, .int .i64 (szF (seg l f k)), .int .i64 f, .int .i64 k, .int .i64 wv, .int .i64 rc] by
                      rw [cellsC_snoc]
                      unfold refX
                      simp only [HAC.out.1, HAC.out.2, HWV.out])
                    generalize szF (seg l f k) = Z0 at *
                    obtain ⟨⟨y0, y1, y2, y3, y4, y5⟩, -⟩ := six hzy
                    have hlb8 : b8 < wr.heap.size := (Array.getElem?_eq_some_iff.1 hzy).1
                    have hownY := Cl.ownsRow_below HOE.out hby
                    have HOY := Lib.hid hownY
                    have hltm := hownY.lt
                    have HBV := Lib.hid (HBE.out.trans (hby.mono HBE.out.size))
                    clear hownY hby hzy
                    go_wp2_with (at_builtin; refine wpList_append_own _ rfl _ _ 37 rfl V0.heap.size 40 i0 (.agg #[.int .i64 0, .int .i64 0, .int .i64 0, .int .i64 0, .int .i64 0, .int .i64 0]) 6 48 Tryd.underlying37 HI.out HQ0.out HQ1.out HQ2.out rfl (by decide) _ _ _ rfl (HOY.out.alloc _) ⟨wr.heap.size, 0, none⟩ 1 1 [.int .i64 a, .int .i64 Z0, .int .i64 f, .int .i64 k, .int .i64 wv, .int .i64 rc] rfl rfl ?c1 ?c2 ?c3 ?c4 ?c5 ?_)
                    try case c1 =>
                      intro j u hj
                      match j, hj with
                      | 0, hj => simp at hj; subst hj; simp [Addr.add]
                      | 1, hj => simp at hj; subst hj; simp [Addr.add]
                      | 2, hj => simp at hj; subst hj; simp [Addr.add]
                      | 3, hj => simp at hj; subst hj; simp [Addr.add]
                      | 4, hj => simp at hj; subst hj; simp [Addr.add]
                      | 5, hj => simp at hj; subst hj; simp [Addr.add]
                      | (j + 6), hj => simp at hj
                    try case c2 => first | exact ⟨rfl, rfl, rfl, rfl, rfl⟩ | exact ⟨rfl, rfl, rfl, rfl, rfl, rfl⟩ | (intro u hu; simp at hu; rcases hu with rfl | rfl | rfl | rfl | rfl | rfl <;> rfl)
                    try case c3 => unfold maxLen; omega
                    try case c4 => omega
                    try case c5 => first | omega | (have := HBV.out.size; simp; omega)
                    intro v' wz hown' hgrow _
                    have HO := Lib.hid hown'
                    have HG := Lib.hid hgrow
                    clear hown' hgrow
                    go_wp2
                    go_roundw
                    case rel =>
                      refine ⟨k + 1, k, pre ++ [refX l f k hfl], by omega, by omega, by go_num, rfl, (HBV.out.alloc HBV.out.size _).grown HG.out (by have := HBV.out.size; simp; omega) (fun q hq => (hltm q hq).1), ?_, by simp; omega, .inl ⟨by omega, _, HN.out.1, HN.out.2⟩⟩
                      rw [HFULL.out, List.length_append]
                      exact HO.out
                    case measure => simp [RowKit.intOf]; omega
              · refine AllReadyH.cons rfl (fun K hK => ?_) AllReadyH.nil
                go_simp
                refine hK.out _ _ (HSW.out _ ((below_drew (Below.refl _ _)).alloc (by exact Nat.le_refl _) _)) (fun hHeld => ?_)
                simp only [Act.put, List.setIfInBounds_toArray, List.set_cons_zero, List.set_cons_succ]
                refine wpAnyH_ready (rs := [15]) (by kernel_rfl) (by simp) ?_
                refine AllReadyH.cons rfl (fun K hK => ?_) AllReadyH.nil
                go_simp
                go_at_call 38
                refine (HWC.out _ ((below_drew HBE.out).alloc (by exact HBE.out.size) _)).mono ?_
                rintro e w9 ⟨rfl, hb9⟩
                have hbx : Below W.heap.size W w9 := ((below_drew (Below.refl _ _)).alloc (by exact Nat.le_refl _) _).trans (hb9.mono (by simp))
                have hrow : w9.heap[W.heap.size]? = some (.cells #[.int .i64 0, .int .i64 0, .int .i64 0, .int .i64 0, .int .i64 0, .int .i64 0] 40) := (hb9.block W.heap.size (by simp)).trans (by exact heap_alloc_last W.drew _)
                obtain ⟨⟨r0, r1, r2, r3, r4, r5⟩, g0, g1, g2, g3, g4, g5⟩ := six hrow
                refine hK.out _ _ (HSW.out _ hbx) (fun hHeld => ?_)
                simp only [Act.put, List.setIfInBounds_toArray, List.set_cons_zero, List.set_cons_succ]
                refine wpAnyH_take (i := 16) (v := ?v16) rfl (by kernel_rfl) (by kernel_rfl) (by kernel_rfl) (fun _ _ _ h => h) (Or.inl ⟨by rfl, ?hy16⟩) (by assumption) ?rest16
                case hy16 =>
                  intro w hSw
                  try dsimp only at hSw
                  first | (go_simp; done) | (go_simp; with_reducible rfl)
                simp only [Act.put, List.setIfInBounds_toArray, List.set_cons_zero, List.set_cons_succ]
                refine wpAnyH_ready (rs := [18]) (by kernel_rfl) (by simp) ?_
                refine AllReadyH.cons rfl (fun K hK => ?_) AllReadyH.nil
                go_simp
                refine hK.out _ _ (HSW.out _ (six_below _ _ _ _ _ _ hbx (Nat.le_refl _))) (fun hHeld => ?_)
                simp only [Act.put, List.setIfInBounds_toArray, List.set_cons_zero, List.set_cons_succ]
                refine wpAnyH_done (by kernel_rfl) ?_ _
                clear hHeld r0 r1 r2 r3 r4 r5 g0 g1 g2 g3 g4 g5
                have hz := six_set (.int .i64 a) (.int .i64 0) (.int .i64 f) (.int .i64 i) (.int .i64 wv) (.int .i64 rc) hrow
                have hbz := six_below (.int .i64 a) (.int .i64 0) (.int .i64 f) (.int .i64 i) (.int .i64 wv) (.int .i64 rc) hbx (Nat.le_refl _)
                have hb8 := Nat.le_refl W.heap.size
                have hb8' := Nat.le_refl W.heap.size
                clear hb9 hbx hrow
                generalize (((((w9.setCell ⟨W.heap.size, 0, none⟩ (.int .i64 a)).setCell ⟨W.heap.size, 1, none⟩ (.int .i64 0)).setCell ⟨W.heap.size, 2, none⟩ (.int .i64 f)).setCell ⟨W.heap.size, 3, none⟩ (.int .i64 i)).setCell ⟨W.heap.size, 4, none⟩ (.int .i64 wv)).setCell ⟨W.heap.size, 5, none⟩ (.int .i64 rc) = Z at *
                have HZ0 := Lib.hid (And.intro hz (And.intro hb8 hbz))
                clear hz hb8 hbz hs1 hs2 hs3 hs4 hs5 hs6 hs8 hs9
                go_wp2_with fail
                go_loopw [9] (fun s9 wy => ∃ k : Nat, f ≤ k ∧ k ≤ i ∧ s9 = .int .i64 k ∧ Below W.heap.size W wy ∧ wy.heap[W.heap.size]? = some (.cells #[.int .i64 a, .int .i64 (szF (seg l f k)), .int .i64 f, .int .i64 i, .int .i64 wv, .int .i64 rc] 40)) (fun s9 _ => i - (RowKit.intOf s9).toNat)
                case atStart => exact ⟨f, Nat.le_refl _, Nat.le_of_lt hfi, rfl, HZ0.out.2.2, by rw [seg_none]; exact HZ0.out.1⟩
                case round =>
                  obtain ⟨k, hfk, hki, rfl, hby, hzy⟩ := hrel
                  have HBY := Lib.hid hby
                  by_cases hkl : k < i
                  · have hkl2 : k < l.length := by omega
                    obtain ⟨b', off', hA', hbl', q0, q1, q2⟩ := (HRV.out.below (HBE.out.trans (hby.mono HBE.out.size))).at_ hkl2
                    injection hA' with hA'
                    injection hA' with e1 e2
                    subst e1 e2
                    have hsn := szF_snoc (seg l f k) l[k]
                    rw [← seg_snoc l f k hfk hkl2] at hsn
                    have HSN := Lib.hid hsn.symm
                    obtain ⟨rz, hrz⟩ : ∃ rz, (l[k]).2.1 = rz := ⟨_, rfl⟩
                    rw [hrz] at q1 HSN
                    obtain ⟨Z0, hZ0⟩ : ∃ Z0, szF (seg l f k) = Z0 := ⟨_, rfl⟩
                    rw [hZ0] at hzy HSN
                    obtain ⟨Z1, hZ1⟩ : ∃ Z1, szF (seg l f (k + 1)) = Z1 := ⟨_, rfl⟩
                    rw [hZ1] at HSN
                    have hwz := HSN.out
                    have HZZ := Lib.hid hZ1
                    have HZY := Lib.hid hzy
                    obtain ⟨⟨-, y1, -⟩, -, z1, -⟩ := six hzy
                    have hlb8 : W.heap.size < wr.heap.size := (Array.getElem?_eq_some_iff.1 hzy).1
                    clear hby hzy hsn hrz hZ0 hZ1 q0 q2
                    go_wp2_with fail
                    go_region
                    go_wp2
                    go_roundw
                    case rel =>
                      refine ⟨k + 1, by omega, by omega, by go_num, below_drew (HBY.out.setCell hb8' _), ?_⟩
                      rw [HZZ.out]
                      exact heap_setCell_same wr (W.heap.size) 1 _ _ _ HZY.out
                    case measure => simp [RowKit.intOf]; omega
                  · obtain rfl : k = i := by omega
                    have HFULL := Lib.hid (show cellsC (pre ++ [refX l f k hfl]) = cellsC pre ++ [.int .i64 a, .int .i64 (szF (seg l f k)), .int .i64 f, .int .i64 k, .int .i64 wv, .int .i64 rc] by
                      rw [cellsC_snoc]
                      unfold refX
                      simp only [HAC.out.1, HAC.out.2, HWV.out])
                    generalize szF (seg l f k) = Z0 at *
                    obtain ⟨⟨y0, y1, y2, y3, y4, y5⟩, -⟩ := six hzy
                    have hlb8 : W.heap.size < wr.heap.size := (Array.getElem?_eq_some_iff.1 hzy).1
                    have hownY := Cl.ownsRow_below HOE.out hby
                    have HOY := Lib.hid hownY
                    have hltm := hownY.lt
                    have HBV := Lib.hid (HBE.out.trans (hby.mono HBE.out.size))
                    clear hownY hby hzy
                    go_wp2_with (at_builtin; refine wpList_append_own _ rfl _ _ 37 rfl V0.heap.size 40 i0 (.agg #[.int .i64 0, .int .i64 0, .int .i64 0, .int .i64 0, .int .i64 0, .int .i64 0]) 6 48 Tryd.underlying37 HI.out HQ0.out HQ1.out HQ2.out rfl (by decide) _ _ _ rfl (HOY.out.alloc _) ⟨wr.heap.size, 0, none⟩ 1 1 [.int .i64 a, .int .i64 Z0, .int .i64 f, .int .i64 k, .int .i64 wv, .int .i64 rc] rfl rfl ?c1 ?c2 ?c3 ?c4 ?c5 ?_)
                    try case c1 =>
                      intro j u hj
                      match j, hj with
                      | 0, hj => simp at hj; subst hj; simp [Addr.add]
                      | 1, hj => simp at hj; subst hj; simp [Addr.add]
                      | 2, hj => simp at hj; subst hj; simp [Addr.add]
                      | 3, hj => simp at hj; subst hj; simp [Addr.add]
                      | 4, hj => simp at hj; subst hj; simp [Addr.add]
                      | 5, hj => simp at hj; subst hj; simp [Addr.add]
                      | (j + 6), hj => simp at hj
                    try case c2 => first | exact ⟨rfl, rfl, rfl, rfl, rfl⟩ | exact ⟨rfl, rfl, rfl, rfl, rfl, rfl⟩ | (intro u hu; simp at hu; rcases hu with rfl | rfl | rfl | rfl | rfl | rfl <;> rfl)
                    try case c3 => unfold maxLen; omega
                    try case c4 => omega
                    try case c5 => first | omega | (have := HBV.out.size; simp; omega)
                    intro v' wz hown' hgrow _
                    have HO := Lib.hid hown'
                    have HG := Lib.hid hgrow
                    clear hown' hgrow
                    go_wp2
                    go_roundw
                    case rel =>
                      refine ⟨k + 1, k, pre ++ [refX l f k hfl], by omega, by omega, by go_num, rfl, (HBV.out.alloc HBV.out.size _).grown HG.out (by have := HBV.out.size; simp; omega) (fun q hq => (hltm q hq).1), ?_, by simp; omega, .inl ⟨by omega, _, HN.out.1, HN.out.2⟩⟩
                      rw [HFULL.out, List.length_append]
                      exact HO.out
                    case measure => simp [RowKit.intOf]; omega
          · have HN := Lib.hid (show pre ++ [refX l f i hfl] = ofC l by rw [run_end l i (by omega), hxe] at hrun; exact hrun)
            clear hrun hxe hal hil
            go_wp2_with fail
            have HBE := Lib.hid (HBW.out)
            have HOE := Lib.hid (HOWN.out)
            clear HOWN HBW
            generalize wr = W at *
            obtain ⟨b, off, rfl, hbl, q0, q1, q2⟩ := (HRV.out.below HBE.out).at_ hfl
            obtain ⟨gB, oB, rfl, p0⟩ := (HIC.out.below HBE.out).at_ (show f < (codes l).length by rw [HCL.out]; exact hfl)
            rw [codes_get l f hfl] at p0
            have hgl : gB < W.heap.size := World.block_lt_of_cell? W _ p0
            have hcut : f + (i - f) ≤ (codes l).length := by rw [HCL.out]; omega
            have HWC := Lib.hid (fun V (h : Below V0.heap.size V0 V) => rwide_any (some ⟨gB, oB + f, none⟩) (((codes l).drop f).take (i - f)) (c - f) V (ints_cut' rfl (HIC.out.below h) f (i - f) hcut) (by rw [cut_len _ _ _ hcut]; omega) (by rw [cut_len _ _ _ hcut]; omega))
            rw [cut_len _ _ _ hcut, ← codes_seg l f i] at HWC
            obtain ⟨wv, hwv⟩ : ∃ wv, wideR (codes (seg l f i)) = wv := ⟨_, rfl⟩
            rw [hwv] at HWC
            have HWV := Lib.hid hwv
            obtain ⟨a, ha⟩ : ∃ a, (l[f]).1 = a := ⟨_, rfl⟩
            obtain ⟨rc, hrc⟩ : ∃ rc, (l[f]).2.2 = rc := ⟨_, rfl⟩
            rw [ha] at q0
            rw [hrc] at p0
            have HAC := Lib.hid (And.intro ha hrc)
            have HSW := Lib.hid (show ∀ V : World, Below W.heap.size W V → (V.cell? ⟨b, off + f * 3, none⟩ = some (.int .i64 a) ∧ V.cell? ⟨gB, oB + f, none⟩ = some (.int .i64 rc) ∧ Below W.heap.size W V) from fun V h => ⟨(h.cell (p := ⟨b, off + f * 3, none⟩) hbl).trans q0, (h.cell (p := ⟨gB, oB + f, none⟩) hgl).trans p0, h⟩)
            have hs1 : (f : Int) < l.length := by omega
            have hs2 : (f : Int) ≤ i := by omega
            have hs3 : (i : Int) ≤ c := by omega
            have hs4 : (f : Int) < c := by omega
            have hs5 : (0 : Int) ≤ f := by omega
            have hs6 : (0 : Int) ≤ i := by omega
            have hs7 : f < i := hfi
            have hs8 : i ≤ c := by omega
            have hs9 : ¬ c = f := by omega
            clear hwv ha hrc q0 q1 q2 p0 hcut
            refine wp_region_held_drew (S := fun V => V.cell? ⟨b, off + f * 3, none⟩ = some (.int .i64 a) ∧ V.cell? ⟨gB, oB + f, none⟩ = some (.int .i64 rc) ∧ Below W.heap.size W V) (by kernel_rfl) ?_ (fun hHeld => ?_)
            · exact HSW.out _ (below_drew (Below.refl _ _))
            change wpAnyH _ _ _ _ _ 19 #[false, false, false, false, false, false, false, false, false, false, false, false, false, false, false, false, false, false, false] _ _
            refine wpAnyH_take (i := 0) (v := ?v17) rfl (by kernel_rfl) (by kernel_rfl) (by kernel_rfl) (fun _ _ _ h => h) (Or.inl ⟨by rfl, ?hy17⟩) (by assumption) ?rest17
            case hy17 =>
              intro w hSw
              try dsimp only at hSw
              first | (go_simp; done) | (go_simp; with_reducible rfl)
            simp only [Act.put, List.setIfInBounds_toArray, List.set_cons_zero, List.set_cons_succ]
            refine wpAnyH_take (i := 1) (v := ?v18) rfl (by kernel_rfl) (by kernel_rfl) (by kernel_rfl) (fun _ _ _ h => h) (Or.inl ⟨by rfl, ?hy18⟩) (by assumption) ?rest18
            case hy18 =>
              intro w hSw
              try dsimp only at hSw
              first | (go_simp; done) | (go_simp; with_reducible rfl)
            simp only [Act.put, List.setIfInBounds_toArray, List.set_cons_zero, List.set_cons_succ]
            refine wpAnyH_take (i := 2) (v := ?v19) rfl (by kernel_rfl) (by kernel_rfl) (by kernel_rfl) (fun _ _ _ h => h) (Or.inl ⟨by rfl, ?hy19⟩) (by assumption) ?rest19
            case hy19 =>
              intro w hSw
              try dsimp only at hSw
              first | (go_simp; done) | (go_simp; with_reducible rfl)
            simp only [Act.put, List.setIfInBounds_toArray, List.set_cons_zero, List.set_cons_succ]
            refine wpAnyH_take (i := 3) (v := ?v20) rfl (by kernel_rfl) (by kernel_rfl) (by kernel_rfl) (fun _ _ _ h => h) (Or.inl ⟨by rfl, ?hy20⟩) (by assumption) ?rest20
            case hy20 =>
              intro w hSw
              try dsimp only at hSw
              first | (go_simp; done) | (go_simp; with_reducible rfl)
            simp only [Act.put, List.setIfInBounds_toArray, List.set_cons_zero, List.set_cons_succ]
            refine wpAnyH_take (i := 4) (v := ?v21) rfl (by kernel_rfl) (by kernel_rfl) (by kernel_rfl) (fun _ _ _ h => h) (Or.inl ⟨by rfl, ?hy21⟩) (by assumption) ?rest21
            case hy21 =>
              intro w hSw
              try dsimp only at hSw
              first | (go_simp; done) | (go_simp; with_reducible rfl)
            simp only [Act.put, List.setIfInBounds_toArray, List.set_cons_zero, List.set_cons_succ]
            refine wpAnyH_take (i := 5) (v := ?v22) rfl (by kernel_rfl) (by kernel_rfl) (by kernel_rfl) (fun _ _ _ h => h) (Or.inl ⟨by rfl, ?hy22⟩) (by assumption) ?rest22
            case hy22 =>
              intro w hSw
              try dsimp only at hSw
              first | (go_simp; done) | (go_simp; with_reducible rfl)
            simp only [Act.put, List.setIfInBounds_toArray, List.set_cons_zero, List.set_cons_succ]
            refine wpAnyH_take (i := 6) (v := ?v23) rfl (by kernel_rfl) (by kernel_rfl) (by kernel_rfl) (fun _ _ _ h => h) (Or.inl ⟨by rfl, ?hy23⟩) (by assumption) ?rest23
            case hy23 =>
              intro w hSw
              try dsimp only at hSw
              first | (go_simp; done) | (go_simp; with_reducible rfl)
            simp only [Act.put, List.setIfInBounds_toArray, List.set_cons_zero, List.set_cons_succ]
            refine wpAnyH_take (i := 7) (v := ?v24) rfl (by kernel_rfl) (by kernel_rfl) (by kernel_rfl) (fun _ _ _ h => h) (Or.inl ⟨by rfl, ?hy24⟩) (by assumption) ?rest24
            case hy24 =>
              intro w hSw
              try dsimp only at hSw
              first | (go_simp; done) | (go_simp; with_reducible rfl)
            simp only [Act.put, List.setIfInBounds_toArray, List.set_cons_zero, List.set_cons_succ]
            refine wpAnyH_take (i := 8) (v := ?v25) rfl (by kernel_rfl) (by kernel_rfl) (by kernel_rfl) (fun _ _ _ h => h) (Or.inl ⟨by rfl, ?hy25⟩) (by assumption) ?rest25
            case hy25 =>
              intro w hSw
              try dsimp only at hSw
              first | (go_simp; done) | (go_simp; with_reducible rfl)
            simp only [Act.put, List.setIfInBounds_toArray, List.set_cons_zero, List.set_cons_succ]
            refine wpAnyH_take (i := 9) (v := ?v26) rfl (by kernel_rfl) (by kernel_rfl) (by kernel_rfl) (fun _ _ _ h => h) (Or.inl ⟨by rfl, ?hy26⟩) (by assumption) ?rest26
            case hy26 =>
              intro w hSw
              try dsimp only at hSw
              first | (go_simp; done) | (go_simp; with_reducible rfl)
            simp only [Act.put, List.setIfInBounds_toArray, List.set_cons_zero, List.set_cons_succ]
            refine wpAnyH_take (i := 10) (v := ?v27) rfl (by kernel_rfl) (by kernel_rfl) (by kernel_rfl) (fun _ _ _ h => h) (Or.inl ⟨by rfl, ?hy27⟩) (by assumption) ?rest27
            case hy27 =>
              intro w hSw
              try dsimp only at hSw
              first | (go_simp; done) | (go_simp; with_reducible rfl)
            simp only [Act.put, List.setIfInBounds_toArray, List.set_cons_zero, List.set_cons_succ]
            refine wpAnyH_take (i := 11) (v := ?v28) rfl (by kernel_rfl) (by kernel_rfl) (by kernel_rfl) (fun _ _ _ h => h) (Or.inl ⟨by rfl, ?hy28⟩) (by assumption) ?rest28
            case hy28 =>
              intro w hSw
              try dsimp only at hSw
              first | (go_simp; done) | (go_simp; with_reducible rfl)
            simp only [Act.put, List.setIfInBounds_toArray, List.set_cons_zero, List.set_cons_succ]
            refine wpAnyH_take (i := 12) (v := ?v29) rfl (by kernel_rfl) (by kernel_rfl) (by kernel_rfl) (fun _ _ _ h => h) (Or.inl ⟨by rfl, ?hy29⟩) (by assumption) ?rest29
            case hy29 =>
              intro w hSw
              try dsimp only at hSw
              first | (go_simp; done) | (go_simp; with_reducible rfl)
            simp only [Act.put, List.setIfInBounds_toArray, List.set_cons_zero, List.set_cons_succ]
            refine wpAnyH_take (i := 13) (v := ?v30) rfl (by kernel_rfl) (by kernel_rfl) (by kernel_rfl) (fun _ _ _ h => h) (Or.inl ⟨by rfl, ?hy30⟩) (by assumption) ?rest30
            case hy30 =>
              intro w hSw
              try dsimp only at hSw
              first | (go_simp; done) | (go_simp; with_reducible rfl)
            simp only [Act.put, List.setIfInBounds_toArray, List.set_cons_zero, List.set_cons_succ]
            refine wpAnyH_take (i := 14) (v := ?v31) rfl (by kernel_rfl) (by kernel_rfl) (by kernel_rfl) (fun _ _ _ h => h) (Or.inl ⟨by rfl, ?hy31⟩) (by assumption) ?rest31
            case hy31 =>
              intro w hSw
              try dsimp only at hSw
              first | (go_simp; done) | (go_simp; with_reducible rfl)
            simp only [Act.put, List.setIfInBounds_toArray, List.set_cons_zero, List.set_cons_succ]
            refine wpAnyH_ready (rs := [15, 17]) (by kernel_rfl) (by simp) ?_
            refine AllReadyH.cons rfl (fun K hK => ?_) ?_
            · go_simp
              go_at_call 38
              refine (HWC.out _ (below_drew HBE.out)).mono ?_
              rintro e w9 ⟨rfl, hb9⟩
              have hbx : Below W.heap.size W w9 := (below_drew (Below.refl _ _)).trans hb9
              refine hK.out _ _ (HSW.out _ hbx) (fun hHeld => ?_)
              simp only [Act.put, List.setIfInBounds_toArray, List.set_cons_zero, List.set_cons_succ]
              refine wpAnyH_take (i := 16) (v := ?v32) rfl (by kernel_rfl) (by kernel_rfl) (by kernel_rfl) (fun _ _ _ h => h) (Or.inl ⟨by rfl, ?hy32⟩) (by assumption) ?rest32
              case hy32 =>
                intro w hSw
                try dsimp only at hSw
                first | (go_simp; done) | (go_simp; with_reducible rfl)
              simp only [Act.put, List.setIfInBounds_toArray, List.set_cons_zero, List.set_cons_succ]
              refine wpAnyH_ready (rs := [17]) (by kernel_rfl) (by simp) ?_
              refine AllReadyH.cons rfl (fun K hK => ?_) AllReadyH.nil
              go_simp
              refine hK.out _ _ (HSW.out _ (hbx.alloc hbx.size _)) (fun hHeld => ?_)
              simp only [Act.put, List.setIfInBounds_toArray, List.set_cons_zero, List.set_cons_succ]
              refine wpAnyH_ready (rs := [18]) (by kernel_rfl) (by simp) ?_
              refine AllReadyH.cons rfl (fun K hK => ?_) AllReadyH.nil
              go_simp
              refine hK.out _ _ (HSW.out _ (hbx.alloc hbx.size _)) (fun hHeld => ?_)
              simp only [Act.put, List.setIfInBounds_toArray, List.set_cons_zero, List.set_cons_succ]
              refine wpAnyH_done (by kernel_rfl) ?_ _
              clear hHeld
              have hz := heap_alloc_last w9 (.cells #[.int .i64 a, .int .i64 0, .int .i64 f, .int .i64 i, .int .i64 wv, .int .i64 rc] 40)
              have hbz : Below W.heap.size W (w9.alloc (.cells #[.int .i64 a, .int .i64 0, .int .i64 f, .int .i64 i, .int .i64 wv, .int .i64 rc] 40)) := hbx.alloc hbx.size _
              have hb8 := hbx.size
              have hb8' := hbx.size
              clear hb9 hbx
              generalize w9.alloc (.cells #[.int .i64 a, .int .i64 0, .int .i64 f, .int .i64 i, .int .i64 wv, .int .i64 rc] 40) = Z at *
              generalize w9.heap.size = b8 at *
              have HZ0 := Lib.hid (And.intro hz (And.intro hb8 hbz))
              clear hz hb8 hbz hs1 hs2 hs3 hs4 hs5 hs6 hs8 hs9
              go_wp2_with fail
              go_loopw [9] (fun s9 wy => ∃ k : Nat, f ≤ k ∧ k ≤ i ∧ s9 = .int .i64 k ∧ Below W.heap.size W wy ∧ wy.heap[b8]? = some (.cells #[.int .i64 a, .int .i64 (szF (seg l f k)), .int .i64 f, .int .i64 i, .int .i64 wv, .int .i64 rc] 40)) (fun s9 _ => i - (RowKit.intOf s9).toNat)
              case atStart => exact ⟨f, Nat.le_refl _, Nat.le_of_lt hfi, rfl, HZ0.out.2.2, by rw [seg_none]; exact HZ0.out.1⟩
              case round =>
                obtain ⟨k, hfk, hki, rfl, hby, hzy⟩ := hrel
                have HBY := Lib.hid hby
                by_cases hkl : k < i
                · have hkl2 : k < l.length := by omega
                  obtain ⟨b', off', hA', hbl', q0, q1, q2⟩ := (HRV.out.below (HBE.out.trans (hby.mono HBE.out.size))).at_ hkl2
                  injection hA' with hA'
                  injection hA' with e1 e2
                  subst e1 e2
                  have hsn := szF_snoc (seg l f k) l[k]
                  rw [← seg_snoc l f k hfk hkl2] at hsn
                  have HSN := Lib.hid hsn.symm
                  obtain ⟨rz, hrz⟩ : ∃ rz, (l[k]).2.1 = rz := ⟨_, rfl⟩
                  rw [hrz] at q1 HSN
                  obtain ⟨Z0, hZ0⟩ : ∃ Z0, szF (seg l f k) = Z0 := ⟨_, rfl⟩
                  rw [hZ0] at hzy HSN
                  obtain ⟨Z1, hZ1⟩ : ∃ Z1, szF (seg l f (k + 1)) = Z1 := ⟨_, rfl⟩
                  rw [hZ1] at HSN
                  have hwz := HSN.out
                  have HZZ := Lib.hid hZ1
                  have HZY := Lib.hid hzy
                  obtain ⟨⟨-, y1, -⟩, -, z1, -⟩ := six hzy
                  have hlb8 : b8 < wr.heap.size := (Array.getElem?_eq_some_iff.1 hzy).1
                  clear hby hzy hsn hrz hZ0 hZ1 q0 q2
                  go_wp2_with fail
                  go_region
                  go_wp2
                  go_roundw
                  case rel =>
                    refine ⟨k + 1, by omega, by omega, by go_num, below_drew (HBY.out.setCell hb8' _), ?_⟩
                    rw [HZZ.out]
                    exact heap_setCell_same wr b8 1 _ _ _ HZY.out
                  case measure => simp [RowKit.intOf]; omega
                · obtain rfl : k = i := by omega
                  have HFULL := Lib.hid (show cellsC (pre ++ [refX l f k hfl]) = cellsC pre ++ [.int .i64 a, .int .i64 (szF (seg l f k)), .int .i64 f, .int .i64 k, .int .i64 wv, .int .i64 rc] by
                    rw [cellsC_snoc]
                    unfold refX
                    simp only [HAC.out.1, HAC.out.2, HWV.out])
                  generalize szF (seg l f k) = Z0 at *
                  obtain ⟨⟨y0, y1, y2, y3, y4, y5⟩, -⟩ := six hzy
                  have hlb8 : b8 < wr.heap.size := (Array.getElem?_eq_some_iff.1 hzy).1
                  have hownY := Cl.ownsRow_below HOE.out hby
                  have HOY := Lib.hid hownY
                  have hltm := hownY.lt
                  have HBV := Lib.hid (HBE.out.trans (hby.mono HBE.out.size))
                  clear hownY hby hzy
                  go_wp2_with (at_builtin; refine wpList_append_own _ rfl _ _ 37 rfl V0.heap.size 40 i0 (.agg #[.int .i64 0, .int .i64 0, .int .i64 0, .int .i64 0, .int .i64 0, .int .i64 0]) 6 48 Tryd.underlying37 HI.out HQ0.out HQ1.out HQ2.out rfl (by decide) _ _ _ rfl (HOY.out.alloc _) ⟨wr.heap.size, 0, none⟩ 1 1 [.int .i64 a, .int .i64 Z0, .int .i64 f, .int .i64 k, .int .i64 wv, .int .i64 rc] rfl rfl ?c1 ?c2 ?c3 ?c4 ?c5 ?_)
                  try case c1 =>
                    intro j u hj
                    match j, hj with
                    | 0, hj => simp at hj; subst hj; simp [Addr.add]
                    | 1, hj => simp at hj; subst hj; simp [Addr.add]
                    | 2, hj => simp at hj; subst hj; simp [Addr.add]
                    | 3, hj => simp at hj; subst hj; simp [Addr.add]
                    | 4, hj => simp at hj; subst hj; simp [Addr.add]
                    | 5, hj => simp at hj; subst hj; simp [Addr.add]
                    | (j + 6), hj => simp at hj
                  try case c2 => first | exact ⟨rfl, rfl, rfl, rfl, rfl⟩ | exact ⟨rfl, rfl, rfl, rfl, rfl, rfl⟩ | (intro u hu; simp at hu; rcases hu with rfl | rfl | rfl | rfl | rfl | rfl <;> rfl)
                  try case c3 => unfold maxLen; omega
                  try case c4 => omega
                  try case c5 => first | omega | (have := HBV.out.size; simp; omega)
                  intro v' wz hown' hgrow _
                  have HO := Lib.hid hown'
                  have HG := Lib.hid hgrow
                  clear hown' hgrow
                  go_wp2
                  go_roundw
                  case rel =>
                    refine ⟨k + 1, k, pre ++ [refX l f k hfl], by omega, by omega, by go_num, rfl, (HBV.out.alloc HBV.out.size _).grown HG.out (by have := HBV.out.size; simp; omega) (fun q hq => (hltm q hq).1), ?_, by simp; omega, .inr ⟨by omega, HN.out⟩⟩
                    rw [HFULL.out, List.length_append]
                    exact HO.out
                  case measure => simp [RowKit.intOf]; omega
            · refine AllReadyH.cons rfl (fun K hK => ?_) AllReadyH.nil
              go_simp
              refine hK.out _ _ (HSW.out _ ((below_drew (Below.refl _ _)).alloc (by exact Nat.le_refl _) _)) (fun hHeld => ?_)
              simp only [Act.put, List.setIfInBounds_toArray, List.set_cons_zero, List.set_cons_succ]
              refine wpAnyH_ready (rs := [15]) (by kernel_rfl) (by simp) ?_
              refine AllReadyH.cons rfl (fun K hK => ?_) AllReadyH.nil
              go_simp
              go_at_call 38
              refine (HWC.out _ ((below_drew HBE.out).alloc (by exact HBE.out.size) _)).mono ?_
              rintro e w9 ⟨rfl, hb9⟩
              have hbx : Below W.heap.size W w9 := ((below_drew (Below.refl _ _)).alloc (by exact Nat.le_refl _) _).trans (hb9.mono (by simp))
              have hrow : w9.heap[W.heap.size]? = some (.cells #[.int .i64 0, .int .i64 0, .int .i64 0, .int .i64 0, .int .i64 0, .int .i64 0] 40) := (hb9.block W.heap.size (by simp)).trans (by exact heap_alloc_last W.drew _)
              obtain ⟨⟨r0, r1, r2, r3, r4, r5⟩, g0, g1, g2, g3, g4, g5⟩ := six hrow
              refine hK.out _ _ (HSW.out _ hbx) (fun hHeld => ?_)
              simp only [Act.put, List.setIfInBounds_toArray, List.set_cons_zero, List.set_cons_succ]
              refine wpAnyH_take (i := 16) (v := ?v33) rfl (by kernel_rfl) (by kernel_rfl) (by kernel_rfl) (fun _ _ _ h => h) (Or.inl ⟨by rfl, ?hy33⟩) (by assumption) ?rest33
              case hy33 =>
                intro w hSw
                try dsimp only at hSw
                first | (go_simp; done) | (go_simp; with_reducible rfl)
              simp only [Act.put, List.setIfInBounds_toArray, List.set_cons_zero, List.set_cons_succ]
              refine wpAnyH_ready (rs := [18]) (by kernel_rfl) (by simp) ?_
              refine AllReadyH.cons rfl (fun K hK => ?_) AllReadyH.nil
              go_simp
              refine hK.out _ _ (HSW.out _ (six_below _ _ _ _ _ _ hbx (Nat.le_refl _))) (fun hHeld => ?_)
              simp only [Act.put, List.setIfInBounds_toArray, List.set_cons_zero, List.set_cons_succ]
              refine wpAnyH_done (by kernel_rfl) ?_ _
              clear hHeld r0 r1 r2 r3 r4 r5 g0 g1 g2 g3 g4 g5
              have hz := six_set (.int .i64 a) (.int .i64 0) (.int .i64 f) (.int .i64 i) (.int .i64 wv) (.int .i64 rc) hrow
              have hbz := six_below (.int .i64 a) (.int .i64 0) (.int .i64 f) (.int .i64 i) (.int .i64 wv) (.int .i64 rc) hbx (Nat.le_refl _)
              have hb8 := Nat.le_refl W.heap.size
              have hb8' := Nat.le_refl W.heap.size
              clear hb9 hbx hrow
              generalize (((((w9.setCell ⟨W.heap.size, 0, none⟩ (.int .i64 a)).setCell ⟨W.heap.size, 1, none⟩ (.int .i64 0)).setCell ⟨W.heap.size, 2, none⟩ (.int .i64 f)).setCell ⟨W.heap.size, 3, none⟩ (.int .i64 i)).setCell ⟨W.heap.size, 4, none⟩ (.int .i64 wv)).setCell ⟨W.heap.size, 5, none⟩ (.int .i64 rc) = Z at *
              have HZ0 := Lib.hid (And.intro hz (And.intro hb8 hbz))
              clear hz hb8 hbz hs1 hs2 hs3 hs4 hs5 hs6 hs8 hs9
              go_wp2_with fail
              go_loopw [9] (fun s9 wy => ∃ k : Nat, f ≤ k ∧ k ≤ i ∧ s9 = .int .i64 k ∧ Below W.heap.size W wy ∧ wy.heap[W.heap.size]? = some (.cells #[.int .i64 a, .int .i64 (szF (seg l f k)), .int .i64 f, .int .i64 i, .int .i64 wv, .int .i64 rc] 40)) (fun s9 _ => i - (RowKit.intOf s9).toNat)
              case atStart => exact ⟨f, Nat.le_refl _, Nat.le_of_lt hfi, rfl, HZ0.out.2.2, by rw [seg_none]; exact HZ0.out.1⟩
              case round =>
                obtain ⟨k, hfk, hki, rfl, hby, hzy⟩ := hrel
                have HBY := Lib.hid hby
                by_cases hkl : k < i
                · have hkl2 : k < l.length := by omega
                  obtain ⟨b', off', hA', hbl', q0, q1, q2⟩ := (HRV.out.below (HBE.out.trans (hby.mono HBE.out.size))).at_ hkl2
                  injection hA' with hA'
                  injection hA' with e1 e2
                  subst e1 e2
                  have hsn := szF_snoc (seg l f k) l[k]
                  rw [← seg_snoc l f k hfk hkl2] at hsn
                  have HSN := Lib.hid hsn.symm
                  obtain ⟨rz, hrz⟩ : ∃ rz, (l[k]).2.1 = rz := ⟨_, rfl⟩
                  rw [hrz] at q1 HSN
                  obtain ⟨Z0, hZ0⟩ : ∃ Z0, szF (seg l f k) = Z0 := ⟨_, rfl⟩
                  rw [hZ0] at hzy HSN
                  obtain ⟨Z1, hZ1⟩ : ∃ Z1, szF (seg l f (k + 1)) = Z1 := ⟨_, rfl⟩
                  rw [hZ1] at HSN
                  have hwz := HSN.out
                  have HZZ := Lib.hid hZ1
                  have HZY := Lib.hid hzy
                  obtain ⟨⟨-, y1, -⟩, -, z1, -⟩ := six hzy
                  have hlb8 : W.heap.size < wr.heap.size := (Array.getElem?_eq_some_iff.1 hzy).1
                  clear hby hzy hsn hrz hZ0 hZ1 q0 q2
                  go_wp2_with fail
                  go_region
                  go_wp2
                  go_roundw
                  case rel =>
                    refine ⟨k + 1, by omega, by omega, by go_num, below_drew (HBY.out.setCell hb8' _), ?_⟩
                    rw [HZZ.out]
                    exact heap_setCell_same wr (W.heap.size) 1 _ _ _ HZY.out
                  case measure => simp [RowKit.intOf]; omega
                · obtain rfl : k = i := by omega
                  have HFULL := Lib.hid (show cellsC (pre ++ [refX l f k hfl]) = cellsC pre ++ [.int .i64 a, .int .i64 (szF (seg l f k)), .int .i64 f, .int .i64 k, .int .i64 wv, .int .i64 rc] by
                    rw [cellsC_snoc]
                    unfold refX
                    simp only [HAC.out.1, HAC.out.2, HWV.out])
                  generalize szF (seg l f k) = Z0 at *
                  obtain ⟨⟨y0, y1, y2, y3, y4, y5⟩, -⟩ := six hzy
                  have hlb8 : W.heap.size < wr.heap.size := (Array.getElem?_eq_some_iff.1 hzy).1
                  have hownY := Cl.ownsRow_below HOE.out hby
                  have HOY := Lib.hid hownY
                  have hltm := hownY.lt
                  have HBV := Lib.hid (HBE.out.trans (hby.mono HBE.out.size))
                  clear hownY hby hzy
                  go_wp2_with (at_builtin; refine wpList_append_own _ rfl _ _ 37 rfl V0.heap.size 40 i0 (.agg #[.int .i64 0, .int .i64 0, .int .i64 0, .int .i64 0, .int .i64 0, .int .i64 0]) 6 48 Tryd.underlying37 HI.out HQ0.out HQ1.out HQ2.out rfl (by decide) _ _ _ rfl (HOY.out.alloc _) ⟨wr.heap.size, 0, none⟩ 1 1 [.int .i64 a, .int .i64 Z0, .int .i64 f, .int .i64 k, .int .i64 wv, .int .i64 rc] rfl rfl ?c1 ?c2 ?c3 ?c4 ?c5 ?_)
                  try case c1 =>
                    intro j u hj
                    match j, hj with
                    | 0, hj => simp at hj; subst hj; simp [Addr.add]
                    | 1, hj => simp at hj; subst hj; simp [Addr.add]
                    | 2, hj => simp at hj; subst hj; simp [Addr.add]
                    | 3, hj => simp at hj; subst hj; simp [Addr.add]
                    | 4, hj => simp at hj; subst hj; simp [Addr.add]
                    | 5, hj => simp at hj; subst hj; simp [Addr.add]
                    | (j + 6), hj => simp at hj
                  try case c2 => first | exact ⟨rfl, rfl, rfl, rfl, rfl⟩ | exact ⟨rfl, rfl, rfl, rfl, rfl, rfl⟩ | (intro u hu; simp at hu; rcases hu with rfl | rfl | rfl | rfl | rfl | rfl <;> rfl)
                  try case c3 => unfold maxLen; omega
                  try case c4 => omega
                  try case c5 => first | omega | (have := HBV.out.size; simp; omega)
                  intro v' wz hown' hgrow _
                  have HO := Lib.hid hown'
                  have HG := Lib.hid hgrow
                  clear hown' hgrow
                  go_wp2
                  go_roundw
                  case rel =>
                    refine ⟨k + 1, k, pre ++ [refX l f k hfl], by omega, by omega, by go_num, rfl, (HBV.out.alloc HBV.out.size _).grown HG.out (by have := HBV.out.size; simp; omega) (fun q hq => (hltm q hq).1), ?_, by simp; omega, .inr ⟨by omega, HN.out⟩⟩
                    rw [HFULL.out, List.length_append]
                    exact HO.out
                  case measure => simp [RowKit.intOf]; omega
        · have hpe : pre = ofC l := by
            rcases hrel with ⟨h, _⟩ | ⟨_, h⟩
            · omega
            · exact h
          subst hpe
          have HOWN := Lib.hid hown
          clear hown hrel
          go_wp2
          go_ret
          exact ⟨_, rfl, Cl.ownsRow_mono HOWN.out HBK.out.size, HBK.out.trans (hbw.mono HBK.out.size)⟩
end Go.Proofs.YtlocnjenkanmpaaDoor.Ku
