/-
  Proved here: what cluster.Of returns, for every row of at most 1000000 runes: a new row of their clusters; it leaves what was in memory. Condition: the code's row of numbers holds what the program's text lays.
-/
import Derived.Deep.RegionHeld3
import Derived.Test.YtlocnjenkanmpaaDoorMKuStep
import Derived.Test.YtlocnjenkanmpaaDoorM18
set_option linter.unusedVariables false
set_option linter.unusedSimpArgs false
namespace Go.Proofs.YtlocnjenkanmpaaDoor.Ku
open Go.RowKit Go.Lib Go.Proofs.YtlocnjenkanmpaaDoor.Arr Go.Proofs.YtlocnjenkanmpaaDoor.Gc
open Go.Proofs.YtlocnjenkanmpaaDoor.Cl (IntsAt)
open Go.Proofs.YtlocnjenkanmpaaDoor.Co (slotsT)
theorem ints_of_own {w : World} {B g n : Nat} {zs : List Int} (h : w.ownsRow B 3 1 (.slice (some ⟨g, 0, none⟩) n n) n (zs.map (Value.int .i64))) (hn : zs.length = n) : IntsAt w (some ⟨g, 0, none⟩) zs := by
  subst hn
  obtain ⟨A, c, e, h⟩ := Cl.intsAt_own h
  injection e with e1
  subst e1
  exact h
theorem own_ptr {w : World} {B : Nat} {t : TypeId} {s : Nat} {v : Value} {n : Nat} {xs : List Value} (h : w.ownsRow B t s v n xs) (hn : 0 < n) : ∃ g cap cur, v = .slice (some ⟨g, 0, none⟩) n cap ∧ B ≤ g ∧ w.heap[g]? = some (.cells cur t) := by
  rcases h.2 with ⟨rfl, h0⟩ | ⟨g, cap, cur, rfl, hb, hg, _⟩
  · omega
  · exact ⟨g, cap, cur, rfl, hb, hg⟩
theorem own_ne {w : World} {B : Nat} {t t' : TypeId} {s : Nat} {v : Value} {n i : Nat} {xs : List Value} {cs : Array Value} (h : w.ownsRow B t s v n xs) (hi : w.heap[i]? = some (.cells cs t')) (ht : t ≠ t') : some i ≠ v.ownBlock := by
  intro e
  rcases h.2 with ⟨rfl, _⟩ | ⟨g, cap, cur, rfl, hb, hg, _⟩
  · cases e
  · have e1 : i = g := Option.some.inj e
    subst e1
    rw [hi] at hg
    injection hg with hg
    injection hg with _ hg _
    exact ht hg.symm
theorem state_step {l : List R3} {k : Nat} (hk : k < l.length) {c : Int} {f : Nat} {p : Bool} (h : stAt l k = ⟨c, decide (f % 2 = 1), p⟩) :
    stAt l (k + 1) = ⟨(l[k]).2.2, decide ((if kindT (l[k]).2.2 = 6 then f + 1 else 0 : Nat) % 2 = 1), stepP ⟨c, false, p⟩ (l[k]).2.2⟩ := by
  rw [stAt_succ l k hk, h]
  unfold step stepO stepP
  congr 1
  simp only
  split
  · by_cases h1 : f % 2 = 1
    · rw [decide_eq_true h1, decide_eq_false (by omega)]; rfl
    · rw [decide_eq_false h1, decide_eq_true (by omega)]; rfl
  · rfl
theorem joins_nat {σ : Sg} {c : Int} {k1 k2 : Nat} (h1 : kindT σ.c = k1) (h2 : kindT c = k2) : joins σ c = (rules k1 k2 || (if k1 = 5 then σ.p && pictT c else (k2 == 6) && σ.o)) := by
  unfold joins
  rw [h1, h2]
  congr 1
  by_cases h : k1 = 5
  · rw [if_pos h, if_pos (by omega)]
  · rw [if_neg h, if_neg (by omega)]
    congr 1
    rw [Bool.eq_iff_iff]
    simp
    omega
theorem nat_kind (c : Int) : ∃ k : Nat, kindT c = (k : Int) ∧ k ≤ 13 := by
  have h := kind_le c
  exact ⟨(kindT c).toNat, by omega, by omega⟩
theorem three {w : World} {g : Nat} {v0 v1 v2 : Value} {t : TypeId} (h : w.heap[g]? = some (.cells #[v0, v1, v2] t)) : w.cell? ⟨g, 0, none⟩ = some v0 ∧ w.cell? ⟨g, 1, none⟩ = some v1 ∧ w.cell? ⟨g, 2, none⟩ = some v2 :=
  ⟨cell_of_row w g 0 _ _ _ h, cell_of_row w g 1 _ _ _ h, cell_of_row w g 2 _ _ _ h⟩
/-- The two ways of a branch meet: what stands behind them is walked once. -/
theorem wp_cond_merge {P : Program} {x : Operand} {c d : Code} {Q : Exit → Act → World → Prop} {K : Act → World → Prop} {a : Act} {w : World} (K1 : Act → World → Prop)
    (h1 : RowKit.Hid ((Code.cond x c d).wp P (Exit.then K1 Q) a w)) (h2 : RowKit.Hid (∀ a w, K1 a w → K a w)) : (Code.cond x c d).wp P (Exit.then K Q) a w :=
  wp_mono h1.out (then_mono h2.out)
theorem stop_list {P : Program} {ops : Array Oper} {Q : Exit → Act → World → Prop} {l : List Oper} {a : Act} {w : World} (h : RowKit.Hid (wpList P ops Q l a w)) : wpList P ops Q l a w := h.out
theorem stop_cond {P : Program} {x : Operand} {c d : Code} {Q : Exit → Act → World → Prop} {a : Act} {w : World} (h : RowKit.Hid ((Code.cond x c d).wp P Q a w)) : (Code.cond x c d).wp P Q a w := h.out
theorem one_grown (w : World) (g j : Nat) (v : Value) : w.grownBy (w.setCell ⟨g, j, none⟩ v) (some g) :=
  ⟨rfl, rfl, rfl, by simp, fun i _ hne => heap_setCell_other w ⟨g, j, none⟩ i v (fun e => hne (by rw [e]))⟩
theorem own_six {w : World} {B g g0 n cap : Nat} {t : TypeId} {s : Nat} {xs : List Value} (v0 v1 v2 v3 v4 v5 : Value) (h : w.ownsRow B t s (.slice (some ⟨g0, 0, none⟩) n cap) n xs) (hne : g0 ≠ g) :
    ((((((w.setCell ⟨g, 0, none⟩ v0).setCell ⟨g, 1, none⟩ v1).setCell ⟨g, 2, none⟩ v2).setCell ⟨g, 3, none⟩ v3).setCell ⟨g, 4, none⟩ v4).setCell ⟨g, 5, none⟩ v5).ownsRow B t s (.slice (some ⟨g0, 0, none⟩) n cap) n xs := by
  have hn : (Value.slice (some ⟨g0, 0, none⟩) n cap).ownBlock = none ∨ (Value.slice (some ⟨g0, 0, none⟩) n cap).ownBlock ≠ some g := .inr (fun e => hne (Option.some.inj e))
  exact (((((h.kept (one_grown _ g 0 v0) hn).kept (one_grown _ g 1 v1) hn).kept (one_grown _ g 2 v2) hn).kept (one_grown _ g 3 v3) hn).kept (one_grown _ g 4 v4) hn).kept (one_grown _ g 5 v5) hn
/-- The number in a cell. -/
def cellInt (V : World) (a : Addr) : Int := match V.cell? a with
  | some (.int _ n) => n
  | _ => 0
theorem cellInt_is {V : World} {a : Addr} {n : Int} (h : V.cell? a = some (.int .i64 n)) : cellInt V a = n := by unfold cellInt; rw [h]
theorem cellInt_self {V : World} {a : Addr} {n : Int} (h : V.cell? a = some (.int .i64 n)) : V.cell? a = some (.int .i64 (cellInt V a)) := by rw [cellInt_is h, h]
/-- The last cluster of a row of the call's own. -/
theorem own_last {w : World} {B g cap : Nat} {t : TypeId} {pre : List C6} {x : C6} (h : w.ownsRow B t 6 (.slice (some ⟨g, 0, none⟩) (pre.length + 1) cap) (pre.length + 1) (cellsC (pre ++ [x]))) :
    (w.cell? ⟨g, pre.length * 6 + 1, none⟩ = some (.int .i64 x.z) ∧ w.cell? ⟨g, pre.length * 6 + 3, none⟩ = some (.int .i64 x.t) ∧ w.cell? ⟨g, pre.length * 6 + 4, none⟩ = some (.int .i64 x.w)) ∧ w.frozen? ⟨g, pre.length * 6 + 1, none⟩ = false ∧ w.frozen? ⟨g, pre.length * 6 + 3, none⟩ = false ∧ w.frozen? ⟨g, pre.length * 6 + 4, none⟩ = false := by
  obtain ⟨_, c1, _, c3, c4, _⟩ := cellsC_at (pre ++ [x]) pre.length (by simp)
  have e : (pre ++ [x])[pre.length]'(by simp) = x := by simp
  rw [e] at c1 c3 c4
  exact ⟨⟨(h.cellAt _ (by omega)).trans c1, (h.cellAt _ (by omega)).trans c3, (h.cellAt _ (by omega)).trans c4⟩, h.frozenAt _, h.frozenAt _, h.frozenAt _⟩
theorem own_wide {w : World} {B g cap : Nat} {t : TypeId} {pre : List C6} {a z f u v c : Int} (h : w.ownsRow B t 6 (.slice (some ⟨g, 0, none⟩) (pre.length + 1) cap) (pre.length + 1) (cellsC (pre ++ [⟨a, z, f, u, v, c⟩]))) :
    w.cell? ⟨g, pre.length * 6 + 4, none⟩ = some (.int .i64 v) ∧ w.frozen? ⟨g, pre.length * 6 + 4, none⟩ = false := by
  obtain ⟨⟨_, _, h1⟩, _, _, h2⟩ := own_last h
  exact ⟨h1, h2⟩
theorem cellsC_app (pre l : List C6) : cellsC (pre ++ l) = cellsC pre ++ cellsC l := by simp [cellsC]
theorem cells_set (pre : List C6) (x y : C6) (j : Nat) (v : Value) (h : (cellsC [x]).set j v = cellsC [y]) : (cellsC (pre ++ [x])).set (pre.length * 6 + j) v = cellsC (pre ++ [y]) := by
  rw [cellsC_app, cellsC_app, List.set_append_right _ _ (by rw [cellsC_len]; omega), cellsC_len, Nat.add_sub_cancel_left, h]
theorem hol (B g cap : Nat) (t : TypeId) (pre : List C6) (a z f u v c : Int) (w : World) (h : w.ownsRow B t 6 (.slice (some ⟨g, 0, none⟩) (pre.length + 1) cap) (pre.length + 1) (cellsC (pre ++ [⟨a, z, f, u, v, c⟩]))) :
    w.cell? ⟨g, pre.length * 6 + 4, none⟩ = some (.int .i64 v) ∧ w.frozen? ⟨g, pre.length * 6 + 4, none⟩ = false := own_wide h
theorem hfin (B g cap : Nat) (t : TypeId) (pre : List C6) (a z f u v c : Int) (w : World) (v' : Int) (h : w.ownsRow B t 6 (.slice (some ⟨g, 0, none⟩) (pre.length + 1) cap) (pre.length + 1) (cellsC (pre ++ [⟨a, z, f, u, v, c⟩]))) :
    (w.setCell ⟨g, pre.length * 6 + 4, none⟩ (.int .i64 v')).ownsRow B t 6 (.slice (some ⟨g, 0, none⟩) (pre.length + 1) cap) (pre.length + 1) (cellsC (pre ++ [⟨a, z, f, u, v', c⟩])) := by
  have h1 := (h.stored (pre.length * 6 + 4) (.int .i64 v')).1
  rw [cells_set pre ⟨a, z, f, u, v, c⟩ ⟨a, z, f, u, v', c⟩ 4 (.int .i64 v') rfl] at h1
  exact h1
theorem two_set {w3 V : World} {b5 b8 g cap : Nat} {t : TypeId} {pre : List C6} {x : C6} {r5 r8 : Obj} (z' t' : Int)
    (hown : V.ownsRow w3.heap.size t 6 (.slice (some ⟨g, 0, none⟩) (pre.length + 1) cap) (pre.length + 1) (cellsC (pre ++ [x]))) (h5 : V.heap[b5]? = some r5) (h8 : V.heap[b8]? = some r8) (hn5 : g ≠ b5) (hn8 : g ≠ b8) (hg : w3.heap.size ≤ g) (hb : Below w3.heap.size w3 V) :
    (((V.setCell ⟨g, pre.length * 6 + 1, none⟩ (.int .i64 z')).setCell ⟨g, pre.length * 6 + 3, none⟩ (.int .i64 t')).drew).heap[b5]? = some r5 ∧
    (((V.setCell ⟨g, pre.length * 6 + 1, none⟩ (.int .i64 z')).setCell ⟨g, pre.length * 6 + 3, none⟩ (.int .i64 t')).drew).heap[b8]? = some r8 ∧
    (((V.setCell ⟨g, pre.length * 6 + 1, none⟩ (.int .i64 z')).setCell ⟨g, pre.length * 6 + 3, none⟩ (.int .i64 t')).drew).ownsRow w3.heap.size t 6 (.slice (some ⟨g, 0, none⟩) (pre.length + 1) cap) (pre.length + 1) (cellsC (pre ++ [⟨x.a, z', x.f, t', x.w, x.c⟩])) ∧
    Below w3.heap.size w3 (((V.setCell ⟨g, pre.length * 6 + 1, none⟩ (.int .i64 z')).setCell ⟨g, pre.length * 6 + 3, none⟩ (.int .i64 t')).drew) := by
  refine ⟨?_, ?_, ?_, below_drew ((hb.setCell hg _).setCell hg _)⟩
  · exact (heap_setCell_other _ ⟨g, pre.length * 6 + 3, none⟩ _ _ (Ne.symm hn5)).trans ((heap_setCell_other _ ⟨g, pre.length * 6 + 1, none⟩ _ _ (Ne.symm hn5)).trans h5)
  · exact (heap_setCell_other _ ⟨g, pre.length * 6 + 3, none⟩ _ _ (Ne.symm hn8)).trans ((heap_setCell_other _ ⟨g, pre.length * 6 + 1, none⟩ _ _ (Ne.symm hn8)).trans h8)
  · have h1 := (hown.stored (pre.length * 6 + 1) (.int .i64 z')).1
    rw [cells_set pre x ⟨x.a, z', x.f, x.t, x.w, x.c⟩ 1 (.int .i64 z') rfl] at h1
    have h2 := (h1.stored (pre.length * 6 + 3) (.int .i64 t')).1
    rw [cells_set pre ⟨x.a, z', x.f, x.t, x.w, x.c⟩ ⟨x.a, z', x.f, t', x.w, x.c⟩ 3 (.int .i64 t') rfl] at h2
    exact h2
set_option maxHeartbeats 4000000 in
set_option maxRecDepth 100000 in
theorem of_any (A : Option Addr) (l : List R3) (c0 : Nat) (w : World) (hR : RuAt w A l) (hH : Held w) (hn : l.length ≤ 1000000) :
    Calls Tryd.prog 13 #[.slice A l.length c0] w fun e w' => ∃ v, e = .returned v ∧ w'.ownsRow w.heap.size 40 6 v (ofC l).length (cellsC (ofC l)) ∧ Below w.heap.size w w' := by
  have hcl := codes_len l
  have HCD := Lib.hid (fun W h => codes_any A l c0 W h (by omega))
  have HALL := Lib.hid (fun g1 W h => (by
    have := Co.all_any (some ⟨g1, 0, none⟩) (codes l) l.length W h (by omega)
    rw [hcl] at this
    exact this : Calls Tryd.prog 26 #[.slice (some ⟨g1, 0, none⟩) l.length l.length] W fun e w' => ∃ g, e = .returned (.slice (some ⟨g, 0, none⟩) l.length l.length) ∧ w'.ownsRow W.heap.size 3 1 (.slice (some ⟨g, 0, none⟩) l.length l.length) l.length (Co.slotsC (codes l)) ∧ Below W.heap.size W w'))
  obtain ⟨i0, hi, hz0, hzs, hzb⟩ := Cl.info_parts infoC
  have HI := Lib.hid hi
  have HQ0 := Lib.hid hz0
  have HQ1 := Lib.hid hzs
  have HQ2 := Lib.hid hzb
  have HR := Lib.hid hR
  have HH := Lib.hid hH
  have HCL := Lib.hid hcl
  clear hi hz0 hzs hzb hR hH hcl
  go_enter Tryd.func13, Tryd.ntmps13
  go_wp2_with fail
  refine (HCD.out _ HR.out).mono ?_
  rintro e w1 ⟨g1, rfl, ho1, hb1⟩
  have HI1 := Lib.hid (ints_of_own ho1 HCL.out)
  clear ho1
  go_wp2_with fail
  refine (HALL.out _ _ HI1.out).mono ?_
  rintro e w2 ⟨g2, rfl, ho2, hb2⟩
  have HI2 := Lib.hid (ints_of_own (zs := (codes l).map slotsT) ho2 (by rw [List.length_map]; exact HCL.out))
  have hb12 := hb1.trans (hb2.mono hb1.size)
  clear ho2 hb1 hb2 HALL HCD HI1
  go_wp2_with fail
  refine (nothing_any _).mono ?_
  rintro e w3 ⟨rfl, hb3⟩
  have hb13 := hb12.trans (hb3.mono hb12.size)
  have HI3 := Lib.hid (HI2.out.below hb3)
  have HR3 := Lib.hid (HR.out.below hb13)
  have HH3 := Lib.hid (HH.out.below hb13)
  have HB3 := Lib.hid hb13
  clear HI2 HR HH hb12 hb3 hb13
  have hbA : Below w3.heap.size w3 (w3.alloc (.cells #[.int .i64 0, .int .i64 0, .int .i64 0, .int .i64 3, .int .i64 0, .bool false] 63)) := (Below.refl _ _).alloc (Nat.le_refl _) _
  have HBA := Lib.hid hbA
  clear hbA
  go_wp2_with fail
  go_loopw [4, 16] (fun s4 s16 wx => ∃ (k : Nat) (m : List C6) (a z c : Int) (f : Nat) (p : Bool), k ≤ l.length ∧ s16 = .int .i64 k ∧ Below w3.heap.size w3 wx ∧ wx.ownsRow w3.heap.size 40 6 s4 m.length (cellsC m) ∧ wx.heap[w3.heap.size]? = some (.cells #[.int .i64 a, .int .i64 z, .int .i64 c, .int .i64 (kindT c), .int .i64 f, .bool p] 63) ∧ stAt l k = ⟨c, decide (f % 2 = 1), p⟩ ∧ f ≤ k ∧ m.length ≤ k ∧ ((k = 0 ∧ m = []) ∨ ∃ pre x, m = pre ++ [x] ∧ pre ++ run (stAt l k) k x (l.drop k) = ofC l)) (fun _ s16 _ => l.length - (RowKit.intOf s16).toNat)
  case atStart => exact ⟨0, [], 0, 0, 0, 0, false, Nat.zero_le _, rfl, HBA.out, World.ownsRow_nil _ _ _ _, by rw [kind_0]; exact heap_alloc_last _ _, rfl, Nat.le_refl _, Nat.le_refl _, .inl ⟨rfl, rfl⟩⟩
  case round =>
    obtain ⟨k, m, a, z, c, f, p, hk, rfl, hb, hown, he5, hst, hfk, hmk, hrun⟩ := hrel
    by_cases hlt : k < l.length
    · have HRUN := Lib.hid hrun
      have HSS := Lib.hid (state_step hlt hst)
      have HST := Lib.hid hst
      have HE5 := Lib.hid he5
      have HOWN := Lib.hid hown
      have HB := Lib.hid hb
      obtain ⟨b, off, rfl, hblt, q0, q1, q2⟩ := (HR3.out.below hb).at_ hlt
      have hH3 := HH3.out.below hb
      have h5lt : w3.heap.size < wr.heap.size := (Array.getElem?_eq_some_iff.1 he5).1
      have hss : k < ((codes l).map slotsT).length := by rw [List.length_map]; rw [HCL.out]; exact hlt
      obtain ⟨b2, off2, hA2, hq⟩ := HI3.out.at_ hss
      injection hA2 with hA2
      injection hA2 with e1 e2
      subst e1 e2
      rw [Nat.zero_add, show ((codes l).map slotsT)[k] = slotsT (l[k]).2.2 from by simp [codes]] at hq
      have hg2lt : g2 < w3.heap.size := World.block_lt_of_cell? w3 _ hq
      obtain ⟨r, hr⟩ : ∃ r, l[k] = r := ⟨_, rfl⟩
      have hre := hr
      rw [hr] at q0 q1 q2 hq HSS
      have HRK := Lib.hid hr
      clear hrun hst he5 hown hb hss
      obtain ⟨ra, rz, rc⟩ := r
      simp only at q0 q1 q2 hq HSS
      obtain ⟨κ1, hκ1, hk1⟩ := nat_kind c
      obtain ⟨κ2, hκ2, hk2⟩ := nat_kind rc
      have HJ := Lib.hid (show joins (stAt l k) rc = (rules κ1 κ2 || (if κ1 = 5 then p && pictT rc else (κ2 == 6) && decide ((f : Int) % 2 = 1))) by rw [HST.out, show decide ((f : Int) % 2 = 1) = decide (f % 2 = 1) from by rw [decide_eq_decide]; omega]; exact joins_nat hκ1 hκ2)
      have HW := Lib.hid (show wide (stAt l k) rc = (if alone κ2 = true then 0 else if rc = 65039 ∧ pictT c = true then 2 else slotsT rc) by rw [HST.out]; unfold wide wideC; rw [hκ2])
      have HSTEP := Lib.hid (fun W => step_any a z c κ1 f p ra rz rc W (by omega) hκ1.symm)
      have HJO := Lib.hid (fun (F : Nat) P W hH => joins_any a z c f κ1 κ2 p ra rz rc (F : Int) P W hH hk1 hk2 (by omega))
      have HWI := Lib.hid (fun (F : Nat) P W => wide_any a z c κ1 f p ra rz rc (F : Int) κ2 P (slotsT rc) W hk2)
      have hF : (if kindT rc = 6 then f + 1 else 0 : Nat) ≤ k + 1 := by split <;> omega
      rw [hκ2] at HSTEP HSS hF
      rw [hκ1] at HE5
      have HKR := Lib.hid hκ2
      generalize (if (κ2 : Int) = 6 then f + 1 else 0 : Nat) = F at *
      generalize stepP ⟨c, false, p⟩ rc = P at *
      rw [← HJ.out] at HJO
      rw [← HW.out] at HWI
      have HN5 := Lib.hid (fun V (h : Below wr.heap.size wr V) => (h.block _ h5lt).trans HE5.out)
      obtain ⟨⟨u0, u1, u2, u3, u4, u5⟩, -⟩ := six HE5.out
      have hbA1 : Below wr.heap.size wr (wr.alloc (.cells #[.int .i64 ra, .int .i64 rz, .int .i64 rc] 36)) := (Below.refl _ _).alloc (Nat.le_refl _) _
      have h7A := heap_alloc_last wr (.cells #[.int .i64 ra, .int .i64 rz, .int .i64 rc] 36)
      have HA1 := Lib.hid (And.intro hbA1 h7A)
      have HQ := Lib.hid (fun V (h : Below w3.heap.size w3 V) => (h.cell (p := ⟨g2, k, none⟩) hg2lt).trans hq)
      clear hr hre hκ1 hκ2 hbA1 h7A HJ HW
      clear hq hg2lt
      go_wp2_with fail
      refine (HSTEP.out _).mono ?_
      rintro e V2 ⟨rfl, hb2⟩
      have hbw2 : Below wr.heap.size wr V2 := HA1.out.1.trans (hb2.mono HA1.out.1.size)
      have h7 : V2.heap[wr.heap.size]? = some (.cells #[.int .i64 ra, .int .i64 rz, .int .i64 rc] 36) := (hb2.block _ (by simp)).trans HA1.out.2
      have h5 := HN5.out _ hbw2
      obtain ⟨⟨u0', u1', u2', u3', u4', u5'⟩, -⟩ := six h5
      have h5lt2 : w3.heap.size < V2.heap.size := Nat.lt_of_lt_of_le h5lt hbw2.size
      have h7lt2 : wr.heap.size < V2.heap.size := (Array.getElem?_eq_some_iff.1 h7).1
      have HBW2 := Lib.hid hbw2
      have H7 := Lib.hid h7
      have hbA2 : Below V2.heap.size V2 (V2.alloc (.cells #[.int .i64 ra, .int .i64 rz, .int .i64 rc, .int .i64 κ2, .int .i64 F, .bool P] 63)) := (Below.refl _ _).alloc (Nat.le_refl _) _
      have h8A := heap_alloc_last V2 (.cells #[.int .i64 ra, .int .i64 rz, .int .i64 rc, .int .i64 κ2, .int .i64 F, .bool P] 63)
      have hH4 := (hH3.below hbw2).below hbA2
      have HA2 := Lib.hid (And.intro hbA2 (And.intro h8A hH4))
      clear hbA2 h8A hH4 hb2 hbw2 h7 h5 HSTEP HA1 hH3
      go_wp2_with fail
      refine (HJO.out _ _ _ HA2.out.2.2).mono ?_
      rintro e V4 ⟨rfl, hb4⟩
      have hb24 : Below V2.heap.size V2 V4 := HA2.out.1.trans (hb4.mono HA2.out.1.size)
      have h8 : V4.heap[V2.heap.size]? = some (.cells #[.int .i64 ra, .int .i64 rz, .int .i64 rc, .int .i64 κ2, .int .i64 F, .bool P] 63) := (hb4.block _ (by simp)).trans HA2.out.2.1
      have h7' := (hb24.block _ h7lt2).trans H7.out
      have hb04 : Below wr.heap.size wr V4 := HBW2.out.trans (hb24.mono HBW2.out.size)
      have h5' := HN5.out _ hb04
      have hown4 := Cl.ownsRow_below HOWN.out hb04
      have HB4 := Lib.hid (HB.out.trans (hb04.mono HB.out.size))
      have hsz4 : V2.heap.size < V4.heap.size := (Array.getElem?_eq_some_iff.1 h8).1
      clear hb4 hb24 hb04 HA2 HBW2 H7 HN5 HE5 HOWN HB HJO u0 u1 u2 u3 u4 u5 u0' u1' u2' u3' u4' u5' q0 q1 q2
      go_wp2_with (with_reducible refine stop_list ?_)
      refine Lib.hid ?_
      repeat (first | (with_reducible refine stop_cond ?_) | go_step)
      refine Lib.hid ?_
      generalize Value.agg #[.int .i64 ra, .int .i64 rz, .int .i64 rc] = s20
      generalize Value.agg #[.int .i64 a, .int .i64 z, .int .i64 c, .int .i64 κ1, .int .i64 f, .bool p] = s21
      generalize Value.agg #[.int .i64 ra, .int .i64 rz, .int .i64 rc, .int .i64 κ2, .int .i64 F, .bool P] = s23
      obtain ⟨K1, hK1⟩ : ∃ K1 : Act → World → Prop, ∀ y Z, K1 y Z ↔ (∃ (pre : List C6) (x : C6) (g cap : Nat) (s26 s27 s28 s29 s30 s31 s32 s33 s34 s35 s36 : Value), y = ⟨#[.slice (some ⟨b, off, none⟩) l.length c0, undef, .slice none 0 0, .slice (some ⟨g2, 0, none⟩) l.length l.length, .slice (some ⟨g, 0, none⟩) (pre.length + 1) cap, .pointer (some ⟨w3.heap.size, 0, none⟩), .int .i64 k, .pointer (some ⟨wr.heap.size, 0, none⟩), .pointer (some ⟨V2.heap.size, 0, none⟩), u9, .slice (some ⟨b, off, none⟩) l.length c0, .slice (some ⟨g1, 0, none⟩) l.length l.length, .slice (some ⟨g2, 0, none⟩) l.length l.length, .agg #[.int .i64 0, .int .i64 0, .int .i64 0, .int .i64 3, .int .i64 0, .bool false], .slice (some ⟨b, off, none⟩) l.length c0, .int .i64 l.length, .int .i64 k, .bool true, .int .i64 k, .pointer (some ⟨b, off + k * 3, none⟩), s20, s21, s20, s23, s21, s23, s26, s27, s28, s29, s30, s31, s32, s33, s34, s35, s36, u37, u38, u39, u40, u41, u42, u43, u44, u45, u46, u47, u48, u49, u50, u51, u52, u53, u54, u55, u56, u57, u58, u59, u60, u61, u62, u63, u64, u65, u66, u67, u68, u69, u70, u71, u72, undef], []⟩ ∧ Z.ownsRow w3.heap.size 40 6 (.slice (some ⟨g, 0, none⟩) (pre.length + 1) cap) (pre.length + 1) (cellsC (pre ++ [x])) ∧ Z.heap[w3.heap.size]? = some (.cells #[.int .i64 a, .int .i64 z, .int .i64 c, .int .i64 κ1, .int .i64 f, .bool p] 63) ∧ Z.heap[wr.heap.size]? = some (.cells #[.int .i64 ra, .int .i64 rz, .int .i64 rc] 36) ∧ Z.heap[V2.heap.size]? = some (.cells #[.int .i64 ra, .int .i64 rz, .int .i64 rc, .int .i64 κ2, .int .i64 F, .bool P] 63) ∧ Below w3.heap.size w3 Z ∧ pre.length ≤ k ∧ pre ++ run (stAt l (k + 1)) (k + 1) (ext (stAt l k) x k (ra, rz, rc)) (l.drop (k + 1)) = ofC l) := ⟨_, fun _ _ => Iff.rfl⟩
      have HK1 := Lib.hid hK1
      clear hK1
      refine wp_cond_merge K1 ?_ ?_
      · clear HSS HKR HQ HWI HI3 HH3 HR3
        refine Lib.hid ?_
        cases hj : joins (stAt l k) rc with
        | true =>
          obtain ⟨pre, x, rfl, hru⟩ : ∃ pre x, m = pre ++ [x] ∧ pre ++ run (stAt l k) k x (l.drop k) = ofC l := by
            rcases HRUN.out with ⟨h0, _⟩ | h
            · subst h0
              rw [stAt_zero, joins_none] at hj
              cases hj
            · exact h
          have hml : (pre ++ [x]).length = pre.length + 1 := by simp
          rw [run_at l k hlt x (by rw [HRK.out]; exact hj), HRK.out] at hru
          rw [hml] at hown4 hmk
          obtain ⟨g, cap, cur, rfl, hBg, hgh⟩ := own_ptr hown4 (by omega)
          have HF1 := Lib.hid hru
          have HF2 := Lib.hid hown4
          have HF3 := Lib.hid h5'
          have HF4 := Lib.hid h7'
          have HF5 := Lib.hid h8
          have hpk : pre.length ≤ k := by omega
          clear hru hown4 h5' h7' h8 hgh
          go_wp2
          show K1 _ _
          exact (HK1.out _ _).2 ⟨pre, x, g, cap, _, _, _, _, _, _, _, _, _, _, _, rfl, HF2.out, HF3.out, HF4.out, HF5.out, HB4.out, hpk, HF1.out⟩
        | false =>
          have hru : m ++ run (stAt l (k + 1)) (k + 1) (ext (stAt l k) (new k (ra, rz, rc)) k (ra, rz, rc)) (l.drop (k + 1)) = ofC l := by
            rcases HRUN.out with ⟨h0, rfl⟩ | ⟨pre, x, rfl, h⟩
            · subst h0
              rw [ofC_start l (by omega)]
              have e := HRK.out
              simp only [List.nil_append, Nat.zero_add]
              rw [← e]
            · rw [run_at_no l k hlt x (by rw [HRK.out]; exact hj), HRK.out] at h
              rw [List.append_assoc]
              exact h
          have HF1 := Lib.hid hru
          have HF3 := Lib.hid h5'
          have HF4 := Lib.hid h7'
          have HF5 := Lib.hid h8
          have HF2 := Lib.hid hown4
          have hltm := hown4.lt
          obtain ⟨v70, v71, v72⟩ := three h7'
          have h7lt4 : wr.heap.size < V4.heap.size := (Array.getElem?_eq_some_iff.1 h7').1
          have h5lt4 : w3.heap.size < V4.heap.size := (Array.getElem?_eq_some_iff.1 h5').1
          have hne5 := own_ne hown4 h5' (by decide)
          have hne7 := own_ne hown4 h7' (by decide)
          have hne8 := own_ne hown4 h8 (by decide)
          clear hru h5' h7' h8 hown4 HRUN
          go_wp2_with (at_builtin; refine wpList_append_own _ rfl _ _ 37 rfl w3.heap.size 40 i0 (.agg #[.int .i64 0, .int .i64 0, .int .i64 0, .int .i64 0, .int .i64 0, .int .i64 0]) 6 48 Tryd.underlying37 HI.out HQ0.out HQ1.out HQ2.out rfl (by decide) _ _ _ rfl (HF2.out.alloc _) ⟨V4.heap.size, 0, none⟩ 1 1 [.int .i64 ra, .int .i64 0, .int .i64 k, .int .i64 0, .int .i64 0, .int .i64 rc] rfl rfl ?c1 ?c2 ?c3 ?c4 ?c5 ?_)
          case c2 => first | exact ⟨rfl, rfl, rfl, rfl, rfl⟩ | exact ⟨rfl, rfl, rfl, rfl, rfl, rfl⟩
          case c3 => unfold maxLen; omega
          case c4 => omega
          case c5 => first | omega | (simp; omega)
          intro v' V5 hown' hgrow _
          have HO := Lib.hid hown'
          have HG := Lib.hid hgrow
          clear hown' hgrow
          go_wp2
          have hown5 := HO.out
          rw [show cellsC m ++ [Value.int IntKind.i64 ra, .int .i64 0, .int .i64 k, .int .i64 0, .int .i64 0, .int .i64 rc] = cellsC (m ++ [new k (ra, rz, rc)]) from (cellsC_snoc m (new k (ra, rz, rc))).symm] at hown5
          obtain ⟨g, cap, cur, rfl, hBg, hgh⟩ := own_ptr hown5 (by omega)
          have hbx : ∀ i, i < V4.heap.size → some i ≠ u4.ownBlock → V5.heap[i]? = V4.heap[i]? := fun i hi hne => (HG.out.block i (by simp; omega) hne).trans (Below.heap_alloc _ _ _ hi)
          show K1 _ _
          exact (HK1.out _ _).2 ⟨m, new k (ra, rz, rc), g, cap, _, _, _, _, _, _, _, _, _, _, _, rfl, hown5, (hbx _ h5lt4 hne5).trans HF3.out, (hbx _ h7lt4 hne7).trans HF4.out, (hbx _ hsz4 hne8).trans HF5.out, (HB4.out.alloc (by omega) _).grown HG.out (by simp; omega) (fun q hq => (hltm q hq).1), hmk, HF1.out⟩
      · refine Lib.hid ?_
        intro y Z hh
        obtain ⟨pre, x, g, cap, s26, s27, s28, s29, s30, s31, s32, s33, s34, s35, s36, rfl, hown4, h5', h7', h8, hB4, hpk, hru⟩ := (HK1.out _ _).1 hh
        clear hh HK1
        obtain ⟨g', cap', cur, e, hBg, hgh⟩ := own_ptr hown4 (by omega)
        injection e with e _ e3
        injection e with e
        injection e with e1
        subst e1 e3
        have hn8 : g ≠ V2.heap.size := by
          intro e
          rw [e, h8] at hgh
          cases hgh
        have hn5 : g ≠ w3.heap.size := by
          intro e
          rw [e, h5'] at hgh
          cases hgh
        have hx1 : IntKind.i64.wrap ((pre.length : Int) + 1 - 1) = pre.length := by rw [IntWalk.i64_in _ (by omega)]; omega
        have hx2 : IntKind.i64.wrap (pre.length : Int) = pre.length := IntWalk.i64_in _ (by omega)
        obtain ⟨⟨y1, y3, y4⟩, z1, z3, z4⟩ := own_last hown4
        obtain ⟨v70, v71, v72⟩ := three h7'
        obtain ⟨Z1, hwz⟩ : ∃ Z1, IntKind.i64.wrap (x.z + rz) = Z1 := ⟨_, rfl⟩
        have H6 := Lib.hid (two_set Z1 ((k : Int) + 1) hown4 h5' h8 hn5 hn8 hBg hB4)
        have HRUN2 := Lib.hid hru
        have HOL := Lib.hid (hol w3.heap.size g cap 40 pre x.a Z1 x.f ((k : Int) + 1) x.w x.c)
        have HFIN := Lib.hid (hfin w3.heap.size g cap 40 pre x.a Z1 x.f ((k : Int) + 1) x.w x.c)
        clear hru hown4 h5' h7' h8 hgh cur hB4
        have HWZ := Lib.hid hwz
        have hwb := wide_bounds (stAt l k) rc
        obtain ⟨wv, hwv⟩ : ∃ wv, wide (stAt l k) rc = wv := ⟨_, rfl⟩
        rw [hwv] at HWI hwb
        have HWV := Lib.hid hwv
        obtain ⟨sl, hsl⟩ : ∃ sl, slotsT rc = sl := ⟨_, rfl⟩
        rw [hsl] at HWI HQ
        have hxz := HWZ
        clear hwv hsl hxz HRUN
        generalize hpl : pre.length = n1 at *
        have HPL := Lib.hid hpl
        clear hpl
        go_wp2_with fail
        go_region
        go_wp2_with fail
        obtain ⟨h56, h86, hown6, hb6⟩ := H6.out
        generalize ((Z.setCell ⟨g, n1 * 6 + 1, none⟩ (.int .i64 Z1)).setCell ⟨g, n1 * 6 + 3, none⟩ (.int .i64 ((k : Int) + 1))).drew = V6 at *
        clear H6 y1 y3 y4 z1 z3 z4 v70 v71 v72
        obtain ⟨y6, z6⟩ := HOL.out V6 hown6
        obtain ⟨⟨a0, a1, a2, a3, a4, a5⟩, -⟩ := six h56
        obtain ⟨⟨d0, d1, d2, d3, d4, d5⟩, -⟩ := six h86
        have hg6 : g < V6.heap.size := World.block_lt_of_cell? V6 _ y6
        have hl5 : w3.heap.size < V6.heap.size := (Array.getElem?_eq_some_iff.1 h56).1
        have hl8 : V2.heap.size < V6.heap.size := (Array.getElem?_eq_some_iff.1 h86).1
        have hB63 := Lib.hid (fun (V : World) (h : Below V6.heap.size V6 V) => (hb6.trans (h.mono hb6.size) : Below w3.heap.size w3 V))
        have HS6 := Lib.hid (show ∀ V : World, Below V6.heap.size V6 V → (V.cell? ⟨w3.heap.size, 0, none⟩ = some (.int .i64 a) ∧ V.cell? ⟨w3.heap.size, 1, none⟩ = some (.int .i64 z) ∧ V.cell? ⟨w3.heap.size, 2, none⟩ = some (.int .i64 c) ∧ V.cell? ⟨w3.heap.size, 3, none⟩ = some (.int .i64 κ1) ∧ V.cell? ⟨w3.heap.size, 4, none⟩ = some (.int .i64 f) ∧ V.cell? ⟨w3.heap.size, 5, none⟩ = some (.bool p) ∧ V.cell? ⟨V2.heap.size, 0, none⟩ = some (.int .i64 ra) ∧ V.cell? ⟨V2.heap.size, 1, none⟩ = some (.int .i64 rz) ∧ V.cell? ⟨V2.heap.size, 2, none⟩ = some (.int .i64 rc) ∧ V.cell? ⟨V2.heap.size, 3, none⟩ = some (.int .i64 κ2) ∧ V.cell? ⟨V2.heap.size, 4, none⟩ = some (.int .i64 F) ∧ V.cell? ⟨V2.heap.size, 5, none⟩ = some (.bool P) ∧ V.cell? ⟨g2, k, none⟩ = some (.int .i64 sl) ∧ V.cell? ⟨g, n1 * 6 + 4, none⟩ = some (.int .i64 (cellInt V ⟨g, n1 * 6 + 4, none⟩)) ∧ V.frozen? ⟨g, n1 * 6 + 4, none⟩ = false ∧ Below w3.heap.size w3 V) from fun V h => ⟨(h.cell (p := ⟨w3.heap.size, 0, none⟩) hl5).trans a0, (h.cell (p := ⟨w3.heap.size, 1, none⟩) hl5).trans a1, (h.cell (p := ⟨w3.heap.size, 2, none⟩) hl5).trans a2, (h.cell (p := ⟨w3.heap.size, 3, none⟩) hl5).trans a3, (h.cell (p := ⟨w3.heap.size, 4, none⟩) hl5).trans a4, (h.cell (p := ⟨w3.heap.size, 5, none⟩) hl5).trans a5, (h.cell (p := ⟨V2.heap.size, 0, none⟩) hl8).trans d0, (h.cell (p := ⟨V2.heap.size, 1, none⟩) hl8).trans d1, (h.cell (p := ⟨V2.heap.size, 2, none⟩) hl8).trans d2, (h.cell (p := ⟨V2.heap.size, 3, none⟩) hl8).trans d3, (h.cell (p := ⟨V2.heap.size, 4, none⟩) hl8).trans d4, (h.cell (p := ⟨V2.heap.size, 5, none⟩) hl8).trans d5, HQ.out V (hB63.out V h), cellInt_self ((h.cell (p := ⟨g, n1 * 6 + 4, none⟩) hg6).trans y6), (h.frozen (p := ⟨g, n1 * 6 + 4, none⟩) hg6).trans z6, hB63.out V h⟩)
        have HC6 := Lib.hid (show ∀ V : World, Below V6.heap.size V6 V → cellInt V ⟨g, n1 * 6 + 4, none⟩ = x.w from fun V h => cellInt_is ((h.cell (p := ⟨g, n1 * 6 + 4, none⟩) hg6).trans y6))
        have HO6 := Lib.hid (show ∀ V : World, Below V6.heap.size V6 V → V.ownsRow w3.heap.size 40 6 (.slice (some ⟨g, 0, none⟩) (n1 + 1) cap) (n1 + 1) (cellsC (pre ++ [⟨x.a, Z1, x.f, (k : Int) + 1, x.w, x.c⟩])) from fun V h => Cl.ownsRow_below hown6 h)
        have HS7 := Lib.hid (show ∀ (V : World) (v : Int), Below V6.heap.size V6 V → ((V.setCell ⟨g, n1 * 6 + 4, none⟩ (.int .i64 v)).cell? ⟨w3.heap.size, 0, none⟩ = some (.int .i64 a) ∧ (V.setCell ⟨g, n1 * 6 + 4, none⟩ (.int .i64 v)).cell? ⟨w3.heap.size, 1, none⟩ = some (.int .i64 z) ∧ (V.setCell ⟨g, n1 * 6 + 4, none⟩ (.int .i64 v)).cell? ⟨w3.heap.size, 2, none⟩ = some (.int .i64 c) ∧ (V.setCell ⟨g, n1 * 6 + 4, none⟩ (.int .i64 v)).cell? ⟨w3.heap.size, 3, none⟩ = some (.int .i64 κ1) ∧ (V.setCell ⟨g, n1 * 6 + 4, none⟩ (.int .i64 v)).cell? ⟨w3.heap.size, 4, none⟩ = some (.int .i64 f) ∧ (V.setCell ⟨g, n1 * 6 + 4, none⟩ (.int .i64 v)).cell? ⟨w3.heap.size, 5, none⟩ = some (.bool p) ∧ (V.setCell ⟨g, n1 * 6 + 4, none⟩ (.int .i64 v)).cell? ⟨V2.heap.size, 0, none⟩ = some (.int .i64 ra) ∧ (V.setCell ⟨g, n1 * 6 + 4, none⟩ (.int .i64 v)).cell? ⟨V2.heap.size, 1, none⟩ = some (.int .i64 rz) ∧ (V.setCell ⟨g, n1 * 6 + 4, none⟩ (.int .i64 v)).cell? ⟨V2.heap.size, 2, none⟩ = some (.int .i64 rc) ∧ (V.setCell ⟨g, n1 * 6 + 4, none⟩ (.int .i64 v)).cell? ⟨V2.heap.size, 3, none⟩ = some (.int .i64 κ2) ∧ (V.setCell ⟨g, n1 * 6 + 4, none⟩ (.int .i64 v)).cell? ⟨V2.heap.size, 4, none⟩ = some (.int .i64 F) ∧ (V.setCell ⟨g, n1 * 6 + 4, none⟩ (.int .i64 v)).cell? ⟨V2.heap.size, 5, none⟩ = some (.bool P) ∧ (V.setCell ⟨g, n1 * 6 + 4, none⟩ (.int .i64 v)).cell? ⟨g2, k, none⟩ = some (.int .i64 sl) ∧ (V.setCell ⟨g, n1 * 6 + 4, none⟩ (.int .i64 v)).cell? ⟨g, n1 * 6 + 4, none⟩ = some (.int .i64 (cellInt (V.setCell ⟨g, n1 * 6 + 4, none⟩ (.int .i64 v)) ⟨g, n1 * 6 + 4, none⟩)) ∧ (V.setCell ⟨g, n1 * 6 + 4, none⟩ (.int .i64 v)).frozen? ⟨g, n1 * 6 + 4, none⟩ = false ∧ Below w3.heap.size w3 (V.setCell ⟨g, n1 * 6 + 4, none⟩ (.int .i64 v))) from fun V v h => (by
          have ho := HFIN.out V v (HO6.out V h)
          obtain ⟨q1, q2⟩ := own_wide (pre := pre) (a := x.a) (z := Z1) (f := x.f) (u := (k : Int) + 1) (v := v) (c := x.c) (by rw [HPL.out]; exact ho)
          rw [HPL.out] at q1 q2
          have hbv : Below w3.heap.size w3 (V.setCell ⟨g, n1 * 6 + 4, none⟩ (.int .i64 v)) := (hB63.out V h).setCell hBg _
          exact ⟨(World.cell?_of_block (heap_setCell_other V ⟨g, n1 * 6 + 4, none⟩ w3.heap.size _ (Ne.symm hn5))).trans ((h.cell (p := ⟨w3.heap.size, 0, none⟩) hl5).trans a0), (World.cell?_of_block (heap_setCell_other V ⟨g, n1 * 6 + 4, none⟩ w3.heap.size _ (Ne.symm hn5))).trans ((h.cell (p := ⟨w3.heap.size, 1, none⟩) hl5).trans a1), (World.cell?_of_block (heap_setCell_other V ⟨g, n1 * 6 + 4, none⟩ w3.heap.size _ (Ne.symm hn5))).trans ((h.cell (p := ⟨w3.heap.size, 2, none⟩) hl5).trans a2), (World.cell?_of_block (heap_setCell_other V ⟨g, n1 * 6 + 4, none⟩ w3.heap.size _ (Ne.symm hn5))).trans ((h.cell (p := ⟨w3.heap.size, 3, none⟩) hl5).trans a3), (World.cell?_of_block (heap_setCell_other V ⟨g, n1 * 6 + 4, none⟩ w3.heap.size _ (Ne.symm hn5))).trans ((h.cell (p := ⟨w3.heap.size, 4, none⟩) hl5).trans a4), (World.cell?_of_block (heap_setCell_other V ⟨g, n1 * 6 + 4, none⟩ w3.heap.size _ (Ne.symm hn5))).trans ((h.cell (p := ⟨w3.heap.size, 5, none⟩) hl5).trans a5), (World.cell?_of_block (heap_setCell_other V ⟨g, n1 * 6 + 4, none⟩ V2.heap.size _ (Ne.symm hn8))).trans ((h.cell (p := ⟨V2.heap.size, 0, none⟩) hl8).trans d0), (World.cell?_of_block (heap_setCell_other V ⟨g, n1 * 6 + 4, none⟩ V2.heap.size _ (Ne.symm hn8))).trans ((h.cell (p := ⟨V2.heap.size, 1, none⟩) hl8).trans d1), (World.cell?_of_block (heap_setCell_other V ⟨g, n1 * 6 + 4, none⟩ V2.heap.size _ (Ne.symm hn8))).trans ((h.cell (p := ⟨V2.heap.size, 2, none⟩) hl8).trans d2), (World.cell?_of_block (heap_setCell_other V ⟨g, n1 * 6 + 4, none⟩ V2.heap.size _ (Ne.symm hn8))).trans ((h.cell (p := ⟨V2.heap.size, 3, none⟩) hl8).trans d3), (World.cell?_of_block (heap_setCell_other V ⟨g, n1 * 6 + 4, none⟩ V2.heap.size _ (Ne.symm hn8))).trans ((h.cell (p := ⟨V2.heap.size, 4, none⟩) hl8).trans d4), (World.cell?_of_block (heap_setCell_other V ⟨g, n1 * 6 + 4, none⟩ V2.heap.size _ (Ne.symm hn8))).trans ((h.cell (p := ⟨V2.heap.size, 5, none⟩) hl8).trans d5), HQ.out _ hbv, cellInt_self q1, q2, hbv⟩))
        have HR6 := Lib.hid (show ∀ V : World, Below V6.heap.size V6 V → V.heap[w3.heap.size]? = _ ∧ V.heap[V2.heap.size]? = _ from fun V h => ⟨(h.block _ hl5).trans h56, (h.block _ hl8).trans h86⟩)
        clear a0 a1 a2 a3 a4 a5 d0 d1 d2 d3 d4 d5 y6 z6 h56 h86 hown6 HOL
        refine wp_region_held_drew (S := fun V => V.cell? ⟨w3.heap.size, 0, none⟩ = some (.int .i64 a) ∧ V.cell? ⟨w3.heap.size, 1, none⟩ = some (.int .i64 z) ∧ V.cell? ⟨w3.heap.size, 2, none⟩ = some (.int .i64 c) ∧ V.cell? ⟨w3.heap.size, 3, none⟩ = some (.int .i64 κ1) ∧ V.cell? ⟨w3.heap.size, 4, none⟩ = some (.int .i64 f) ∧ V.cell? ⟨w3.heap.size, 5, none⟩ = some (.bool p) ∧ V.cell? ⟨V2.heap.size, 0, none⟩ = some (.int .i64 ra) ∧ V.cell? ⟨V2.heap.size, 1, none⟩ = some (.int .i64 rz) ∧ V.cell? ⟨V2.heap.size, 2, none⟩ = some (.int .i64 rc) ∧ V.cell? ⟨V2.heap.size, 3, none⟩ = some (.int .i64 κ2) ∧ V.cell? ⟨V2.heap.size, 4, none⟩ = some (.int .i64 F) ∧ V.cell? ⟨V2.heap.size, 5, none⟩ = some (.bool P) ∧ V.cell? ⟨g2, k, none⟩ = some (.int .i64 sl) ∧ V.cell? ⟨g, n1 * 6 + 4, none⟩ = some (.int .i64 (cellInt V ⟨g, n1 * 6 + 4, none⟩)) ∧ V.frozen? ⟨g, n1 * 6 + 4, none⟩ = false ∧ Below w3.heap.size w3 V) (by kernel_rfl) ?_ (fun hHeld => ?_)
        · exact HS6.out _ (below_drew (Below.refl _ _))
        change wpAnyH _ _ _ _ _ 16 #[false, false, false, false, false, false, false, false, false, false, false, false, false, false, false, false] _ _
        refine wpAnyH_take (i := 0) (v := ?v0) rfl (by kernel_rfl) (by kernel_rfl) (by kernel_rfl) (fun _ _ _ h => h) (Or.inl ⟨by rfl, ?hy0⟩) (by assumption) ?rest0
        case hy0 =>
          intro w hSw
          try dsimp only at hSw
          first | (go_simp; done) | (go_simp; with_reducible rfl)
        simp only [Act.put, List.setIfInBounds_toArray, List.set_cons_zero, List.set_cons_succ]
        refine wpAnyH_take (i := 1) (v := ?v1) rfl (by kernel_rfl) (by kernel_rfl) (by kernel_rfl) (fun _ _ _ h => h) (Or.inl ⟨by rfl, ?hy1⟩) (by assumption) ?rest1
        case hy1 =>
          intro w hSw
          try dsimp only at hSw
          first | (go_simp; done) | (go_simp; with_reducible rfl)
        simp only [Act.put, List.setIfInBounds_toArray, List.set_cons_zero, List.set_cons_succ]
        refine wpAnyH_take (i := 2) (v := ?v2) rfl (by kernel_rfl) (by kernel_rfl) (by kernel_rfl) (fun _ _ _ h => h) (Or.inl ⟨by rfl, ?hy2⟩) (by assumption) ?rest2
        case hy2 =>
          intro w hSw
          try dsimp only at hSw
          first | (go_simp; done) | (go_simp; with_reducible rfl)
        simp only [Act.put, List.setIfInBounds_toArray, List.set_cons_zero, List.set_cons_succ]
        refine wpAnyH_take (i := 3) (v := ?v3) rfl (by kernel_rfl) (by kernel_rfl) (by kernel_rfl) (fun _ _ _ h => h) (Or.inl ⟨by rfl, ?hy3⟩) (by assumption) ?rest3
        case hy3 =>
          intro w hSw
          try dsimp only at hSw
          first | (go_simp; done) | (go_simp; with_reducible rfl)
        simp only [Act.put, List.setIfInBounds_toArray, List.set_cons_zero, List.set_cons_succ]
        refine wpAnyH_take (i := 5) (v := ?v4) rfl (by kernel_rfl) (by kernel_rfl) (by kernel_rfl) (fun _ _ _ h => h) (Or.inl ⟨by rfl, ?hy4⟩) (by assumption) ?rest4
        case hy4 =>
          intro w hSw
          try dsimp only at hSw
          first | (go_simp; done) | (go_simp; with_reducible rfl)
        simp only [Act.put, List.setIfInBounds_toArray, List.set_cons_zero, List.set_cons_succ]
        refine wpAnyH_take (i := 6) (v := ?v5) rfl (by kernel_rfl) (by kernel_rfl) (by kernel_rfl) (fun _ _ _ h => h) (Or.inl ⟨by rfl, ?hy5⟩) (by assumption) ?rest5
        case hy5 =>
          intro w hSw
          try dsimp only at hSw
          first | (go_simp; done) | (go_simp; with_reducible rfl)
        simp only [Act.put, List.setIfInBounds_toArray, List.set_cons_zero, List.set_cons_succ]
        refine wpAnyH_take (i := 7) (v := ?v6) rfl (by kernel_rfl) (by kernel_rfl) (by kernel_rfl) (fun _ _ _ h => h) (Or.inl ⟨by rfl, ?hy6⟩) (by assumption) ?rest6
        case hy6 =>
          intro w hSw
          try dsimp only at hSw
          first | (go_simp; done) | (go_simp; with_reducible rfl)
        simp only [Act.put, List.setIfInBounds_toArray, List.set_cons_zero, List.set_cons_succ]
        refine wpAnyH_take (i := 8) (v := ?v7) rfl (by kernel_rfl) (by kernel_rfl) (by kernel_rfl) (fun _ _ _ h => h) (Or.inl ⟨by rfl, ?hy7⟩) (by assumption) ?rest7
        case hy7 =>
          intro w hSw
          try dsimp only at hSw
          first | (go_simp; done) | (go_simp; with_reducible rfl)
        simp only [Act.put, List.setIfInBounds_toArray, List.set_cons_zero, List.set_cons_succ]
        refine wpAnyH_take (i := 9) (v := ?v8) rfl (by kernel_rfl) (by kernel_rfl) (by kernel_rfl) (fun _ _ _ h => h) (Or.inl ⟨by rfl, ?hy8⟩) (by assumption) ?rest8
        case hy8 =>
          intro w hSw
          try dsimp only at hSw
          first | (go_simp; done) | (go_simp; with_reducible rfl)
        simp only [Act.put, List.setIfInBounds_toArray, List.set_cons_zero, List.set_cons_succ]
        refine wpAnyH_take (i := 10) (v := ?v9) rfl (by kernel_rfl) (by kernel_rfl) (by kernel_rfl) (fun _ _ _ h => h) (Or.inl ⟨by rfl, ?hy9⟩) (by assumption) ?rest9
        case hy9 =>
          intro w hSw
          try dsimp only at hSw
          first | (go_simp; done) | (go_simp; with_reducible rfl)
        simp only [Act.put, List.setIfInBounds_toArray, List.set_cons_zero, List.set_cons_succ]
        refine wpAnyH_ready (rs := [4, 11]) (by kernel_rfl) (by simp) ?_
        refine AllReadyH.cons rfl (fun K hK => ?_) ?_
        · go_simp
          refine hK.out _ _ (HS6.out _ (below_drew (Below.refl _ _))) (fun hHeld => ?_)
          simp only [Act.put, List.setIfInBounds_toArray, List.set_cons_zero, List.set_cons_succ]
          refine wpAnyH_ready (rs := [11]) (by kernel_rfl) (by simp) ?_
          refine AllReadyH.cons rfl (fun K hK => ?_) AllReadyH.nil
          go_simp
          go_at_call 31
          refine (HWI.out _ _ _).mono ?_
          rintro e w9 ⟨rfl, hb9⟩
          have hbx : Below V6.heap.size V6 w9 := (below_drew (Below.refl _ _)).trans hb9
          refine hK.out _ _ (HS6.out _ hbx) (fun hHeld => ?_)
          simp only [Act.put, List.setIfInBounds_toArray, List.set_cons_zero, List.set_cons_succ]
          refine wpAnyH_ready (rs := [12]) (by kernel_rfl) (by simp) ?_
          refine AllReadyH.cons rfl (fun K hK => ?_) AllReadyH.nil
          go_simp
          refine hK.out _ _ (HS6.out _ hbx) (fun hHeld => ?_)
          simp only [Act.put, List.setIfInBounds_toArray, List.set_cons_zero, List.set_cons_succ]
          refine wpAnyH_take (i := 13) (v := ?v10) rfl (by kernel_rfl) (by kernel_rfl) (by kernel_rfl) (fun _ _ _ h => h) (Or.inl ⟨by rfl, ?hy10⟩) (by assumption) ?rest10
          case hy10 =>
            intro w hSw
            try dsimp only at hSw
            first | (go_simp; done) | (go_simp; with_reducible rfl)
          simp only [Act.put, List.setIfInBounds_toArray, List.set_cons_zero, List.set_cons_succ]
          refine wpAnyH_take (i := 14) (v := ?v11) rfl (by kernel_rfl) (by kernel_rfl) (by kernel_rfl) (fun _ _ _ h => h) (Or.inl ⟨by rfl, ?hy11⟩) (by assumption) ?rest11
          case hy11 =>
            intro w hSw
            try dsimp only at hSw
            first | (go_simp; done) | (go_simp; with_reducible rfl)
          simp only [Act.put, List.setIfInBounds_toArray, List.set_cons_zero, List.set_cons_succ]
          refine wpAnyH_ready (rs := [15]) (by kernel_rfl) (by simp) ?_
          refine AllReadyH.cons rfl (fun K hK => ?_) AllReadyH.nil
          go_simp
          refine hK.out _ _ (HS7.out _ _ hbx) (fun hHeld => ?_)
          simp only [Act.put, List.setIfInBounds_toArray, List.set_cons_zero, List.set_cons_succ]
          refine wpAnyH_done (by kernel_rfl) ?_ _
          rw [HC6.out V6.drew (below_drew (Below.refl _ _))]
          obtain ⟨r5, r8⟩ := HR6.out w9 hbx
          have ho9 := HFIN.out w9 (max x.w wv) (HO6.out w9 hbx)
          have hb9' : Below w3.heap.size w3 (w9.setCell ⟨g, n1 * 6 + 4, none⟩ (.int .i64 (max x.w wv))) := (hB63.out w9 hbx).setCell hBg _
          have r5' := (heap_setCell_other w9 ⟨g, n1 * 6 + 4, none⟩ w3.heap.size (.int .i64 (max x.w wv)) (Ne.symm hn5)).trans r5
          have r8' := (heap_setCell_other w9 ⟨g, n1 * 6 + 4, none⟩ V2.heap.size (.int .i64 (max x.w wv)) (Ne.symm hn8)).trans r8
          generalize w9.setCell ⟨g, n1 * 6 + 4, none⟩ (.int .i64 (max x.w wv)) = W9 at *
          obtain ⟨⟨a0, a1, a2, a3, a4, a5⟩, b0, b1, b2, b3, b4, b5⟩ := six r5'
          obtain ⟨⟨d0, d1, d2, d3, d4, d5⟩, -⟩ := six r8'
          have HO9 := Lib.hid ho9
          have HB9 := Lib.hid hb9'
          have HR5 := Lib.hid r5'
          have hl59 : w3.heap.size < W9.heap.size := (Array.getElem?_eq_some_iff.1 r5').1
          clear ho9 hb9' r5' r8' r5 r8
          go_wp2
          go_roundw
          case rel =>
            have hext : ext (stAt l k) x k (ra, rz, rc) = ⟨x.a, Z1, x.f, (k : Int) + 1, max x.w wv, x.c⟩ := by
              unfold ext
              simp only [HWZ.out, HWV.out]
            have hml : (pre ++ [ext (stAt l k) x k (ra, rz, rc)]).length = n1 + 1 := by simp [HPL.out]
            refine ⟨k + 1, pre ++ [ext (stAt l k) x k (ra, rz, rc)], ra, rz, rc, F, P, by omega, by go_num, six_below _ _ _ _ _ _ HB9.out (Nat.le_refl _), ?_, ?_, HSS.out, hF, by rw [hml]; omega, .inr ⟨pre, _, rfl, HRUN2.out⟩⟩
            · rw [hml, hext]
              exact own_six _ _ _ _ _ _ HO9.out hn5
            · rw [HKR.out]
              exact six_set _ _ _ _ _ _ HR5.out
          case measure => simp [RowKit.intOf]; omega
        · refine AllReadyH.cons rfl (fun K hK => ?_) AllReadyH.nil
          go_simp
          go_at_call 31
          refine (HWI.out _ _ _).mono ?_
          rintro e w9 ⟨rfl, hb9⟩
          have hbx : Below V6.heap.size V6 w9 := (below_drew (Below.refl _ _)).trans hb9
          refine hK.out _ _ (HS6.out _ hbx) (fun hHeld => ?_)
          simp only [Act.put, List.setIfInBounds_toArray, List.set_cons_zero, List.set_cons_succ]
          refine wpAnyH_ready (rs := [4]) (by kernel_rfl) (by simp) ?_
          refine AllReadyH.cons rfl (fun K hK => ?_) AllReadyH.nil
          go_simp
          refine hK.out _ _ (HS6.out _ hbx) (fun hHeld => ?_)
          simp only [Act.put, List.setIfInBounds_toArray, List.set_cons_zero, List.set_cons_succ]
          refine wpAnyH_ready (rs := [12]) (by kernel_rfl) (by simp) ?_
          refine AllReadyH.cons rfl (fun K hK => ?_) AllReadyH.nil
          go_simp
          refine hK.out _ _ (HS6.out _ hbx) (fun hHeld => ?_)
          simp only [Act.put, List.setIfInBounds_toArray, List.set_cons_zero, List.set_cons_succ]
          refine wpAnyH_take (i := 13) (v := ?v12) rfl (by kernel_rfl) (by kernel_rfl) (by kernel_rfl) (fun _ _ _ h => h) (Or.inl ⟨by rfl, ?hy12⟩) (by assumption) ?rest12
          case hy12 =>
            intro w hSw
            try dsimp only at hSw
            first | (go_simp; done) | (go_simp; with_reducible rfl)
          simp only [Act.put, List.setIfInBounds_toArray, List.set_cons_zero, List.set_cons_succ]
          refine wpAnyH_take (i := 14) (v := ?v13) rfl (by kernel_rfl) (by kernel_rfl) (by kernel_rfl) (fun _ _ _ h => h) (Or.inl ⟨by rfl, ?hy13⟩) (by assumption) ?rest13
          case hy13 =>
            intro w hSw
            try dsimp only at hSw
            first | (go_simp; done) | (go_simp; with_reducible rfl)
          simp only [Act.put, List.setIfInBounds_toArray, List.set_cons_zero, List.set_cons_succ]
          refine wpAnyH_ready (rs := [15]) (by kernel_rfl) (by simp) ?_
          refine AllReadyH.cons rfl (fun K hK => ?_) AllReadyH.nil
          go_simp
          refine hK.out _ _ (HS7.out _ _ hbx) (fun hHeld => ?_)
          simp only [Act.put, List.setIfInBounds_toArray, List.set_cons_zero, List.set_cons_succ]
          refine wpAnyH_done (by kernel_rfl) ?_ _
          rw [HC6.out w9 hbx]
          obtain ⟨r5, r8⟩ := HR6.out w9 hbx
          have ho9 := HFIN.out w9 (max x.w wv) (HO6.out w9 hbx)
          have hb9' : Below w3.heap.size w3 (w9.setCell ⟨g, n1 * 6 + 4, none⟩ (.int .i64 (max x.w wv))) := (hB63.out w9 hbx).setCell hBg _
          have r5' := (heap_setCell_other w9 ⟨g, n1 * 6 + 4, none⟩ w3.heap.size (.int .i64 (max x.w wv)) (Ne.symm hn5)).trans r5
          have r8' := (heap_setCell_other w9 ⟨g, n1 * 6 + 4, none⟩ V2.heap.size (.int .i64 (max x.w wv)) (Ne.symm hn8)).trans r8
          generalize w9.setCell ⟨g, n1 * 6 + 4, none⟩ (.int .i64 (max x.w wv)) = W9 at *
          obtain ⟨⟨a0, a1, a2, a3, a4, a5⟩, b0, b1, b2, b3, b4, b5⟩ := six r5'
          obtain ⟨⟨d0, d1, d2, d3, d4, d5⟩, -⟩ := six r8'
          have HO9 := Lib.hid ho9
          have HB9 := Lib.hid hb9'
          have HR5 := Lib.hid r5'
          have hl59 : w3.heap.size < W9.heap.size := (Array.getElem?_eq_some_iff.1 r5').1
          clear ho9 hb9' r5' r8' r5 r8
          go_wp2
          go_roundw
          case rel =>
            have hext : ext (stAt l k) x k (ra, rz, rc) = ⟨x.a, Z1, x.f, (k : Int) + 1, max x.w wv, x.c⟩ := by
              unfold ext
              simp only [HWZ.out, HWV.out]
            have hml : (pre ++ [ext (stAt l k) x k (ra, rz, rc)]).length = n1 + 1 := by simp [HPL.out]
            refine ⟨k + 1, pre ++ [ext (stAt l k) x k (ra, rz, rc)], ra, rz, rc, F, P, by omega, by go_num, six_below _ _ _ _ _ _ HB9.out (Nat.le_refl _), ?_, ?_, HSS.out, hF, by rw [hml]; omega, .inr ⟨pre, _, rfl, HRUN2.out⟩⟩
            · rw [hml, hext]
              exact own_six _ _ _ _ _ _ HO9.out hn5
            · rw [HKR.out]
              exact six_set _ _ _ _ _ _ HR5.out
          case measure => simp [RowKit.intOf]; omega
    · obtain rfl : k = l.length := by omega
      have hm : m = ofC l := by
        rcases hrun with ⟨h0, rfl⟩ | ⟨pre, x, rfl, h⟩
        · have : l = [] := List.eq_nil_of_length_eq_zero h0
          subst this
          rfl
        · rw [run_end l l.length (Nat.le_refl _)] at h
          exact h
      subst hm
      have HOWN := Lib.hid hown
      clear hown he5 hst hrun
      go_wp2
      go_ret
      exact ⟨_, rfl, Cl.ownsRow_mono HOWN.out HB3.out.size, HB3.out.trans (hb.mono HB3.out.size)⟩
end Go.Proofs.YtlocnjenkanmpaaDoor.Ku
