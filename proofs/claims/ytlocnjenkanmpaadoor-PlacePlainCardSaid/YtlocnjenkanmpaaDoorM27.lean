/-
  Several texts in one, each with its own remark: SlCopy, PoIns, PoFront, PoGrow, BcRev, BcTurn, BoTurn, BcOrder.
-/
import Derived.Laws.CopyOwn
import Derived.Lib.AppendZerosOnto
import Derived.Lib.Overlaps
import Derived.RegionTactic
import Derived.ChangeAlike
import Derived.BigRegion
import Derived.Test.YtlocnjenkanmpaaDoorMPoSigns
import Derived.Test.YtlocnjenkanmpaaDoorM5
import Derived.Test.YtlocnjenkanmpaaDoorM2

/-
  The built-in copy of elements of any number of cells onto an own block, as an equation and in a walk, or as one step of a region that draws; append of n zeros where there is no room. No program in it.
-/
set_option linter.unusedVariables false
namespace Go.Proofs.YtlocnjenkanmpaaDoor.Pl
open Go Go.RowKit Go.Lib
theorem run_copy_many {P : Program} (w : World) (dT sT ty elem : TypeId) (g o dLen dCap : Nat) (a : Addr) (sLen sCap sz : Nat) (cur : Array Value) (t : TypeId) (cs : List Value)
    (hu : P.underlying dT = some (.slice elem)) (hs : (P.info? elem).map (·.size) = some sz)
    (hg : w.heap[g]? = some (.cells cur t (0, 0))) (hn : cs.length = Nat.min sLen dLen * sz)
    (hsrc : ∀ j v, cs[j]? = some v → w.cell? (a.add j) = some v) (hfit : o + cs.length ≤ cur.size) (h1 : ∀ v ∈ cs, v.oneCell' = true) :
    (Builtin.copy_ #[dT, sT] ty #[.slice (some ⟨g, o, none⟩) dLen dCap, .slice (some a) sLen sCap]).run P w =
      .ok (goInt (Nat.min sLen dLen)) (w.setRow g (cur.toList.take o ++ cs ++ cur.toList.drop (o + cs.length)).toArray) := by
  have hl := run_loadCells_list (P := P) w a cs hsrc
  have hst := run_storeCells_at P g o t cs 0 cur w hg (by simpa using hfit) h1
  cases hq : P.info? elem with
  | none => simp [hq] at hs
  | some i =>
    have hi : i.size = sz := by simpa [hq] using hs
    simp [Builtin.copy_, run_underlying hu, Builtin.lenOf, Builtin.firstCells, sizeOf, typeInfo, hq, hi, ← hn, hl, hst]
theorem wp_copy_run {P : Program} (w : World) {o : Oper} {a : Act} {K : Act → World → Prop} {Q : Exit → Act → World → Prop} (d s : Operand) (t t' : TypeId)
    (ho : o.op = .call { callee := .builtin .copy, args := #[d, s], argTypes := #[t, t'] }) (v u : Value) (hd : a.eval d = v) (hs : a.eval s = u) {v' : Value} {w' : World}
    (hr : (Builtin.copy_ #[t, t'] o.type #[v, u]).run P w = .ok v' w') (h : K (a.put o.dst v') w') : o.wp P a w K Q := by
  unfold Oper.wp execOp
  simp only [ho, resolve, invoke, builtin, Sem.run_bind, Sem.run_pure, Result.andThen_ok, List.map_toArray, List.map_cons, List.map_nil, hd, hs, hr]
  exact h
/-- Elements copied onto a block of the call's own. -/
theorem wpList_copy_many {P : Program} {w : World} {ops : Array Oper} {rest : List Oper} {o : Oper} {a : Act} {Q : Exit → Act → World → Prop} (hgd : o.guard = none) (d s : Operand) (dT sT : TypeId)
    (ho : o.op = .call { callee := .builtin .copy, args := #[d, s], argTypes := #[dT, sT] }) (elem : TypeId) (hu : P.underlying dT = some (.slice elem)) (sz : Nat) (hsz : (P.info? elem).map (·.size) = some sz)
    (g off dLen dCap : Nat) (ad : Addr) (sLen sCap : Nat) (hd : a.eval d = .slice (some ⟨g, off, none⟩) dLen dCap) (hs : a.eval s = .slice (some ad) sLen sCap)
    (cur : List Value) (t : TypeId) (hg : w.heap[g]? = some (.cells cur.toArray t (0, 0))) (cs : List Value) (hn : cs.length = Nat.min sLen dLen * sz)
    (hsrc : ∀ j v, cs[j]? = some v → w.cell? (ad.add j) = some v) (hfit : off + cs.length ≤ cur.length) (h1 : ∀ v ∈ cs, v.oneCell' = true) (B : Nat) (w0 : World) (hb : Below B w0 w) (hBg : B ≤ g)
    (h : ∀ w', w'.heap[g]? = some (.cells (splice cur off cs).toArray t (0, 0)) → Below B w0 w' → (∀ k, k ≠ g → w'.heap[k]? = w.heap[k]?) → wpList P ops Q rest (a.put o.dst (goInt (Nat.min sLen dLen))) w') :
    wpList P ops Q (o :: rest) a w := by
  refine wpList_plain hgd fun K hK => ?_
  have hrun := run_copy_many (P := P) w dT sT o.type elem g off dLen dCap ad sLen sCap sz cur.toArray t cs hu hsz hg hn hsrc (by simpa using hfit) h1
  refine wp_copy_run w d s dT sT ho _ _ hd hs hrun (hK _ _ (h _ ?_ (below_setRow hb hBg _) (fun k hk => setRow_other w g k _ hk)))
  simpa [splice] using setRow_heap w g _ _ t _ hg
theorem step_copy_many {P : Program} {ops : Array Oper} {o : Oper} {a : Act} {w : World} {K : Act → World → Prop} {Q : Exit → Act → World → Prop} {E : Prop} (hgd : o.guard = none) (d s : Operand) (dT sT : TypeId)
    (ho : o.op = .call { callee := .builtin .copy, args := #[d, s], argTypes := #[dT, sT] }) (elem : TypeId) (hu : P.underlying dT = some (.slice elem)) (sz : Nat) (hsz : (P.info? elem).map (·.size) = some sz)
    (g off dLen dCap : Nat) (ad : Addr) (sLen sCap : Nat) (hd : a.eval d = .slice (some ⟨g, off, none⟩) dLen dCap) (hs : a.eval s = .slice (some ad) sLen sCap)
    (cur : List Value) (t : TypeId) (hg : w.heap[g]? = some (.cells cur.toArray t (0, 0))) (cs : List Value) (hn : cs.length = Nat.min sLen dLen * sz)
    (hsrc : ∀ j v, cs[j]? = some v → w.cell? (ad.add j) = some v) (hfit : off + cs.length ≤ cur.length) (h1 : ∀ v ∈ cs, v.oneCell' = true) (B : Nat) (w0 : World) (hb : Below B w0 w) (hBg : B ≤ g)
    (h : ∀ w', w'.heap[g]? = some (.cells (splice cur off cs).toArray t (0, 0)) → Below B w0 w' → (∀ k, k ≠ g → w'.heap[k]? = w.heap[k]?) → K (a.put o.dst (goInt (Nat.min sLen dLen))) w') :
    if Region.wanted o (yielded ops a.tmps) = true then Oper.wp P o a w K Q else E := by
  have hw : Region.wanted o (yielded ops a.tmps) = true := by simp [Region.wanted, hgd]
  rw [if_pos hw]
  have hrun := run_copy_many (P := P) w dT sT o.type elem g off dLen dCap ad sLen sCap sz cur.toArray t cs hu hsz hg hn hsrc (by simpa using hfit) h1
  refine wp_copy_run w d s dT sT ho _ _ hd hs hrun (h _ ?_ (below_setRow hb hBg _) (fun k hk => setRow_other w g k _ hk))
  simpa [splice] using setRow_heap w g _ _ t _ hg
end Go.Proofs.YtlocnjenkanmpaaDoor.Pl

/-
  Proved here: what slices.Insert makes of an own row of slots, for one slot that lies in another block, put in ahead of all or behind all: an own row. Nothing below the row's base changes.
-/
set_option linter.unusedVariables false
namespace Go.Proofs.YtlocnjenkanmpaaDoor.Pl
open Go Go.RowKit Go.Lib Go.Proofs.YtlocnjenkanmpaaDoor.Ku Go.Proofs.YtlocnjenkanmpaaDoor.Wr Go.Proofs.YtlocnjenkanmpaaDoor.Arr
theorem c6_len (x : C6) : (c6 x).toList.length = 6 := rfl
theorem c6_one (x : C6) : ∀ u ∈ (c6 x).toList, u.oneCell' = true := by
  intro u hu
  simp [c6] at hu
  rcases hu with rfl | rfl | rfl | rfl | rfl | rfl <;> rfl
theorem c6_at {w : World} {b : Nat} {e : TypeId} {x : C6} (h : w.heap[b]? = some (.cells (c6 x) e (0, 0))) : ∀ j v, (c6 x).toList[j]? = some v → w.cell? ((⟨b, 0, none⟩ : Addr).add j) = some v := by
  intro j v hj
  rw [add_off, Nat.zero_add, cell_of_row w b j _ _ _ h, ← hj]
  simp
theorem cu_row {w : World} {b : Nat} {e : TypeId} {x : C6} (h : w.heap[b]? = some (.cells (c6 x) e (0, 0))) : CuAt w (some ⟨b, 0, none⟩) [x] := by
  refine .inr ⟨b, 0, rfl, (Array.getElem?_eq_some_iff.1 h).1, fun k hk => ?_⟩
  obtain rfl : k = 0 := by simpa using hk
  exact ⟨cell_of_row w b 0 _ _ _ h, cell_of_row w b 1 _ _ _ h, cell_of_row w b 2 _ _ _ h, cell_of_row w b 3 _ _ _ h, cell_of_row w b 4 _ _ _ h, cell_of_row w b 5 _ _ _ h⟩
/-- Behind all. -/
theorem ins_end (B : Nat) (zs : List C6) (n : Nat) (v : Value) (x : C6) (vb : Nat) (w : World) (hown : w.ownsRow B 42 6 v n (cellsC zs)) (hl : zs.length = n) (hx : w.heap[vb]? = some (.cells (c6 x) 42 (0, 0))) (hB : B ≤ w.heap.size) (hn : n ≤ 1000000) :
    Calls Tryd.prog 36 #[v, .int .i64 n, .slice (some ⟨vb, 0, none⟩) 1 1] w fun e w' => ∃ v', e = .returned v' ∧ w'.ownsRow B 42 6 v' (n + 1) (cellsC (zs ++ [x])) ∧ Below B w w' := by
  have HX := Lib.hid (cu_row hx)
  have HO := Lib.hid hown
  obtain ⟨A, c, rfl, hcu, hle⟩ : ∃ A c, v = .slice A n c ∧ CuAt w A zs ∧ n ≤ c := by
    subst hl
    obtain ⟨A, c, rfl, hcu⟩ := cuAt_own hown
    refine ⟨A, c, rfl, hcu, ?_⟩
    rcases hown.2 with ⟨e1, h0⟩ | ⟨g, cap, cur, e1, _, _, hle, _⟩
    · injection e1 with _ e2 _; omega
    · injection e1 with _ _ e2; omega
  have hz1 : ((1 : Int) == 0) = false := rfl
  have hz2 : ((n : Int) == (n : Int)) = true := by simp
  have hz3 : (n : Int) ≤ (c : Int) := by omega
  have hz4 : (0 : Int) ≤ (n : Int) := by omega
  clear hown hcu hx hl
  go_enter Tryd.func36, Tryd.ntmps36
  go_wp2_with (at_builtin; refine wpList_addC 27 42 Tryd.underlying27 infoSlot rfl _ _ rfl B _ n zs rfl HO.out (some ⟨vb, 0, none⟩) 1 1 [x] rfl HX.out rfl (by omega) (by omega) ?_)
  all_goals
    intro v' w1 hown1 hb1 hk1
    have HO1 := Lib.hid (And.intro hown1 hb1)
    clear hown1 hb1 hk1
    go_wp2_with fail
    go_ret
    exact ⟨_, rfl, HO1.out.1, HO1.out.2⟩
end Go.Proofs.YtlocnjenkanmpaaDoor.Pl

/-
  Proved here: what slices.Insert makes of an own row of slots that holds some, for one slot that lies in another block, put in ahead of all: an own row. Nothing below the row's base changes.
-/
set_option linter.unusedVariables false
namespace Go.Proofs.YtlocnjenkanmpaaDoor.Pl
open Go Go.RowKit Go.Lib Go.Proofs.YtlocnjenkanmpaaDoor.Ku Go.Proofs.YtlocnjenkanmpaaDoor.Wr Go.Proofs.YtlocnjenkanmpaaDoor.Arr
theorem sizeSl (w : World) : (Go.sizeOf 42).run Tryd.prog w = .ok 6 w := by kernel_rfl
theorem front_one {L E V : List Value} {n : Nat} (hV : V.length = 6) (hE : E.length = n * 6) (hL : (n + 1) * 6 ≤ L.length) : (splice (splice L 6 E) 0 V).take ((n + 1) * 6) = V ++ E ∧ (splice (splice L 6 E) 0 V).length = L.length := by
  have h1 : (L.take 6).length = 6 := by rw [List.length_take]; omega
  have t1 : (L.take 6 ++ (E ++ L.drop (6 + E.length))).drop 6 = E ++ L.drop (6 + E.length) := by rw [List.drop_append, h1, Nat.sub_self, List.drop_zero, List.drop_eq_nil_of_le (by omega), List.nil_append]
  have e : splice (splice L 6 E) 0 V = V ++ (E ++ L.drop (6 + E.length)) := by
    show [] ++ (V ++ (L.take 6 ++ (E ++ L.drop (6 + E.length))).drop (0 + V.length)) = _
    rw [List.nil_append, hV, Nat.zero_add, t1]
  rw [e]
  constructor
  · rw [← List.append_assoc, List.take_append, List.take_of_length_le (by rw [List.length_append]; omega), List.length_append, show (n + 1) * 6 - (V.length + E.length) = 0 from by omega, List.take_zero, List.append_nil]
  · rw [List.length_append, List.length_append, List.length_drop]; omega
theorem front_two {Z E V : List Value} {n : Nat} (hV : V.length = 6) (hE : E.length = n * 6) (hL : (n + 1) * 6 ≤ Z.length) : (splice (splice Z 0 V) 6 E).take ((n + 1) * 6) = V ++ E ∧ (splice (splice Z 0 V) 6 E).length = Z.length := by
  have e : splice (splice Z 0 V) 6 E = V ++ (E ++ (Z.drop 6).drop E.length) := by
    show ([] ++ (V ++ Z.drop (0 + V.length))).take 6 ++ (E ++ ([] ++ (V ++ Z.drop (0 + V.length))).drop (6 + E.length)) = _
    have t1 : (V ++ Z.drop 6).take 6 = V := by rw [List.take_append, hV, Nat.sub_self, List.take_zero, List.append_nil]; exact List.take_of_length_le (by omega)
    have t2 : (V ++ Z.drop 6).drop (6 + E.length) = (Z.drop 6).drop E.length := by rw [List.drop_append, hV, List.drop_eq_nil_of_le (by omega), List.nil_append, Nat.add_sub_cancel_left]
    rw [List.nil_append, Nat.zero_add, hV, t1, t2]
  rw [e]
  constructor
  · rw [← List.append_assoc, List.take_append, List.take_of_length_le (by rw [List.length_append]; omega), List.length_append, show (n + 1) * 6 - (V.length + E.length) = 0 from by omega, List.take_zero, List.append_nil]
  · rw [List.length_append, List.length_append, List.length_drop, List.length_drop]; omega
theorem cellsC_front (x : C6) (zs : List C6) : (c6 x).toList ++ cellsC zs = cellsC (x :: zs) := by rw [cellsC_cons]; rfl
theorem row_cells {w : World} {g : Nat} {e : TypeId} {cur : Array Value} {m : Nat} {xs : List Value} (hg : w.heap[g]? = some (.cells cur e (0, 0))) (ht : cur.toList.take m = xs) : ∀ j v, xs[j]? = some v → w.cell? ((⟨g, 0, none⟩ : Addr).add j) = some v := by
  intro j v hj
  rw [add_off, Nat.zero_add, cell_of_row w g j _ _ _ hg, ← Array.getElem?_toList]
  rw [← ht, List.getElem?_take] at hj
  split at hj
  · exact hj
  · cases hj
set_option maxHeartbeats 4000000 in
set_option maxRecDepth 100000 in
theorem ins_room (B : Nat) (zs : List C6) (n cap g : Nat) (cur : Array Value) (x : C6) (vb : Nat) (w : World) (hBg : B ≤ g) (hg : w.heap[g]? = some (.cells cur 42 (0, 0))) (hcs : cur.size = cap * 6) (hcm : cap ≤ maxLen) (htk : cur.toList.take (n * 6) = cellsC zs) (hl : zs.length = n) (hx : w.heap[vb]? = some (.cells (c6 x) 42 (0, 0))) (hne : vb ≠ g) (h0 : 0 < n) (hroom : n + 1 ≤ cap) (hn : n ≤ 1000000) :
    Calls Tryd.prog 36 #[.slice (some ⟨g, 0, none⟩) n cap, .int .i64 0, .slice (some ⟨vb, 0, none⟩) 1 1] w fun e w' => e = .returned (.slice (some ⟨g, 0, none⟩) (n + 1) cap) ∧ w'.ownsRow B 42 6 (.slice (some ⟨g, 0, none⟩) (n + 1) cap) (n + 1) (cellsC (x :: zs)) ∧ Below B w w' := by
  have hel : (cellsC zs).length = n * 6 := by rw [cellsC_len, hl]
  have HOV := Lib.hid (fun lb cb => (show (callFunc 50 #[.slice (some ⟨vb, 0, none⟩) 1 1, .slice (some ⟨g, 6, none⟩) lb cb]).run Tryd.prog w = .ok (.value (.bool false)) w from by
    rw [run_callFunc_extern Tryd.func50 (by kernel_rfl) (by kernel_rfl) (by kernel_rfl) (e := Extern.SlicesOverlaps.overlaps #[27, 27] #[4]) (by kernel_rfl),
      Lib.run_overlaps_apart w 27 4 42 Tryd.underlying27 6 sizeSl ⟨vb, 0, none⟩ ⟨g, 6, none⟩ 1 1 lb cb hne 42 42 6 (cap * 6) (by simp [World.shape?, hx, c6]) (by simp [World.shape?, hg, hcs]) (by omega) (by simp [World.frozen?, hx]) (by simp [World.frozen?, hx])]
    rfl))
  have HEC := Lib.hid (row_cells hg htk)
  have HX := Lib.hid hx
  have HG := Lib.hid (show w.heap[g]? = some (.cells cur.toList.toArray 42 (0, 0)) from by rw [Array.toArray_toList]; exact hg)
  have hL : cur.toList.length = cap * 6 := by rw [Array.length_toList, hcs]
  have HF := Lib.hid (front_one (L := cur.toList) (V := (c6 x).toList) (E := cellsC zs) (n := n) rfl hel (by omega))
  have HL := Lib.hid hL
  have HEL := Lib.hid hel
  have HE1 := Lib.hid (cellsC_one zs)
  rw [cellsC_front] at HF
  have k1 : ((1 : Int) == 0) = false := rfl
  have k2 : ((0 : Int) == (n : Int)) = false := beq_eq_false_iff_ne.2 (by omega)
  have k3 : decide ((n : Int) + 1 > (cap : Int)) = false := decide_eq_false (by omega)
  have k3' : decide ((cap : Int) < (n : Int) + 1) = false := decide_eq_false (by omega)
  have k7 : ¬ (cap = 0) := by omega
  have k8 : ¬ (cap = 1) := by omega
  have HBW := Lib.hid (Below.refl B w)
  clear hg hx hcs htk hL hel
  go_enter Tryd.func36, Tryd.ntmps36
  go_wp2_with (simp only [HOV.out])
  have kw1 : IntKind.i64.wrap 1 = 1 := rfl
  have kw0 : IntKind.i64.wrap 0 = 0 := rfl
  have kw2 : (1 : Int) ≤ (n : Int) + 1 := by omega
  have kw3 : (0 : Int) ≤ (n : Int) + 1 := by omega
  go_region_law
    (   (refine step_copy_many rfl (.tmp 73) (.tmp 76) 27 27 rfl 42 Tryd.underlying27 6 infoSlot6 g 6 n (cap - 1) ⟨g, 0, none⟩ (n + 1) cap (by simp [Act.eval, Act.put]) (by simp [Act.eval, Act.put]) cur.toList 42 HG.out (cellsC zs) ?c1 ?c2 ?c3 HE1.out B w (below_drew HBW.out) hBg ?_
         case c1 => rw [HEL.out]; simp only [Nat.min_def]; split <;> omega
         case c2 => exact HEC.out
         case c3 => rw [HEL.out, HL.out]; omega
         intro w1 hg1 hb1 ho1))
  have HG1 := Lib.hid hg1
  have HB1 := Lib.hid hb1
  have HXC := Lib.hid (c6_at ((ho1 vb hne).trans HX.out))
  have HSL := Lib.hid (show (splice cur.toList 6 (cellsC zs)).length = cap * 6 from by rw [length_splice _ _ _ (by rw [HEL.out, HL.out]; omega), HL.out])
  have HM1 := Lib.hid (show (c6 x).toList.length = Nat.min 1 (n + 1) * 6 from by
    rw [c6_len, show Nat.min 1 (n + 1) = 1 from Nat.min_eq_left (by omega)])
  have HM2 := Lib.hid (show 0 + (c6 x).toList.length ≤ (splice cur.toList 6 (cellsC zs)).length from by rw [c6_len, HSL.out]; omega)
  clear hg1 hb1 ho1
  go_wp2_with (refine wpList_copy_many rfl _ _ 27 27 rfl 42 Tryd.underlying27 6 infoSlot6 g 0 (n + 1) cap ⟨vb, 0, none⟩ 1 1 (by rfl) (by rfl) (splice cur.toList 6 (cellsC zs)) 42 HG1.out (c6 x).toList HM1.out HXC.out HM2.out (c6_one x) B w HB1.out hBg ?_)
  intro w2 hg2 hb2 ho2
  have HG2 := Lib.hid hg2
  have HB2 := Lib.hid hb2
  clear hg2 hb2 ho2
  go_wp2_with fail
  go_ret
  refine ⟨rfl, ⟨by rw [cellsC_len, List.length_cons, hl], .inr ⟨g, cap, _, rfl, hBg, HG2.out, hroom, hcm, ?_, ?_⟩⟩, HB2.out⟩
  · rw [List.size_toArray, HF.out.2, HL.out]
  · rw [List.toList_toArray, HF.out.1]
end Go.Proofs.YtlocnjenkanmpaaDoor.Pl

/-
  Proved here: what slices.Insert makes of an own row of slots that holds some and has no room, for one slot that lies in another block, put in ahead of all: a new row. Nothing below the row's base changes.
-/
set_option linter.unusedVariables false
namespace Go.Proofs.YtlocnjenkanmpaaDoor.Pl
open Go Go.RowKit Go.Lib Go.Proofs.YtlocnjenkanmpaaDoor.Ku Go.Proofs.YtlocnjenkanmpaaDoor.Wr Go.Proofs.YtlocnjenkanmpaaDoor.Arr
theorem wpList_append_zeros {P : Program} {w : World} {ops : Array Oper} {rest : List Oper} {o : Oper} {a : Act} {Q : Exit → Act → World → Prop} (hgd : o.guard = none) (s x : Operand) (t tn : TypeId)
    (ho : o.op = .call { callee := .builtin .append, args := #[s, x], argTypes := #[t, tn] }) (e : TypeId) (i : TypeInfo) (z : Value) (sz : Nat) (ht : P.underlying t = some (.slice e)) (htn : P.underlying tn = some (.int .i64)) (hi : P.info? e = some i) (hz : i.zero = some z) (hsz : i.size = sz) (hzc : z.cells.size = sz)
    (ad : Addr) (cap k : Nat) (hs : a.eval s = .slice (some ad) 0 cap) (hx : a.eval x = .int .i64 k) (h0 : 0 < k) (hp : 0 < sz) (hg : cap < k) (h48 : k * i.bytes ≤ 140737488355328)
    (hkn : k ≤ 1000001)
    (h : ∀ w' (G : Nat) (R : List Value), k ≤ G → G ≤ maxLen → R.length = G * sz → w'.heap[w.heap.size]? = some (.cells R.toArray e (0, 0)) → Below w.heap.size w w' → wpList P ops Q rest (a.put o.dst (.slice (some ⟨w.heap.size, 0, none⟩) k G)) w') :
    wpList P ops Q (o :: rest) a w := by
  subst hsz
  have hold : (Builtin.firstCells i.size 0 (.slice (some ad) 0 cap)).run P w.drew = .ok ([] : List Value).toArray w.drew := run_firstCells_some (P := P) w.drew i.size 0 ad 0 cap [] (by simp) (by simp)
  have hr := run_append_grow_zeros w t tn o.type e i z .i64 .i64 ht htn hi hz (some ad) 0 cap [] hold k h0 hp (by omega) (by omega) (by omega) (by rw [Nat.zero_add]; exact growslice_fits hg h48)
  rw [Nat.zero_add] at hr
  have hG := grownCap_ge w k cap e
  have hGm := grownCap_le_maxLen w k cap e (by unfold maxLen; omega)
  generalize grownCap w k cap e = G at *
  refine wpList_append_run w hgd s x t tn ho _ _ hs hx _ _ hr ?_
  refine h _ G (([] : List Value).toArray ++ Builtin.zeroCells z.cells k ++ Builtin.zeroCells z.cells (G - k)).toList hG hGm ?_ ?_ ?_
  · simp only [Array.length_toList, Array.size_append, Builtin.zeroCells, Array.size_map, Array.size_range, hzc, List.size_toArray, List.length_nil]
    rw [Nat.zero_add, ← Nat.add_mul]
    congr 1
    omega
  · rw [Array.toArray_toList]
    exact heap_alloc_new w.drew _
  · exact (Below.refl _ _).drew.alloc (Nat.le_refl _) _
set_option maxHeartbeats 4000000 in
set_option maxRecDepth 100000 in
theorem ins_grow (B : Nat) (zs : List C6) (n g : Nat) (cur : Array Value) (x : C6) (vb : Nat) (w : World) (hBg : B ≤ w.heap.size) (hg : w.heap[g]? = some (.cells cur 42 (0, 0))) (htk : cur.toList.take (n * 6) = cellsC zs) (hl : zs.length = n) (hx : w.heap[vb]? = some (.cells (c6 x) 42 (0, 0))) (h0 : 0 < n) (hn : n ≤ 1000000) :
    Calls Tryd.prog 36 #[.slice (some ⟨g, 0, none⟩) n n, .int .i64 0, .slice (some ⟨vb, 0, none⟩) 1 1] w fun e w' => ∃ v', e = .returned v' ∧ w'.ownsRow B 42 6 v' (n + 1) (cellsC (x :: zs)) ∧ Below B w w' := by
  obtain ⟨i0, hi, hz0, hz1, hz2⟩ := Cl.info_parts infoSlot
  have hel : (cellsC zs).length = n * 6 := by rw [cellsC_len, hl]
  have HX := Lib.hid hx
  have HG := Lib.hid hg
  have HTK := Lib.hid htk
  have hgl : g < w.heap.size := (Array.getElem?_eq_some_iff.1 hg).1
  have hvl : vb < w.heap.size := (Array.getElem?_eq_some_iff.1 hx).1
  have HLT := Lib.hid (And.intro hgl hvl)
  have HEL := Lib.hid hel
  have HE1 := Lib.hid (cellsC_one zs)
  have HH := Lib.hid (show (2 : Nat) ≤ n + 1 from by omega)
  have k1 : ((1 : Int) == 0) = false := rfl
  have k2 : ((0 : Int) == (n : Int)) = false := beq_eq_false_iff_ne.2 (by omega)
  have k3 : decide ((n : Int) + 1 > (n : Int)) = true := decide_eq_true (by omega)
  have k3' : decide ((n : Int) < (n : Int) + 1) = true := decide_eq_true (by omega)
  have k7 : ¬ (n = 0) := by omega
  have kb : i0.bytes = 48 := hz2
  clear hg hx htk hel hgl hvl
  go_enter Tryd.func36, Tryd.ntmps36
  go_wp2_with (at_builtin; refine wpList_append_zeros rfl _ _ 27 3 rfl 42 i0 (.agg #[.int .i64 0, .int .i64 0, .int .i64 0, .int .i64 0, .int .i64 0, .int .i64 0]) 6 Tryd.underlying27 Tryd.underlying3 hi hz0 hz1 rfl ⟨g, 0, none⟩ n (n + 1) rfl (by rfl) (by omega) (by omega) (by omega) (by rw [kb]; omega) (by omega) ?_)
  intro w1 G R hG hGm hRl hg1 hb1
  have HG1 := Lib.hid hg1
  have HB1 := Lib.hid hb1
  have HRL := Lib.hid hRl
  have HXC := Lib.hid (c6_at ((hb1.block vb HLT.out.2).trans HX.out))
  have HF := Lib.hid (front_two (Z := R) (V := (c6 x).toList) (E := cellsC zs) (n := n) rfl HEL.out (by rw [hRl]; omega))
  rw [cellsC_front] at HF
  have HSL := Lib.hid (show (splice R 0 (c6 x).toList).length = G * 6 from by rw [length_splice _ _ _ (by rw [c6_len, hRl]; omega), hRl])
  have HM1 := Lib.hid (show (c6 x).toList.length = Nat.min 1 (n + 1) * 6 from by
    rw [c6_len, show Nat.min 1 (n + 1) = 1 from Nat.min_eq_left (by omega)])
  have HM2 := Lib.hid (show 0 + (c6 x).toList.length ≤ R.length from by rw [c6_len, hRl]; omega)
  have HGS := Lib.hid (And.intro hG hGm)
  have q0 : ¬ (G = 0) := by omega
  have q1 : ¬ (G = 1) := by omega
  clear hg1 hb1 hRl hG hGm hi hz0 hz1 hz2 kb
  go_wp2_with (refine wpList_copy_many rfl _ _ 27 27 rfl 42 Tryd.underlying27 6 infoSlot6 w.heap.size 0 (n + 1) G ⟨vb, 0, none⟩ 1 1 rfl rfl R 42 HG1.out (c6 x).toList HM1.out HXC.out HM2.out (c6_one x) w.heap.size w HB1.out (Nat.le_refl _) ?_)
  intro w2 hg2 hb2 ho2
  have HG2 := Lib.hid hg2
  have HB2 := Lib.hid hb2
  have HEC := Lib.hid (row_cells ((hb2.block g HLT.out.1).trans HG.out) HTK.out)
  have kw1 : IntKind.i64.wrap 1 = 1 := rfl
  have kw0 : IntKind.i64.wrap 0 = 0 := rfl
  have kw2 : (1 : Int) ≤ (n : Int) + 1 := by omega
  have kw3 : (0 : Int) ≤ (n : Int) := by omega
  clear hg2 hb2 ho2
  go_wp2_with fail
  go_region_law
    (   (refine step_copy_many rfl (.tmp 50) (.tmp 53) 27 27 rfl 42 Tryd.underlying27 6 infoSlot6 w.heap.size 6 n (G - 1) ⟨g, 0, none⟩ n n (by simp [Act.eval, Act.put]) (by simp [Act.eval, Act.put]) (splice R 0 (c6 x).toList) 42 HG2.out (cellsC zs) ?c1 ?c2 ?c3 HE1.out w.heap.size w (below_drew HB2.out) (Nat.le_refl _) ?_
         case c1 => rw [HEL.out]; simp only [Nat.min_def]; split <;> omega
         case c2 => exact HEC.out
         case c3 => rw [HEL.out, HSL.out]; have := HGS.out.1; omega
         intro w3 hg3 hb3 ho3))
  have HG3 := Lib.hid hg3
  have HB3 := Lib.hid hb3
  clear hg3 hb3 ho3
  go_wp2_with fail
  go_ret
  refine ⟨_, rfl, ⟨by rw [cellsC_len, List.length_cons, hl], .inr ⟨w.heap.size, G, _, rfl, hBg, HG3.out, HGS.out.1, HGS.out.2, ?_, ?_⟩⟩, HB3.out.mono hBg⟩
  · rw [List.size_toArray, HF.out.2, HRL.out]
  · rw [List.toList_toArray, HF.out.1]
/-- Ahead of all. -/
theorem ins_front (B : Nat) (zs : List C6) (n : Nat) (v : Value) (x : C6) (vb : Nat) (w : World) (hown : w.ownsRow B 42 6 v n (cellsC zs)) (hl : zs.length = n) (hx : w.heap[vb]? = some (.cells (c6 x) 42 (0, 0))) (hne : ∀ k, v.ownBlock = some k → k ≠ vb) (hB : B ≤ w.heap.size) (hn : n ≤ 1000000) :
    Calls Tryd.prog 36 #[v, .int .i64 0, .slice (some ⟨vb, 0, none⟩) 1 1] w fun e w' => ∃ v', e = .returned v' ∧ w'.ownsRow B 42 6 v' (n + 1) (cellsC (x :: zs)) ∧ Below B w w' := by
  rcases Nat.eq_zero_or_pos n with h0 | h0
  · subst h0
    obtain rfl : zs = [] := List.eq_nil_of_length_eq_zero hl
    exact ins_end B [] 0 v x vb w hown rfl hx hB (by omega)
  · rcases hown.2 with ⟨-, h⟩ | ⟨g, cap, cur, rfl, hBg, hg, hle, hcm, hcs, htk⟩
    · omega
    · rcases Nat.lt_or_ge n cap with hlt | hge
      · refine (ins_room B zs n cap g cur x vb w hBg hg hcs hcm htk hl hx (fun e => hne g rfl e.symm) h0 hlt hn).mono ?_
        rintro e w' ⟨rfl, h1, h2⟩
        exact ⟨_, rfl, h1, h2⟩
      · obtain rfl : cap = n := by omega
        exact ins_grow B zs cap g cur x vb w hB hg htk hl hx h0 hn
end Go.Proofs.YtlocnjenkanmpaaDoor.Pl

/-
  Proved here: what slices.Reverse does to a stretch of a row of places of the call's own: it is turned round; nothing else of memory changes.
-/
set_option linter.unusedVariables false
namespace Go.Proofs.YtlocnjenkanmpaaDoor.Bi
open Go Go.RowKit Go.Lib Go.Proofs.YtlocnjenkanmpaaDoor.Cl Go.Proofs.YtlocnjenkanmpaaDoor.Bo
set_option maxHeartbeats 2000000 in
set_option maxRecDepth 100000 in
theorem reverse_none (A : Option Addr) (c2 : Nat) (w : World) :
    Calls Tryd.prog 69 #[.slice A 0 c2] w fun e w' => e = .returned (.tuple #[]) ∧ w' = w := by
  go_enter Tryd.func69, Tryd.ntmps69
  go_wp2_with fail
  go_loopw [2, 3] (fun s2 s3 wx => s2 = .int .i64 0 ∧ s3 = .int .i64 (-1) ∧ wx = w) (fun _ _ _ => 0)
  case atStart => exact ⟨rfl, rfl, rfl⟩
  case round =>
    obtain ⟨rfl, rfl, rfl⟩ := hrel
    go_wp2
    go_end0
    exact ⟨rfl, rfl⟩
set_option maxHeartbeats 4000000 in
set_option maxRecDepth 100000 in
theorem reverse_own (base g n c len c2 k0 : Nat) (D S R : List Nat) (w0 w : World) (hD : D.length = k0) (hS : S.length = len) (hO : w.ownsRow base 3 1 (.slice (some ⟨g, 0, none⟩) n c) n (icl (Sq.ns (D ++ S ++ R)))) (hn : n ≤ 1099511627776) (hb : Below w0.heap.size w0 w) (hg : w0.heap.size ≤ g) :
    Calls Tryd.prog 69 #[.slice (some ⟨g, k0, none⟩) len c2] w fun e w' => e = .returned (.tuple #[]) ∧ w'.ownsRow base 3 1 (.slice (some ⟨g, 0, none⟩) n c) n (icl (Sq.ns (D ++ S.reverse ++ R))) ∧ Below w0.heap.size w0 w' := by
  have hnl : k0 + len + R.length = n := by
    have := hO.1
    rw [icl_len, Sq.ns_len] at this
    simp at this
    omega
  have HO1 := Lib.hid hO
  have HB1 := Lib.hid hb
  have HD := Lib.hid hD
  have HS := Lib.hid hS
  have HG := Lib.hid hg
  have HNL := Lib.hid hnl
  have hln : len ≤ 1099511627776 := by omega
  clear hO hb hD hS hnl hg
  go_enter Tryd.func69, Tryd.ntmps69
  go_wp2_with fail
  go_loopw [2, 3] (fun s2 s3 wx => ∃ (t mm : Nat) (Y M X : List Nat), s2 = .int .i64 t ∧ s3 = .int .i64 ((mm : Int) - 1) ∧ mm = t + M.length ∧ Y.length = t ∧ X.length = t ∧ Y ++ M.reverse ++ X = S.reverse ∧ wx.ownsRow base 3 1 (.slice (some ⟨g, 0, none⟩) n c) n (icl (Sq.ns (D ++ (Y ++ M ++ X) ++ R))) ∧ Below w0.heap.size w0 wx) (fun s2 s3 _ => ((RowKit.intOf s3).toNat + 1) - (RowKit.intOf s2).toNat)
  case atStart => exact ⟨0, len, [], S, [], rfl, rfl, by have := HS.out; omega, rfl, rfl, by simp, by simpa using HO1.out, HB1.out⟩
  case round =>
    obtain ⟨t, mm, Y, M, X, rfl, rfl, hmm, hY, hX, hrev, hown2, hb2⟩ := hrel
    have HO2 := Lib.hid hown2
    have HB2 := Lib.hid hb2
    have HY := Lib.hid hY
    have HX := Lib.hid hX
    have HREV := Lib.hid hrev
    have HSL := Lib.hid (show t + M.length + t = S.length from by have := congrArg List.length hrev; simp at this; omega)
    clear hown2 hb2 hrev
    by_cases hM : 2 ≤ M.length
    · obtain ⟨x', M', y', rfl⟩ := two_ends M hM
      obtain ⟨b2, hb2⟩ : ∃ b2, t + M'.length + 1 = b2 := ⟨_, rfl⟩
      have hmb : ((mm : Int) - 1) = (b2 : Int) := by simp at hmm; omega
      rw [hmb]
      have hab : t < b2 := by omega
      have hbk : b2 < len := by have := HSL.out; have := HS.out; simp at *; omega
      have hO2 := HO2.out
      obtain ⟨s1, s2⟩ := swap_at D R Y M' X x' y' t hY
      have hset := swap_set D R Y M' X x' y' t hY
      have e2 : D.length + t + M'.length + 1 = k0 + b2 := by have := HD.out; omega
      rw [HD.out] at s1
      rw [e2] at s2
      rw [e2, HD.out] at hset
      obtain ⟨p1, q1⟩ := own_nat hO2 s1
      obtain ⟨p2, q2⟩ := own_nat hO2 s2
      have hO3 := own_put hO2 (k0 + t) y'
      have s3 : ((D ++ (Y ++ (x' :: M' ++ [y']) ++ X) ++ R).set (k0 + t) y')[k0 + b2]? = some y' := by rw [List.getElem?_set_ne (by omega)]; exact s2
      obtain ⟨p3, q3⟩ := own_nat hO3 s3
      have hO4 := own_put hO3 (k0 + b2) x'
      rw [hset] at hO4
      have HB4 := Lib.hid ((HB2.out.setCell (p := ⟨g, k0 + t, none⟩) HG.out (.int .i64 (y' : Int))).setCell (p := ⟨g, k0 + b2, none⟩) HG.out (.int .i64 (x' : Int)))
      have HO4 := Lib.hid hO4
      have j1 : decide ((t : Int) < (b2 : Int)) = true := decide_eq_true (by omega)
      have j2 : decide (t < b2) = true := decide_eq_true hab
      have ja0 : (0 : Int) ≤ (t : Int) := by omega
      have ja1 : (t : Int) < (len : Int) := by omega
      have jb0 : (0 : Int) ≤ (b2 : Int) := by omega
      have jb1 : (b2 : Int) < (len : Int) := by omega
      have t1 : decide ((t : Int) < 0) = false := decide_eq_false (by omega)
      have t2 : decide ((b2 : Int) < 0) = false := decide_eq_false (by omega)
      have t3 : decide ((len : Int) ≤ (t : Int)) = false := decide_eq_false (by omega)
      have t4 : decide ((len : Int) ≤ (b2 : Int)) = false := decide_eq_false (by omega)
      have t5 : decide (len ≤ t) = false := decide_eq_false (by omega)
      have t6 : decide (len ≤ b2) = false := decide_eq_false (by omega)
      have HX1 := Lib.hid (show (b2 : Int) - 1 = ((b2 : Nat) : Int) - 1 ∧ b2 = (t + 1) + M'.length from ⟨rfl, by omega⟩)
      clear hO2 hO3 hO4 hset s1 s2 s3 hmb hM hmm hb2 hY hX e2
      go_wp2_with fail
      go_region
      all_goals go_wp2_with fail
      all_goals go_roundw
      case rel => exact ⟨t + 1, b2, Y ++ [y'], M', x' :: X, by go_num, by first | rfl | go_num, HX1.out.2, by simp [HY.out], by simp [HX.out], by rw [← HREV.out]; simp, HO4.out, HB4.out.drew⟩
      case measure => simp [RowKit.intOf] <;> omega
    · have HRS := Lib.hid (rev_short M (by omega))
      have j1 : decide ((t : Int) < (mm : Int) - 1) = false := decide_eq_false (by omega)
      have HO5 := Lib.hid (show wr.ownsRow base 3 1 (.slice (some ⟨g, 0, none⟩) n c) n (icl (Sq.ns (D ++ S.reverse ++ R))) from by
        have e : Y ++ M ++ X = S.reverse := by rw [← HREV.out, HRS.out]
        rw [← e]
        exact HO2.out)
      clear hmm hY hX hM
      go_wp2_with fail
      go_end0
      exact ⟨rfl, HO5.out, HB2.out⟩
end Go.Proofs.YtlocnjenkanmpaaDoor.Bi

/-
  Proved here: what bidi.turn does to a row of places of the call's own: each stretch of places at that level or above is turned round; nothing else of memory changes.
-/
set_option linter.unusedVariables false
namespace Go.Proofs.YtlocnjenkanmpaaDoor.Bi
open Go Go.RowKit Go.Lib Go.Proofs.YtlocnjenkanmpaaDoor.Cl Go.Proofs.YtlocnjenkanmpaaDoor.Bo
theorem turn_out (p : Nat → Bool) (D S R2 O : List Nat) (x : Nat) (h : D ++ revGo p S.reverse (x :: R2) = revGo p [] O) (hp : p x = false) : (D ++ S.reverse ++ [x]) ++ revGo p [] R2 = revGo p [] O := by
  rw [← h]
  conv => rhs; unfold revGo
  rw [if_neg (by rw [hp]; decide)]
  simp
theorem turn_in (p : Nat → Bool) (D S R2 O : List Nat) (x : Nat) (h : D ++ revGo p S.reverse (x :: R2) = revGo p [] O) (hp : p x = true) : D ++ revGo p (S ++ [x]).reverse R2 = revGo p [] O := by
  rw [← h]
  congr 1
  conv => rhs; unfold revGo
  rw [if_pos hp, List.reverse_append]
  rfl
set_option maxHeartbeats 4000000 in
set_option maxRecDepth 100000 in
theorem turn_any (base g n q cp : Nat) (O : List Nat) (A0 : Option Addr) (T : List Int) (w0 w : World) (p : Nat → Bool) (hO : w.ownsRow base 3 1 (.slice (some ⟨g, 0, none⟩) n n) n (icl (Sq.ns O))) (hol : O.length = n) (hA : IntsAt w0 A0 T) (hl : T.length = n) (hn : n ≤ 1099511627776) (hb : Below w0.heap.size w0 w) (hg : w0.heap.size ≤ g)
    (hp : ∀ i (h1 : i < T.length) (h2 : i < O.length), decide (T[i] < (q : Int)) = !(p O[i])) :
    Calls Tryd.prog 48 #[.slice (some ⟨g, 0, none⟩) n n, .slice A0 n cp, .int .i64 q] w fun e w' => e = .returned (.tuple #[]) ∧ w'.ownsRow base 3 1 (.slice (some ⟨g, 0, none⟩) n n) n (icl (Sq.ns (revGo p [] O))) ∧ Below w0.heap.size w0 w' := by
  have HREV := Lib.hid (fun (V : World) (D S R : List Nat) (k0 len c2 : Nat) h1 h2 h3 h4 => reverse_own base g n n len c2 k0 D S R w0 V h1 h2 h3 hn h4 hg)
  have HRN := Lib.hid (fun (V : World) (A : Option Addr) (c2 : Nat) => reverse_none A c2 V)
  have HO0 := Lib.hid hO
  have HB0 := Lib.hid hb
  have HA := Lib.hid hA
  have HL := Lib.hid hl
  have HOL := Lib.hid hol
  have HP := Lib.hid hp
  clear hO hb hA hl hol hp hg
  go_enter Tryd.func48, Tryd.ntmps48
  go_wp2_with fail
  go_loopw [6, 11] (fun s6 s11 wx => ∃ (i fr : Nat) (D S R : List Nat), s11 = .int .i64 i ∧ s6 = .int .i64 fr ∧ D.length = fr ∧ fr + S.length = i ∧ i ≤ n ∧ R = O.drop i ∧ D ++ revGo p S.reverse R = revGo p [] O ∧ wx.ownsRow base 3 1 (.slice (some ⟨g, 0, none⟩) n n) n (icl (Sq.ns (D ++ S ++ R))) ∧ Below w0.heap.size w0 wx) (fun _ s11 _ => n - (RowKit.intOf s11).toNat)
  case atStart => exact ⟨0, 0, [], [], O, rfl, rfl, rfl, rfl, Nat.zero_le _, rfl, rfl, by simpa using HO0.out, HB0.out⟩
  case round =>
    obtain ⟨i, fr, D, S, R, rfl, rfl, hD, hS, hi, hR, heq, hown, hb⟩ := hrel
    have HO1 := Lib.hid hown
    have HB1 := Lib.hid hb
    have HD := Lib.hid hD
    have HS := Lib.hid hS
    have HEQ := Lib.hid heq
    have hfi : fr ≤ i := by omega
    clear HO0 HB0 hown hb hD hS heq
    by_cases hin : i < n
    · have hiO : i < O.length := by rw [HOL.out]; exact hin
      have hiT : i < T.length := by rw [HL.out]; exact hin
      rw [List.drop_eq_getElem_cons hiO] at hR
      subst hR
      have hpp := HP.out i hiT hiO
      obtain ⟨g0, o0, rfl, hc0⟩ := (HA.out.below HB1.out).at_ hiT
      have HD2 := Lib.hid (show (O.drop (i + 1)) = O.drop (i + 1) from rfl)
      generalize T[i] = tx at *
      generalize O[i] = x at *
      generalize hR2 : O.drop (i + 1) = R2 at *
      have HR2 := Lib.hid hR2
      have hi0 : (0 : Int) ≤ (i : Int) := by omega
      have hi1 : (i : Int) < (n : Int) := by omega
      clear hiO hiT hR2 HD2
      cases hpx : p x with
      | true =>
        rw [hpx] at hpp
        have hpq : decide (tx < (q : Int)) = false := hpp
        have HE := Lib.hid (turn_in p D S R2 O x HEQ.out hpx)
        clear hpp
        go_wp2_with fail
        go_roundw
        case rel => exact ⟨i + 1, fr, D, S ++ [x], R2, by go_num, rfl, HD.out, by have := HS.out; simp; omega, by omega, HR2.out.symm, HE.out, by simpa using HO1.out, HB1.out⟩
        case measure => simp [RowKit.intOf] <;> omega
      | false =>
        rw [hpx] at hpp
        have hpq : decide (tx < (q : Int)) = true := hpp
        have HE := Lib.hid (turn_out p D S R2 O x HEQ.out hpx)
        have jf0 : (0 : Int) ≤ (fr : Int) := by omega
        have jf1 : (fr : Int) ≤ (i : Int) := by omega
        have jf2 : (i : Int) ≤ (n : Int) := by omega
        have jf3 : (fr : Int) < (n : Int) := by omega
        have jf4 : fr < n := by omega
        clear hpp
        go_wp2_with fail
        refine (HREV.out _ D S (x :: R2) fr (i - fr) _ HD.out (by have := HS.out; omega) HO1.out HB1.out).mono ?_
        rintro e w2 ⟨rfl, ho2, hb2⟩
        have HO2 := Lib.hid ho2
        have HB2 := Lib.hid hb2
        clear ho2 hb2
        go_wp2_with fail
        go_roundw
        case rel => exact ⟨i + 1, i + 1, D ++ S.reverse ++ [x], [], R2, by go_num, by go_num, by have := HS.out; have := HD.out; simp; omega, rfl, by omega, HR2.out.symm, HE.out, by simpa using HO2.out, HB2.out⟩
        case measure => simp [RowKit.intOf] <;> omega
    · obtain rfl : i = n := by omega
      obtain rfl : R = [] := by rw [hR, List.drop_eq_nil_of_le (by rw [HOL.out]; exact Nat.le_refl _)]
      have HE := Lib.hid (show D ++ S.reverse = revGo p [] O from by rw [← HEQ.out]; rfl)
      have jf0 : (0 : Int) ≤ (fr : Int) := by omega
      have jf1 : (fr : Int) ≤ (i : Int) := by omega
      clear hR hin
      by_cases hfe : fr = i
      · subst hfe
        obtain rfl : S = [] := List.eq_nil_of_length_eq_zero (by have := HS.out; omega)
        have HO3 := Lib.hid (show wr.ownsRow base 3 1 (.slice (some ⟨g, 0, none⟩) fr fr) fr (icl (Sq.ns (revGo p [] O))) from by rw [← HE.out]; simpa using HO1.out)
        go_wp2_with fail
        refine (HRN.out _ _ _).mono ?_
        rintro e w2 ⟨rfl, rfl⟩
        go_wp2_with fail
        go_end0
        exact ⟨rfl, HO3.out, HB1.out⟩
      · have jf3 : (fr : Int) < (i : Int) := by omega
        have jf4 : fr < i := by omega
        go_wp2_with fail
        refine (HREV.out _ D S [] fr (i - fr) _ HD.out (by have := HS.out; omega) HO1.out HB1.out).mono ?_
        rintro e w2 ⟨rfl, ho2, hb2⟩
        have HO2 := Lib.hid ho2
        have HB2 := Lib.hid hb2
        clear ho2 hb2
        go_wp2_with fail
        go_end0
        exact ⟨rfl, by rw [← HE.out]; simpa using HO2.out, HB2.out⟩
end Go.Proofs.YtlocnjenkanmpaaDoor.Bi

/-
  The order of levels, plainly: what is turned round at a level stands within one stretch of each level below it, so that the stretches are told by where a place stands as well as by the place; above the highest level nothing is turned round. No program in it.
-/
set_option linter.unusedVariables false
namespace Go.Proofs.YtlocnjenkanmpaaDoor.Bo
theorem revGo_map (p r : Nat → Bool) (hpr : ∀ x, p x = true → r x = true) : ∀ (l acc : List Nat), (∀ x ∈ acc, r x = true) → (revGo p acc l).map r = acc.map r ++ l.map r
  | [], acc, _ => by simp [revGo]
  | x :: l, acc, h => by
    unfold revGo
    by_cases hp : p x = true
    · have hx := hpr x hp
      have h2 : ∀ y ∈ x :: acc, r y = true := fun y hy => by
        rcases List.mem_cons.1 hy with rfl | hy
        · exact hx
        · exact h y hy
      rw [if_pos hp, revGo_map p r hpr l (x :: acc) h2]
      have ha : acc.map r = List.replicate acc.length true := List.map_eq_replicate_iff.2 h
      simp only [List.map_cons, hx, ha]
      rw [← List.replicate_succ, List.replicate_succ']
      simp
    · rw [if_neg hp, List.map_append, List.map_cons, revGo_map p r hpr l [] (fun y hy => by cases hy), List.map_cons]
      simp
/-- As far as k, what is told of the place that stands anywhere is told of where it stands. -/
def Alike (f : Nat → Int) (k : Nat) (O : List Nat) : Prop := ∀ q : Nat, 1 ≤ q → q ≤ k → O.map (fun j => decide ((q : Int) ≤ f j)) = (List.range O.length).map (fun j => decide ((q : Int) ≤ f j))
theorem Alike.range (f : Nat → Int) (k n : Nat) : Alike f k (List.range n) := fun q _ _ => by rw [List.length_range]
theorem Alike.step {f : Nat → Int} {k : Nat} {O : List Nat} (h : Alike f (k + 1) O) : Alike f k (revGo (fun j => decide ((k : Int) + 1 ≤ f j)) [] O) := fun q h1 h2 => by
  have e := revGo_map (fun j => decide ((k : Int) + 1 ≤ f j)) (fun j => decide ((q : Int) ≤ f j)) (fun x hx => by
    have := of_decide_eq_true hx
    exact decide_eq_true (by omega)) O [] (fun y hy => by cases hy)
  rw [e, revGo_len]
  simpa using h q h1 (by omega)
theorem Alike.at_ {f : Nat → Int} {k : Nat} {O : List Nat} (h : Alike f k O) {q : Nat} (h1 : 1 ≤ q) (h2 : q ≤ k) {i : Nat} (hi : i < O.length) : decide ((q : Int) ≤ f O[i]) = decide ((q : Int) ≤ f i) := by
  have e := congrArg (fun l => l[i]?) (h q h1 h2)
  simpa [hi] using e
/-- Above the highest level. -/
theorem ord_top (f : Nat → Int) (o : List Nat) (t : Nat) (h : ∀ x ∈ o, f x ≤ t) : ∀ k : Nat, ordFrom f (t + k) o = ordFrom f t o
  | 0 => rfl
  | k + 1 => by
    show ordFrom f (t + k) (revGo (fun j => decide (((t + k : Nat) : Int) + 1 ≤ f j)) [] o) = _
    rw [revGo_none _ _ (fun x hx => by have := h x hx; exact decide_eq_false (by omega))]
    exact ord_top f o t h k
theorem order_top {T : List Int} {t : Nat} (ht : t ≤ 126) (h : ∀ j, j < T.length → lvAt T j ≤ t) : orderP T = ordFrom (lvAt T) t (List.range T.length) := by
  unfold orderP
  rw [show 126 = t + (126 - t) from by omega]
  exact ord_top _ _ _ (fun x hx => h x (List.mem_range.1 hx)) _
/-- A level from 1 to 126 is told of a number as it is. -/
theorem cut_ge {x : Int} {q : Nat} (h1 : 1 ≤ q) (h2 : q ≤ 126) : decide ((q : Int) ≤ cutL x) = decide ((q : Int) ≤ x) := by
  rw [decide_eq_decide]
  unfold cutL
  omega
end Go.Proofs.YtlocnjenkanmpaaDoor.Bo

/-
  Proved here: what bidi.Order returns, for every row of numbers of at most 2^40: the plain order of levels. It leaves what was in memory.
-/
set_option linter.unusedVariables false
namespace Go.Proofs.YtlocnjenkanmpaaDoor.Bi
open Go Go.RowKit Go.Lib Go.Proofs.YtlocnjenkanmpaaDoor.Cl Go.Proofs.YtlocnjenkanmpaaDoor.Bo
theorem set_range (Z : List Int) (k : Nat) (h : k < Z.length) (hz : Z.take k = Sq.ns (List.range k)) : (Z.set k (k : Int)).take (k + 1) = Sq.ns (List.range (k + 1)) := by
  have hl : (Z.take k).length = k := by simp; omega
  rw [List.take_set, List.take_succ_eq_append_getElem h, List.set_append_right _ _ (by omega), hl, Nat.sub_self, hz, range_snoc]
  rfl
theorem lvAt_get {T : List Int} {k : Nat} (h : k < T.length) : lvAt T k = cutL T[k] := by
  unfold lvAt
  simp [List.getD, List.getElem?_eq_getElem h]
set_option maxHeartbeats 4000000 in
set_option maxRecDepth 100000 in
theorem order_any (A0 : Option Addr) (T : List Int) (n cp : Nat) (w : World) (hA : IntsAt w A0 T) (hl : T.length = n) (hn : n ≤ 1099511627776) :
    Calls Tryd.prog 34 #[.slice A0 n cp] w fun e w' => ∃ A c, e = .returned (.slice A n c) ∧ w'.ownsRow w.heap.size 3 1 (.slice A n c) n (icl (Sq.ns (orderP T))) ∧ Below w.heap.size w w' := by
  obtain ⟨i0, hi0, hq0, hq1, hq2⟩ := info_parts infoInt
  have HI := Lib.hid hi0
  have HQ0 := Lib.hid hq0
  have HQ1 := Lib.hid hq1
  have HQ2 := Lib.hid hq2
  have HA := Lib.hid hA
  have HL := Lib.hid hl
  clear hi0 hq0 hq1 hq2 hA hl
  go_enter Tryd.func34, Tryd.ntmps34
  go_wp2_with (refine wpList_make_full _ rfl _ _ 23 rfl w.heap.size 3 i0 (.int .i64 0) 1 Tryd.underlying23 HI.out HQ0.out HQ1.out .i64 .i64 _ _ n rfl rfl rfl rfl ?c1 ?c2 ?c3 ?_)
  case c1 => rw [HQ2.out]; omega
  case c2 => unfold maxLen; omega
  case c3 => exact Nat.le_refl _
  intro w1 hown hgr
  have hown1 : w1.ownsRow w.heap.size 3 1 (.slice (some ⟨w.heap.size, 0, none⟩) n n) n (icl (List.replicate n 0)) := by
    have h := hown
    rw [toList_madeCells_one] at h
    rw [show icl (List.replicate n 0) = List.replicate n (.int .i64 0) from by simp [icl]]
    exact h
  have hb1 : Below w.heap.size w w1 := (Below.refl _ _).grown hgr (Nat.le_refl _) (fun k h => by cases h)
  have HO := Lib.hid hown1
  have HB1 := Lib.hid hb1
  clear hown hgr hown1 hb1 HI HQ0 HQ1 HQ2
  go_wp2_with fail
  go_loopw [4, 13] (fun s4 s13 wx => ∃ (k t : Nat) (Z : List Int), k ≤ n ∧ s13 = .int .i64 k ∧ s4 = .int .i64 t ∧ t ≤ 126 ∧ (∀ j, j < k → lvAt T j ≤ t) ∧ Z.take k = Sq.ns (List.range k) ∧ Z.length = n ∧ wx.ownsRow w.heap.size 3 1 (.slice (some ⟨w.heap.size, 0, none⟩) n n) n (icl Z) ∧ Below w.heap.size w wx) (fun _ s13 _ => n - (RowKit.intOf s13).toNat)
  case atStart => exact ⟨0, 0, List.replicate n 0, Nat.zero_le _, rfl, rfl, by omega, fun j h => by omega, rfl, by simp, HO.out, HB1.out⟩
  case round =>
    obtain ⟨k, t, Z, hk, rfl, rfl, ht, htop, hz, hzl, hown, hb⟩ := hrel
    have HZ := Lib.hid hz
    have HZL := Lib.hid hzl
    have HW := Lib.hid hown
    have HB := Lib.hid hb
    have HTOP := Lib.hid htop
    clear hz hown HO HB1 htop
    by_cases hlt : k < n
    · have hkz : k < T.length := by rw [HL.out]; exact hlt
      have hkl : k < Z.length := by rw [HZL.out]; exact hlt
      obtain ⟨g, off, rfl, hc⟩ := (HA.out.below hb).at_ hkz
      have hcr : wr.cell? ⟨w.heap.size, k, none⟩ = some (.int .i64 Z[k]) := by
        rw [HW.out.cellAt _ (by omega)]
        simp [icl, hkl]
      have hfr := HW.out.frozenAt k
      obtain ⟨h1, h2⟩ := HW.out.stored k (.int .i64 (k : Int))
      rw [show (icl Z).set k (.int .i64 (k : Int)) = icl (Z.set k (k : Int)) from by simp [icl]] at h1
      have HST := Lib.hid (set_range Z k hkl HZ.out)
      have HLV := Lib.hid (lvAt_get hkz)
      generalize T[k] = z at *
      generalize Z[k] = y at *
      have HOW := Lib.hid h1
      have hk0 : (0 : Int) ≤ (k : Int) := by omega
      have hk1 : (k : Int) < (n : Int) := by omega
      obtain ⟨m, hm⟩ : ∃ m : Int, min z 126 = m := ⟨_, rfl⟩
      obtain ⟨t2, ht2⟩ : ∃ t2 : Nat, max (t : Int) m = (t2 : Int) := ⟨(max (t : Int) m).toNat, by omega⟩
      have HT2 := Lib.hid (show t2 ≤ 126 ∧ ∀ j, j < k + 1 → lvAt T j ≤ t2 from by
        refine ⟨by omega, fun j hj => ?_⟩
        by_cases e : j = k
        · subst e
          rw [HLV.out]
          unfold cutL
          omega
        · have := HTOP.out j (by omega)
          omega)
      have HOB := Lib.hid (HB.out.setCell (p := ⟨w.heap.size, k, none⟩) (Nat.le_refl _) (.int .i64 (k : Int)))
      clear h1 h2 hkz hkl hb hzl
      go_wp2_with fail
      go_roundw
      case rel => exact ⟨k + 1, t2, Z.set k (k : Int), by omega, by go_num, by rw [← ht2, ← hm]; try (congr 1; split <;> split <;> omega), HT2.out.1, HT2.out.2, HST.out, by rw [List.length_set]; exact HZL.out, HOW.out, HOB.out⟩
      case measure => simp [RowKit.intOf]; omega
    · obtain rfl : k = n := by omega
      have HE := Lib.hid (show Z = Sq.ns (List.range k) from by
        have h := HZ.out
        rw [List.take_of_length_le (by rw [hzl]; exact Nat.le_refl _)] at h
        exact h)
      rw [HE.out] at HW
      have HOT := Lib.hid (show ordFrom (lvAt T) t (List.range k) = orderP T from by rw [order_top ht (fun j hj => HTOP.out j (by rw [← HL.out]; exact hj)), HL.out])
      clear hb hzl HTOP HZ HE hlt
      go_wp2_with fail
      go_loopw [7] (fun s7 wx => ∃ (q : Nat) (O : List Nat), q ≤ 126 ∧ s7 = .int .i64 q ∧ O.length = k ∧ Bo.Alike (lvAt T) q O ∧ ordFrom (lvAt T) q O = orderP T ∧ wx.ownsRow w.heap.size 3 1 (.slice (some ⟨w.heap.size, 0, none⟩) k k) k (icl (Sq.ns O)) ∧ Below w.heap.size w wx) (fun s7 _ => (RowKit.intOf s7).toNat)
      case atStart => exact ⟨t, List.range k, ht, rfl, by simp, Bo.Alike.range _ _ _, HOT.out, HW.out, HB.out⟩
      case round =>
        obtain ⟨q, O, hq, rfl, hol, hal, hof, hown, hb⟩ := hrel
        have HW2 := Lib.hid hown
        have HB2 := Lib.hid hb
        have HOL := Lib.hid hol
        have HAL := Lib.hid hal
        have HOF := Lib.hid hof
        clear HW HB HOT hol hal hof hown hb
        cases q with
        | zero =>
          have HE := Lib.hid (show O = orderP T from HOF.out)
          go_wp2_with fail
          go_ret
          exact ⟨_, _, rfl, by rw [← HE.out]; exact HW2.out, HB2.out⟩
        | succ q =>
          have HP := Lib.hid (show ∀ i (h1 : i < T.length) (h2 : i < O.length), decide (T[i] < ((q + 1 : Nat) : Int)) = !((fun j => decide ((q : Int) + 1 ≤ lvAt T j)) O[i]) from fun i h1 h2 => by
            have e1 := HAL.out.at_ (q := q + 1) (by omega) (Nat.le_refl _) h2
            have e2 := cut_ge (x := T[i]) (q := q + 1) (by omega) hq
            rw [← lvAt_get h1] at e2
            show _ = !(decide (((q + 1 : Nat) : Int) ≤ lvAt T O[i]))
            rw [e1, e2]
            by_cases hh : T[i] < ((q + 1 : Nat) : Int)
            · rw [decide_eq_true hh, decide_eq_false (by omega)]; rfl
            · rw [decide_eq_false hh, decide_eq_true (by omega)]; rfl)
          have HT := Lib.hid (turn_any w.heap.size w.heap.size k (q + 1) cp O A0 T w wr (fun j => decide ((q : Int) + 1 ≤ lvAt T j)) HW2.out HOL.out HA.out HL.out hn HB2.out (Nat.le_refl _) HP.out)
          have HAL2 := Lib.hid HAL.out.step
          have HLN := Lib.hid (revGo_len (fun j => decide ((q : Int) + 1 ≤ lvAt T j)) O [])
          have HOF2 := Lib.hid (show ordFrom (lvAt T) q (revGo (fun j => decide ((q : Int) + 1 ≤ lvAt T j)) [] O) = orderP T from HOF.out)
          generalize revGo (fun j => decide ((q : Int) + 1 ≤ lvAt T j)) [] O = O2 at *
          clear HAL HOF HP
          have jq0 : (0 : Int) ≤ (q : Int) := by omega
          go_wp2_with fail
          refine HT.out.mono ?_
          rintro e w3 ⟨rfl, ho3, hb3⟩
          have HO3 := Lib.hid ho3
          have HB3 := Lib.hid hb3
          clear ho3 hb3 HT
          go_wp2_with fail
          go_roundw
          case rel => exact ⟨q, O2, by omega, by go_num, by rw [HLN.out]; simpa using HOL.out, HAL2.out, HOF2.out, HO3.out, HB3.out⟩
          case measure => simp [RowKit.intOf] <;> omega
end Go.Proofs.YtlocnjenkanmpaaDoor.Bi
