/-
  Several texts in one, each with its own remark: MapLit, PoPads, PoFill, PlOk, LawKit, RuOpen, KuHold, LnOne.
-/
import Derived.Maps.OwnOps
import Derived.Lib.MinMax
import Derived.Carry
import Derived.ProofKit
import Derived.OpenShut
import Derived.Below
import Derived.Deep.Slices
import Derived.LaidMore
import Derived.Lay
import Derived.SevenTiedAt
import Derived.Stop.Joined
import Derived.HandedShaped
import Derived.Shelf.Vars
import Derived.Test.YtlocnjenkanmpaaDoorM2
import Derived.Test.YtlocnjenkanmpaaDoorMPoSigns
import Derived.Test.YtlocnjenkanmpaaDoorM27
import Derived.Test.YtlocnjenkanmpaaDoorM3
import Derived.Test.YtlocnjenkanmpaaDoorM7
import Derived.Test.YtlocnjenkanmpaaDoorMPoText
import Derived.Test.YtlocnjenkanmpaaDoorRows
import Derived.Test.YtlocnjenkanmpaaDoorM0
import Derived.Test.YtlocnjenkanmpaaDoorM18

/-
  A map of ints that a call makes and fills by a literal, and looks up: each entry that is put in, and what the look-up answers, by the entries as they stand. No program in it.
-/
set_option linter.unusedVariables false
namespace Go.Proofs.YtlocnjenkanmpaaDoor.Ml
open Go Go.RowKit Go.MapKept Go.ChangeMaps
theorem run_put_new {P : Program} {w : World} {t k e : TypeId} {b clock : Nat} {es : Array MapEntry} {key : Int} {v : Value} (ht : P.underlying t = some (.map k e)) (hk : P.underlying k = some (.int .i64)) (hb : w.heap[b]? = some (.map es clock)) (hf : Instr.findNow (.int .i64) (.int .i64 key) es.toList 0 = some none) :
    (Instr.mapUpdate t (.map (some b)) (.int .i64 key) v).run P w = .ok () (setBlock w b (.map (es.push { key := .int .i64 key, val := v, born := clock }) (clock + 1))) := by
  simp [Instr.mapUpdate, run_underlying ht, MapKept.run_getObj_map hb, MapKept.run_checkKey hk (show IsKey (.int .i64) (.int .i64 key) from by simp [IsKey]), MapKept.run_findKey hk hf, MapKept.run_setObj_map _ hb, Result.andThen, setBlock]
theorem below_setBlock {B b : Nat} {w0 w : World} (h : Below B w0 w) (hB : B ≤ b) (o : Obj) : Below B w0 (setBlock w b o) :=
  h.trans ⟨rfl, rfl, rfl, by simp [setBlock], fun k hk => by unfold setBlock; simp [show b ≠ k by omega]⟩
/-- An entry of a literal. -/
theorem wpList_put_new {P : Program} {w : World} {ops : Array Oper} {rest : List Oper} {o : Oper} {a : Act} {Q : Exit → Act → World → Prop} (hg : o.guard = none) (m x v : Operand) (t : TypeId) (hop : o.op = Op.insert t m x v)
    (k e : TypeId) (ht : P.underlying t = some (.map k e)) (hk : P.underlying k = some (.int .i64)) (b clock : Nat) (es : Array MapEntry) (key : Int) (y : Value) (hm : a.eval m = .map (some b)) (hx : a.eval x = .int .i64 key) (hv : a.eval v = y) (hb : w.heap[b]? = some (.map es clock)) (hf : Instr.findNow (.int .i64) (.int .i64 key) es.toList 0 = some none)
    (B : Nat) (w0 : World) (hbel : Below B w0 w) (hB : B ≤ b)
    (hK : ∀ w', w'.heap[b]? = some (.map (es.push { key := .int .i64 key, val := y, born := clock }) (clock + 1)) → Below B w0 w' → wpList P ops Q rest (a.put o.dst undef) w') :
    wpList P ops Q (o :: rest) a w := by
  refine wpList_plain hg fun K' hK' => ?_
  unfold Oper.wp
  simp [execOp, hop, hm, hx, hv, run_put_new ht hk hb hf, Result.andThen]
  exact hK' _ _ (hK _ (heap_set hb).1 (below_setBlock hbel hB _))
def lookV (z : Value) : Option (Nat × Value) → Value × Bool
  | some (_, v) => (v, true)
  | none => (z, false)
/-- A look-up, with ok. -/
theorem wpList_look {P : Program} {w : World} {ops : Array Oper} {rest : List Oper} {o : Oper} {a : Act} {Q : Exit → Act → World → Prop} (hg : o.guard = none) (m x : Operand) (t : TypeId) (hop : o.op = Op.lookup t m x true)
    (k e : TypeId) (ht : P.underlying t = some (.map k e)) (hk : P.underlying k = some (.int .i64)) (b clock : Nat) (es : Array MapEntry) (key : Int) (hm : a.eval m = .map (some b)) (hx : a.eval x = .int .i64 key) (hb : w.heap[b]? = some (.map es clock)) (z : Value) (hz : (zeroValue e).run P w = .ok z w) (r : Option (Nat × Value)) (hf : Instr.findNow (.int .i64) (.int .i64 key) es.toList 0 = some r)
    (y : Value) (ok : Bool) (hr : lookV z r = (y, ok))
    (hK : wpList P ops Q rest (a.put o.dst (.tuple #[y, .bool ok])) w) :
    wpList P ops Q (o :: rest) a w := by
  refine wpList_plain hg fun K' hK' => ?_
  have hrun : (Instr.lookup t (.map (some b)) (.int .i64 key) true).run P w = .ok (.tuple #[y, .bool ok]) w := by
    cases r with
    | none =>
      injection hr with h1 h2
      subst h1 h2
      simp [Instr.lookup, run_underlying ht, MapKept.run_getObj_map hb, MapKept.run_checkKey hk (show IsKey (.int .i64) (.int .i64 key) from by simp [IsKey]), MapKept.run_findKey hk hf, hz, Result.andThen]
    | some p =>
      injection hr with h1 h2
      subst h1 h2
      simp [Instr.lookup, run_underlying ht, MapKept.run_getObj_map hb, MapKept.run_checkKey hk (show IsKey (.int .i64) (.int .i64 key) from by simp [IsKey]), MapKept.run_findKey hk hf, Result.andThen]
  unfold Oper.wp
  simp [execOp, hop, hm, hx, hrun, Result.andThen]
  exact hK' _ _ hK
end Go.Proofs.YtlocnjenkanmpaaDoor.Ml

/-
  Proved here: what place.pads returns, for every number and every count of at most 2^40. It leaves what was in memory.
-/
set_option linter.unusedVariables false
namespace Go.Proofs.YtlocnjenkanmpaaDoor.Pl
open Go Go.RowKit Go.Lib
def padsV (al : Int) (n : Nat) : Int := if al = 3 then n else if al = 4 then ((n / 2 : Nat) : Int) else 0
def padsK (al : Int) : Bool := decide (2 ≤ al) && decide (al ≤ 4)
theorem zeroI (w : World) : (zeroValue 3).run Tryd.prog w = .ok (.int .i64 0) w := by kernel_rfl
set_option maxHeartbeats 2000000 in
set_option maxRecDepth 100000 in
theorem pads_any (al : Int) (n : Nat) (w : World) (hn : n ≤ 1099511627776) :
    Calls Tryd.prog 17 #[.int .i64 al, .int .i64 n] w fun e w' => e = .returned (.tuple #[.int .i64 (padsV al n), .bool (padsK al)]) ∧ Below w.heap.size w w' := by
  have q0 : (n : Int).tdiv 2 = ((n / 2 : Nat) : Int) := by rw [Int.tdiv_eq_ediv_of_nonneg (by omega)]; omega
  have q1 : IntKind.i64.wrap ((n : Int).tdiv 2) = ((n / 2 : Nat) : Int) := by rw [q0, IntKind.wrap_i64]; omega
  obtain ⟨x, hx⟩ : ∃ x : Int, ((n / 2 : Nat) : Int) = x := ⟨_, rfl⟩
  have q2 : wrap64 ((n / 2 : Nat) : Int) = ((n / 2 : Nat) : Int) := by unfold wrap64; omega
  rw [hx] at q0 q1 q2
  have hV : padsV al n = if al = 3 then (n : Int) else if al = 4 then x else 0 := by unfold padsV; rw [hx]
  rw [hV]
  have HM0 := Lib.hid (heap_alloc_new w (.map #[] 0))
  have HB0 := Lib.hid ((Below.refl w.heap.size w).alloc (Nat.le_refl _) (.map #[] 0))
  have hmm := @run_makeMap Tryd.prog
  have HF := Lib.hid (show Instr.findNow (.int .i64) (.int .i64 al) [{ key := .int .i64 2, val := .int .i64 0, born := 0 }, { key := .int .i64 3, val := .int .i64 n, born := 1 }, { key := .int .i64 4, val := .int .i64 x, born := 2 }] 0 = some (if al = 2 then some (0, .int .i64 0) else if al = 3 then some (1, .int .i64 n) else if al = 4 then some (2, .int .i64 x) else none) from by
    by_cases h2 : al = 2
    · subst h2; rfl
    · by_cases h3 : al = 3
      · subst h3; rfl
      · by_cases h4 : al = 4
        · subst h4; rfl
        · have b2 : (al == (2 : Int)) = false := beq_eq_false_iff_ne.2 h2
          have b3 : (al == (3 : Int)) = false := beq_eq_false_iff_ne.2 h3
          have b4 : (al == (4 : Int)) = false := beq_eq_false_iff_ne.2 h4
          rw [if_neg h2, if_neg h3, if_neg h4]
          simp only [Instr.findNow, Instr.sameNow, if_true, b2, b3, b4])
  have HR := Lib.hid (show Ml.lookV (.int .i64 0) (if al = 2 then some (0, Value.int .i64 0) else if al = 3 then some (1, Value.int .i64 n) else if al = 4 then some (2, Value.int .i64 x) else none) = (Value.int .i64 (if al = 3 then (n : Int) else if al = 4 then x else 0), padsK al) from by
    unfold padsK
    by_cases h2 : al = 2
    · subst h2; rfl
    · by_cases h3 : al = 3
      · subst h3; rfl
      · by_cases h4 : al = 4
        · subst h4; rfl
        · rw [if_neg h2, if_neg h3, if_neg h4, if_neg h3, if_neg h4]
          have : (decide (2 ≤ al) && decide (al ≤ 4)) = false := by
            by_cases h : 2 ≤ al
            · rw [decide_eq_false (show ¬ al ≤ 4 from by omega), Bool.and_false]
            · rw [decide_eq_false h, Bool.false_and]
          rw [this]; rfl)
  clear hx hV
  generalize (if al = 3 then (n : Int) else if al = 4 then x else 0) = y at *
  generalize padsK al = ok at *
  go_enter Tryd.func17, Tryd.ntmps17
  go_wp2_with (refine Ml.wpList_put_new rfl _ _ _ 70 rfl 3 3 Tryd.underlying70 Tryd.underlying3 w.heap.size 0 #[] 2 (.int .i64 0) rfl rfl rfl HM0.out (by rfl) w.heap.size w HB0.out (Nat.le_refl _) ?_)
  intro w1 hm1 hb1
  have HM1 := Lib.hid hm1
  have HB1 := Lib.hid hb1
  clear hm1 hb1
  go_wp2_with (refine Ml.wpList_put_new rfl _ _ _ 70 rfl 3 3 Tryd.underlying70 Tryd.underlying3 w.heap.size _ _ 3 (.int .i64 n) rfl rfl rfl HM1.out (by rfl) w.heap.size w HB1.out (Nat.le_refl _) ?_)
  intro w2 hm2 hb2
  have HM2 := Lib.hid hm2
  have HB2 := Lib.hid hb2
  clear hm2 hb2
  go_wp2_with (refine Ml.wpList_put_new rfl _ _ _ 70 rfl 3 3 Tryd.underlying70 Tryd.underlying3 w.heap.size _ _ 4 (.int .i64 (wrap64 x)) rfl rfl rfl HM2.out (by rfl) w.heap.size w HB2.out (Nat.le_refl _) ?_)
  intro w3 hm3 hb3
  (try rw [q2] at hm3)
  have HM3 := Lib.hid hm3
  have HB3 := Lib.hid hb3
  clear hm3 hb3
  go_wp2_with (refine Ml.wpList_look rfl _ _ 70 rfl 3 3 Tryd.underlying70 Tryd.underlying3 w.heap.size _ _ al rfl rfl HM3.out (.int .i64 0) (zeroI _) _ HF.out _ _ HR.out ?_)
  go_wp2_with fail
  go_ret2
  exact ⟨rfl, HB3.out⟩
end Go.Proofs.YtlocnjenkanmpaaDoor.Pl

/-
  Proved here: what place.fill returns, for every row of at most 1000000 slots, every width of at most 1024, every alignment that may be: the plain pads. It leaves what was in memory.
-/
set_option linter.unusedVariables false
namespace Go.Proofs.YtlocnjenkanmpaaDoor.Pl
open Go Go.RowKit Go.Lib Go.Proofs.YtlocnjenkanmpaaDoor.Ku Go.Proofs.YtlocnjenkanmpaaDoor.Wr Go.Proofs.YtlocnjenkanmpaaDoor.Arr
theorem wpList_copy_zero {P : Program} {w : World} {ops : Array Oper} {rest : List Oper} {o : Oper} {a : Act} {Q : Exit → Act → World → Prop} (hgd : o.guard = none) (d s : Operand) (dT sT : TypeId)
    (ho : o.op = .call { callee := .builtin .copy, args := #[d, s], argTypes := #[dT, sT] }) (elem : TypeId) (hu : P.underlying dT = some (.slice elem)) (sz : Nat) (hsz : (P.info? elem).map (·.size) = some sz)
    (dp sp : Option Addr) (dLen dCap sCap : Nat) (hd : a.eval d = .slice dp dLen dCap) (hs : a.eval s = .slice sp 0 sCap)
    (h : wpList P ops Q rest (a.put o.dst (goInt 0)) w) : wpList P ops Q (o :: rest) a w := by
  refine wpList_plain hgd fun K hK => ?_
  have hrun : (Builtin.copy_ #[dT, sT] o.type #[.slice dp dLen dCap, .slice sp 0 sCap]).run P w = .ok (goInt 0) w := by
    cases hq : P.info? elem with
    | none => simp [hq] at hsz
    | some i =>
      have h0 : Nat.min 0 dLen = 0 := Nat.min_eq_left (Nat.zero_le _)
      cases sp with
      | none => cases dp <;> simp [Builtin.copy_, run_underlying hu, Builtin.lenOf, Builtin.firstCells, sizeOf, typeInfo, hq, h0, storeCells]
      | some ad =>
        have hl := run_loadCells_list (P := P) w ad [] (by simp)
        rw [List.length_nil] at hl
        cases dp <;> simp [Builtin.copy_, run_underlying hu, Builtin.lenOf, Builtin.firstCells, sizeOf, typeInfo, hq, h0, hl, storeCells]
  exact wp_copy_run w d s dT sT ho _ _ hd hs hrun (hK _ _ h)
theorem cellsC_take (Z : List C6) (k : Nat) : (cellsC Z).take (k * 6) = cellsC (Z.take k) := by
  rcases Nat.lt_or_ge k Z.length with h | h
  · have e : cellsC Z = cellsC (Z.take k) ++ cellsC (Z.drop k) := by rw [← cellsC_append, List.take_append_drop]
    rw [e, List.take_append, cellsC_len, List.length_take, Nat.min_eq_left (Nat.le_of_lt h), Nat.sub_self, List.take_zero, List.append_nil]
    exact List.take_of_length_le (by rw [cellsC_len, List.length_take]; omega)
  · rw [List.take_of_length_le (by rw [cellsC_len]; omega), List.take_of_length_le h]
theorem cellsC_drop (Z : List C6) (k : Nat) : (cellsC Z).drop (k * 6) = cellsC (Z.drop k) := by
  rcases Nat.lt_or_ge k Z.length with h | h
  · have e : cellsC Z = cellsC (Z.take k) ++ cellsC (Z.drop k) := by rw [← cellsC_append, List.take_append_drop]
    rw [e, List.drop_append, cellsC_len, List.length_take, Nat.min_eq_left (Nat.le_of_lt h), Nat.sub_self, List.drop_zero, List.drop_eq_nil_of_le (by rw [cellsC_len, List.length_take]; omega)]
    rfl
  · rw [List.drop_eq_nil_of_le (by rw [cellsC_len]; omega), List.drop_eq_nil_of_le h]; rfl
/-- Pads, over which a text is laid. -/
theorem pad_splice {T : List C6} {W L M : Nat} {al : Int} (hM : (T.take W).length = M) (hL : leftN M W al = L) : splice (cellsC (List.replicate W padS)) (L * 6) (cellsC (T.take W)) = cellsC (padP T W al) := by
  have hle := leftN_le M W al
  have hMW : M ≤ W := by rw [← hM, List.length_take]; omega
  unfold splice
  rw [cellsC_take, cellsC_len, hM, ← Nat.add_mul, cellsC_drop, pad_parts, hM, hL, cellsC_append, cellsC_append, List.append_assoc, List.take_replicate, List.drop_replicate, Nat.min_eq_left (by omega), Nat.sub_sub]
theorem fill_set2 {W k : Nat} (hk : k < W) : (List.replicate k padS ++ List.replicate (W - k) d6).set k padS = List.replicate (k + 1) padS ++ List.replicate (W - (k + 1)) d6 := by
  rw [fill_set (by simp) hk, List.replicate_succ']
theorem fill_at {W k : Nat} (hk : k < W) (h : k < (List.replicate k padS ++ List.replicate (W - k) d6).length) : (List.replicate k padS ++ List.replicate (W - k) d6)[k] = d6 := by
  rw [List.getElem_append_right (by simp)]
  simp
theorem kind_stored {w : World} {B g n cap : Nat} {e : TypeId} {W k : Nat} (h : w.ownsRow B e 6 (.slice (some ⟨g, 0, none⟩) n cap) n (cellsC (List.replicate k padS ++ List.replicate (W - k) d6))) (hk : k < W) :
    (w.setCell ⟨g, k * 6, none⟩ (.int .i64 2)).ownsRow B e 6 (.slice (some ⟨g, 0, none⟩) n cap) n (cellsC (List.replicate (k + 1) padS ++ List.replicate (W - (k + 1)) d6)) := by
  have hl : k < (List.replicate k padS ++ List.replicate (W - k) d6).length := by simp; omega
  have e := cellsC_set0 (List.replicate k padS ++ List.replicate (W - k) d6) k hl 2
  rw [fill_at hk hl, show (⟨2, d6.z, d6.f, d6.t, d6.w, d6.c⟩ : C6) = padS from rfl, fill_set2 hk] at e
  rw [← e]
  exact (h.stored _ _).1
theorem cu_block {w : World} {g : Nat} {e : TypeId} {Z : List C6} (h : w.heap[g]? = some (.cells (cellsC Z).toArray e (0, 0))) (hZ : Z.length ≤ 1000000) : CuAt w (some ⟨g, 0, none⟩) Z := by
  have ho : w.ownsRow 0 e 6 (.slice (some ⟨g, 0, none⟩) Z.length Z.length) Z.length (cellsC Z) := ⟨cellsC_len _, .inr ⟨g, Z.length, _, rfl, Nat.zero_le _, h, Nat.le_refl _, by unfold maxLen; omega, by rw [List.size_toArray, cellsC_len], by rw [List.toList_toArray]; exact List.take_of_length_le (by rw [cellsC_len]; exact Nat.le_refl _)⟩⟩
  obtain ⟨A, c, e1, hcu⟩ := cuAt_own ho
  injection e1 with e1 _ _
  rw [e1]
  exact hcu
set_option maxHeartbeats 8000000 in
set_option maxRecDepth 100000 in
theorem fill_any (A : Option Addr) (T : List C6) (n c W : Nat) (al : Int) (w : World) (hT : CuAt w A T) (hl : T.length = n) (hc : n ≤ c) (hn : n ≤ 1000000) (hW1 : 1 ≤ W) (hW : W ≤ 1024) (ha0 : 2 ≤ al) (ha1 : al ≤ 4) :
    Calls Tryd.prog 20 #[.slice A n c, .int .i64 W, .int .i64 al] w fun e w' => ∃ A' c', e = .returned (.slice A' W c') ∧ CuAt w' A' (padP T W al) ∧ W ≤ c' ∧ Below w.heap.size w w' := by
  obtain ⟨i0, hi, hz0, hz1, hz2⟩ := Cl.info_parts infoSlot
  have kb : i0.bytes = 48 := hz2
  obtain ⟨M, hM⟩ : ∃ M, (T.take W).length = M := ⟨_, rfl⟩
  have hMm : min n W = M := by rw [← hM, List.length_take, hl, Nat.min_comm]
  obtain ⟨D, hD⟩ : ∃ D, W - M = D := ⟨_, rfl⟩
  have hP : padsV al D = ((leftN M W al : Nat) : Int) := by
    unfold padsV leftN
    rw [hD]
    split
    · rfl
    · split <;> rfl
  have HP := Lib.hid (fun V => pads_any al D V (by omega))
  rw [hP] at HP
  have hle := leftN_le M W al
  have HSP := Lib.hid (pad_splice (T := T) (W := W) (al := al) hM rfl)
  have hMW : M ≤ W := by omega
  have HU := Lib.hid (show ∀ V, Below w.heap.size w V → 0 < M → ∃ ad, A = some ad ∧ ∀ j v, (cellsC (T.take W))[j]? = some v → V.cell? (ad.add j) = some v from fun V hV h0 => by
    rcases hT with rfl | ⟨b, off, rfl, hb, hcs⟩
    · simp at hM; omega
    · refine ⟨_, rfl, fun j v hj => ?_⟩
      have h2 : CuAt V (some ⟨b, off, none⟩) T := CuAt.below (.inr ⟨b, off, rfl, hb, hcs⟩) hV
      refine cu_news h2 j v ?_
      rw [← cellsC_take, List.getElem?_take] at hj
      split at hj
      · exact hj
      · cases hj)
  have HTL := Lib.hid (show (cellsC (T.take W)).length = M * 6 from by rw [cellsC_len, hM])
  have HT1 := Lib.hid (cellsC_one (T.take W))
  have HI6 := Lib.hid infoSlot6
  have HPL := Lib.hid (show (padP T W al).length ≤ 1000000 from by rw [pad_len]; omega)
  generalize cellsC (T.take W) = TC at *
  generalize leftN M W al = L at *
  generalize padP T W al = PP at *
  have hwD : IntKind.i64.wrap ((W : Int) - (M : Int)) = (D : Int) := by rw [IntKind.wrap_i64]; omega
  have hMc : (M : Int) ≤ (c : Int) := by omega
  have hM0 : (0 : Int) ≤ (M : Int) := by omega
  clear hT hl hM
  by_cases hnW : n ≤ W
  · obtain rfl : M = n := by omega
    have m1 : decide ((M : Int) ≤ (W : Int)) = true := decide_eq_true (by omega)
    have m2 : min (M : Int) (W : Int) = (M : Int) := by omega
    go_enter Tryd.func20, Tryd.ntmps20
    go_wp2_with fail
    refine (HP.out _).mono ?_
    rintro e w0 ⟨rfl, hb0⟩
    have HB0 := Lib.hid hb0
    clear hb0 HP hP
    generalize padsK al = kk at *
    go_wp2_with (refine wpList_make_full _ rfl _ _ 27 rfl w0.heap.size 42 i0 (.agg #[.int .i64 0, .int .i64 0, .int .i64 0, .int .i64 0, .int .i64 0, .int .i64 0]) 6 Tryd.underlying27 hi hz0 hz1 .i64 .i64 _ _ W rfl rfl rfl rfl ?c1 ?c2 ?c3 ?_)
    case c1 => rw [kb]; omega
    case c2 => unfold maxLen; omega
    case c3 => exact Nat.le_refl _
    intro w1 hown hgr
    have hown : w1.ownsRow w0.heap.size 42 6 (.slice (some ⟨w0.heap.size, 0, none⟩) W W) W (cellsC (List.replicate W d6)) := by
      rw [← made_six]
      exact hown
    have hb1 : Below w0.heap.size w0 w1 := (Below.refl _ _).grown hgr (Nat.le_refl _) (fun k e => by cases e)
    have HB1 := Lib.hid (HB0.out.trans (hb1.mono HB0.out.size))
    have hgw : w.heap.size ≤ w0.heap.size := HB0.out.size
    have HOWN := Lib.hid hown
    generalize w0.heap.size = g at *
    clear hown hgr hb1 HB0 hi hz0 hz1 hz2 kb
    go_wp2_with fail
    go_loopw [10, 30] (fun s10 s30 wx => ∃ k : Nat, k ≤ W ∧ s30 = .int .i64 k ∧ wx.ownsRow g 42 6 (.slice (some ⟨g, 0, none⟩) W W) W (cellsC (List.replicate k padS ++ List.replicate (W - k) d6)) ∧ Below g w1 wx) (fun _ s30 _ => W - (RowKit.intOf s30).toNat)
    case atStart => exact ⟨0, Nat.zero_le _, rfl, HOWN.out, Below.refl _ _⟩
    case round =>
      obtain ⟨k, hk, rfl, hown, hb⟩ := hrel
      by_cases hlt : k < W
      · have hlen : (List.replicate k padS ++ List.replicate (W - k) d6).length = W := by rw [List.length_append, List.length_replicate, List.length_replicate]; omega
        have HK := Lib.hid (kind_stored hown hlt)
        have HBK := Lib.hid (fun (u : Value) => hb.setCell (p := ⟨g, k * 6, none⟩) (by exact Nat.le_refl _) u)
        obtain ⟨⟨c0', -⟩, f0, -⟩ := own_six hown hlen (k := k) (by rw [hlen]; exact hlt)
        obtain ⟨y0, c0⟩ : ∃ y, wr.cell? ⟨g, k * 6, none⟩ = some y := ⟨_, c0'⟩
        clear c0'
        have i0 : (0 : Int) ≤ (k : Int) := by omega
        have i1 : (k : Int) < (W : Int) := by omega
        clear hown hb hlen
        go_wp2_with fail
        exact ⟨⟨k + 1, by omega, by go_num, HK.out, HBK.out _⟩, by simp [RowKit.intOf]; omega⟩
      · obtain rfl : k = W := by omega
        have j1 : decide ((k : Int) < (k : Int)) = false := decide_eq_false (by omega)
        rw [Nat.sub_self, List.replicate_zero, List.append_nil] at hown
        obtain ⟨g2, cap2, cur, e1, -, hg, hle2, hcm, hcs, htk⟩ : ∃ g2 cap2 cur, (Value.slice (some ⟨g, 0, none⟩) k k) = .slice (some ⟨g2, 0, none⟩) k cap2 ∧ g ≤ g2 ∧ wr.heap[g2]? = some (.cells cur 42 (0, 0)) ∧ k ≤ cap2 ∧ cap2 ≤ maxLen ∧ cur.size = cap2 * 6 ∧ cur.toList.take (k * 6) = cellsC (List.replicate k padS) := by
          rcases hown.2 with ⟨h, -⟩ | h
          · cases h
          · exact h
        injection e1 with e2 _ e3
        injection e2 with e2
        injection e2 with e2 _ _
        subst e2 e3
        have hcl : cur.toList = cellsC (List.replicate k padS) := by rw [← htk, List.take_of_length_le (by rw [Array.length_toList, hcs]; exact Nat.le_refl _)]
        have HG := Lib.hid (show wr.heap[g]? = some (.cells (cellsC (List.replicate k padS)).toArray 42 (0, 0)) from by rw [← hcl, Array.toArray_toList]; exact hg)
        have HB2 := Lib.hid hb
        have HBW := Lib.hid (HB1.out.trans (hb.mono hgw))
        clear hown hb hg hcl htk hcs hcm hle2
        rcases Nat.eq_zero_or_pos M with h0 | h0
        · subst h0
          have hTC : TC = [] := List.eq_nil_of_length_eq_zero (by rw [HTL.out, Nat.zero_mul])
          have hPP := HSP.out
          rw [hTC] at hPP
          have HGP := Lib.hid (show wr.heap[g]? = some (.cells (cellsC PP).toArray 42 (0, 0)) from by
            rw [← hPP, show splice (cellsC (List.replicate k padS)) (L * 6) ([] : List Value) = cellsC (List.replicate k padS) from by unfold splice; rw [List.nil_append, List.length_nil, Nat.add_zero, List.take_append_drop]]
            exact HG.out)
          have x2 : (L : Int) ≤ (k : Int) := by omega
          clear hPP
          go_wp2_with (refine wpList_copy_zero rfl _ _ 27 27 rfl 42 Tryd.underlying27 6 HI6.out _ _ _ _ _ rfl rfl ?_)
          all_goals
            go_ret
            exact ⟨_, _, rfl, cu_block HGP.out HPL.out, Nat.le_refl _, HBW.out⟩
        · obtain ⟨ad, rfl, hsrc⟩ := HU.out _ HBW.out h0
          have HSRC := Lib.hid hsrc
          have x1 : ¬ (k = L) := by omega
          have x2 : (L : Int) ≤ (k : Int) := by omega
          have HN := Lib.hid (show TC.length = Nat.min M (k - L) * 6 from by rw [HTL.out, show Nat.min M (k - L) = M from Nat.min_eq_left (by omega)])
          have HFI := Lib.hid (show L * 6 + TC.length ≤ (cellsC (List.replicate k padS)).length from by rw [HTL.out, cellsC_len, List.length_replicate]; omega)
          clear hsrc
          go_wp2_with (refine wpList_copy_many rfl _ _ 27 27 rfl 42 Tryd.underlying27 6 HI6.out g (L * 6) (k - L) (k - L) ad M c rfl rfl (cellsC (List.replicate k padS)) 42 HG.out TC HN.out HSRC.out HFI.out HT1.out g w1 HB2.out (Nat.le_refl _) ?_)
          intro w3 hg3 hb3 ho3
          rw [HSP.out] at hg3
          have HGP := Lib.hid hg3
          have HB3 := Lib.hid (HB1.out.trans (hb3.mono hgw))
          clear hg3 hb3 ho3
          go_wp2_with fail
          go_ret
          exact ⟨_, _, rfl, cu_block HGP.out HPL.out, Nat.le_refl _, HB3.out⟩
  · obtain rfl : M = W := by omega
    obtain rfl : L = 0 := by omega
    obtain rfl : D = 0 := by omega
    rw [Nat.zero_mul] at HSP
    have HMM := Lib.hid hMc
    clear hwD hD hle hMW hMm
    have hMc := HMM.out
    have m1 : decide ((n : Int) ≤ (M : Int)) = false := decide_eq_false (by omega)
    have m2 : min (n : Int) (M : Int) = (M : Int) := by omega
    go_enter Tryd.func20, Tryd.ntmps20
    go_wp2_with fail
    refine (HP.out _).mono ?_
    rintro e w0 ⟨rfl, hb0⟩
    have HB0 := Lib.hid hb0
    clear hb0 HP hP
    generalize padsK al = kk at *
    go_wp2_with (refine wpList_make_full _ rfl _ _ 27 rfl w0.heap.size 42 i0 (.agg #[.int .i64 0, .int .i64 0, .int .i64 0, .int .i64 0, .int .i64 0, .int .i64 0]) 6 Tryd.underlying27 hi hz0 hz1 .i64 .i64 _ _ M rfl rfl rfl rfl ?c1 ?c2 ?c3 ?_)
    case c1 => rw [kb]; omega
    case c2 => unfold maxLen; omega
    case c3 => exact Nat.le_refl _
    intro w1 hown hgr
    have hown : w1.ownsRow w0.heap.size 42 6 (.slice (some ⟨w0.heap.size, 0, none⟩) M M) M (cellsC (List.replicate M d6)) := by
      rw [← made_six]
      exact hown
    have hb1 : Below w0.heap.size w0 w1 := (Below.refl _ _).grown hgr (Nat.le_refl _) (fun k e => by cases e)
    have HB1 := Lib.hid (HB0.out.trans (hb1.mono HB0.out.size))
    have hgw : w.heap.size ≤ w0.heap.size := HB0.out.size
    have HOWN := Lib.hid hown
    generalize w0.heap.size = g at *
    clear hown hgr hb1 HB0 hi hz0 hz1 hz2 kb
    go_wp2_with fail
    go_loopw [10, 30] (fun s10 s30 wx => ∃ k : Nat, k ≤ M ∧ s30 = .int .i64 k ∧ wx.ownsRow g 42 6 (.slice (some ⟨g, 0, none⟩) M M) M (cellsC (List.replicate k padS ++ List.replicate (M - k) d6)) ∧ Below g w1 wx) (fun _ s30 _ => M - (RowKit.intOf s30).toNat)
    case atStart => exact ⟨0, Nat.zero_le _, rfl, HOWN.out, Below.refl _ _⟩
    case round =>
      obtain ⟨k, hk, rfl, hown, hb⟩ := hrel
      by_cases hlt : k < M
      · have hlen : (List.replicate k padS ++ List.replicate (M - k) d6).length = M := by rw [List.length_append, List.length_replicate, List.length_replicate]; omega
        have HK := Lib.hid (kind_stored hown hlt)
        have HBK := Lib.hid (fun (u : Value) => hb.setCell (p := ⟨g, k * 6, none⟩) (by exact Nat.le_refl _) u)
        obtain ⟨⟨c0', -⟩, f0, -⟩ := own_six hown hlen (k := k) (by rw [hlen]; exact hlt)
        obtain ⟨y0, c0⟩ : ∃ y, wr.cell? ⟨g, k * 6, none⟩ = some y := ⟨_, c0'⟩
        clear c0'
        have i0 : (0 : Int) ≤ (k : Int) := by omega
        have i1 : (k : Int) < (M : Int) := by omega
        clear hown hb hlen
        go_wp2_with fail
        exact ⟨⟨k + 1, by omega, by go_num, HK.out, HBK.out _⟩, by simp [RowKit.intOf]; omega⟩
      · obtain rfl : k = M := by omega
        have j1 : decide ((k : Int) < (k : Int)) = false := decide_eq_false (by omega)
        rw [Nat.sub_self, List.replicate_zero, List.append_nil] at hown
        obtain ⟨g2, cap2, cur, e1, -, hg, hle2, hcm, hcs, htk⟩ : ∃ g2 cap2 cur, (Value.slice (some ⟨g, 0, none⟩) k k) = .slice (some ⟨g2, 0, none⟩) k cap2 ∧ g ≤ g2 ∧ wr.heap[g2]? = some (.cells cur 42 (0, 0)) ∧ k ≤ cap2 ∧ cap2 ≤ maxLen ∧ cur.size = cap2 * 6 ∧ cur.toList.take (k * 6) = cellsC (List.replicate k padS) := by
          rcases hown.2 with ⟨h, -⟩ | h
          · cases h
          · exact h
        injection e1 with e2 _ e3
        injection e2 with e2
        injection e2 with e2 _ _
        subst e2 e3
        have hcl : cur.toList = cellsC (List.replicate k padS) := by rw [← htk, List.take_of_length_le (by rw [Array.length_toList, hcs]; exact Nat.le_refl _)]
        have HG := Lib.hid (show wr.heap[g]? = some (.cells (cellsC (List.replicate k padS)).toArray 42 (0, 0)) from by rw [← hcl, Array.toArray_toList]; exact hg)
        have HB2 := Lib.hid hb
        have HBW := Lib.hid (HB1.out.trans (hb.mono hgw))
        clear hown hb hg hcl htk hcs hcm hle2
        rcases Nat.eq_zero_or_pos k with h0 | h0
        · omega
        · obtain ⟨ad, rfl, hsrc⟩ := HU.out _ HBW.out h0
          have HSRC := Lib.hid hsrc
          have x1 : ¬ (k = 0) := by omega
          have x2 : (0 : Int) ≤ (k : Int) := by omega
          have HN := Lib.hid (show TC.length = Nat.min k k * 6 from by rw [HTL.out, show Nat.min k k = k from Nat.min_eq_left (by omega)])
          have HFI := Lib.hid (show 0 + TC.length ≤ (cellsC (List.replicate k padS)).length from by rw [HTL.out, cellsC_len, List.length_replicate]; omega)
          clear hsrc
          go_wp2_with (refine wpList_copy_many rfl _ _ 27 27 rfl 42 Tryd.underlying27 6 HI6.out g 0 k k ad k c rfl rfl (cellsC (List.replicate k padS)) 42 HG.out TC HN.out HSRC.out HFI.out HT1.out g w1 HB2.out (Nat.le_refl _) ?_)
          intro w3 hg3 hb3 ho3
          rw [HSP.out] at hg3
          have HGP := Lib.hid hg3
          have HB3 := Lib.hid (HB1.out.trans (hb3.mono hgw))
          clear hg3 hb3 ho3
          go_wp2_with fail
          go_ret
          exact ⟨_, _, rfl, cu_block HGP.out HPL.out, Nat.le_refl _, HB3.out⟩
end Go.Proofs.YtlocnjenkanmpaaDoor.Pl

/-
  Proved here: place.Slots keeps to the plain slots (SlotsOk), for every row of at most 1000 runes, every row of levels, every line, level, width and alignment. It leaves what was in memory.
-/
set_option linter.unusedVariables false
namespace Go.Proofs.YtlocnjenkanmpaaDoor.Pl
open Go Go.RowKit Go.Lib Go.Proofs.YtlocnjenkanmpaaDoor.Ku Go.Proofs.YtlocnjenkanmpaaDoor.Wr Go.Proofs.YtlocnjenkanmpaaDoor.Bi Go.Proofs.YtlocnjenkanmpaaDoor.Bo Go.Proofs.YtlocnjenkanmpaaDoor.Arr Go.Proofs.YtlocnjenkanmpaaDoor.Cl
theorem ansP_err {l : List R3} {lv : List Int} {n m : Nat} {x : L5} {para W al : Int} (hl : l.length = n) (hlv : lv.length = m) (h : errP n m (ofC l).length x para W al ≠ 0) : ansP l lv x para W al = [] := by
  unfold ansP
  rw [hl, hlv, if_neg h]
set_option maxHeartbeats 8000000 in
set_option maxRecDepth 100000 in
theorem place_ok : SlotsOk Ku.Held := by
  intro A B l lv n m c d x para W al w hH hA hB hl hlv hn hcn hdm hm hnA hnB
  clear hnA hnB
  have HP0 := Lib.hid (fun V => (show Calls Tryd.prog 17 #[.int .i64 al, .int .i64 0] V fun e w' => e = .returned (.tuple #[.int .i64 (padsV al 0), .bool (padsK al)]) ∧ Below V.heap.size V w' from pads_any al 0 V (by omega)))
  generalize padsV al 0 = y0 at *
  have HB0 := Lib.hid ((Below.refl w.heap.size w).alloc (Nat.le_refl _) (.cells #[.int .i64 x.f, .int .i64 x.t, .int .i64 x.s, .int .i64 x.h, .int .i64 x.d] 25))
  have HE0 := Lib.hid (heap_alloc_new w (.cells #[.int .i64 x.f, .int .i64 x.t, .int .i64 x.s, .int .i64 x.h, .int .i64 x.d] 25))
  unfold lnV
  by_cases hbad : n ≠ m ∨ para < 0 ∨ 1 < para ∨ W < 1 ∨ 1024 < W ∨ al < 2 ∨ 4 < al
  · have he : errP n m (ofC l).length x para W al = 1 := by unfold errP; rw [if_pos hbad]
    rw [he, ansP_err hl hlv (by rw [he]; decide)]
    clear he hA hB
    by_cases h0 : n ≠ m
    · have b0 : ((m : Int) != (n : Int)) = true := bne_iff_ne.2 (by omega)
      go_enter Tryd.func8, Tryd.ntmps8
      go_wp2_with fail
      refine (HP0.out _).mono ?_
      rintro e w1 ⟨rfl, hb1⟩
      have HB1 := Lib.hid (HB0.out.trans (hb1.mono HB0.out.size))
      clear hb1
      go_wp2_with fail
      go_ret2
      exact ⟨none, 0, rfl, .inl rfl, Nat.zero_le _, HB1.out⟩
    by_cases h1 : para < 0
    · have b0 : ((m : Int) != (n : Int)) = false := (by simp; omega)
      have b1 : decide (para < 0) = true := decide_eq_true (by omega)
      go_enter Tryd.func8, Tryd.ntmps8
      go_wp2_with fail
      refine (HP0.out _).mono ?_
      rintro e w1 ⟨rfl, hb1⟩
      have HB1 := Lib.hid (HB0.out.trans (hb1.mono HB0.out.size))
      clear hb1
      go_wp2_with fail
      go_ret2
      exact ⟨none, 0, rfl, .inl rfl, Nat.zero_le _, HB1.out⟩
    by_cases h2 : 1 < para
    · have b0 : ((m : Int) != (n : Int)) = false := (by simp; omega)
      have b1 : decide (para < 0) = false := decide_eq_false (by omega)
      have b2 : decide ((1 : Int) < para) = true := decide_eq_true (by omega)
      have b2g : decide (para > 1) = true := decide_eq_true (by omega)
      go_enter Tryd.func8, Tryd.ntmps8
      go_wp2_with fail
      refine (HP0.out _).mono ?_
      rintro e w1 ⟨rfl, hb1⟩
      have HB1 := Lib.hid (HB0.out.trans (hb1.mono HB0.out.size))
      clear hb1
      go_wp2_with fail
      go_ret2
      exact ⟨none, 0, rfl, .inl rfl, Nat.zero_le _, HB1.out⟩
    by_cases h3 : W < 1
    · have b0 : ((m : Int) != (n : Int)) = false := (by simp; omega)
      have b1 : decide (para < 0) = false := decide_eq_false (by omega)
      have b2 : decide ((1 : Int) < para) = false := decide_eq_false (by omega)
      have b2g : decide (para > 1) = false := decide_eq_false (by omega)
      have b3 : decide (W < 1) = true := decide_eq_true (by omega)
      go_enter Tryd.func8, Tryd.ntmps8
      go_wp2_with fail
      refine (HP0.out _).mono ?_
      rintro e w1 ⟨rfl, hb1⟩
      have HB1 := Lib.hid (HB0.out.trans (hb1.mono HB0.out.size))
      clear hb1
      go_wp2_with fail
      go_ret2
      exact ⟨none, 0, rfl, .inl rfl, Nat.zero_le _, HB1.out⟩
    by_cases h4 : 1024 < W
    · have b0 : ((m : Int) != (n : Int)) = false := (by simp; omega)
      have b1 : decide (para < 0) = false := decide_eq_false (by omega)
      have b2 : decide ((1 : Int) < para) = false := decide_eq_false (by omega)
      have b2g : decide (para > 1) = false := decide_eq_false (by omega)
      have b3 : decide (W < 1) = false := decide_eq_false (by omega)
      have b4 : decide ((1024 : Int) < W) = true := decide_eq_true (by omega)
      have b4g : decide (W > 1024) = true := decide_eq_true (by omega)
      go_enter Tryd.func8, Tryd.ntmps8
      go_wp2_with fail
      refine (HP0.out _).mono ?_
      rintro e w1 ⟨rfl, hb1⟩
      have HB1 := Lib.hid (HB0.out.trans (hb1.mono HB0.out.size))
      clear hb1
      go_wp2_with fail
      go_ret2
      exact ⟨none, 0, rfl, .inl rfl, Nat.zero_le _, HB1.out⟩
    have h5 : padsK al = false := by
      unfold padsK
      by_cases ha : 2 ≤ al
      · rw [decide_eq_false (show ¬ al ≤ 4 from by omega), Bool.and_false]
      · rw [decide_eq_false ha, Bool.false_and]
    have b0 : ((m : Int) != (n : Int)) = false := (by simp; omega)
    have b1 : decide (para < 0) = false := decide_eq_false (by omega)
    have b2 : decide ((1 : Int) < para) = false := decide_eq_false (by omega)
    have b2g : decide (para > 1) = false := decide_eq_false (by omega)
    have b3 : decide (W < 1) = false := decide_eq_false (by omega)
    have b4 : decide ((1024 : Int) < W) = false := decide_eq_false (by omega)
    have b4g : decide (W > 1024) = false := decide_eq_false (by omega)
    have b5 : padsK al = false := h5
    go_enter Tryd.func8, Tryd.ntmps8
    go_wp2_with fail
    refine (HP0.out _).mono ?_
    rintro e w1 ⟨rfl, hb1⟩
    have HB1 := Lib.hid (HB0.out.trans (hb1.mono HB0.out.size))
    clear hb1
    go_wp2_with fail
    go_ret2
    exact ⟨none, 0, rfl, .inl rfl, Nat.zero_le _, HB1.out⟩
  · obtain ⟨rfl, hp0, hp1, hw0, hw1, ha0, ha1⟩ : n = m ∧ 0 ≤ para ∧ para ≤ 1 ∧ 1 ≤ W ∧ W ≤ 1024 ∧ 2 ≤ al ∧ al ≤ 4 := by omega
    have b0 : ((n : Int) != (n : Int)) = false := by simp
    have b1 : decide (para < 0) = false := decide_eq_false (by omega)
    have b2 : decide ((1 : Int) < para) = false := decide_eq_false (by omega)
    have b2g : decide (para > 1) = false := decide_eq_false (by omega)
    have b3 : decide (W < 1) = false := decide_eq_false (by omega)
    have b4 : decide ((1024 : Int) < W) = false := decide_eq_false (by omega)
    have b4g : decide (W > 1024) = false := decide_eq_false (by omega)
    have b5 : padsK al = true := by unfold padsK; rw [decide_eq_true ha0, decide_eq_true ha1]; rfl
    obtain ⟨q, hq⟩ : ∃ q, (ofC l).length = q := ⟨_, rfl⟩
    have HLO := Lib.hid (fun V (h : Below w.heap.size w V) => layOut_any A l n c x para V (hH.below h) (hA.below h) hl (by omega))
    have HMAY := Lib.hid (fun G g8 V => may_any x G q g8 para V)
    rw [hq] at HLO
    unfold lnV at HLO
    by_cases hbad2 : x.f < 0 ∨ x.s < x.f ∨ x.t < x.s ∨ (q : Int) < x.t
    · have he : errP n n (ofC l).length x para W al = 4 := by
        unfold errP
        rw [if_neg hbad, hq, if_pos hbad2]
      have hmq : mayQ x q = false := by
        unfold mayQ
        by_cases q1 : 0 ≤ x.f
        · by_cases q2 : x.f ≤ x.s
          · by_cases q3 : x.s ≤ x.t
            · rw [decide_eq_false (show ¬ x.t ≤ (q : Int) from by omega), Bool.and_false]
            · rw [decide_eq_false q3, Bool.and_false, Bool.false_and]
          · rw [decide_eq_false q2, Bool.and_false, Bool.false_and, Bool.false_and]
        · rw [decide_eq_false q1, Bool.false_and, Bool.false_and, Bool.false_and]
      rw [he, ansP_err hl hlv (by rw [he]; decide)]
      rw [hmq] at HMAY
      clear he hA hB hbad hH hl hlv hq hmq hbad2
      go_enter Tryd.func8, Tryd.ntmps8
      go_wp2_with fail
      refine (HP0.out _).mono ?_
      rintro e w1 ⟨rfl, hb1⟩
      have HB1 := Lib.hid (HB0.out.trans (hb1.mono HB0.out.size))
      have HE1 := Lib.hid ((hb1.block w.heap.size (Array.getElem?_eq_some_iff.1 HE0.out).1).trans HE0.out)
      obtain ⟨⟨z0, z1, z2, z3, z4⟩, -⟩ := cell5 HE1.out
      clear hb1
      go_wp2_with fail
      refine (HLO.out _ HB1.out).mono ?_
      rintro e w2 ⟨G, g8, rfl, hcu, hqe, hb2⟩
      have HB2 := Lib.hid (HB1.out.trans (hb2.mono HB1.out.size))
      have HCU := Lib.hid hcu
      have HQE := Lib.hid hqe
      clear hb2 hcu hqe z0 z1 z2 z3 z4 HLO
      unfold laidV at *
      have HB3 := Lib.hid (HB2.out.trans ((Cl.below_made w2 (.cells #[.int .i64 x.f, .int .i64 x.t, .int .i64 x.s, .int .i64 x.h, .int .i64 x.d, .slice G q g8, .int .i64 para] 52)).mono HB2.out.size))
      have HCU3 := Lib.hid (HCU.out.below (Cl.below_made w2 (.cells #[.int .i64 x.f, .int .i64 x.t, .int .i64 x.s, .int .i64 x.h, .int .i64 x.d, .slice G q g8, .int .i64 para] 52)))
      go_wp2_with fail
      generalize hW3 : w2.alloc (.cells #[.int .i64 x.f, .int .i64 x.t, .int .i64 x.s, .int .i64 x.h, .int .i64 x.d, .slice G q g8, .int .i64 para] 52) = w3 at *
      refine (HMAY.out G g8 _).mono ?_
      rintro e w4 ⟨rfl, hb4⟩
      have HB4 := Lib.hid (HB3.out.trans (hb4.mono HB3.out.size))
      have HCU4 := Lib.hid (HCU3.out.below hb4)
      have HE4 := Lib.hid ((hb4.block w2.heap.size (by rw [← hW3, World.size_alloc]; omega)).trans (show w3.heap[w2.heap.size]? = some (.cells #[.int .i64 x.f, .int .i64 x.t, .int .i64 x.s, .int .i64 x.h, .int .i64 x.d, .slice G q g8, .int .i64 para] 52 (0, 0)) from by rw [← hW3]; exact heap_alloc_new _ _))
      obtain ⟨⟨z0, z1, z2, z3, z4, z5, z6⟩, -⟩ := seven_cells HE4.out
      clear hb4 HMAY
      go_wp2_with fail
      go_ret2
      exact ⟨none, 0, rfl, .inl rfl, Nat.zero_le _, HB4.out⟩
    · have he : errP n n (ofC l).length x para W al = 0 := by
        unfold errP
        rw [if_neg hbad, hq, if_neg hbad2]
      have ha : ansP l lv x para W al = slotsP l lv x para W al := by unfold ansP; rw [hl, hlv, he, if_pos rfl]
      have hmq : mayQ x q = true := by
        unfold mayQ
        rw [decide_eq_true (show 0 ≤ x.f from by omega), decide_eq_true (show x.f ≤ x.s from by omega), decide_eq_true (show x.s ≤ x.t from by omega), decide_eq_true (show x.t ≤ (q : Int) from by omega)]
        rfl
      rw [he, ha]
      rw [hmq] at HMAY
      obtain ⟨f, s, t, xh, xd, rfl, h1, h2, h3⟩ : ∃ (f s t : Nat) (xh xd : Int), x = ⟨f, t, s, xh, xd⟩ ∧ f ≤ s ∧ s ≤ t ∧ t ≤ q := ⟨x.f.toNat, x.s.toNat, x.t.toNat, x.h, x.d, by
        obtain ⟨xf, xt, xs, xh, xd⟩ := x
        simp only at hbad2 ⊢
        congr <;> omega, by omega, by omega, by omega⟩
      have hF : Ftc 0 (ofC l) n := by rw [← hl]; exact ofC_ftc l
      have hqn := hF.len
      rw [hq] at hqn
      have hYw := seenP_w (l := l) (lv := lv) (x := ⟨f, t, s, xh, xd⟩) (para := para) (fun y hy => (ofC_wide l y hy).2)
      have hYp := seenP_pos (l := l) (lv := lv) (C := ofC l) (x := ⟨f, t, s, xh, xd⟩) (para := para)
      have hYl := seenP_len (l := l) (lv := lv) (C := ofC l) (x := ⟨f, t, s, xh, xd⟩) (para := para)
      simp only [Int.toNat_natCast] at hYl
      have HTEXT := Lib.hid (fun V G g8 (h : Below w.heap.size w V) (hG : CuAt V G (ofC l)) (hqe : q ≤ g8) => text_any A B G l lv (ofC l) _ n c d q g8 f s t xh xd para V (hA.below h) (hB.below h) hG hl hlv hq hF (by omega) hcn hdm hqe h1 h2 h3 rfl (fun y hy => ⟨hYp y hy, hYw y hy⟩) (by omega) (by omega))
      unfold slotsP
      simp only
      generalize seenP l lv (ofC l) ⟨f, t, s, xh, xd⟩ para = Y at *
      have hTl := text_len hYw xd para
      obtain ⟨WN, hWN⟩ : ∃ WN : Nat, W = WN := ⟨W.toNat, by omega⟩
      subst hWN
      have HFILL := Lib.hid (fun A5 c5 V (hT : CuAt V A5 (textP Y xd para)) (hc : (textP Y xd para).length ≤ c5) => fill_any A5 (textP Y xd para) _ c5 WN al V hT rfl hc (by omega) (by omega) (by omega) ha0 ha1)
      rw [Int.toNat_natCast]
      have HPL := Lib.hid (pad_len (textP Y xd para) WN al)
      generalize padP (textP Y xd para) WN al = PP at *
      generalize textP Y xd para = TX at *
      simp only at HLO HMAY
      unfold laidV at HTEXT HMAY
      simp only at HTEXT HMAY
      clear he ha hA hB hbad hH hl hlv hF hYw hYp hYl hTl hqn hmq hbad2 hq
      go_enter Tryd.func8, Tryd.ntmps8
      go_wp2_with fail
      refine (HP0.out _).mono ?_
      rintro e w1 ⟨rfl, hb1⟩
      have HB1 := Lib.hid (HB0.out.trans (hb1.mono HB0.out.size))
      have HE1 := Lib.hid ((hb1.block w.heap.size (Array.getElem?_eq_some_iff.1 HE0.out).1).trans HE0.out)
      obtain ⟨⟨z0, z1, z2, z3, z4⟩, -⟩ := cell5 HE1.out
      clear hb1
      go_wp2_with fail
      refine (HLO.out _ HB1.out).mono ?_
      rintro e w2 ⟨G, g8, rfl, hcu, hqe, hb2⟩
      have HB2 := Lib.hid (HB1.out.trans (hb2.mono HB1.out.size))
      have HCU := Lib.hid hcu
      have HQE := Lib.hid hqe
      clear hb2 hcu hqe z0 z1 z2 z3 z4 HLO
      unfold laidV at *
      have HB3 := Lib.hid (HB2.out.trans ((Cl.below_made w2 (.cells #[.int .i64 f, .int .i64 t, .int .i64 s, .int .i64 xh, .int .i64 xd, .slice G q g8, .int .i64 para] 52)).mono HB2.out.size))
      have HCU3 := Lib.hid (HCU.out.below (Cl.below_made w2 (.cells #[.int .i64 f, .int .i64 t, .int .i64 s, .int .i64 xh, .int .i64 xd, .slice G q g8, .int .i64 para] 52)))
      go_wp2_with fail
      generalize hW3 : w2.alloc (.cells #[.int .i64 f, .int .i64 t, .int .i64 s, .int .i64 xh, .int .i64 xd, .slice G q g8, .int .i64 para] 52) = w3 at *
      refine (HMAY.out G g8 _).mono ?_
      rintro e w4 ⟨rfl, hb4⟩
      have HB4 := Lib.hid (HB3.out.trans (hb4.mono HB3.out.size))
      have HCU4 := Lib.hid (HCU3.out.below hb4)
      have HE4 := Lib.hid ((hb4.block w2.heap.size (by rw [← hW3, World.size_alloc]; omega)).trans (show w3.heap[w2.heap.size]? = some (.cells #[.int .i64 f, .int .i64 t, .int .i64 s, .int .i64 xh, .int .i64 xd, .slice G q g8, .int .i64 para] 52 (0, 0)) from by rw [← hW3]; exact heap_alloc_new _ _))
      obtain ⟨⟨z0, z1, z2, z3, z4, z5, z6⟩, -⟩ := seven_cells HE4.out
      clear hb4 HMAY
      go_wp2_with fail
      refine (HTEXT.out _ G g8 HB4.out HCU4.out HQE.out).mono ?_
      rintro e w5 ⟨v5, rfl, ho5, hb5⟩
      obtain ⟨A5, c5, rfl, hcu5, hle5⟩ := cu_room ho5 rfl
      have HCU5 := Lib.hid hcu5
      have HLE5 := Lib.hid hle5
      have HB5 := Lib.hid (HB4.out.trans (hb5.mono HB4.out.size))
      clear ho5 hb5 hcu5 hle5 z0 z1 z2 z3 z4 z5 z6 HTEXT
      go_wp2_with fail
      refine (HFILL.out A5 c5 _ HCU5.out HLE5.out).mono ?_
      rintro e w6 ⟨A6, c6', rfl, hcu6, hle6, hb6⟩
      have HCU6 := Lib.hid hcu6
      have HLE6 := Lib.hid hle6
      have HB6 := Lib.hid (HB5.out.trans (hb6.mono HB5.out.size))
      clear hcu6 hle6 hb6
      go_wp2_with fail
      go_ret2
      exact ⟨A6, c6', by rw [HPL.out]; rfl, HCU6.out, by rw [HPL.out]; exact HLE6.out, HB6.out⟩
end Go.Proofs.YtlocnjenkanmpaaDoor.Pl

/-
  A lemma for every statement of the form 'the call returns true and each argument reads as before': a call that leaves all old memory as it was meets the statement's conclusion.
-/
namespace Go.Proofs.YtlocnjenkanmpaaDoor
open Go.ChangeShapes Go.WideShapes Go.ChangeAt Go.RowKit
theorem law_own : ownKnob Tryd.prog.godebug = none := by kernel_rfl
theorem law_laidOut : laidOutB Tryd.prog = true := by kernel_rfl
def rowed (P : Program) (ts : List TypeId) : Bool := ts.all fun t => P.readableRec t && decide (t < P.types.size)
theorem below_trodAll {H : Type} {enc : TypeId × Value → H} {P : Program} (hl : laidOutB P = true) {W W' : World} (hb : Below W.heap.size W W') :
    ∀ (ts : List TypeId) (vs : List Value) (ds : List (DataW H)) (ps : List MemPlace), rowed P ts = true → DataW.TrodAll enc P W 0 (fun _ => true) true ts vs ds ps → (∀ x ∈ ps, x.block < W.heap.size) →
      DataW.TrodAll enc P W' 0 (fun b => decide (b < W.heap.size)) true ts vs ds ps
  | [], [], [], _, _, h, _ => h
  | [], _ :: _, _, _, _, h, _ => h.elim
  | [], [], _ :: _, _, _, h, _ => h.elim
  | _ :: _, [], _, _, _, h, _ => h.elim
  | _ :: _, _ :: _, [], _, _, h, _ => h.elim
  | t :: ts, v :: vs, d :: ds, ps, hr, h, hlt => by
    obtain ⟨p, q, h1, h2, rfl⟩ := h
    simp only [rowed, List.all_cons, Bool.and_eq_true, decide_eq_true_eq] at hr
    exact ⟨p, q, Below.trod hl hr.1.1 hr.1.2 h1 hb (fun x hx => hlt x (List.mem_append_left _ hx)), below_trodAll hl hb ts vs ds q hr.2 h2 (fun x hx => hlt x (List.mem_append_right _ hx)), rfl⟩
theorem law_post {H : Type} {enc : TypeId × Value → H} {f : Func} {s : ChangeSpec} {W W' : World} {args : Array Value} {ds gs : List (DataW H)} {before : List MemPlace}
    (hW : DataW.Whole enc Tryd.prog f.params.toList s.vars false W args.toList ds gs before) (hv : s.vars = []) (hres : f.resultTypes = #[4]) (hrow : rowed Tryd.prog f.params.toList = true)
    (hfn : s.fn H (ds ++ gs) = { results := [.lit (.bool true)], args := ds }) (hB : Below W.heap.size W W') :
    s.post enc Tryd.prog f false true false false W args (.bool true) W' := by
  have hW' := hW
  obtain ⟨p, q, hA, hV, rfl, _, _⟩ := hW
  rw [hv] at hV
  obtain ⟨rfl, rfl⟩ := trodVars_none hV
  have hlt : ∀ x ∈ p, x.block < W.heap.size := fun x hx => hW'.lt x (List.mem_append_left _ hx)
  refine ⟨ds, [], p ++ [], [], p, [], hW', ?_, ?_, ?_, hB.frame _, fun h => by cases h⟩
  · rw [hfn, hres]
    exact trodAll_mk1 (shut_bool Tryd.underlying4 true)
  · rw [hfn]
    exact below_trodAll law_laidOut hB _ _ _ _ hrow hA hlt
  · rw [hfn, hv]
    rfl
end Go.Proofs.YtlocnjenkanmpaaDoor

/-
  A row of runes that a statement's function is called with, as its walk reads it; a field of ints of a struct.
-/
set_option linter.unusedVariables false
set_option maxRecDepth 100000
namespace Go.Proofs.YtlocnjenkanmpaaDoor
open Go.ChangeShapes Go.WideShapes Go.ChangeAt Go.RowKit Go.Deep
/-- A field of ints of a struct. -/
theorem field_int {H : Type} {enc : TypeId × Value → H} {P : Program} {w : World} {base : Nat} {spare : Nat → Bool} {held : Bool} {fuel : Nat} {t : TypeId} {fs : Array Field} {cs : List Value} {x : DataW H × List MemPlace} (ht : P.underlying t = some (.struct fs))
    (h : DataW.trod enc P w base spare held fuel t cs = some x) (i : Nat) (f : Field) (hf : fs[i]? = some f) (hty : P.underlying f.type = some (.int .i64)) (hc : P.cellsOf f.type = 1) : ∃ n, cs[f.offset]? = some (.int .i64 n) ∧ Ku.okN n := by
  obtain ⟨xs, m, _, _, _, hxl, hel⟩ := DataW.trod_struct ht h
  have hE := hel i f hf
  have hi : i < fs.size := (Array.getElem?_eq_some_iff.1 hf).1
  rw [hc, List.getElem?_eq_getElem (by omega)] at hE
  obtain ⟨n, e1, _, e3⟩ := DataW.trod_int hty hE
  refine ⟨n, ?_, ?_⟩
  · have h0 : ((cs.drop f.offset).take 1)[0]? = some (.int .i64 n) := by rw [e1]; rfl
    simpa using h0
  · have h1 : IntKind.i64.min = -9223372036854775808 := rfl
    have h2 : IntKind.i64.max = 9223372036854775807 := rfl
    simp only [Lit.wf, Bool.and_eq_true, decide_eq_true_eq] at e3
    unfold Ku.okN
    omega
theorem open_runes {H : Type} {enc : TypeId × Value → H} {W : World} {r : Reach} {b0 base : Nat} {v : Value} {d : DataW H} {p : List MemPlace}
    (hv : Value.okWide Tryd.prog W r b0 22 v) (h : DataW.Trod enc Tryd.prog W base (fun _ => true) true 22 v d p) :
    ∃ (A : Option Addr) (l : List Ku.R3) (c : Nat), v = .slice A l.length c ∧ Ku.RuAt W A l ∧ (A = none → l = [] ∧ c = 0) ∧ l.length ≤ c ∧ l.length ≤ 9223372036854775807 ∧ ∀ q ∈ l, Ku.okN q.1 ∧ Ku.okN q.2.1 ∧ Ku.okN q.2.2 := by
  obtain ⟨fuel, hf⟩ := h
  rcases open_slice Tryd.underlying22 hf with ⟨hcs, hx⟩ | ⟨a, len, cap, m, n, D, Pl, hcs, hb, hl, hm, hmm, hx, hel⟩
  · obtain ⟨a, n, c, rfl⟩ := okWide_slice Tryd.underlying22 hv
    simp [Value.cells] at hcs
    obtain ⟨rfl, rfl, rfl⟩ := hcs
    exact ⟨none, [], 0, rfl, .inl rfl, fun _ => ⟨rfl, rfl⟩, by simp, by simp, by simp⟩
  · obtain ⟨a', n', c, rfl⟩ := okWide_slice Tryd.underlying22 hv
    simp [Value.cells] at hcs
    obtain ⟨rfl, rfl, rfl⟩ := hcs
    unfold maxLen at hm
    simp only [if_true] at hmm
    have c3 : Tryd.prog.cellsOf 36 = 3 := by kernel_rfl
    have c1 : Tryd.prog.cellsOf 3 = 1 := by kernel_rfl
    have each : ∀ i, i < n' → ∃ q : Ku.R3, W.cell? (a.add (i * 3)) = some (.int .i64 q.1) ∧ W.cell? (a.add (i * 3 + 1)) = some (.int .i64 q.2.1) ∧ W.cell? (a.add (i * 3 + 2)) = some (.int .i64 q.2.2) ∧ (Ku.okN q.1 ∧ Ku.okN q.2.1 ∧ Ku.okN q.2.2) := by
      intro i hi
      obtain ⟨cs', h1, h2⟩ := hel i (by omega)
      rw [c3] at h1
      obtain ⟨_, hlen, hcell⟩ := World.cells?_some h1
      obtain ⟨x0, e0, k0⟩ := field_int Tryd.underlying36 h2 0 _ rfl Tryd.underlying3 c1
      obtain ⟨x1, e1, k1⟩ := field_int Tryd.underlying36 h2 1 _ rfl Tryd.underlying3 c1
      obtain ⟨x2, e2, k2⟩ := field_int Tryd.underlying36 h2 2 _ rfl Tryd.underlying3 c1
      have g0 := (hcell 0 (by omega)).trans e0
      have g1 := (hcell 1 (by omega)).trans e1
      have g2 := (hcell 2 (by omega)).trans e2
      rw [Deep.add_add] at g0
      rw [Deep.add_add] at g1
      rw [Deep.add_add] at g2
      refine ⟨(x0, x1, x2), by simpa using g0, by simpa using g1, by simpa using g2, k0, k1, k2⟩
    obtain ⟨q, hq⟩ := choose_lt each
    have hlen : ((List.range n').map q).length = n' := by simp
    refine ⟨some a, (List.range n').map q, c, by rw [hlen], ?_, (fun h => by cases h), by omega, by omega, fun y hy => ?_⟩
    · by_cases h0 : n' = 0
      · exact .inl (by subst h0; rfl)
      · right
        obtain ⟨b, off, spot⟩ := a
        have hspot : spot = none := by simpa [Addr.add] using World.cell?_spot (hq 0 (by omega)).1
        subst hspot
        refine ⟨b, off, rfl, ?_, fun k hk => ?_⟩
        · have := World.block_lt_of_cell? W _ (hq 0 (by omega)).1
          simpa [Addr.add] using this
        · have hk' : k < n' := by simpa using hk
          obtain ⟨g0, g1, g2, _⟩ := hq k hk'
          have hg : ((List.range n').map q)[k]'hk = q k := by simp
          rw [hg]
          rw [Ku.add_off] at g0 g1 g2
          exact ⟨g0, g1, g2⟩
    · simp only [List.mem_map, List.mem_range] at hy
      obtain ⟨k, hk, rfl⟩ := hy
      exact (hq k hk).2.2.2
end Go.Proofs.YtlocnjenkanmpaaDoor

/-
  What the listed variable (cluster.behind) gives the walks of a seat; how a statement about a call that leaves old memory as it was is lifted to its row.
-/
set_option linter.unusedVariables false
namespace Go.Proofs.YtlocnjenkanmpaaDoor
open Go.ChangeShapes Go.WideShapes Go.ChangeAt Go.RowKit Go.Deep
/-- What this seat's rows list. -/
def laidL : List (String × DataW Unit) := [("parquetry/cluster.behind", Rows.laid_parquetry_cluster_behind)]
theorem behind_laid : (Rows.laid_parquetry_cluster_behind : DataW Unit) = .agg (Ku.behindL.map fun n => .lit (.int .u16 n)) := by kernel_rfl
theorem cell_behind {W : World} (h : laidMetH Tryd.prog laidL W) (k : Nat) (hk : k < Ku.behindL.length) : W.cell? ⟨0, k, none⟩ = some (.int .u16 Ku.behindL[k]) := by
  rw [MakeChecks.laidMetH_plain _ _ _ (by kernel_rfl)] at h
  obtain ⟨ps, ⟨g1, t1, cs1, f1, p1, q1, hg1, ht1, hv1, hd1, _, _⟩, _, _⟩ := h
  obtain rfl := Option.some.inj ((show Tryd.prog.globalNamed "parquetry/cluster.behind" = some 0 by kernel_rfl).symm.trans hg1)
  obtain rfl := Option.some.inj ((show (Tryd.prog.globals[0]?).map (·.type) = some 88 by kernel_rfl).symm.trans ht1)
  rw [behind_laid] at hd1
  have h14 : Ku.behindL.length = 14 := rfl
  obtain ⟨xs, m, _, ex, _, hl, hel⟩ := DataW.trod_array Tryd.underlying88 hd1
  have c5 : Tryd.prog.cellsOf 87 = 1 := by kernel_rfl
  have hE := hel k (by omega)
  rw [c5, Nat.mul_one, List.getElem?_eq_getElem (by omega)] at hE
  obtain ⟨n, e1, e2, _⟩ := DataW.trod_int Tryd.underlying87 hE
  have e3 : (xs.map (·.1)) = Ku.behindL.map fun n => .lit (.int .u16 n) := (DataW.agg.inj (Prod.mk.inj ex).1).symm
  have e4 : (xs.map (·.1))[k]? = (Ku.behindL.map fun n => (DataW.lit (.int .u16 n) : DataW Unit))[k]? := by rw [e3]
  rw [List.getElem?_map, List.getElem?_map, List.getElem?_eq_getElem (by omega : k < xs.length), List.getElem?_eq_getElem hk, e2] at e4
  have hz : n = Ku.behindL[k] := by
    simp only [Option.map_some, Option.some.injEq, DataW.lit.injEq, Lit.int.injEq, true_and] at e4
    exact e4
  rw [World.var?_cell hg1 hv1 k, ← hz]
  have : cs1.toList[k]? = some (.int .u16 n) := by
    have h0 : ((cs1.toList.drop k).take 1)[0]? = some (.int .u16 n) := by rw [e1]; rfl
    simpa using h0
  simpa using this
theorem held_of {W : World} (h : laidMetH Tryd.prog laidL W) (hsh : W.ShapedOpen Tryd.prog) : Ku.Held W := by
  refine ⟨?_, cell_behind h⟩
  have := World.block_lt_of_cell? W _ (cell_behind h 0 (by decide))
  simpa using this
theorem trodAll_len {H : Type} {enc : TypeId × Value → H} {P : Program} {W : World} {b : Nat} {sp : Nat → Bool} {h : Bool} : ∀ {ts : List TypeId} {vs : List Value} {ds : List (DataW H)} {ps : List MemPlace}, DataW.TrodAll enc P W b sp h ts vs ds ps → ds.length = ts.length
  | [], [], [], _, _ => rfl
  | [], _ :: _, _, _, h => h.elim
  | [], [], _ :: _, _, h => h.elim
  | _ :: _, [], _, _, h => h.elim
  | _ :: _, _ :: _, [], _, h => h.elim
  | t :: ts, v :: vs, d :: ds, ps, h => by
    obtain ⟨p, q, h1, h2, rfl⟩ := h
    simp [trodAll_len h2]
set_option maxRecDepth 100000 in
theorem returns_laid {H : Type} {enc : TypeId × Value → H} {os : Os} {f : FuncId} {fn : Func} {s : ChangeSpec} (started : os.Started) (noInit : Tryd.prog.inits.idxOf? f = none) (hfn : Tryd.prog.funcs[f]? = some fn)
    (args0 : Array Value) (hok : Input.okWideB Tryd.prog ((World.laidAll Tryd.prog os laidL).forCall (fun _ _ => 0) ⟨#[], args0, []⟩) f ⟨#[], args0, []⟩ = true)
    (hsh0 : ((World.laidAll Tryd.prog os laidL).forCall (fun _ _ => 0) ⟨#[], args0, []⟩).Shaped Tryd.prog)
    (hlaid0 : laidMetH Tryd.prog laidL ((World.laidAll Tryd.prog os laidL).forCall (fun _ _ => 0) ⟨#[], args0, []⟩).memory)
    (hpre : s.preB enc Tryd.prog fn [] false ((World.laidAll Tryd.prog os laidL).forCall (fun _ _ => 0) ⟨#[], args0, []⟩).memory args0 8 = true)
    (hsz : s.sizedB enc Tryd.prog fn false ((World.laidAll Tryd.prog os laidL).forCall (fun _ _ => 0) ⟨#[], args0, []⟩).memory args0 8 = true)
    (hv : s.vars = []) (hres : fn.resultTypes = #[4]) (hrow : rowed Tryd.prog fn.params.toList = true) (hfn2 : ∀ (ds : List (DataW H)), ds.length = fn.params.toList.length → s.fn H (ds ++ []) = { results := [.lit (.bool true)], args := ds })
    (walk : ∀ (W : World) (base : Nat) (args : Array Value) (ds : List (DataW H)) (p : List MemPlace),
      (∀ (j : Nat) t v, fn.params[j]? = some t → args[j]? = some v → Value.okWide Tryd.prog W .any base t v) →
      DataW.TrodAll enc Tryd.prog W 0 (fun _ => true) true fn.params.toList args.toList ds p → Ku.Held W →
      Calls Tryd.prog f args W fun e w' => e = .returned (.bool true) ∧ Below W.heap.size W w') :
    ReturnsInHanded {} Tryd.checked os f .any (fun w args => (s.pre enc Tryd.prog fn [] false w args ∧ laidMetH Tryd.prog laidL w) ∧ sizedMet enc Tryd.prog fn (OpenSpec.ofChange s) false w args) (s.post enc Tryd.prog fn false true false false) := by
  refine returnsInHanded_of_calls (C := Tryd.checked) law_own started noInit
    (ChangeSpec.witness_shaped (enc := enc) (C := Tryd.checked) (os := os) (fn := fn) (X := fun w _ => laidMetH Tryd.prog laidL w) false (World.laidAll Tryd.prog os laidL) args0 8 (World.laidAll_os _ _ _) hsh0 hok hpre hsz hlaid0) ?_
  intro w tape i _ hsh _ hok' hpre' hholds
  obtain ⟨_, _, _, fn', hfn', _, _, _, _, hval⟩ := hok'
  have e : fn' = fn := Option.some.inj (hfn'.symm.trans hfn)
  subst e
  obtain ⟨⟨⟨ds, gs, before, hw, hc⟩, hx⟩, hz⟩ := hpre'
  have hw' := DataW.Whole.of_heap (w' := w.forCall tape i) (by rfl) hw
  have hx' : laidMetH Tryd.prog laidL (w.forCall tape i) := hx.of_heap (by rfl)
  have hw2 := hw'
  obtain ⟨p, q, hA0, hV, rfl, _, _⟩ := hw2
  refine (walk (w.forCall tape i) w.heap.size i.args ds p hval hA0 (held_of hx' hsh)).mono fun e W' ⟨he, hB⟩ => ?_
  subst he
  refine ChangeSpec.post_blind (law_post hw' hv hres hrow ?_ hB)
  rw [hv] at hV
  obtain ⟨rfl, rfl⟩ := trodVars_none hV
  exact hfn2 ds (trodAll_len hA0)
end Go.Proofs.YtlocnjenkanmpaaDoor

/-
  A line that a statement's function is called with, as its walk reads it.
-/
set_option linter.unusedVariables false
set_option maxRecDepth 100000
namespace Go.Proofs.YtlocnjenkanmpaaDoor.Wr
open Go.ChangeShapes Go.WideShapes Go.ChangeAt Go.RowKit Go.Deep
theorem array5 {α : Type} {cs : Array α} (h : cs.size = 5) : ∃ c0 c1 c2 c3 c4, cs = #[c0, c1, c2, c3, c4] := by
  obtain ⟨l⟩ := cs
  match l, h with
  | [c0, c1, c2, c3, c4], _ => exact ⟨c0, c1, c2, c3, c4, rfl⟩
theorem open_line {H : Type} {enc : TypeId × Value → H} {W : World} {r : Reach} {b0 base : Nat} {v : Value} {d : DataW H} {p : List MemPlace}
    (hv : Value.okWide Tryd.prog W r b0 25 v) (h : DataW.Trod enc Tryd.prog W base (fun _ => true) true 25 v d p) :
    ∃ q : L5, v = lnV q ∧ (Ku.okN q.f ∧ Ku.okN q.t ∧ Ku.okN q.s ∧ Ku.okN q.h ∧ Ku.okN q.d) := by
  obtain ⟨cs, rfl, hsz⟩ := okWide_struct Tryd.underlying25 hv
  have c5 : Tryd.prog.cellsOf 25 = 5 := by kernel_rfl
  have c1 : Tryd.prog.cellsOf 3 = 1 := by kernel_rfl
  obtain ⟨a0, a1, a2, a3, a4, rfl⟩ := array5 (hsz.trans c5)
  obtain ⟨fuel, h2⟩ := h
  obtain ⟨x0, e0, k0⟩ := field_int Tryd.underlying25 h2 0 _ rfl Tryd.underlying3 c1
  obtain ⟨x1, e1, k1⟩ := field_int Tryd.underlying25 h2 1 _ rfl Tryd.underlying3 c1
  obtain ⟨x2, e2, k2⟩ := field_int Tryd.underlying25 h2 2 _ rfl Tryd.underlying3 c1
  obtain ⟨x3, e3, k3⟩ := field_int Tryd.underlying25 h2 3 _ rfl Tryd.underlying3 c1
  obtain ⟨x4, e4, k4⟩ := field_int Tryd.underlying25 h2 4 _ rfl Tryd.underlying3 c1
  simp [Value.cells] at e0 e1 e2 e3 e4
  subst e0 e1 e2 e3 e4
  exact ⟨⟨x0, x1, x2, x3, x4⟩, rfl, k0, k1, k2, k3, k4⟩
end Go.Proofs.YtlocnjenkanmpaaDoor.Wr
