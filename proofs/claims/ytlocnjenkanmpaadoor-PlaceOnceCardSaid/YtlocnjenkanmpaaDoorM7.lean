/-
  Several texts in one, each with its own remark: PlLens, RcTable, RcOf, RuRc, BrLine, PlKit.
-/
import Derived.Carry
import Derived.ProofKit
import Derived.OpenShut
import Derived.Below
import Derived.Lib.Hide
import Derived.Great.BuildSlice
import Derived.WalkKit
import Derived.Test.YtlocnjenkanmpaaDoorM5
import Derived.Test.YtlocnjenkanmpaaDoorRows
import Derived.Test.YtlocnjenkanmpaaDoorM2
import Derived.Test.YtlocnjenkanmpaaDoorM0

/-
  How many are seen at most, how wide each is, how many slots a text has at most. No program in it.
-/
set_option linter.unusedVariables false
namespace Go.Proofs.YtlocnjenkanmpaaDoor.Pl
open Go Go.Proofs.YtlocnjenkanmpaaDoor.Ku Go.Proofs.YtlocnjenkanmpaaDoor.Wr Go.Proofs.YtlocnjenkanmpaaDoor.Bi Go.Proofs.YtlocnjenkanmpaaDoor.Bo
theorem seenK_w {C : List C6} {own : List Int} {a f : Nat} (hC : ∀ y ∈ C, y.w ≤ 2) : ∀ k, ∀ y ∈ seenK C own a f k, y.1.w ≤ 2
  | 0, y, hy => by simp [seenK] at hy
  | k + 1, y, hy => by
    unfold seenK at hy
    rcases List.mem_append.1 hy with h | h
    · exact seenK_w hC k y h
    · split at h
      · rw [List.mem_singleton] at h
        rw [h]
        simp only
        rw [List.getD_eq_getElem?_getD]
        cases hg : C[f + k]? with
        | none => simp [d6]
        | some z => simpa using hC z (List.mem_of_getElem? hg)
      · cases h
theorem seenP_w {l : List R3} {lv : List Int} {C : List C6} {x : L5} {para : Int} (hC : ∀ y ∈ C, y.w ≤ 2) : ∀ y ∈ seenP l lv C x para, y.1.w ≤ 2 := by
  unfold seenP
  split
  · simp
  · exact seenK_w hC _
theorem seenP_len {l : List R3} {lv : List Int} {C : List C6} {x : L5} {para : Int} : (seenP l lv C x para).length ≤ x.s.toNat - x.f.toNat := by
  unfold seenP
  split
  · simp
  · exact seenK_len _ _ _ _ _
theorem text_len {Y : List Sn} (hw : ∀ y ∈ Y, y.1.w ≤ 2) (dots para : Int) : (textP Y dots para).length ≤ 2 * Y.length + 2 := by
  have h := row_le hw (ordP Y)
  have h2 : (ordP Y).length = Y.length := by unfold ordP; rw [order_len, List.length_map]
  unfold textP
  rw [List.length_append, List.length_append]
  split <;> split <;> simp <;> omega
theorem seenK_pos {C : List C6} {own : List Int} {a f : Nat} : ∀ k, ∀ y ∈ seenK C own a f k, 0 < y.1.w
  | 0, y, hy => by simp [seenK] at hy
  | k + 1, y, hy => by
    unfold seenK at hy
    rcases List.mem_append.1 hy with h | h
    · exact seenK_pos k y h
    · split at h
      · rename_i hp
        rw [List.mem_singleton] at h
        rw [h]
        exact hp
      · cases h
theorem seenP_pos {l : List R3} {lv : List Int} {C : List C6} {x : L5} {para : Int} : ∀ y ∈ seenP l lv C x para, 0 < y.1.w := by
  unfold seenP
  split
  · simp
  · exact seenK_pos _
end Go.Proofs.YtlocnjenkanmpaaDoor.Pl

/-
  Proved here: what parquetryref02.Table returns: a new row of the document's 22 rows of spans; it leaves what was in memory. No condition.
-/
set_option linter.unusedVariables false
namespace Go.Proofs.YtlocnjenkanmpaaDoor.Rc
open Go.RowKit Go.Lib
abbrev TRow := Int × List Int
/-- The document's table: a class, and its spans: from, to, from, to, .. -/
def tableL : List TRow := [(1, [1424, 1424, 1470, 1470, 1472, 1472, 1475, 1475, 1478, 1478, 1480, 1535, 8207, 8207, 64285, 64285, 64287, 64296, 64298, 64335]),
  (2, [1544, 1544, 1547, 1547, 1549, 1549, 1563, 1610, 1645, 1647, 1649, 1749, 1765, 1766, 1774, 1775, 1786, 1791, 1872, 1919, 65136, 65278]),
  (3, [48, 57, 178, 179, 185, 185, 1776, 1785, 8304, 8304, 8308, 8313, 8320, 8329, 9352, 9371, 65296, 65305]),
  (4, [43, 43, 45, 45, 8314, 8315, 8330, 8331, 8722, 8722, 64297, 64297, 65122, 65123, 65291, 65291, 65293, 65293]),
  (5, [35, 37, 162, 165, 176, 177, 1423, 1423, 1545, 1546, 1642, 1642, 8240, 8244, 8352, 8399, 8723, 8723, 65119, 65119, 65129, 65130, 65283, 65285, 65504, 65505, 65509, 65510]),
  (6, [1536, 1541, 1632, 1641, 1643, 1644, 1757, 1757, 2274, 2274]),
  (7, [44, 44, 46, 47, 58, 58, 160, 160, 1548, 1548, 8239, 8239, 8260, 8260, 65104, 65104, 65106, 65106, 65109, 65109, 65292, 65292, 65294, 65295, 65306, 65306]),
  (8, [768, 879, 1155, 1161, 1425, 1469, 1471, 1471, 1473, 1474, 1476, 1477, 1479, 1479, 1552, 1562, 1611, 1631, 1648, 1648, 1750, 1756, 1759, 1764, 1767, 1768, 1770, 1773, 2364, 2364, 2369, 2376, 2381, 2381, 8400, 8432, 12330, 12333, 12441, 12442, 64286, 64286, 65024, 65039, 65056, 65071, 917760, 917999]),
  (9, [0, 8, 14, 27, 127, 132, 134, 159, 173, 173, 8203, 8205, 8288, 8293, 8298, 8303, 65279, 65279]),
  (10, [10, 10, 13, 13, 28, 30, 133, 133, 8233, 8233]),
  (11, [9, 9, 11, 11, 31, 31]),
  (12, [12, 12, 32, 32, 5760, 5760, 8192, 8202, 8232, 8232, 8287, 8287, 12288, 12288]),
  (13, [33, 34, 38, 42, 59, 64, 91, 96, 123, 126, 161, 161, 166, 169, 171, 172, 174, 175, 180, 180, 182, 184, 187, 191, 215, 215, 247, 247, 1542, 1543, 1550, 1551, 1758, 1758, 1769, 1769, 8208, 8231, 8245, 8259, 8261, 8286, 8316, 8318, 8332, 8334, 8592, 8721, 8724, 9013, 9472, 9899, 9901, 10239, 11904, 11929, 12289, 12292, 12296, 12320, 12336, 12336, 65281, 65282, 65286, 65290, 65307, 65312, 65339, 65344, 65371, 65381, 65529, 65533, 127744, 128591]),
  (14, [8234, 8234]),
  (16, [8235, 8235]),
  (18, [8236, 8236]),
  (15, [8237, 8237]),
  (17, [8238, 8238]),
  (19, [8294, 8294]),
  (20, [8295, 8295]),
  (21, [8296, 8296]),
  (22, [8297, 8297])]
/-- The operations that build such rows, one behind the other: dst, operation, guard. -/
def litParts (l : List Int) : Array (Nat × Operand) := ((l.zipIdx 0).map fun x => (x.2, Operand.const (Value.int .i64 x.1))).toArray
def rowOps (tS tR : TypeId) : Nat → List TRow → List (Option Tmp × Op × Option (Nat × Bool))
  | _, [] => []
  | i, r :: rs => (some i, .buildSlice tS r.2.length (litParts r.2), none) :: (some (i + 1), .build tR #[(0, .const (.int .i64 r.1)), (1, .tmp i)], none) :: rowOps tS tR (i + 2) rs
def rowV (B : Nat) (r : TRow) : Value := .agg #[.int .i64 r.1, .slice (some ⟨B, 0, none⟩) r.2.length r.2.length]
def rowWorld (e : TypeId) : List TRow → World → World
  | [], w => w
  | r :: rs, w => rowWorld e rs (w.alloc (.cells (r.2.map (Value.int .i64)).toArray e))
def rowAct : Nat → Nat → List TRow → Act → Act
  | _, _, [], a => a
  | i, B, r :: rs, a => rowAct (i + 2) (B + 1) rs ((a.put (some i) (.slice (some ⟨B, 0, none⟩) r.2.length r.2.length)).put (some (i + 1)) (rowV B r))
theorem eval_put {a : Act} {i : Nat} {v : Value} (h : i < a.tmps.size) : (a.put (some i) v).eval (.tmp i) = v := by
  simp [Act.put, Act.eval, h]
theorem wpList_rows {P : Program} {ops : Array Oper} {Q : Exit → Act → World → Prop} {rest : List Oper} (tS tR e : TypeId) (hu : P.underlying tS = some (.slice e)) (hsz : (P.info? e).map (·.size) = some 1) (hz : ((P.info? e).bind (·.zero)).isSome = true)
    (hb : ∀ c A n m, P.built tR [(0, .int .i64 c), (1, .slice A n m)] = some #[.int .i64 c, .slice A n m]) :
    ∀ (rows : List TRow) (l : List Oper) (i B : Nat) (a : Act) (w : World), w.heap.size = B → l.map (fun o => (o.dst, o.op, o.guard)) = rowOps tS tR i rows → (∀ r ∈ rows, 0 < r.2.length ∧ r.2.length ≤ 1000) → i + 2 * rows.length ≤ a.tmps.size →
      wpList P ops Q rest (rowAct i B rows a) (rowWorld e rows w) → wpList P ops Q (l ++ rest) a w
  | [], l, i, B, a, w, hB, hl, _, _, h => by
    rw [rowOps, List.map_eq_nil_iff] at hl
    subst hl
    exact h
  | r :: rs, l, i, B, a, w, hB, hl, hr, hs, h => by
    obtain _ | ⟨o1, _ | ⟨o2, l⟩⟩ := l
    · simp [rowOps] at hl
    · simp [rowOps] at hl
    simp only [List.map_cons, rowOps, List.cons.injEq, Prod.mk.injEq] at hl
    obtain ⟨⟨e1, e2, e3⟩, ⟨e4, e5, e6⟩, hl⟩ := hl
    obtain ⟨hp, hq⟩ := hr r (by simp)
    simp only [List.length_cons] at hs
    refine wpList_buildFlatAt e3 tS e r.2.length (litParts r.2) e2 .i64 r.2 B hB (some i) e1 hu hsz hz rfl hp (by omega) rfl ?_
    refine wpList_buildTo e6 tR _ e5 (some (i + 1)) e4 #[.int .i64 r.1, .slice (some ⟨B, 0, none⟩) r.2.length r.2.length] ?_ ?_
    · rw [← hb r.1 (some ⟨B, 0, none⟩) r.2.length r.2.length]
      congr 1
      rw [Array.toList_map]
      simp only [List.map_cons, List.map_nil]
      rw [eval_put (by omega)]
      rfl
    · exact wpList_rows tS tR e hu hsz hz hb rs l (i + 2) (B + 1) _ _ (by simp [hB]) hl (fun r hr' => hr r (by simp [hr'])) (by simp [Act.put]; omega) h
theorem rowWorld_size (e : TypeId) : ∀ (rows : List TRow) (w : World), (rowWorld e rows w).heap.size = w.heap.size + rows.length
  | [], w => rfl
  | r :: rs, w => by rw [rowWorld, rowWorld_size e rs]; simp; omega
theorem rowWorld_below (e : TypeId) : ∀ (rows : List TRow) (w : World), Below w.heap.size w (rowWorld e rows w)
  | [], w => Below.refl _ _
  | r :: rs, w => by
    have h1 : Below w.heap.size w (w.alloc (.cells (r.2.map (Value.int .i64)).toArray e)) := (Below.refl _ _).alloc (Nat.le_refl _) _
    exact h1.trans ((rowWorld_below e rs _).mono h1.size)
theorem rowWorld_cell (e : TypeId) : ∀ (rows : List TRow) (w : World) (i : Nat) (hi : i < rows.length) (j : Nat) (hj : j < rows[i].2.length), (rowWorld e rows w).cell? ⟨w.heap.size + i, j, none⟩ = some (.int .i64 rows[i].2[j])
  | r :: rs, w, 0, _, j, hj => by
    have h2 := rowWorld_below e rs (w.alloc (.cells (r.2.map (Value.int .i64)).toArray e))
    rw [rowWorld]
    refine (h2.cell (p := ⟨w.heap.size + 0, j, none⟩) (by simp)).trans ?_
    simp at hj ⊢
    try simp [hj]
  | r :: rs, w, i + 1, hi, j, hj => by
    have := rowWorld_cell e rs (w.alloc (.cells (r.2.map (Value.int .i64)).toArray e)) i (by simpa using hi) j (by simpa using hj)
    rw [rowWorld]
    rw [show (w.alloc (.cells (r.2.map (Value.int .i64)).toArray e)).heap.size + i = w.heap.size + (i + 1) from by simp; omega] at this
    simpa using this
/-- A table of rows in memory. -/
def TabAt (w : World) (b : Nat) (rows : List TRow) : Prop :=
  b < w.heap.size ∧ ∀ i (hi : i < rows.length), w.cell? ⟨b, i * 2, none⟩ = some (.int .i64 rows[i].1) ∧ ∃ g, g < w.heap.size ∧ w.cell? ⟨b, i * 2 + 1, none⟩ = some (.slice (some ⟨g, 0, none⟩) rows[i].2.length rows[i].2.length) ∧ ∀ j (hj : j < rows[i].2.length), w.cell? ⟨g, j, none⟩ = some (.int .i64 rows[i].2[j])
theorem TabAt.below {w w' : World} {b : Nat} {rows : List TRow} (h : TabAt w b rows) (hb : Below w.heap.size w w') : TabAt w' b rows := by
  refine ⟨Nat.lt_of_lt_of_le h.1 hb.size, fun i hi => ?_⟩
  obtain ⟨h1, g, h2, h3, h4⟩ := h.2 i hi
  exact ⟨(hb.cell (p := ⟨b, i * 2, none⟩) h.1).trans h1, g, Nat.lt_of_lt_of_le h2 hb.size, (hb.cell (p := ⟨b, i * 2 + 1, none⟩) h.1).trans h3, fun j hj => (hb.cell (p := ⟨g, j, none⟩) h2).trans (h4 j hj)⟩
def rowVs (B : Nat) (rows : List TRow) : List Value := (rows.zipIdx B).map fun x => rowV x.2 x.1
theorem rowVs_cells (B : Nat) (rows : List TRow) : ∀ v ∈ rowVs B rows, v.cells.size = 2 := by
  intro v hv
  obtain ⟨x, _, rfl⟩ := List.mem_map.1 hv
  rfl
theorem rowVs_at (B : Nat) (rows : List TRow) (i : Nat) (hi : i < rows.length) : (rowVs B rows)[i]? = some (rowV (B + i) rows[i]) := by
  unfold rowVs
  rw [List.getElem?_map, List.getElem?_zipIdx, List.getElem?_eq_getElem hi]
  rfl
theorem tab_made (e t : TypeId) (rows : List TRow) (w : World) : TabAt ((rowWorld e rows w).alloc (.cells ((rowVs w.heap.size rows).flatMap fun v => v.cells.toList).toArray t)) (w.heap.size + rows.length) rows := by
  have hs := rowWorld_size e rows w
  have hc := rowWorld_cell e rows w
  generalize rowWorld e rows w = w1 at *
  have hb : Below w1.heap.size w1 (w1.alloc (.cells ((rowVs w.heap.size rows).flatMap fun v => v.cells.toList).toArray t)) := (Below.refl _ _).alloc (Nat.le_refl _) _
  have hcell : ∀ k, (w1.alloc (.cells ((rowVs w.heap.size rows).flatMap fun v => v.cells.toList).toArray t)).cell? ⟨w1.heap.size, k, none⟩ = ((rowVs w.heap.size rows).flatMap fun v => v.cells.toList)[k]? := by
    intro k
    simp
  have hflat := Great.flat_get (s := 2) (by decide) (rowVs w.heap.size rows) (rowVs_cells _ _)
  rw [← hs]
  refine ⟨by simp, fun i hi => ?_⟩
  have hv := rowVs_at w.heap.size rows i hi
  refine ⟨?_, w.heap.size + i, ?_, ?_, fun j hj => ?_⟩
  · rw [hcell, hflat, show i * 2 / 2 = i from by omega, show i * 2 % 2 = 0 from by omega, hv]; rfl
  · have := hb.size; omega
  · rw [hcell, hflat, show (i * 2 + 1) / 2 = i from by omega, show (i * 2 + 1) % 2 = 1 from by omega, hv]; rfl
  · exact (hb.cell (p := ⟨w.heap.size + i, j, none⟩) (by simp only; omega)).trans (hc i hi j hj)
theorem wpList_assignTo {P : Program} {ops : Array Oper} {Q : Exit → Act → World → Prop} {rest : List Oper} {o : Oper} {a : Act} {w : World} (hg : o.guard = none) (x : Operand) (ho : o.op = .assign x)
    (h : wpList P ops Q rest (a.put o.dst (a.eval x)) w) : wpList P ops Q (o :: rest) a w :=
  wpList_plain hg fun K hK => by
    unfold Oper.wp execOp
    simp only [ho]
    exact hK _ _ h
def tabFrame (B : Nat) : Act := ⟨((.slice none 0 0 :: ((tableL.zipIdx B).flatMap fun x => [.slice (some ⟨x.2, 0, none⟩) x.1.2.length x.1.2.length, rowV x.2 x.1])) ++ [undef]).toArray, []⟩
def tab0 : Act := ⟨(.slice none 0 0 :: List.replicate 45 undef).toArray, []⟩
theorem tab_act (B : Nat) : rowAct 1 B tableL tab0 = tabFrame B := by kernel_rfl
theorem infoRow : (Tryd.prog.info? 126).map (fun i => (i.zero, i.size)) = some (some (.agg #[.int .i64 0, .slice none 0 0]), 2) := by kernel_rfl
theorem infoI1 : (Tryd.prog.info? 3).map (·.size) = some 1 := by kernel_rfl
theorem infoI2 : ((Tryd.prog.info? 3).bind (·.zero)).isSome = true := by kernel_rfl
theorem row_built (c : Int) (A : Option Addr) (n m : Nat) : Tryd.prog.built 126 [(0, .int .i64 c), (1, .slice A n m)] = some #[.int .i64 c, .slice A n m] := by kernel_rfl
def tabParts : Array (Nat × Operand) := ((List.range 22).map fun i => (i, Operand.tmp (2 * i + 2))).toArray
theorem tab_parts (B : Nat) : (tabParts.map fun (i, x) => (i, (tabFrame B).eval x)).toList = ((rowVs B tableL).zipIdx 0).map fun x => (x.2, x.1) := by kernel_rfl
theorem table_rows : ∀ r ∈ tableL, 0 < r.2.length ∧ r.2.length ≤ 1000 := by decide +kernel
theorem table_len : tableL.length = 22 := by kernel_rfl
theorem tab0_size : tab0.tmps.size = 46 := by kernel_rfl
theorem tabFrame_size (B : Nat) : (tabFrame B).tmps.size = 46 := by kernel_rfl
/-- A region that builds the rows, the slice of them, and hands it on. -/
theorem wp_tab {P : Program} {id : Nat} {l : List Oper} {Q : Exit → Act → World → Prop} {w : World} (tS tR e t : TypeId) (hu : P.underlying tS = some (.slice e)) (hsz : (P.info? e).map (·.size) = some 1) (hz : ((P.info? e).bind (·.zero)).isSome = true)
    (hb : ∀ c A n m, P.built tR [(0, .int .i64 c), (1, .slice A n m)] = some #[.int .i64 c, .slice A n m])
    (hu2 : P.underlying t = some (.slice tR)) (ie : TypeInfo) (z : Value) (hie : P.info? tR = some ie) (hzz : ie.zero = some z) (hs2 : ie.size = 2)
    (h1 : (l.take 44).map (fun o => (o.dst, o.op, o.guard)) = rowOps tS tR 1 tableL)
    (h2 : (l.drop 44).map (fun o => (o.dst, o.op, o.guard)) = [(some 45, .buildSlice t 22 tabParts, none), (some 0, .assign (.tmp 45), none)])
    (h : Q .normal (((tabFrame w.heap.size).put (some 45) (.slice (some ⟨w.heap.size + 22, 0, none⟩) 22 22)).put (some 0) (.slice (some ⟨w.heap.size + 22, 0, none⟩) 22 22)) ((rowWorld e tableL w).alloc (.cells ((rowVs w.heap.size tableL).flatMap fun v => v.cells.toList).toArray tR))) :
    (Code.region id l.toArray false).wp P Q tab0 w := by
  refine wp_region_lit ?_
  have hw : wpList P l.toArray Q (l.take 44 ++ l.drop 44) tab0 w := by
    refine wpList_rows tS tR e hu hsz hz hb tableL (l.take 44) 1 w.heap.size tab0 w rfl h1 table_rows (by rw [table_len, tab0_size]; decide) ?_
    rw [tab_act]
    generalize l.drop 44 = m at h2 ⊢
    obtain _ | ⟨o1, _ | ⟨o2, _ | ⟨o3, m⟩⟩⟩ := m
    · cases h2
    · simp at h2
    · simp only [List.map_cons, List.map_nil, List.cons.injEq, Prod.mk.injEq, and_true] at h2
      obtain ⟨⟨e1, e2, e3⟩, e4, e5, e6⟩ := h2
      have hsize : (rowWorld e tableL w).heap.size = w.heap.size + 22 := by rw [rowWorld_size, table_len]
      refine wpList_buildSlice e3 t tR 22 tabParts e2 _ ie z hu2 hie hzz (by rw [hs2]; decide) (by rw [hs2]; decide) (by
        rw [tab_parts, hs2]
        exact Great.fill_whole (s := 2) (by decide) (rowVs w.heap.size tableL) _ (rowVs_cells _ _) (by simp [rowVs, table_len])) ?_
      rw [hsize, e1]
      refine wpList_assignTo e6 (.tmp 45) e5 ?_
      rw [e4, eval_put (by rw [tabFrame_size]; decide)]
      exact h
    · simp at h2
  rwa [List.take_append_drop] at hw
set_option maxHeartbeats 4000000 in
set_option maxRecDepth 1000000 in
theorem table_any (w : World) :
    Calls Tryd.prog 97 #[] w fun e w' => e = .returned (.slice (some ⟨w.heap.size + 22, 0, none⟩) tableL.length tableL.length) ∧ TabAt w' (w.heap.size + 22) tableL ∧ Below w.heap.size w w' := by
  obtain ⟨i0, hi, hz0, hz1⟩ : ∃ i, Tryd.prog.info? 126 = some i ∧ i.zero = some (.agg #[.int .i64 0, .slice none 0 0]) ∧ i.size = 2 := by
    have := infoRow
    cases h : Tryd.prog.info? 126 with
    | none => rw [h] at this; cases this
    | some i => rw [h] at this; simp only [Option.map_some, Option.some.injEq, Prod.mk.injEq] at this; exact ⟨i, rfl, this.1, this.2⟩
  have hmade := tab_made 3 126 tableL w
  have hbelow : Below w.heap.size w ((rowWorld 3 tableL w).alloc (.cells ((rowVs w.heap.size tableL).flatMap fun v => v.cells.toList).toArray 126)) := (rowWorld_below _ _ _).alloc (by rw [rowWorld_size]; omega) _
  rw [table_len] at hmade ⊢
  generalize hW : ((rowWorld 3 tableL w).alloc (.cells ((rowVs w.heap.size tableL).flatMap fun v => v.cells.toList).toArray 126)) = W at hmade hbelow
  go_enter Tryd.func97, Tryd.ntmps97
  refine wp_seq (wp_region_lit (l := [_]) (wpList_assignTo rfl _ rfl ?_))
  show Exit.then _ _ _ _ _
  refine wp_seq ?_
  refine wp_tab 23 126 3 123 Tryd.underlying23 infoI1 infoI2 row_built Tryd.underlying123 i0 _ hi hz0 hz1 (by kernel_rfl) (by kernel_rfl) ?_
  rw [hW]
  refine wp_ret ?_
  go_ret
  exact ⟨by kernel_rfl, hmade, hbelow⟩
end Go.Proofs.YtlocnjenkanmpaaDoor.Rc

/-
  Proved here: what parquetryref02.Of returns, for every number: the class that class.Of returns; it leaves what was in memory. No condition.
-/
set_option linter.unusedVariables false
namespace Go.Proofs.YtlocnjenkanmpaaDoor.Rc
open Go.RowKit Go.Lib Go.Proofs.YtlocnjenkanmpaaDoor.Cl
/-- Whether a number stands in one of these spans: from, to, from, to, .. -/
def hasSpan : List Int → Int → Bool
  | a :: b :: l, c => (decide (a ≤ c) && decide (c ≤ b)) || hasSpan l c
  | _, _ => false
def refOf : List TRow → Int → Int
  | [], _ => 0
  | r :: rs, c => if hasSpan r.2 c then r.1 else refOf rs c
theorem hasSpan_at : ∀ (l : List Int) (c : Int) (m : Nat) (h : 2 * m + 1 < l.length), l[2 * m] ≤ c → c ≤ l[2 * m + 1] → hasSpan l c = true
  | a :: b :: l, c, 0, h, h1, h2 => by
    simp only [hasSpan, Bool.or_eq_true, Bool.and_eq_true, decide_eq_true_eq]
    exact .inl ⟨h1, h2⟩
  | a :: b :: l, c, m + 1, h, h1, h2 => by
    simp only [hasSpan, Bool.or_eq_true]
    right
    exact hasSpan_at l c m (by simp at h; omega) (by simpa [Nat.mul_add] using h1) (by simpa [Nat.mul_add] using h2)
  | [a], c, m, h, _, _ => by simp at h
  | [], c, m, h, _, _ => by simp at h
theorem hasSpan_at' (l : List Int) (c : Int) (q : Nat) (hq : q % 2 = 0) (h : q + 1 < l.length) (h1 : l[q] ≤ c) (h2 : c ≤ l[q + 1]) : hasSpan l c = true := by
  obtain ⟨m, rfl⟩ : ∃ m, q = 2 * m := ⟨q / 2, by omega⟩
  exact hasSpan_at l c m h h1 h2
theorem hasSpan_none : ∀ (l : List Int) (c : Int), (∀ (m : Nat) (h : 2 * m + 1 < l.length), ¬ (l[2 * m] ≤ c ∧ c ≤ l[2 * m + 1])) → hasSpan l c = false
  | a :: b :: l, c, h => by
    simp only [hasSpan, Bool.or_eq_false_iff]
    refine ⟨?_, hasSpan_none l c fun m hm => ?_⟩
    · have := h 0 (by simp)
      simp only [Nat.mul_zero, List.getElem_cons_zero, Nat.zero_add, List.getElem_cons_succ] at this
      simp only [Bool.and_eq_false_iff, decide_eq_false_iff_not]
      omega
    · have := h (m + 1) (by simp; omega)
      simpa [Nat.mul_add] using this
  | [a], c, h => rfl
  | [], c, h => rfl
theorem hasSpan_none' (l : List Int) (c : Int) (hno : ∀ (q : Nat) (h : q + 1 < l.length), q % 2 = 0 → ¬ (l[q] ≤ c ∧ c ≤ l[q + 1])) : hasSpan l c = false :=
  hasSpan_none l c fun m h => hno (2 * m) h (by omega)
theorem refOf_at : ∀ (rows : List TRow) (c : Int) (i : Nat) (h : i < rows.length), (∀ j (hj : j < rows.length), j < i → hasSpan rows[j].2 c = false) → hasSpan rows[i].2 c = true → refOf rows c = rows[i].1
  | r :: rs, c, 0, h, _, h1 => by simp only [refOf]; rw [if_pos (by simpa using h1)]; rfl
  | r :: rs, c, i + 1, h, hlo, h1 => by
    have h0 := hlo 0 (by simp) (by omega)
    simp only [refOf]
    rw [if_neg (by simpa using h0)]
    exact refOf_at rs c i (by simpa using h) (fun j hj hji => hlo (j + 1) (Nat.succ_lt_succ hj) (by omega)) h1
theorem refOf_none : ∀ (rows : List TRow) (c : Int), (∀ j (hj : j < rows.length), hasSpan rows[j].2 c = false) → refOf rows c = 0
  | [], c, _ => rfl
  | r :: rs, c, h => by
    have h0 := h 0 (by simp)
    simp only [refOf]
    rw [if_neg (by simpa using h0)]
    exact refOf_none rs c (fun j hj => h (j + 1) (Nat.succ_lt_succ hj))
/-- The spans of a row, each with its class. -/
def rowSpans (k : Int) : List Int → List Span
  | a :: b :: l => (a, b, k) :: rowSpans k l
  | _ => []
theorem hasSpan_mem (k : Int) : ∀ (l : List Int) (c : Int), hasSpan l c = true → ∃ s ∈ rowSpans k l, s.1 ≤ c ∧ c ≤ s.2.1 ∧ s.2.2 = k
  | a :: b :: l, c, h => by
    simp only [hasSpan, Bool.or_eq_true, Bool.and_eq_true, decide_eq_true_eq] at h
    rcases h with h | h
    · exact ⟨(a, b, k), by simp [rowSpans], h.1, h.2, rfl⟩
    · obtain ⟨s, hs, h1⟩ := hasSpan_mem k l c h
      exact ⟨s, by simp [rowSpans, hs], h1⟩
  | [a], c, h => by simp [hasSpan] at h
  | [], c, h => by simp [hasSpan] at h
theorem hasSpan_of (k : Int) : ∀ (l : List Int) (c : Int) (s : Span), s ∈ rowSpans k l → s.1 ≤ c → c ≤ s.2.1 → hasSpan l c = true
  | a :: b :: l, c, s, h, h1, h2 => by
    simp only [rowSpans, List.mem_cons] at h
    simp only [hasSpan, Bool.or_eq_true, Bool.and_eq_true, decide_eq_true_eq]
    rcases h with rfl | h
    · exact .inl ⟨h1, h2⟩
    · exact .inr (hasSpan_of k l c s h h1 h2)
  | [a], c, s, h, _, _ => by simp [rowSpans] at h
  | [], c, s, h, _, _ => by simp [rowSpans] at h
theorem spans_all : (tableL.flatMap fun r => rowSpans r.1 r.2).all (fun s => spansL.contains s) = true := by kernel_rfl
theorem spans_from : spansL.all (fun s => (tableL.flatMap fun r => rowSpans r.1 r.2).contains s) = true := by kernel_rfl
theorem refOf_tab (c : Int) : ∀ (rows : List TRow), (∀ r ∈ rows, r ∈ tableL) → (∃ s ∈ spansL, s.1 ≤ c ∧ c ≤ s.2.1 ∧ refOf rows c = s.2.2) ∨ (refOf rows c = 0 ∧ ∀ r ∈ rows, hasSpan r.2 c = false)
  | [], _ => .inr ⟨rfl, by simp⟩
  | r :: rs, h => by
    cases hh : hasSpan r.2 c with
    | true =>
      obtain ⟨s, hs, h1, h2, h3⟩ := hasSpan_mem r.1 r.2 c hh
      have := List.all_eq_true.1 spans_all s (List.mem_flatMap.2 ⟨r, h r (by simp), hs⟩)
      exact .inl ⟨s, by simpa using this, h1, h2, by simp only [refOf]; rw [hh, if_pos rfl, h3]⟩
    | false =>
      have e : refOf (r :: rs) c = refOf rs c := by simp only [refOf]; rw [hh]; rfl
      rw [e]
      rcases refOf_tab c rs (fun x hx => h x (by simp [hx])) with h1 | ⟨h1, h2⟩
      · exact .inl h1
      · refine .inr ⟨h1, fun x hx => ?_⟩
        rcases List.mem_cons.1 hx with rfl | hx
        · exact hh
        · exact h2 x hx
/-- The document's table, and the program's: one class. -/
theorem ref_is (c : Int) : refOf tableL c = cls c := by
  unfold cls
  rcases refOf_tab c tableL (fun _ h => h) with ⟨s, hs, h1, h2, h3⟩ | ⟨h1, h2⟩
  · rw [h3, ofT_in rises_spans hs h1 h2]
  · rw [h1, ofT_out]
    intro s hs ⟨h3, h4⟩
    have := List.all_eq_true.1 spans_from s hs
    obtain ⟨r, hr, hs2⟩ := List.mem_flatMap.1 (List.contains_iff_mem.1 this)
    have h5 := hasSpan_of r.1 r.2 c s hs2 h3 h4
    rw [h2 r hr] at h5
    cases h5
theorem table_even : ∀ r ∈ tableL, r.2.length % 2 = 0 := by decide +kernel
set_option maxHeartbeats 1000000 in
set_option maxRecDepth 100000 in
theorem refOf_any (c : Int) (w : World) :
    Calls Tryd.prog 83 #[.int .i64 c] w fun e w' => e = .returned (.int .i64 (cls c)) ∧ Below w.heap.size w w' := by
  rw [← ref_is]
  have HTab := Lib.hid (table_any w)
  have hlen : tableL.length ≤ 1000 := by rw [table_len]; decide
  have heven := Lib.hid table_even
  have hshort := Lib.hid table_rows
  generalize tableL = rows at *
  go_enter Tryd.func83, Tryd.ntmps83
  go_wp2_with fail
  refine HTab.out.mono ?_
  rintro e w1 ⟨rfl, hT, hb⟩
  have hb22 := hb.size
  generalize w.heap.size + 22 = b at *
  have HT := Lib.hid hT
  clear hT HTab
  go_wp2_with fail
  go_loop [4] (fun s4 => ∃ i : Nat, i ≤ rows.length ∧ s4 = .int .i64 i ∧ ∀ j (hj : j < rows.length), j < i → hasSpan rows[j].2 c = false) (fun s4 => rows.length - (RowKit.intOf s4).toNat)
  case atStart => exact ⟨0, Nat.zero_le _, rfl, fun j _ h => by omega⟩
  case round =>
    obtain ⟨i, hi, rfl, hlo⟩ := hrel
    have HLO := Lib.hid hlo
    clear hlo
    by_cases hlt : i < rows.length
    · obtain ⟨c1, g, hg, c2, c3⟩ := HT.out.2 i hlt
      obtain ⟨r, hr⟩ : ∃ r, rows[i] = r := ⟨_, rfl⟩
      have hev : r.2.length % 2 = 0 := heven.out r (hr ▸ List.getElem_mem hlt)
      have hsh : r.2.length ≤ 1000 := (hshort.out r (hr ▸ List.getElem_mem hlt)).2
      have c3' : ∀ j (hj : j < r.2.length), w1.cell? ⟨g, j, none⟩ = some (.int .i64 r.2[j]) := by subst hr; exact c3
      clear c3
      rw [hr] at c1 c2
      have HR := Lib.hid hr
      have HC := Lib.hid c3'
      clear hr c3'
      obtain ⟨k, l⟩ := r
      simp only at c1 c2 HC hev hsh
      go_wp2_with fail
      go_loop [6] (fun s6 => ∃ q : Nat, q ≤ l.length ∧ q % 2 = 0 ∧ s6 = .int .i64 q ∧ ∀ q' (h : q' + 1 < l.length), q' % 2 = 0 → q' < q → ¬ (l[q'] ≤ c ∧ c ≤ l[q' + 1])) (fun s6 => l.length - (RowKit.intOf s6).toNat)
      case atStart => exact ⟨0, Nat.zero_le _, rfl, rfl, fun j _ _ h => by omega⟩
      case round =>
        obtain ⟨q, hq, hq2, rfl, hlo2⟩ := hrel
        have HLO2 := Lib.hid hlo2
        have HQ2 := Lib.hid hq2
        clear hlo2
        by_cases hlt2 : q < l.length
        · have hlt3 : q + 1 < l.length := by omega
          have d1 := HC.out q hlt2
          have d2 := HC.out (q + 1) hlt3
          have HA := Lib.hid (hasSpan_at' l c q HQ2.out hlt3)
          obtain ⟨a, ha⟩ : ∃ a, l[q] = a := ⟨_, rfl⟩
          obtain ⟨b', hb'⟩ : ∃ b, l[q + 1] = b := ⟨_, rfl⟩
          rw [ha] at d1
          rw [hb'] at d2
          have hstep : ¬ (a ≤ c ∧ c ≤ b') → ∀ q' (h : q' + 1 < l.length), q' % 2 = 0 → q' < q + 2 → ¬ (l[q'] ≤ c ∧ c ≤ l[q' + 1]) := by
            intro hn q' h h0 h1
            by_cases e : q' = q
            · subst e
              rw [ha, hb']
              exact hn
            · exact HLO2.out q' h h0 (by have := HQ2.out; omega)
          have HST := Lib.hid hstep
          have hA2 : a ≤ c → c ≤ b' → hasSpan l c = true := by rw [← ha, ← hb']; exact HA.out
          have HA2 := Lib.hid hA2
          clear ha hb' hstep HA hq2 hA2
          by_cases h1 : a ≤ c
          · have hd1 : decide (a ≤ c) = true := decide_eq_true h1
            by_cases h2 : c ≤ b'
            · have hd2 : decide (c ≤ b') = true := decide_eq_true h2
              have hfin := Lib.hid (refOf_at rows c i hlt HLO.out (by rw [HR.out]; exact HA2.out h1 h2))
              go_wp2
              go_ret
              refine ⟨?_, hb⟩
              rw [hfin.out, HR.out]
              rfl
            · have hd2 : decide (c ≤ b') = false := decide_eq_false h2
              go_wp2
              go_round
              case measure => simp [RowKit.intOf]; omega
              exact ⟨q + 2, by omega, by have := HQ2.out; omega, by go_num, HST.out (by omega)⟩
          · have hd1 : decide (a ≤ c) = false := decide_eq_false h1
            go_wp2
            go_round
            case measure => simp [RowKit.intOf]; omega
            exact ⟨q + 2, by omega, by have := HQ2.out; omega, by go_num, HST.out (by omega)⟩
        · clear hq2
          have hno := Lib.hid (hasSpan_none' l c (fun q' h h0 => HLO2.out q' h h0 (by omega)))
          go_wp2
          go_round
          case measure => simp [RowKit.intOf]; omega
          refine ⟨i + 1, by omega, by go_num, fun j hj hji => ?_⟩
          by_cases e : j = i
          · subst e
            rw [HR.out]
            exact hno.out
          · exact HLO.out j hj (by omega)
    · have hfin := Lib.hid (refOf_none rows c (fun j hj => HLO.out j hj (by omega)))
      go_wp2
      go_ret
      refine ⟨?_, hb⟩
      rw [hfin.out]
      rfl
end Go.Proofs.YtlocnjenkanmpaaDoor.Rc

/-
  Proved here: what parquetryref02.All returns, for every row of runes of whatever numbers, of at most 2^40: a new row of their classes, in order; it leaves what was in memory.
-/
set_option linter.unusedVariables false
namespace Go.Proofs.YtlocnjenkanmpaaDoor.Rc
open Go.RowKit Go.Lib Go.Proofs.YtlocnjenkanmpaaDoor.Cl
set_option maxHeartbeats 1000000 in
set_option maxRecDepth 100000 in
theorem refallR_any (A : Option Addr) (l : List Ku.R3) (c : Nat) (w : World) (hR : Ku.RuAt w A l) (hn : l.length ≤ 1099511627776) :
    Calls Tryd.prog 59 #[.slice A l.length c] w fun e w' => ∃ v, e = .returned v ∧ w'.ownsRow w.heap.size 3 1 v l.length (iClR (clsR l)) ∧ Below w.heap.size w w' := by
  obtain ⟨i0, hi, hz0, hz1, hz2⟩ := info_parts infoInt
  have HR := Lib.hid hR
  clear hR
  go_enter Tryd.func59, Tryd.ntmps59
  go_wp2_with fail
  go_loopw [3, 4] (fun s3 s4 wx => ∃ k : Nat, k ≤ l.length ∧ s4 = .int .i64 k ∧ Below w.heap.size w wx ∧ wx.ownsRow w.heap.size 3 1 s3 k (iClR (clsR (l.take k)))) (fun _ s4 _ => l.length - (RowKit.intOf s4).toNat)
  case atStart => exact ⟨0, Nat.zero_le _, rfl, Below.refl _ _, World.ownsRow_nil _ _ _ _⟩
  case round =>
    obtain ⟨k, hk, rfl, hb, hown⟩ := hrel
    by_cases hlt : k < l.length
    · obtain ⟨g, off, rfl, hg, c0, c1, c2⟩ := (HR.out.below hb).at_ hlt
      have HT := Lib.hid (clsR_take hlt)
      have HOWN := Lib.hid hown
      have hbs := hb.size
      clear hown
      generalize l[k] = r at *
      go_wp2_with fail
      refine (refOf_any _ _).mono ?_
      rintro e w3 ⟨rfl, hb3⟩
      have hown3 : w3.ownsRow w.heap.size 3 1 u3 k (iClR (clsR (l.take k))) := ownsRow_below HOWN.out hb3
      have hb13 : Below w.heap.size w w3 := hb.trans (hb3.mono hbs)
      have hs13 := hb13.size
      have hlt2 := hown3.lt
      generalize cls r.2.2 = z at *
      clear hb3
      go_wp2_with (at_builtin; refine wpList_append_own _ rfl _ _ 23 rfl w.heap.size 3 i0 (.int .i64 0) 1 8 Tryd.underlying23 hi hz0 hz1 hz2 rfl (by decide) _ _ _ rfl (hown3.alloc _) ⟨w3.heap.size, 0, none⟩ 1 1 [.int .i64 z] rfl rfl ?c1 ?c2 ?c3 ?c4 ?c5 ?_)
      case c1 => exact cell_one_new _ _ _
      case c2 => intro u hu; simp only [List.mem_singleton] at hu; subst hu; rfl
      case c3 => unfold maxLen; omega
      case c4 => omega
      case c5 => simp; omega
      intro v' w4 hown' hgrow _
      have HG := Lib.hid hgrow
      have HO := Lib.hid hown'
      clear hgrow hown' hown3
      go_wp2
      go_roundw
      case measure => simp [RowKit.intOf]; omega
      case rel =>
        refine ⟨k + 1, by omega, by go_num, ?_, ?_⟩
        · exact (hb13.alloc hs13 _).grown HG.out (by simp; omega) (fun g hg => (hlt2 g hg).1)
        · rw [HT.out]; exact HO.out
    · obtain rfl : k = l.length := by omega
      rw [List.take_length] at hown
      go_wp2
      go_ret
      exact ⟨_, rfl, hown, hb⟩
end Go.Proofs.YtlocnjenkanmpaaDoor.Rc

/-
  Proved here: what parquetryref16.Line returns, for every row of runes and of levels of at most 2^40, and every number as the paragraph's level: the plain levels of a line. It leaves what was in memory.
-/
set_option linter.unusedVariables false
namespace Go.Proofs.YtlocnjenkanmpaaDoor.Bi
open Go Go.RowKit Go.Lib Go.Proofs.YtlocnjenkanmpaaDoor.Cl
set_option maxHeartbeats 4000000 in
set_option maxRecDepth 100000 in
theorem rline_any (A1 A2 : Option Addr) (l : List Ku.R3) (lv : List Int) (n m c1 c2 : Nat) (p : Int) (w : World) (hR : Ku.RuAt w A1 l) (hI : IntsAt w A2 lv) (hl : l.length = n) (hm : lv.length = m) (hn : n ≤ 1099511627776) :
    Calls Tryd.prog 41 #[.slice A1 n c1, .slice A2 m c2, .int .i64 p] w fun e w' => ∃ A c, e = .returned (.slice A (lineZ (clsR l) lv p).length c) ∧ w'.ownsRow w.heap.size 3 1 (.slice A (lineZ (clsR l) lv p).length c) (lineZ (clsR l) lv p).length (icl (lineZ (clsR l) lv p)) ∧ Below w.heap.size w w' := by
  by_cases hnm : n = m
  · have hlen : (lineZ (clsR l) lv p).length = n := by
      unfold lineZ
      rw [if_pos (by rw [clsR_len, hl, hm, hnm]), line_len p _ _ (by rw [clsR_len, hl, hm, hnm]), hm, hnm]
    rw [hlen]
    have e0 : lineZ (clsR l) lv p = lineP p (clsR l) lv := by unfold lineZ; rw [if_pos (by rw [clsR_len, hl, hm, hnm])]
    rw [e0] at hlen ⊢
    subst hnm
    subst hl
    have HR := Lib.hid hR
    have HAL := Lib.hid (Rc.refallR_any A1 l c1 w hR hn)
    obtain ⟨C, hC⟩ : ∃ C, clsR l = C := ⟨_, rfl⟩
    have HCL := Lib.hid (show C.length = l.length from by rw [← hC]; exact clsR_len l)
    rw [hC] at HAL hlen ⊢
    have HI := Lib.hid hI
    have HM := Lib.hid hm
    have HLEN := Lib.hid hlen
    clear hR hI hm hlen hC e0
    generalize l.length = n at *
    go_enter Tryd.func41, Tryd.ntmps41
    go_wp2_with fail
    refine HAL.out.mono ?_
    rintro e w1 ⟨v5, rfl, ho1, hb1⟩
    obtain ⟨A5, c5, rfl, i5⟩ := intsAt_icl (zs := C) ho1 HCL.out
    have HI5 := Lib.hid i5
    have HB1 := Lib.hid hb1
    have HI2 := Lib.hid (HI.out.below hb1)
    clear ho1 i5 hb1 HAL HI HR
    go_wp2_with fail
    go_loopw [8, 9] (fun s8 s9 wx => ∃ i : Nat, i ≤ n ∧ s9 = .int .i64 i ∧ wx.ownsRow w1.heap.size 3 1 s8 i (icl ((lineP p C lv).take i)) ∧ Below w1.heap.size w1 wx) (fun _ s9 _ => n - (RowKit.intOf s9).toNat)
    case atStart => exact ⟨0, Nat.zero_le _, rfl, World.ownsRow_nil _ _ _ _, Below.refl _ _⟩
    case round =>
      obtain ⟨i, hi, rfl, hown, hb⟩ := hrel
      have HO := Lib.hid hown
      have HB := Lib.hid hb
      clear hown
      by_cases hlt : i < n
      · have hil : i < lv.length := by rw [HM.out]; exact hlt
        obtain ⟨g2, o2, rfl, hc2⟩ := (HI2.out.below hb).at_ hil
        have HAT := Lib.hid (line_snoc p (c := C) (l := lv) (by rw [HCL.out, HM.out]) hil)
        have hgd : lv.getD i 0 = lv[i] := by simp [List.getD, List.getElem?_eq_getElem hil]
        rw [hgd] at HAT
        generalize lv[i] = y at *
        have HI5r := Lib.hid (HI5.out.below hb)
        have hi0 : (0 : Int) ≤ (i : Int) := by omega
        have hi1 : (i : Int) < (n : Int) := by omega
        have hsz := HB.out.size
        clear hil hgd hb
        obtain ⟨wo, hwo⟩ : ∃ wo : World, wo = wr := ⟨_, rfl⟩
        have HWO := Lib.hid hwo
        clear hwo
        go_wp2_with fail
        go_loopw [10] (fun s10 wx => ∃ k : Nat, i ≤ k ∧ k ≤ n ∧ s10 = .int .i64 k ∧ endB (C.drop i) = endB (C.drop k) ∧ wx = wr) (fun s10 _ => n - (RowKit.intOf s10).toNat)
        case atStart => exact ⟨i, Nat.le_refl _, by omega, rfl, rfl, rfl⟩
        case round =>
          obtain ⟨k, hik, hk, rfl, heq, hwx⟩ := hrel
          subst hwx
          have HEQ := Lib.hid heq
          clear heq
          by_cases hkn : k < n
          · have hkc : k < C.length := by rw [HCL.out]; exact hkn
            obtain ⟨g5, o5, rfl, hc5⟩ := HI5r.out.at_ hkc
            have HE1 := Lib.hid (fun h => endB_blank hkc h)
            have HE2 := Lib.hid (fun h => endB_stop hkc h)
            generalize C[k] = z at *
            have HBK := Lib.hid (fun W => rblank_any z W)
            have hk0 : (0 : Int) ≤ (k : Int) := by omega
            have hk1 : (k : Int) < (n : Int) := by omega
            have kn1 : ((k : Int) == (n : Int)) = false := beq_eq_false_iff_ne.2 (by omega)
            have kn2 : (k == n) = false := beq_eq_false_iff_ne.2 (by omega)
            clear hkc
            cases hbz : blankB z with
            | true =>
              have HN := Lib.hid (HEQ.out.trans (HE1.out hbz))
              rw [hbz] at HBK
              clear hbz HE1 HE2
              go_wp2_with fail
              refine (HBK.out _).mono ?_
              rintro e w3 ⟨rfl, rfl⟩
              clear HBK
              go_wp2_with fail
              go_roundw
              case rel => exact ⟨k + 1, by omega, by omega, by go_num, HN.out, by first | rfl | trivial⟩
              case measure => simp [RowKit.intOf]; omega
            | false =>
              have HN := Lib.hid (HEQ.out.trans (HE2.out hbz))
              rw [hbz] at HBK
              clear hbz HE1 HE2
              by_cases h11 : z = 11
              · subst h11
                have HV := Lib.hid (show (if endB (C.drop i) = true then p else y) = p from by rw [HN.out]; rfl)
                rw [HV.out] at HAT
                go_wp2_with fail
                refine (HBK.out _).mono ?_
                rintro e w3 ⟨rfl, rfl⟩
                clear HBK
                go_wp2_with (at_builtin; refine wpList_add rfl _ _ rfl w1.heap.size _ i ((lineP p C lv).take i) rfl (ownsRow_below HO.out (below_made _ _)) (some ⟨w3.heap.size, 0, none⟩) 1 1 [(p : Int)] rfl (made_ints [(p : Int)] _ _ _ rfl) rfl (by omega) (by simp; omega) ?_)
                intro v' w9 hown9 hb9
                have hb3 := (HB.out.trans ((below_made w3 (.cells #[.int .i64 (p)] 3)).mono hsz)).trans hb9
                have HO9 := Lib.hid (show w9.ownsRow w1.heap.size 3 1 v' (i + 1) (icl ((lineP p C lv).take (i + 1))) from by rw [HAT.out]; exact hown9)
                have HB9 := Lib.hid hb3
                clear hown9 hb9 hb3
                go_wp2_with fail
                go_roundw
                case rel => exact ⟨i + 1, by omega, by go_num, HO9.out, HB9.out⟩
                case measure => simp [RowKit.intOf]; omega
              · have b11 : (z == 11) = false := beq_eq_false_iff_ne.2 h11
                by_cases h10 : z = 10
                · subst h10
                  have HV := Lib.hid (show (if endB (C.drop i) = true then p else y) = p from by rw [HN.out]; rfl)
                  rw [HV.out] at HAT
                  go_wp2_with fail
                  refine (HBK.out _).mono ?_
                  rintro e w3 ⟨rfl, rfl⟩
                  clear HBK
                  go_wp2_with (at_builtin; refine wpList_add rfl _ _ rfl w1.heap.size _ i ((lineP p C lv).take i) rfl (ownsRow_below HO.out (below_made _ _)) (some ⟨w3.heap.size, 0, none⟩) 1 1 [(p : Int)] rfl (made_ints [(p : Int)] _ _ _ rfl) rfl (by omega) (by simp; omega) ?_)
                  intro v' w9 hown9 hb9
                  have hb3 := (HB.out.trans ((below_made w3 (.cells #[.int .i64 (p)] 3)).mono hsz)).trans hb9
                  have HO9 := Lib.hid (show w9.ownsRow w1.heap.size 3 1 v' (i + 1) (icl ((lineP p C lv).take (i + 1))) from by rw [HAT.out]; exact hown9)
                  have HB9 := Lib.hid hb3
                  clear hown9 hb9 hb3
                  go_wp2_with fail
                  go_roundw
                  case rel => exact ⟨i + 1, by omega, by go_num, HO9.out, HB9.out⟩
                  case measure => simp [RowKit.intOf]; omega
                · have b10 : (z == 10) = false := beq_eq_false_iff_ne.2 h10
                  have HV := Lib.hid (show (if endB (C.drop i) = true then p else y) = y from by rw [HN.out, decide_eq_false (by omega)]; rfl)
                  rw [HV.out] at HAT
                  clear h10 h11
                  go_wp2_with fail
                  refine (HBK.out _).mono ?_
                  rintro e w3 ⟨rfl, rfl⟩
                  clear HBK
                  go_wp2_with (at_builtin; refine wpList_add rfl _ _ rfl w1.heap.size _ i ((lineP p C lv).take i) rfl (ownsRow_below HO.out (below_made _ _)) (some ⟨w3.heap.size, 0, none⟩) 1 1 [(y : Int)] rfl (made_ints [(y : Int)] _ _ _ rfl) rfl (by omega) (by simp; omega) ?_)
                  intro v' w9 hown9 hb9
                  have hb3 := (HB.out.trans ((below_made w3 (.cells #[.int .i64 (y)] 3)).mono hsz)).trans hb9
                  have HO9 := Lib.hid (show w9.ownsRow w1.heap.size 3 1 v' (i + 1) (icl ((lineP p C lv).take (i + 1))) from by rw [HAT.out]; exact hown9)
                  have HB9 := Lib.hid hb3
                  clear hown9 hb9 hb3
                  go_wp2_with fail
                  go_roundw
                  case rel => exact ⟨i + 1, by omega, by go_num, HO9.out, HB9.out⟩
                  case measure => simp [RowKit.intOf]; omega
          · obtain rfl : k = n := by omega
            have HV := Lib.hid (show (if endB (C.drop i) = true then p else y) = p from by
              rw [HEQ.out, List.drop_eq_nil_of_le (by rw [HCL.out]; exact Nat.le_refl _)]; rfl)
            rw [HV.out] at HAT
            go_wp2_with (at_builtin; refine wpList_add rfl _ _ rfl w1.heap.size _ i ((lineP p C lv).take i) rfl (ownsRow_below HO.out (below_made _ _)) (some ⟨wr.heap.size, 0, none⟩) 1 1 [(p : Int)] rfl (made_ints [(p : Int)] _ _ _ rfl) rfl (by omega) (by simp; omega) ?_)
            intro v' w9 hown9 hb9
            have hb3 := (HB.out.trans ((below_made wr (.cells #[.int .i64 (p)] 3)).mono hsz)).trans hb9
            have HO9 := Lib.hid (show w9.ownsRow w1.heap.size 3 1 v' (i + 1) (icl ((lineP p C lv).take (i + 1))) from by rw [HAT.out]; exact hown9)
            have HB9 := Lib.hid hb3
            clear hown9 hb9 hb3
            go_wp2_with fail
            go_roundw
            case rel => exact ⟨i + 1, by omega, by go_num, HO9.out, HB9.out⟩
            case measure => simp [RowKit.intOf]; omega
      · obtain rfl : i = n := by omega
        rw [List.take_of_length_le (by rw [HLEN.out]; exact Nat.le_refl _)] at HO
        obtain ⟨A, c, rfl, -⟩ := intsAt_icl HO.out HLEN.out
        clear hb
        go_wp2_with fail
        go_ret
        exact ⟨A, c, rfl, HO.out.mono HB1.out.size, HB1.out.trans (HB.out.mono HB1.out.size)⟩
  · have e0 : lineZ (clsR l) lv p = [] := by unfold lineZ; rw [if_neg (by rw [clsR_len, hl, hm]; exact hnm)]
    rw [e0]
    have hne : ((n : Int) != (m : Int)) = true := bne_iff_ne.2 (by omega)
    have hne2 : (n != m) = true := bne_iff_ne.2 hnm
    clear hR hI hl hm e0
    go_enter Tryd.func41, Tryd.ntmps41
    go_wp2
    go_ret
    exact ⟨none, 0, rfl, World.ownsRow_nil _ _ _ _, Below.refl _ _⟩
end Go.Proofs.YtlocnjenkanmpaaDoor.Bi

/-
  A part of a row of runes, of ints; an own row is a slice. No program in it but its types.
-/
set_option linter.unusedVariables false
namespace Go.Proofs.YtlocnjenkanmpaaDoor.Pl
open Go Go.RowKit Go.Lib Go.Proofs.YtlocnjenkanmpaaDoor.Ku Go.Proofs.YtlocnjenkanmpaaDoor.Wr Go.Proofs.YtlocnjenkanmpaaDoor.Cl
theorem own_sl {w : World} {B n sz : Nat} {e : TypeId} {v : Value} {xs : List Value} (h : w.ownsRow B e sz v n xs) : ∃ A c, v = .slice A n c := by
  rcases h.2 with ⟨rfl, h0⟩ | ⟨g, cap, cur, rfl, _⟩
  · exact ⟨none, 0, by rw [h0]⟩
  · exact ⟨_, _, rfl⟩
theorem ru_part {w : World} {l : List R3} {b off : Nat} (h : RuAt w (some ⟨b, off, none⟩) l) (f k : Nat) (hk : f + k ≤ l.length) : RuAt w (some ⟨b, off + f * 3, none⟩) ((l.drop f).take k) := by
  rcases h with rfl | ⟨b', off', e, hlt, hc⟩
  · exact .inl (by simp)
  · injection e with e
    injection e with e1 e2
    subst e1 e2
    refine .inr ⟨b, off + f * 3, rfl, hlt, fun i hi => ?_⟩
    have hik : i < k := by rw [List.length_take] at hi; omega
    have hl : f + i < l.length := by omega
    have e : ((l.drop f).take k)[i] = l[f + i] := by rw [List.getElem_take, List.getElem_drop]
    rw [e]
    have := hc (f + i) hl
    rw [show off + (f + i) * 3 = off + f * 3 + i * 3 from by omega] at this
    exact this
theorem ints_part {w : World} {l : List Int} {b off : Nat} (h : IntsAt w (some ⟨b, off, none⟩) l) (f k : Nat) : IntsAt w (some ⟨b, off + f, none⟩) ((l.drop f).take k) := by
  rcases h with rfl | ⟨b', off', e, hlt, hc⟩
  · exact .inl (by simp)
  · injection e with e
    injection e with e1 e2
    subst e1 e2
    refine .inr ⟨b, off + f, rfl, hlt, fun j z hz => ?_⟩
    rw [List.getElem?_take] at hz
    split at hz
    · rw [List.getElem?_drop] at hz
      have := hc (f + j) z hz
      rw [show off + f + j = off + (f + j) from by omega]
      exact this
    · cases hz
end Go.Proofs.YtlocnjenkanmpaaDoor.Pl
