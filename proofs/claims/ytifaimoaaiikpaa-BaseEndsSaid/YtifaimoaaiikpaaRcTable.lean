/-
  Proved here: what parquetryref02.Table returns: a new row of the document's 22 rows of spans; it leaves what was in memory. No condition.
-/
import Derived.Test.YtifaimoaaiikpaaRows
import Derived.Carry
import Derived.ProofKit
import Derived.OpenShut
import Derived.Below
import Derived.Lib.Hide
import Derived.Great.BuildSlice
import Derived.WalkKit
set_option linter.unusedVariables false
namespace Go.Proofs.Ytifaimoaaiikpaa.Rc
open Go.RowKit Go.Lib

abbrev TRow := Int × List Int
/-- The document's table: a class, and its spans: from, to, from, to, .. -/
def tableL : List TRow := [(1, [1424, 1424, 1470, 1470, 1472, 1472, 1475, 1475, 1478, 1478, 1480, 1535, 8207, 8207, 64285, 64285, 64287, 64296, 64298, 64335]),
  (2, [1544, 1544, 1547, 1547, 1549, 1549, 1563, 1610, 1645, 1647, 1649, 1749, 1765, 1766, 1774, 1775, 1786, 1791, 1872, 1919, 65136, 65278]),
  (3, [48, 57, 178, 179, 185, 185, 1776, 1785, 8304, 8304, 8308, 8313, 8320, 8329, 9352, 9371, 65296, 65305]),
  (4, [43, 43, 45, 45, 8314, 8315, 8330, 8331, 8722, 8722, 64297, 64297, 65122, 65123, 65291, 65291, 65293, 65293]),
  (5, [35, 37, 162, 165, 176, 177, 1423, 1423, 1545, 1546, 1642, 1642, 8240, 8244, 8352, 8399, 8723, 8723, 65119, 65119, 65129, 65130, 65283, 65285, 65504, 65505, 65509, 65510]),
  (6, [1536, 1541, 1632, 1641, 1643, 1644, 1757, 1757, 2274, 2274]),
  (7, [44, 44, 46, 47, 58, 58, 160, 160, 1548, 1548, 8239, 8239, 8260, 8260, 65104, 65104, 65106, 65106, 65109, 65109, 65292, 65292, 65294, 65295, 65306, 65306]),
  (8, [768, 879, 1155, 1161, 1425, 1469, 1471, 1471, 1473, 1474, 1476, 1477, 1479, 1479, 1552, 1562, 1611, 1631, 1648, 1648, 1750, 1756, 1759, 1764, 1767, 1768, 1770, 1773, 2364, 2364, 2369, 2376, 2381, 2381, 8400, 8432, 12330, 12333, 12441, 12442, 64286, 64286, 65024, 65039, 65056, 65071, 917760, 917999]),
  (9, [0, 8, 14, 27, 127, 132, 134, 159, 173, 173, 8203, 8205, 8288, 8293, 8298, 8303, 65279, 65279]),
  (10, [10, 10, 13, 13, 28, 30, 133, 133, 8233, 8233]),
  (11, [9, 9, 11, 11, 31, 31]),
  (12, [12, 12, 32, 32, 5760, 5760, 8192, 8202, 8232, 8232, 8287, 8287, 12288, 12288]),
  (13, [33, 34, 38, 42, 59, 64, 91, 96, 123, 126, 161, 161, 166, 169, 171, 172, 174, 175, 180, 180, 182, 184, 187, 191, 215, 215, 247, 247, 1542, 1543, 1550, 1551, 1758, 1758, 1769, 1769, 8208, 8231, 8245, 8259, 8261, 8286, 8316, 8318, 8332, 8334, 8592, 8721, 8724, 9013, 9472, 9899, 9901, 10239, 11904, 11929, 12289, 12292, 12296, 12320, 12336, 12336, 65281, 65282, 65286, 65290, 65307, 65312, 65339, 65344, 65371, 65381, 65529, 65533, 127744, 128591]),
  (14, [8234, 8234]),
  (16, [8235, 8235]),
  (18, [8236, 8236]),
  (15, [8237, 8237]),
  (17, [8238, 8238]),
  (19, [8294, 8294]),
  (20, [8295, 8295]),
  (21, [8296, 8296]),
  (22, [8297, 8297])]

/-- The operations that build such rows, one behind the other: dst, operation, guard. -/
def litParts (l : List Int) : Array (Nat × Operand) := ((l.zipIdx 0).map fun x => (x.2, Operand.const (Value.int .i64 x.1))).toArray
def rowOps (tS tR : TypeId) : Nat → List TRow → List (Option Tmp × Op × Option (Nat × Bool))
  | _, [] => []
  | i, r :: rs => (some i, .buildSlice tS r.2.length (litParts r.2), none) :: (some (i + 1), .build tR #[(0, .const (.int .i64 r.1)), (1, .tmp i)], none) :: rowOps tS tR (i + 2) rs
def rowV (B : Nat) (r : TRow) : Value := .agg #[.int .i64 r.1, .slice (some ⟨B, 0, none⟩) r.2.length r.2.length]
def rowWorld (e : TypeId) : List TRow → World → World
  | [], w => w
  | r :: rs, w => rowWorld e rs (w.alloc (.cells (r.2.map (Value.int .i64)).toArray e))
def rowAct : Nat → Nat → List TRow → Act → Act
  | _, _, [], a => a
  | i, B, r :: rs, a => rowAct (i + 2) (B + 1) rs ((a.put (some i) (.slice (some ⟨B, 0, none⟩) r.2.length r.2.length)).put (some (i + 1)) (rowV B r))

theorem eval_put {a : Act} {i : Nat} {v : Value} (h : i < a.tmps.size) : (a.put (some i) v).eval (.tmp i) = v := by
  simp [Act.put, Act.eval, h]

theorem wpList_rows {P : Program} {ops : Array Oper} {Q : Exit → Act → World → Prop} {rest : List Oper} (tS tR e : TypeId) (hu : P.underlying tS = some (.slice e)) (hsz : (P.info? e).map (·.size) = some 1) (hz : ((P.info? e).bind (·.zero)).isSome = true)
    (hb : ∀ c A n m, P.built tR [(0, .int .i64 c), (1, .slice A n m)] = some #[.int .i64 c, .slice A n m]) :
    ∀ (rows : List TRow) (l : List Oper) (i B : Nat) (a : Act) (w : World), w.heap.size = B → l.map (fun o => (o.dst, o.op, o.guard)) = rowOps tS tR i rows → (∀ r ∈ rows, 0 < r.2.length ∧ r.2.length ≤ 1000) → i + 2 * rows.length ≤ a.tmps.size →
      wpList P ops Q rest (rowAct i B rows a) (rowWorld e rows w) → wpList P ops Q (l ++ rest) a w
  | [], l, i, B, a, w, hB, hl, _, _, h => by
    rw [rowOps, List.map_eq_nil_iff] at hl
    subst hl
    exact h
  | r :: rs, l, i, B, a, w, hB, hl, hr, hs, h => by
    obtain _ | ⟨o1, _ | ⟨o2, l⟩⟩ := l
    · simp [rowOps] at hl
    · simp [rowOps] at hl
    simp only [List.map_cons, rowOps, List.cons.injEq, Prod.mk.injEq] at hl
    obtain ⟨⟨e1, e2, e3⟩, ⟨e4, e5, e6⟩, hl⟩ := hl
    obtain ⟨hp, hq⟩ := hr r (by simp)
    simp only [List.length_cons] at hs
    refine wpList_buildFlatAt e3 tS e r.2.length (litParts r.2) e2 .i64 r.2 B hB (some i) e1 hu hsz hz rfl hp (by omega) rfl ?_
    refine wpList_buildTo e6 tR _ e5 (some (i + 1)) e4 #[.int .i64 r.1, .slice (some ⟨B, 0, none⟩) r.2.length r.2.length] ?_ ?_
    · rw [← hb r.1 (some ⟨B, 0, none⟩) r.2.length r.2.length]
      congr 1
      rw [Array.toList_map]
      simp only [List.map_cons, List.map_nil]
      rw [eval_put (by omega)]
      rfl
    · exact wpList_rows tS tR e hu hsz hz hb rs l (i + 2) (B + 1) _ _ (by simp [hB]) hl (fun r hr' => hr r (by simp [hr'])) (by simp [Act.put]; omega) h

theorem rowWorld_size (e : TypeId) : ∀ (rows : List TRow) (w : World), (rowWorld e rows w).heap.size = w.heap.size + rows.length
  | [], w => rfl
  | r :: rs, w => by rw [rowWorld, rowWorld_size e rs]; simp; omega
theorem rowWorld_below (e : TypeId) : ∀ (rows : List TRow) (w : World), Below w.heap.size w (rowWorld e rows w)
  | [], w => Below.refl _ _
  | r :: rs, w => by
    have h1 : Below w.heap.size w (w.alloc (.cells (r.2.map (Value.int .i64)).toArray e)) := (Below.refl _ _).alloc (Nat.le_refl _) _
    exact h1.trans ((rowWorld_below e rs _).mono h1.size)
theorem rowWorld_cell (e : TypeId) : ∀ (rows : List TRow) (w : World) (i : Nat) (hi : i < rows.length) (j : Nat) (hj : j < rows[i].2.length), (rowWorld e rows w).cell? ⟨w.heap.size + i, j, none⟩ = some (.int .i64 rows[i].2[j])
  | r :: rs, w, 0, _, j, hj => by
    have h2 := rowWorld_below e rs (w.alloc (.cells (r.2.map (Value.int .i64)).toArray e))
    rw [rowWorld]
    refine (h2.cell (p := ⟨w.heap.size + 0, j, none⟩) (by simp)).trans ?_
    simp at hj ⊢
    try simp [hj]
  | r :: rs, w, i + 1, hi, j, hj => by
    have := rowWorld_cell e rs (w.alloc (.cells (r.2.map (Value.int .i64)).toArray e)) i (by simpa using hi) j (by simpa using hj)
    rw [rowWorld]
    rw [show (w.alloc (.cells (r.2.map (Value.int .i64)).toArray e)).heap.size + i = w.heap.size + (i + 1) from by simp; omega] at this
    simpa using this

/-- A table of rows in memory. -/
def TabAt (w : World) (b : Nat) (rows : List TRow) : Prop :=
  b < w.heap.size ∧ ∀ i (hi : i < rows.length), w.cell? ⟨b, i * 2, none⟩ = some (.int .i64 rows[i].1) ∧ ∃ g, g < w.heap.size ∧ w.cell? ⟨b, i * 2 + 1, none⟩ = some (.slice (some ⟨g, 0, none⟩) rows[i].2.length rows[i].2.length) ∧ ∀ j (hj : j < rows[i].2.length), w.cell? ⟨g, j, none⟩ = some (.int .i64 rows[i].2[j])
theorem TabAt.below {w w' : World} {b : Nat} {rows : List TRow} (h : TabAt w b rows) (hb : Below w.heap.size w w') : TabAt w' b rows := by
  refine ⟨Nat.lt_of_lt_of_le h.1 hb.size, fun i hi => ?_⟩
  obtain ⟨h1, g, h2, h3, h4⟩ := h.2 i hi
  exact ⟨(hb.cell (p := ⟨b, i * 2, none⟩) h.1).trans h1, g, Nat.lt_of_lt_of_le h2 hb.size, (hb.cell (p := ⟨b, i * 2 + 1, none⟩) h.1).trans h3, fun j hj => (hb.cell (p := ⟨g, j, none⟩) h2).trans (h4 j hj)⟩

def rowVs (B : Nat) (rows : List TRow) : List Value := (rows.zipIdx B).map fun x => rowV x.2 x.1
theorem rowVs_cells (B : Nat) (rows : List TRow) : ∀ v ∈ rowVs B rows, v.cells.size = 2 := by
  intro v hv
  obtain ⟨x, _, rfl⟩ := List.mem_map.1 hv
  rfl
theorem rowVs_at (B : Nat) (rows : List TRow) (i : Nat) (hi : i < rows.length) : (rowVs B rows)[i]? = some (rowV (B + i) rows[i]) := by
  unfold rowVs
  rw [List.getElem?_map, List.getElem?_zipIdx, List.getElem?_eq_getElem hi]
  rfl

theorem tab_made (e t : TypeId) (rows : List TRow) (w : World) : TabAt ((rowWorld e rows w).alloc (.cells ((rowVs w.heap.size rows).flatMap fun v => v.cells.toList).toArray t)) (w.heap.size + rows.length) rows := by
  have hs := rowWorld_size e rows w
  have hc := rowWorld_cell e rows w
  generalize rowWorld e rows w = w1 at *
  have hb : Below w1.heap.size w1 (w1.alloc (.cells ((rowVs w.heap.size rows).flatMap fun v => v.cells.toList).toArray t)) := (Below.refl _ _).alloc (Nat.le_refl _) _
  have hcell : ∀ k, (w1.alloc (.cells ((rowVs w.heap.size rows).flatMap fun v => v.cells.toList).toArray t)).cell? ⟨w1.heap.size, k, none⟩ = ((rowVs w.heap.size rows).flatMap fun v => v.cells.toList)[k]? := by
    intro k
    simp
  have hflat := Great.flat_get (s := 2) (by decide) (rowVs w.heap.size rows) (rowVs_cells _ _)
  rw [← hs]
  refine ⟨by simp, fun i hi => ?_⟩
  have hv := rowVs_at w.heap.size rows i hi
  refine ⟨?_, w.heap.size + i, ?_, ?_, fun j hj => ?_⟩
  · rw [hcell, hflat, show i * 2 / 2 = i from by omega, show i * 2 % 2 = 0 from by omega, hv]; rfl
  · have := hb.size; omega
  · rw [hcell, hflat, show (i * 2 + 1) / 2 = i from by omega, show (i * 2 + 1) % 2 = 1 from by omega, hv]; rfl
  · exact (hb.cell (p := ⟨w.heap.size + i, j, none⟩) (by simp only; omega)).trans (hc i hi j hj)

theorem wpList_assignTo {P : Program} {ops : Array Oper} {Q : Exit → Act → World → Prop} {rest : List Oper} {o : Oper} {a : Act} {w : World} (hg : o.guard = none) (x : Operand) (ho : o.op = .assign x)
    (h : wpList P ops Q rest (a.put o.dst (a.eval x)) w) : wpList P ops Q (o :: rest) a w :=
  wpList_plain hg fun K hK => by
    unfold Oper.wp execOp
    simp only [ho]
    exact hK _ _ h

def tabFrame (B : Nat) : Act := ⟨((.slice none 0 0 :: ((tableL.zipIdx B).flatMap fun x => [.slice (some ⟨x.2, 0, none⟩) x.1.2.length x.1.2.length, rowV x.2 x.1])) ++ [undef]).toArray, []⟩
def tab0 : Act := ⟨(.slice none 0 0 :: List.replicate 45 undef).toArray, []⟩
theorem tab_act (B : Nat) : rowAct 1 B tableL tab0 = tabFrame B := by kernel_rfl
theorem infoRow : (Try.prog.info? 48).map (fun i => (i.zero, i.size)) = some (some (.agg #[.int .i64 0, .slice none 0 0]), 2) := by kernel_rfl
theorem infoI1 : (Try.prog.info? 3).map (·.size) = some 1 := by kernel_rfl
theorem infoI2 : ((Try.prog.info? 3).bind (·.zero)).isSome = true := by kernel_rfl
theorem row_built (c : Int) (A : Option Addr) (n m : Nat) : Try.prog.built 48 [(0, .int .i64 c), (1, .slice A n m)] = some #[.int .i64 c, .slice A n m] := by kernel_rfl
def tabParts : Array (Nat × Operand) := ((List.range 22).map fun i => (i, Operand.tmp (2 * i + 2))).toArray
theorem tab_parts (B : Nat) : (tabParts.map fun (i, x) => (i, (tabFrame B).eval x)).toList = ((rowVs B tableL).zipIdx 0).map fun x => (x.2, x.1) := by kernel_rfl
theorem table_rows : ∀ r ∈ tableL, 0 < r.2.length ∧ r.2.length ≤ 1000 := by decide +kernel
theorem table_len : tableL.length = 22 := by kernel_rfl
theorem tab0_size : tab0.tmps.size = 46 := by kernel_rfl

theorem tabFrame_size (B : Nat) : (tabFrame B).tmps.size = 46 := by kernel_rfl
/-- A region that builds the rows, the slice of them, and hands it on. -/
theorem wp_tab {P : Program} {id : Nat} {l : List Oper} {Q : Exit → Act → World → Prop} {w : World} (tS tR e t : TypeId) (hu : P.underlying tS = some (.slice e)) (hsz : (P.info? e).map (·.size) = some 1) (hz : ((P.info? e).bind (·.zero)).isSome = true)
    (hb : ∀ c A n m, P.built tR [(0, .int .i64 c), (1, .slice A n m)] = some #[.int .i64 c, .slice A n m])
    (hu2 : P.underlying t = some (.slice tR)) (ie : TypeInfo) (z : Value) (hie : P.info? tR = some ie) (hzz : ie.zero = some z) (hs2 : ie.size = 2)
    (h1 : (l.take 44).map (fun o => (o.dst, o.op, o.guard)) = rowOps tS tR 1 tableL)
    (h2 : (l.drop 44).map (fun o => (o.dst, o.op, o.guard)) = [(some 45, .buildSlice t 22 tabParts, none), (some 0, .assign (.tmp 45), none)])
    (h : Q .normal (((tabFrame w.heap.size).put (some 45) (.slice (some ⟨w.heap.size + 22, 0, none⟩) 22 22)).put (some 0) (.slice (some ⟨w.heap.size + 22, 0, none⟩) 22 22)) ((rowWorld e tableL w).alloc (.cells ((rowVs w.heap.size tableL).flatMap fun v => v.cells.toList).toArray tR))) :
    (Code.region id l.toArray false).wp P Q tab0 w := by
  refine wp_region_lit ?_
  have hw : wpList P l.toArray Q (l.take 44 ++ l.drop 44) tab0 w := by
    refine wpList_rows tS tR e hu hsz hz hb tableL (l.take 44) 1 w.heap.size tab0 w rfl h1 table_rows (by rw [table_len, tab0_size]; decide) ?_
    rw [tab_act]
    generalize l.drop 44 = m at h2 ⊢
    obtain _ | ⟨o1, _ | ⟨o2, _ | ⟨o3, m⟩⟩⟩ := m
    · cases h2
    · simp at h2
    · simp only [List.map_cons, List.map_nil, List.cons.injEq, Prod.mk.injEq, and_true] at h2
      obtain ⟨⟨e1, e2, e3⟩, e4, e5, e6⟩ := h2
      have hsize : (rowWorld e tableL w).heap.size = w.heap.size + 22 := by rw [rowWorld_size, table_len]
      refine wpList_buildSlice e3 t tR 22 tabParts e2 _ ie z hu2 hie hzz (by rw [hs2]; decide) (by rw [hs2]; decide) (by
        rw [tab_parts, hs2]
        exact Great.fill_whole (s := 2) (by decide) (rowVs w.heap.size tableL) _ (rowVs_cells _ _) (by simp [rowVs, table_len])) ?_
      rw [hsize, e1]
      refine wpList_assignTo e6 (.tmp 45) e5 ?_
      rw [e4, eval_put (by rw [tabFrame_size]; decide)]
      exact h
    · simp at h2
  rwa [List.take_append_drop] at hw

set_option maxHeartbeats 4000000 in
set_option maxRecDepth 1000000 in
theorem table_any (w : World) :
    Calls Try.prog 29 #[] w fun e w' => e = .returned (.slice (some ⟨w.heap.size + 22, 0, none⟩) tableL.length tableL.length) ∧ TabAt w' (w.heap.size + 22) tableL ∧ Below w.heap.size w w' := by
  obtain ⟨i0, hi, hz0, hz1⟩ : ∃ i, Try.prog.info? 48 = some i ∧ i.zero = some (.agg #[.int .i64 0, .slice none 0 0]) ∧ i.size = 2 := by
    have := infoRow
    cases h : Try.prog.info? 48 with
    | none => rw [h] at this; cases this
    | some i => rw [h] at this; simp only [Option.map_some, Option.some.injEq, Prod.mk.injEq] at this; exact ⟨i, rfl, this.1, this.2⟩
  have hmade := tab_made 3 48 tableL w
  have hbelow : Below w.heap.size w ((rowWorld 3 tableL w).alloc (.cells ((rowVs w.heap.size tableL).flatMap fun v => v.cells.toList).toArray 48)) := (rowWorld_below _ _ _).alloc (by rw [rowWorld_size]; omega) _
  rw [table_len] at hmade ⊢
  generalize hW : ((rowWorld 3 tableL w).alloc (.cells ((rowVs w.heap.size tableL).flatMap fun v => v.cells.toList).toArray 48)) = W at hmade hbelow
  go_enter Try.func29, Try.ntmps29
  refine wp_seq (wp_region_lit (l := [_]) (wpList_assignTo rfl _ rfl ?_))
  show Exit.then _ _ _ _ _
  refine wp_seq ?_
  refine wp_tab 25 48 3 45 Try.underlying25 infoI1 infoI2 row_built Try.underlying45 i0 _ hi hz0 hz1 (by kernel_rfl) (by kernel_rfl) ?_
  rw [hW]
  refine wp_ret ?_
  go_ret
  exact ⟨by kernel_rfl, hmade, hbelow⟩
end Go.Proofs.Ytifaimoaaiikpaa.Rc
