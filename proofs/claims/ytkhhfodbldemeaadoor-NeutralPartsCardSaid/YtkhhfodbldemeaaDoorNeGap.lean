/-
  Plain: a gap that is settled at once. And: copy onto a row of the call's own; the world while Settle writes its row (the row, and the variables that its closure holds). No program in it but its types.
-/
import Derived.Test.YtkhhfodbldemeaaDoorNePlain
import Derived.Test.YtkhhfodbldemeaaDoorAddInts
import Derived.Laws.CopyOwn
import Derived.Laws.BitsLemmas
import Derived.OwnWalk
set_option linter.unusedVariables false
namespace Go.Proofs.YtkhhfodbldemeaaDoor.Ne
open Go Go.RowKit Go.Lib Go.Proofs.YtkhhfodbldemeaaDoor.Cl

theorem next_gap (b : Int) (R : List Int) : ∀ G : List Int, (∀ c ∈ G, ¬ 0 ≤ dirN c) → nextN b (G ++ R) = nextN b R
  | [], _ => rfl
  | c :: G, h => by
    simp only [List.cons_append, nextN]
    rw [if_neg (h c (by simp))]
    exact next_gap b R G (fun d hd => h d (by simp [hd]))
theorem settle_gap (l b : Int) (R : List Int) (a : Int) : ∀ G : List Int, (∀ c ∈ G, ¬ 0 ≤ dirN c) → settleN l b a (G ++ R) = List.replicate G.length (fillN l a (nextN b R)) ++ settleN l b a R
  | [], _ => rfl
  | c :: G, h => by
    have h2 : ∀ d ∈ G, ¬ 0 ≤ dirN d := fun d hd => h d (by simp [hd])
    simp only [List.cons_append, settleN, List.length_cons, List.replicate_succ]
    rw [if_neg (h c (by simp)), next_gap b R G h2, settle_gap l b R a G h2]

theorem or_one (n : Nat) : n ||| 1 = n + (1 - n % 2) := by
  have h1 : (n ||| 1) / 2 = n / 2 := by rw [Nat.or_div_two]; simp
  have h2 : (n ||| 1) % 2 = 1 := Nat.or_mod_two_eq_one.2 (.inr rfl)
  omega
theorem i64_or1 (n : Int) (h0 : 0 ≤ n) (h1 : n ≤ 4611686018427387904) : bits .or .i64 n 1 = n + (1 - n % 2) := by
  have hm : (BitVec.ofInt 64 1).toNat = 1 := by decide
  have key : (BitVec.ofInt 64 n ||| BitVec.ofInt 64 1).toNat = (n % ((2 ^ 64 : Nat) : Int)).toNat ||| 1 := by
    rw [BitVec.toNat_or, BitVec.toNat_ofInt, hm]
  show IntKind.i64.wrap ((BitVec.ofInt 64 n ||| BitVec.ofInt 64 1).toNat : Nat) = n + (1 - n % 2)
  rw [key, or_one, IntKind.wrap_i64]
  omega
theorem and_one (n : Int) : bits .and .i64 n 1 = n % 2 := by
  have hm : (BitVec.ofInt 64 1).toNat = 2 ^ 1 - 1 := by decide
  have key : (BitVec.ofInt 64 n &&& BitVec.ofInt 64 1).toNat = (n % ((2 ^ 64 : Nat) : Int)).toNat % 2 ^ 1 := by
    rw [BitVec.toNat_and, BitVec.toNat_ofInt, hm, Nat.and_two_pow_sub_one_eq_mod]
  show IntKind.i64.wrap ((BitVec.ofInt 64 n &&& BitVec.ofInt 64 1).toNat : Nat) = n % 2
  rw [key, IntKind.wrap_i64]
  omega

/-- copy(dst, src): dst a row of the call's own, src as long as it. -/
theorem wpList_copy_ints {ops : Array Oper} {rest : List Oper} {o : Oper} {a : Act} {Q : Exit → Act → World → Prop} {w : World} (hgd : o.guard = none) (d s : Operand)
    (ho : o.op = .call { callee := .builtin .copy, args := #[d, s], argTypes := #[22, 22] })
    (g n c c0 : Nat) (A0 : Option Addr) (hd : a.eval d = .slice (some ⟨g, 0, none⟩) n c) (hs : a.eval s = .slice A0 n c0)
    (base : Nat) (xs : List Value) (hown : w.ownsRow base 3 1 (.slice (some ⟨g, 0, none⟩) n c) n xs) (T : List Int) (hT : IntsAt w A0 T) (hl : T.length = n)
    (h : ∀ w', w'.ownsRow base 3 1 (.slice (some ⟨g, 0, none⟩) n c) n (icl T) → w.grownBy w' (some g) → wpList Tryd.prog ops Q rest (a.put o.dst (goInt n)) w') : wpList Tryd.prog ops Q (o :: rest) a w := by
  by_cases h0 : n = 0
  · subst h0
    obtain rfl : T = [] := List.eq_nil_of_length_eq_zero hl
    have hx : xs = [] := List.eq_nil_of_length_eq_zero (by have := hown.1; omega)
    subst hx
    exact wpList_copy_nothing hgd d s 22 22 ho 3 (by kernel_rfl) (by kernel_rfl) _ _ 0 c 0 c0 hd hs rfl (h w hown ⟨rfl, rfl, rfl, Nat.le_refl _, fun _ _ _ => rfl⟩)
  · rcases hown.2 with ⟨e, -⟩ | ⟨g', cap, cur, e, hb, hg, hn, hc, hcs, -⟩
    · simp at e
    · simp only [Value.slice.injEq, Option.some.injEq, Addr.mk.injEq, and_true, true_and] at e
      obtain ⟨rfl, rfl⟩ := e
      have hlen : (icl T).length = n := by rw [icl_len, hl]
      rcases hT with rfl | ⟨b, off, rfl, hlt, hcell⟩
      · exact absurd hl.symm h0
      · refine wpList_copy_own hgd d s 22 22 ho 3 (by kernel_rfl) (by kernel_rfl) g 0 n c _ n c0 hd hs cur 3 hg (icl T) (by rw [hlen]; exact (Nat.min_self n).symm) (fun j v hv => ?_) (by omega) (fun v hv => ?_) ?_
        · exact (show IntsAt w (some ⟨b, off, none⟩) T from .inr ⟨b, off, rfl, hlt, hcell⟩).news j v hv
        · simp only [icl, List.mem_map] at hv
          obtain ⟨z, -, rfl⟩ := hv
          rfl
        · rw [hlen]
          refine h _ ⟨by omega, .inr ⟨g, c, _, rfl, hb, setRow_heap w g _ _ _ _ hg, hn, hc, ?_, ?_⟩⟩ ⟨rfl, rfl, rfl, by simp [World.setRow], fun k _ hk => setRow_other w g k _ (fun e => hk (by simp [e]))⟩
          · simp [hlen]; omega
          · simp
            rw [show n = (icl T).length from hlen.symm]
            simp

/-- The world while the row is written: it lies in block r, and in the blocks ql, qs, qa, qg the level, the row's slice, the last direction, where the gap begins. -/
structure St (w : World) (n r ql qs qa qg : Nat) (l : Int) (L : List Int) (a : Int) (k : Nat) (W : World) : Prop where
  b : Below w.heap.size w W
  row : W.ownsRow w.heap.size 3 1 (.slice (some ⟨r, 0, none⟩) n n) n (icl L)
  cl : W.heap[ql]? = some (.cells #[.int .i64 l] 3 (0, 0))
  cs : W.heap[qs]? = some (.cells #[.slice (some ⟨r, 0, none⟩) n n] 22 (0, 0))
  ca : W.heap[qa]? = some (.cells #[.int .i64 a] 3 (0, 0))
  cg : W.heap[qg]? = some (.cells #[.int .i64 k] 3 (0, 0))
structure Apart (H r ql qs qa qg : Nat) : Prop where
  hr : H ≤ r
  ha : H ≤ qa
  hg : H ≤ qg
  rl : ql ≠ r
  rs : qs ≠ r
  ra : qa ≠ r
  rg : qg ≠ r
  la : ql ≠ qa
  lg : ql ≠ qg
  sa : qs ≠ qa
  sg : qs ≠ qg
  ag : qa ≠ qg

section
variable {w W : World} {n r ql qs qa qg k : Nat} {l a : Int} {L : List Int}
theorem own_ne (h : W.ownsRow w.heap.size 3 1 (.slice (some ⟨r, 0, none⟩) n n) n (icl L)) (q : Nat) (hq : q ≠ r) (u : Value) : (W.setCell ⟨q, 0, none⟩ u).ownsRow w.heap.size 3 1 (.slice (some ⟨r, 0, none⟩) n n) n (icl L) := by
  refine h.kept (row := some q) ⟨rfl, rfl, rfl, by simp [World.setCell], fun k _ hk => Below.heap_setCell _ _ _ _ (fun e => hk (by simp [e]))⟩ (.inr ?_)
  show some r ≠ some q
  simpa using hq.symm
theorem St.len (h : St w n r ql qs qa qg l L a k W) : L.length = n := by
  have := h.row.1
  rw [icl_len] at this
  omega
theorem St.setLast (h : St w n r ql qs qa qg l L a k W) (p : Apart w.heap.size r ql qs qa qg) (z : Int) : St w n r ql qs qa qg l L z k (W.setCell ⟨qa, 0, none⟩ (.int .i64 z)) :=
  ⟨h.b.setCell p.ha _, own_ne h.row _ p.ra _, (Below.heap_setCell _ _ _ _ p.la).trans h.cl, (Below.heap_setCell _ _ _ _ p.sa).trans h.cs, heap_setCell_same W qa 0 _ _ _ h.ca, (Below.heap_setCell _ _ _ _ p.ag.symm).trans h.cg⟩
theorem St.setGap (h : St w n r ql qs qa qg l L a k W) (p : Apart w.heap.size r ql qs qa qg) (m : Nat) : St w n r ql qs qa qg l L a m (W.setCell ⟨qg, 0, none⟩ (.int .i64 m)) :=
  ⟨h.b.setCell p.hg _, own_ne h.row _ p.rg _, (Below.heap_setCell _ _ _ _ p.lg).trans h.cl, (Below.heap_setCell _ _ _ _ p.sg).trans h.cs, (Below.heap_setCell _ _ _ _ p.ag).trans h.ca, heap_setCell_same W qg 0 _ _ _ h.cg⟩
theorem St.put (h : St w n r ql qs qa qg l L a k W) (p : Apart w.heap.size r ql qs qa qg) (j : Nat) (z : Int) : St w n r ql qs qa qg l (L.set j z) a k (W.setCell ⟨r, j, none⟩ (.int .i64 z)) := by
  obtain ⟨h1, h2⟩ := h.row.stored j (.int .i64 z)
  refine ⟨h.b.setCell p.hr _, ?_, (Below.heap_setCell _ _ _ _ p.rl).trans h.cl, (Below.heap_setCell _ _ _ _ p.rs).trans h.cs, (Below.heap_setCell _ _ _ _ p.ra).trans h.ca, (Below.heap_setCell _ _ _ _ p.rg).trans h.cg⟩
  rw [show icl (L.set j z) = (icl L).set j (.int .i64 z) from by simp [icl]]
  exact h1
theorem St.cell (h : St w n r ql qs qa qg l L a k W) {j : Nat} (hj : j < n) : ∃ x : Int, W.cell? ⟨r, j, none⟩ = some (.int .i64 x) ∧ W.frozen? ⟨r, j, none⟩ = false := by
  have hl := h.len
  refine ⟨L[j], ?_, h.row.frozenAt _⟩
  rw [h.row.cellAt _ (by omega)]
  simp [icl, hl, hj]
theorem St.reads (h : St w n r ql qs qa qg l L a k W) : W.cell? ⟨ql, 0, none⟩ = some (.int .i64 l) ∧ W.cell? ⟨qs, 0, none⟩ = some (.slice (some ⟨r, 0, none⟩) n n) ∧ W.cell? ⟨qa, 0, none⟩ = some (.int .i64 a) ∧ W.cell? ⟨qg, 0, none⟩ = some (.int .i64 k) ∧ W.frozen? ⟨qa, 0, none⟩ = false ∧ W.frozen? ⟨qg, 0, none⟩ = false :=
  ⟨by rw [cell_of_row W ql 0 _ _ _ h.cl]; rfl, by rw [cell_of_row W qs 0 _ _ _ h.cs]; rfl, by rw [cell_of_row W qa 0 _ _ _ h.ca]; rfl, by rw [cell_of_row W qg 0 _ _ _ h.cg]; rfl, frozen_of_row W qa 0 _ _ h.ca, frozen_of_row W qg 0 _ _ h.cg⟩
end
theorem St.start {w W : World} {n r ql qs : Nat} {l : Int} {L : List Int} (hb : Below w.heap.size w W) (hrow : W.ownsRow w.heap.size 3 1 (.slice (some ⟨r, 0, none⟩) n n) n (icl L)) (hl : W.heap[ql]? = some (.cells #[.int .i64 l] 3 (0, 0)))
    (hs : W.heap[qs]? = some (.cells #[.slice (some ⟨r, 0, none⟩) n n] 22 (0, 0))) (a : Int) :
    St w n r ql qs W.heap.size (W.heap.size + 1) l L a 0 ((W.alloc (.cells #[.int .i64 a] 3)).alloc (.cells #[.int .i64 0] 3)) := by
  have h1 := (Array.getElem?_eq_some_iff.1 hl).1
  have h2 := (Array.getElem?_eq_some_iff.1 hs).1
  have e1 : (W.alloc (.cells #[.int .i64 a] 3)).heap.size = W.heap.size + 1 := by simp
  have hz := hb.size
  refine ⟨(hb.alloc hz _).alloc (by omega) _, (hrow.alloc _).alloc _, ?_, ?_, ?_, ?_⟩
  · rw [Below.heap_alloc _ _ _ (by omega), Below.heap_alloc _ _ _ h1]; exact hl
  · rw [Below.heap_alloc _ _ _ (by omega), Below.heap_alloc _ _ _ h2]; exact hs
  · rw [Below.heap_alloc _ _ _ (by omega)]; exact heap_alloc_new W _
  · rw [← e1]; exact heap_alloc_new _ _
/-- The row while a gap is filled. -/
theorem fill_set (P G R : List Int) (f x : Int) (j : Nat) : (P ++ (List.replicate j f ++ x :: G) ++ R).set (P.length + j) f = P ++ (List.replicate (j + 1) f ++ G) ++ R := by
  rw [List.replicate_succ', List.append_assoc, List.append_assoc, List.set_append_right _ _ (by omega), show P.length + j - P.length = j by omega, List.append_assoc, List.set_append_right _ _ (by simp)]
  simp
end Go.Proofs.YtkhhfodbldemeaaDoor.Ne
