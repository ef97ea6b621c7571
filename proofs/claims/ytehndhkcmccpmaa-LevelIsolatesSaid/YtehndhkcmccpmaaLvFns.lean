/-
  Proved here: what (*level.opened).odd, even, put, embed, isolate return and do to what is open in memory. Condition: what is open is as it may be; counts of at most 2^40.
-/
import Derived.Test.YtehndhkcmccpmaaLvMem
import Derived.Test.YtehndhkcmccpmaaStepKit
import Derived.Test.YtehndhkcmccpmaaArrKit
set_option linter.unusedVariables false
namespace Go.Proofs.Ytehndhkcmccpmaa.Lv
open Go Go.RowKit Go.Lib Go.Proofs.Ytehndhkcmccpmaa.Cl

theorem odd_bits : ((List.range 126).all fun (l : Nat) => bits BinOp.or IntKind.i64 ((l : Int) + 1) 1 == (nxt 1 l : Int)) = true := by kernel_rfl
theorem even_bits : ((List.range 126).all fun (l : Nat) => bits BinOp.andNot IntKind.i64 ((l : Int) + 2) 1 == (nxt 0 l : Int)) = true := by kernel_rfl
theorem odd_is {l : Nat} (h : l ≤ 125) : bits BinOp.or IntKind.i64 ((l : Int) + 1) 1 = (nxt 1 l : Int) := by
  have := List.all_eq_true.1 odd_bits l (List.mem_range.2 (by omega))
  simpa using this
theorem even_is {l : Nat} (h : l ≤ 125) : bits BinOp.andNot IntKind.i64 ((l : Int) + 2) 1 = (nxt 0 l : Int) := by
  have := List.all_eq_true.1 even_bits l (List.mem_range.2 (by omega))
  simpa using this
theorem nxt_le {o l : Nat} (h : l ≤ 125) : nxt o l ≤ 127 := by unfold nxt; split <;> omega

set_option maxHeartbeats 1000000 in
set_option maxRecDepth 100000 in
theorem odd_any (B : Nat) (e : E) (r : List E) (li ld op : Nat) (w : World) (hO : OpAt w B ⟨e :: r, li, ld, op⟩) (hr : r.length ≤ 1000) (he : e.lev ≤ 125) :
    Calls Try.prog 49 #[.pointer (some ⟨B, 0, none⟩)] w fun x w' => x = .returned (.int .i64 (nxt 1 e.lev)) ∧ Below w.heap.size w w' := by
  have HL := Lib.hid (last_any B e r li ld op w hO hr)
  have hb := odd_is he
  have h7 := nxt_le (o := 1) he
  clear hO hr
  obtain ⟨lev, ov, iso⟩ := e
  simp only at he hb h7 ⊢
  simp only at HL
  have hf : ∀ W, (Instr.field 62 (.agg #[.int .i64 lev, .int .i64 ov, .bool iso]) 0).run Try.prog W = .ok (.int .i64 lev) W := fun W => by kernel_rfl
  go_enter Try.func49, Try.ntmps49
  go_wp2_with fail
  refine HL.out.mono ?_
  rintro x w1 ⟨rfl, hb1⟩
  go_wp2
  go_ret
  exact ⟨rfl, hb1⟩
set_option maxHeartbeats 1000000 in
set_option maxRecDepth 100000 in
theorem even_any (B : Nat) (e : E) (r : List E) (li ld op : Nat) (w : World) (hO : OpAt w B ⟨e :: r, li, ld, op⟩) (hr : r.length ≤ 1000) (he : e.lev ≤ 125) :
    Calls Try.prog 50 #[.pointer (some ⟨B, 0, none⟩)] w fun x w' => x = .returned (.int .i64 (nxt 0 e.lev)) ∧ Below w.heap.size w w' := by
  have HL := Lib.hid (last_any B e r li ld op w hO hr)
  have hb := even_is he
  have h7 := nxt_le (o := 0) he
  clear hO hr
  obtain ⟨lev, ov, iso⟩ := e
  simp only at he hb h7 ⊢
  simp only at HL
  have hf : ∀ W, (Instr.field 62 (.agg #[.int .i64 lev, .int .i64 ov, .bool iso]) 0).run Try.prog W = .ok (.int .i64 lev) W := fun W => by kernel_rfl
  go_enter Try.func50, Try.ntmps50
  go_wp2_with fail
  refine HL.out.mono ?_
  rintro x w1 ⟨rfl, hb1⟩
  go_wp2
  go_ret
  exact ⟨rfl, hb1⟩

theorem infoE4 : (Try.prog.info? 62).map (fun i => (i.zero, i.size, i.bytes)) = some (some (.agg #[.int .i64 0, .int .i64 0, .bool false]), 3, 24) := by kernel_rfl
theorem cells_made (w : World) (cs : Array Value) (t : TypeId) (news : List Value) (h : cs.toList = news) (ad : Addr) (hB : ad = ⟨w.heap.size, 0, none⟩) : ∀ j u, news[j]? = some u → (w.alloc (.cells cs t)).cell? (ad.add j) = some u := by
  subst h hB
  intro j u hu
  obtain ⟨hj, rfl⟩ := List.getElem?_eq_some_iff.1 hu
  simp only [Array.length_toList] at hj
  have := cell_of_row (w.alloc (.cells cs t)) w.heap.size j cs t (0, 0) (heap_alloc_last w _)
  rw [Array.getElem?_eq_getElem hj] at this
  have hadd : (⟨w.heap.size, 0, none⟩ : Addr).add j = ⟨w.heap.size, 0 + j, none⟩ := by unfold Addr.add; split <;> simp_all
  rw [hadd, Nat.zero_add, this]
  simp
theorem cell_alloc (w : World) (o : Obj) {k : Nat} (j : Nat) (h : k < w.heap.size) : (w.alloc o).cell? ⟨k, j, none⟩ = w.cell? ⟨k, j, none⟩ := World.cell?_of_block (w := w) (Below.heap_alloc w o k h)

set_option maxHeartbeats 1000000 in
set_option maxRecDepth 100000 in
theorem put_not (B l : Nat) (v : Int) (i : Bool) (s : St) (w : World) (hO : OpAt w B s) (hn : (decide (l ≤ 125) && (decide (s.li = 0) && decide (s.ld = 0))) = false) (hl : l ≤ 127) (h1 : s.li ≤ 1099511627776) (h2 : s.ld ≤ 1099511627776) :
    Calls Try.prog 59 #[.pointer (some ⟨B, 0, none⟩), .agg #[.int .i64 l, .int .i64 v, .bool i]] w fun x w' => x = .returned (.bool false) ∧ Below w.heap.size w w' := by
  obtain ⟨g, c, hb, hw⟩ := hO
  obtain ⟨es, li, ld, op⟩ := s
  simp only at *
  have hB : B < w.heap.size := (Array.getElem?_eq_some_iff.1 hb).1
  obtain ⟨⟨c0, c1, -, -⟩, -⟩ := four hb
  obtain ⟨o, ho⟩ : ∃ o, (Obj.cells #[.int .i64 l, .int .i64 v, .bool i] 62 (0, 0)) = o := ⟨_, rfl⟩
  have q0 := (cell_alloc w o 0 hB).trans c0
  have q1 := (cell_alloc w o 1 hB).trans c1
  subst ho
  clear hb hw c0 c1
  by_cases ha : l ≤ 125
  · have ka : decide ((125 : Int) < (l : Int)) = false := by simp; omega
    rcases Nat.eq_zero_or_pos li with h0 | h0
    · subst h0
      have k1 : decide (0 < ld) = true := by
        simp [ha] at hn
        simp
        omega
      clear hn
      go_enter Try.func59, Try.ntmps59
      go_wp2
      go_ret
      exact ⟨rfl, (Below.refl _ _).alloc (Nat.le_refl _) _⟩
    · have k0 : decide (0 < li) = true := by simp; omega
      clear hn
      go_enter Try.func59, Try.ntmps59
      go_wp2
      go_ret
      exact ⟨rfl, (Below.refl _ _).alloc (Nat.le_refl _) _⟩
  · have ka : decide ((125 : Int) < (l : Int)) = true := by simp; omega
    clear hn
    go_enter Try.func59, Try.ntmps59
    go_wp2
    go_ret
    exact ⟨rfl, (Below.refl _ _).alloc (Nat.le_refl _) _⟩

set_option maxHeartbeats 2000000 in
set_option maxRecDepth 100000 in
theorem put_fits (B l : Nat) (v : Int) (i : Bool) (es : List E) (op : Nat) (w : World) (hO : OpAt w B ⟨es, 0, 0, op⟩) (hl : l ≤ 125) (hr : es.length ≤ 1000) :
    Calls Try.prog 59 #[.pointer (some ⟨B, 0, none⟩), .agg #[.int .i64 l, .int .i64 v, .bool i]] w fun x w' => x = .returned (.bool true) ∧ OpAt w' B ⟨⟨l, v, i⟩ :: es, 0, 0, op⟩ ∧ Below (B - 1) w w' := by
  obtain ⟨i0, hi, hz0, hz1, hz2⟩ := Cl.info_parts infoE4
  obtain ⟨g, c, hb, hw⟩ := hO
  simp only at *
  have hB : B < w.heap.size := (Array.getElem?_eq_some_iff.1 hb).1
  obtain ⟨⟨c0, c1, c2, -⟩, -, -, f2, -⟩ := four hb
  obtain ⟨o, ho⟩ : ∃ o, (Obj.cells #[.int .i64 l, .int .i64 v, .bool i] 62 (0, 0)) = o := ⟨_, rfl⟩
  have q0 := (cell_alloc w o 0 hB).trans c0
  have q1 := (cell_alloc w o 1 hB).trans c1
  have q2 := (cell_alloc w o 2 hB).trans c2
  have hnew := heap_alloc_last w o
  subst ho
  obtain ⟨⟨n0, n1, n2⟩, -⟩ := three hnew
  have ka : decide ((125 : Int) < (l : Int)) = false := by simp; omega
  have HW := Lib.hid hw
  have HB := Lib.hid hb
  have HN := Lib.hid hnew
  have hgB : g ≠ B := fun e => own_ne hb hw B rfl (by rw [e]; rfl)
  have HSAME := Lib.hid (fun (o1 o2 : Obj) (w3 : World) (hg3 : ((w.alloc o1).alloc o2).drew.grownBy w3 (some g)) => show w3.heap[B]? = _ from (hg3.block B (by show B < ((w.alloc o1).alloc o2).heap.size; simp; omega) (by simp; omega)).trans ((Below.heap_alloc _ _ _ (by simp; omega)).trans ((Below.heap_alloc _ _ _ hB).trans hb)))
  clear hnew hb hw c0 c1 c2 f2
  go_enter Try.func59, Try.ntmps59
  go_wp2_with fail
  go_region_law
    (   (refine step_append_own rfl (.tmp 28) (.tmp 30) 63 rfl (B - 1) 62 i0 (.agg #[.int .i64 0, .int .i64 0, .bool false]) 3 24 Try.underlying63 hi hz0 hz1 hz2 rfl (by decide) (.slice (some ⟨g, 0, none⟩) es.length c) es.length (esC es) (by rfl) ?c0 _ 1 1 [.int .i64 l, .int .i64 v, .bool i] (by rfl) rfl ?c1 ?c2 ?c3 ?c4 ?c5 ?_
         case c0 => exact (HW.out.alloc _).alloc _
         case c1 => exact cells_made _ _ _ _ rfl _ (by simp)
         case c2 => intro u hu; simp only [List.mem_cons, List.not_mem_nil, or_false] at hu; rcases hu with rfl | rfl | rfl <;> rfl
         case c3 => unfold maxLen; omega
         case c4 => omega
         case c5 => simp; omega
         intro v' w3 ho3 hg3
         obtain ⟨g3, k3, rfl, hge, hgl⟩ := ho3.form (by omega)
         have hblk := HSAME.out _ _ w3 hg3
         obtain ⟨⟨-, -, b2, -⟩, -, -, z2, -⟩ := four hblk))
  all_goals
    have hbw : Below (B - 1) w w3 := (((Below.refl (B - 1) w).alloc (by omega) _).alloc (by simp; omega) _).drew.grown hg3 (by show B - 1 ≤ (_ : World).heap.size; simp; omega) (fun k hk => by have := (HW.out.lt k hk).1; omega)
    have H3 := Lib.hid hblk
    have HO3 := Lib.hid ho3
    have HBW := Lib.hid hbw
    clear hg3 hblk ho3 hbw b2 z2 q0 q1 q2 n0 n1 n2
    go_wp2
    go_ret
    exact ⟨rfl, ⟨g3, k3, heap_setCell_same _ _ 2 _ _ _ H3.out, ownsRow_setCell_other HO3.out (a := ⟨B, 2, none⟩) (own_ne H3.out HO3.out B rfl) _⟩, HBW.out.setCell (p := ⟨B, 2, none⟩) (Nat.sub_le _ _) _⟩

theorem OpAt.heap {w w' : World} {B : Nat} {s : St} (h : OpAt w B s) (hh : w'.heap = w.heap) : OpAt w' B s := by
  obtain ⟨g, c, h1, h2⟩ := h
  refine ⟨g, c, by rw [hh]; exact h1, ?_⟩
  unfold World.ownsRow at h2 ⊢
  rw [hh]
  exact h2
theorem OpAt.lost {w : World} {B : Nat} {es : List E} {li ld op : Nat} (h : OpAt w B ⟨es, li, ld, op⟩) (x : Nat) : OpAt (w.setCell ⟨B, 0, none⟩ (.int .i64 x)) B ⟨es, x, ld, op⟩ := by
  obtain ⟨g, c, h1, h2⟩ := h
  exact ⟨g, c, heap_setCell_same _ _ 0 _ _ _ h1, ownsRow_setCell_other h2 (a := ⟨B, 0, none⟩) (own_ne h1 h2 B rfl) _⟩
theorem OpAt.deep {w : World} {B : Nat} {es : List E} {li ld op : Nat} (h : OpAt w B ⟨es, li, ld, op⟩) (x : Nat) : OpAt (w.setCell ⟨B, 1, none⟩ (.int .i64 x)) B ⟨es, li, x, op⟩ := by
  obtain ⟨g, c, h1, h2⟩ := h
  exact ⟨g, c, heap_setCell_same _ _ 1 _ _ _ h1, ownsRow_setCell_other h2 (a := ⟨B, 1, none⟩) (own_ne h1 h2 B rfl) _⟩
theorem OpAt.count {w : World} {B : Nat} {es : List E} {li ld op : Nat} (h : OpAt w B ⟨es, li, ld, op⟩) (x : Nat) : OpAt (w.setCell ⟨B, 3, none⟩ (.int .i64 x)) B ⟨es, li, ld, x⟩ := by
  obtain ⟨g, c, h1, h2⟩ := h
  exact ⟨g, c, heap_setCell_same _ _ 3 _ _ _ h1, ownsRow_setCell_other h2 (a := ⟨B, 3, none⟩) (own_ne h1 h2 B rfl) _⟩
/-- Its cells. -/
theorem OpAt.at_ {w : World} {B : Nat} {s : St} (h : OpAt w B s) : (w.cell? ⟨B, 0, none⟩ = some (.int .i64 s.li) ∧ w.cell? ⟨B, 1, none⟩ = some (.int .i64 s.ld) ∧ w.cell? ⟨B, 3, none⟩ = some (.int .i64 s.op)) ∧ w.frozen? ⟨B, 0, none⟩ = false ∧ w.frozen? ⟨B, 1, none⟩ = false ∧ w.frozen? ⟨B, 3, none⟩ = false := by
  obtain ⟨g, c, h1, h2⟩ := h
  obtain ⟨⟨c0, c1, c2, c3⟩, f0, f1, f2, f3⟩ := four h1
  exact ⟨⟨c0, c1, c3⟩, f0, f1, f3⟩

set_option maxHeartbeats 1000000 in
set_option maxRecDepth 100000 in
theorem embed_any (B o : Nat) (v : Int) (s : St) (w : World) (hO : OpAt w B s) (ht : (top s.es).lev ≤ 125) (hr : s.es.length ≤ 1000) (h1 : s.li ≤ 1099511627776) (h2 : s.ld ≤ 1099511627776) :
    Calls Try.prog 48 #[.pointer (some ⟨B, 0, none⟩), .int .i64 (nxt o (top s.es).lev), .int .i64 v] w fun x w' => x = .returned (.tuple #[]) ∧ OpAt w' B (embedS o v s) ∧ Below (B - 1) w w' := by
  have hl := nxt_le (o := o) ht
  cases hf : fits o s with
  | true =>
    obtain ⟨f1, f2, f3⟩ := fits_iff.1 hf
    have e : embedS o v s = push ⟨nxt o (top s.es).lev, v, false⟩ s := by unfold embedS; rw [if_pos hf]
    rw [e]
    obtain ⟨es, li, ld, op⟩ := s
    simp only at f1 f2 f3 hl hr h1 h2 ht
    subst f2 f3
    simp only [push]
    clear e hf
    generalize nxt o (top es).lev = l at *
    have HP := Lib.hid (put_fits B l v false es op w hO f1 hr)
    clear hO
    go_enter Try.func48, Try.ntmps48
    go_wp2_with fail
    refine HP.out.mono ?_
    rintro x w1 ⟨rfl, ho1, hb1⟩
    go_wp2
    go_end0
    exact ⟨rfl, ho1, hb1⟩
  | false =>
    have HP := Lib.hid (put_not B _ v false s w hO hf hl h1 h2)
    have hB := hO.lt
    have HO := Lib.hid hO
    have e : embedS o v s = if s.li = 0 then ⟨s.es, s.li, s.ld + 1, s.op⟩ else s := by unfold embedS; rw [if_neg (by rw [hf]; decide)]
    rw [e]
    clear hO hf e
    generalize nxt o (top s.es).lev = l at *
    obtain ⟨es, li, ld, op⟩ := s
    simp only at *
    rcases Nat.eq_zero_or_pos li with h0 | h0
    · subst h0
      rw [if_pos rfl]
      go_enter Try.func48, Try.ntmps48
      go_wp2_with fail
      refine HP.out.mono ?_
      rintro x w1 ⟨rfl, hb1⟩
      have ho1 := HO.out.below hb1
      obtain ⟨⟨c0, c1, -⟩, -, f1, -⟩ := ho1.at_
      have HO1 := Lib.hid (ho1.deep (ld + 1))
      have HB1 := Lib.hid (hb1.mono (B' := B - 1) (by omega))
      clear ho1 hb1
      go_wp2
      go_end0
      exact ⟨rfl, HO1.out, HB1.out.setCell (p := ⟨B, 1, none⟩) (Nat.sub_le _ _) _⟩
    · rw [if_neg (by omega)]
      have k0 : ((li : Int) == 0) = false := by simp; omega
      go_enter Try.func48, Try.ntmps48
      go_wp2_with fail
      refine HP.out.mono ?_
      rintro x w1 ⟨rfl, hb1⟩
      have ho1 := HO.out.below hb1
      obtain ⟨⟨c0, c1, -⟩, -, f1, -⟩ := ho1.at_
      have HO1 := Lib.hid ho1
      have HB1 := Lib.hid (hb1.mono (B' := B - 1) (by omega))
      clear ho1 hb1
      go_wp2
      go_end0
      exact ⟨rfl, HO1.out, HB1.out⟩

set_option maxHeartbeats 1000000 in
set_option maxRecDepth 100000 in
theorem isolate_any (B o : Nat) (s : St) (w : World) (hO : OpAt w B s) (ht : (top s.es).lev ≤ 125) (hr : s.es.length ≤ 1000) (h1 : s.li ≤ 1099511627776) (h2 : s.ld ≤ 1099511627776) (h3 : s.op ≤ 1099511627776) :
    Calls Try.prog 51 #[.pointer (some ⟨B, 0, none⟩), .int .i64 (nxt o (top s.es).lev)] w fun x w' => x = .returned (.tuple #[]) ∧ OpAt w' B (beginS o s) ∧ Below (B - 1) w w' := by
  have hl := nxt_le (o := o) ht
  cases hf : fits o s with
  | true =>
    obtain ⟨f1, f2, f3⟩ := fits_iff.1 hf
    have e : beginS o s = ⟨⟨nxt o (top s.es).lev, -1, true⟩ :: s.es, s.li, s.ld, s.op + 1⟩ := by unfold beginS; rw [if_pos hf]
    rw [e]
    obtain ⟨es, li, ld, op⟩ := s
    simp only at f1 f2 f3 hl hr h1 h2 h3 ht
    subst f2 f3
    simp only
    clear e hf
    generalize nxt o (top es).lev = l at *
    have HP := Lib.hid (put_fits B l (-1) true es op w hO f1 hr)
    clear hO
    go_enter Try.func51, Try.ntmps51
    go_wp2_with fail
    refine HP.out.mono ?_
    rintro x w1 ⟨rfl, ho1, hb1⟩
    obtain ⟨⟨-, -, c3⟩, -, -, f3⟩ := ho1.at_
    have HO1 := Lib.hid (ho1.count (op + 1))
    have HB1 := Lib.hid hb1
    clear ho1 hb1
    go_wp2
    go_end0
    exact ⟨rfl, HO1.out, HB1.out.setCell (p := ⟨B, 3, none⟩) (Nat.sub_le _ _) _⟩
  | false =>
    have HP := Lib.hid (put_not B _ (-1) true s w hO hf hl h1 h2)
    have hB := hO.lt
    have HO := Lib.hid hO
    have e : beginS o s = ⟨s.es, s.li + 1, s.ld, s.op⟩ := by unfold beginS; rw [if_neg (by rw [hf]; decide)]
    rw [e]
    clear hO hf e
    generalize nxt o (top s.es).lev = l at *
    obtain ⟨es, li, ld, op⟩ := s
    simp only at *
    go_enter Try.func51, Try.ntmps51
    go_wp2_with fail
    refine HP.out.mono ?_
    rintro x w1 ⟨rfl, hb1⟩
    have ho1 := HO.out.below hb1
    obtain ⟨⟨c0, c1, -⟩, f0, -, -⟩ := ho1.at_
    have HO1 := Lib.hid (ho1.lost (li + 1))
    have HB1 := Lib.hid (hb1.mono (B' := B - 1) (by omega))
    clear ho1 hb1
    go_wp2
    go_end0
    exact ⟨rfl, HO1.out, HB1.out.setCell (p := ⟨B, 0, none⟩) (Nat.sub_le _ _) _⟩
end Go.Proofs.Ytehndhkcmccpmaa.Lv
