/-
  Proved here: what parquetrylaw12.seq returns, what seqs.Sequences returns as it is read, and that parquetrylaw12.awake (the chapter's examples) returns true; they leave what was in memory. No condition.
-/
import Derived.Test.YtehndhkcmccpmaaSqSeqs
import Derived.Test.YtehndhkcmccpmaaSqSame
import Derived.Test.YtehndhkcmccpmaaSqCheck
set_option linter.unusedVariables false
namespace Go.Proofs.Ytehndhkcmccpmaa.Sq
open Go Go.RowKit Go.Lib Go.Proofs.Ytehndhkcmccpmaa.Cl Go.Proofs.Ytehndhkcmccpmaa.Ba

theorem seqs_reads (A : Option Addr) (c : List Int) (x : Int) (n m : Nat) (w : World) (hl : c.length = n) (hR : IntsAt w A c) (hn : n ≤ 1000000) (hnm : n ≤ m) :
    Calls Try.prog 16 #[.slice A n m, .int .i64 x] w fun e w' => ∃ A1 c1 T, e = .returned (.slice A1 T.length c1) ∧ SqAt w' A1 T ∧ SeqsAll c (zOf c x) x T ∧ Below w.heap.size w w' := by
  refine (seqs_any A c x n m w hl hR hn hnm (zOf_iso c x)).mono ?_
  rintro e w' ⟨v, T, X, rfl, h1, h2, h3⟩
  obtain ⟨A1, c1, rfl, h4⟩ := h1.reads
  exact ⟨A1, c1, T, rfl, h4, h2, h3⟩
theorem seqs_are (A : Option Addr) (c : List Int) (x : Int) (n m : Nat) (w : World) (T : List S4) (hT : SeqsOk c (zOf c x) x T) (hl : c.length = n) (hR : IntsAt w A c) (hn : n ≤ 1000000) (hnm : n ≤ m) :
    Calls Try.prog 16 #[.slice A n m, .int .i64 x] w fun e w' => ∃ A1 c1, e = .returned (.slice A1 T.length c1) ∧ SqAt w' A1 T ∧ Below w.heap.size w w' := by
  refine (seqs_reads A c x n m w hl hR hn hnm).mono ?_
  rintro e w' ⟨A1, c1, T', rfl, h1, h2, h3⟩
  obtain rfl := h2.ok.unique hT
  exact ⟨A1, c1, rfl, h1, h3⟩
set_option maxHeartbeats 2000000 in
set_option maxRecDepth 100000 in
theorem seq_any (a b c : Int) (A : Option Addr) (n m : Nat) (w : World) :
    Calls Try.prog 29 #[.int .i64 a, .int .i64 b, .int .i64 c, .slice A n m] w fun e w' => e = .returned (.agg #[.int .i64 a, .int .i64 b, .int .i64 c, .slice A n m]) ∧ Below w.heap.size w w' := by
  have HI := Lib.hid (show (Try.prog.info? 35).map (·.size) = some 4 from by kernel_rfl)
  have hx := heap_alloc_last w (.cells #[.int .i64 0, .int .i64 0, .int .i64 0, .slice none 0 0] 35)
  have hb := (Below.refl w.heap.size w).alloc (Nat.le_refl _) (.cells #[.int .i64 0, .int .i64 0, .int .i64 0, .slice none 0 0] 35)
  obtain ⟨W, hW⟩ : ∃ W, w.alloc (.cells #[.int .i64 0, .int .i64 0, .int .i64 0, .slice none 0 0] 35) = W := ⟨_, rfl⟩
  rw [hW] at hx hb
  obtain ⟨q0, q1, q2, q3⟩ := box4 hx
  have f0 := frozen_of_row W w.heap.size 0 _ _ hx
  have f1 := frozen_of_row W w.heap.size 1 _ _ hx
  have f2 := frozen_of_row W w.heap.size 2 _ _ hx
  have f3 := frozen_of_row W w.heap.size 3 _ _ hx
  have HX := Lib.hid hx
  clear hx
  go_enter Try.func29, Try.ntmps29
  go_wp2_with fail
  refine bodyPost_ret (results_cell_row Try.results29 _ _ w.heap.size 35 _ (0, 0) _ rfl (heap_setCell_same _ w.heap.size 3 _ _ _ (heap_setCell_same _ w.heap.size 2 _ _ _ (heap_setCell_same _ w.heap.size 1 _ _ _ (heap_setCell_same W w.heap.size 0 _ _ _ HX.out)))) Try.underlying35 rfl HI.out) rfl ?_
  exact ⟨rfl, (((hb.setCell (p := ⟨w.heap.size, 0, none⟩) (Nat.le_refl _) _).setCell (p := ⟨w.heap.size, 1, none⟩) (Nat.le_refl _) _).setCell (p := ⟨w.heap.size, 2, none⟩) (Nat.le_refl _) _).setCell (p := ⟨w.heap.size, 3, none⟩) (Nat.le_refl _) _⟩

/-- Two sequences that are built. -/
theorem made_two {w : World} (r s : S4) {A B : Option Addr} {m n : Nat} (hA : IntsAt w A (ns r.p)) (hB : IntsAt w B (ns s.p)) :
    SqAt (w.alloc (.cells #[.int .i64 r.a, .int .i64 r.b, .int .i64 r.c, .slice A r.p.length m, .int .i64 s.a, .int .i64 s.b, .int .i64 s.c, .slice B s.p.length n] 35)) (some ⟨w.heap.size, 0, none⟩) [r, s] := by
  have hx := heap_alloc_last w (.cells #[.int .i64 r.a, .int .i64 r.b, .int .i64 r.c, .slice A r.p.length m, .int .i64 s.a, .int .i64 s.b, .int .i64 s.c, .slice B s.p.length n] 35)
  have hb := below_made w (.cells #[.int .i64 r.a, .int .i64 r.b, .int .i64 r.c, .slice A r.p.length m, .int .i64 s.a, .int .i64 s.b, .int .i64 s.c, .slice B s.p.length n] 35)
  refine .inr ⟨w.heap.size, 0, rfl, by simp, fun k hk => ?_⟩
  have hk2 : k = 0 ∨ k = 1 := by simp at hk; omega
  rcases hk2 with rfl | rfl
  · exact ⟨A, m, cell_of_row _ _ 0 _ _ _ hx, cell_of_row _ _ 1 _ _ _ hx, cell_of_row _ _ 2 _ _ _ hx, cell_of_row _ _ 3 _ _ _ hx, hA.below hb⟩
  · exact ⟨B, n, cell_of_row _ _ 4 _ _ _ hx, cell_of_row _ _ 5 _ _ _ hx, cell_of_row _ _ 6 _ _ _ hx, cell_of_row _ _ 7 _ _ _ hx, hB.below hb⟩
theorem nx {w w' : World} {o : Obj} (h : Below (w.alloc o).heap.size (w.alloc o) w') : Below w.heap.size w w' := (below_made w o).trans (h.mono (by simp))

set_option maxHeartbeats 8000000 in
set_option maxRecDepth 100000 in
theorem awake_any (w : World) : Calls Try.prog 15 #[] w fun e w' => e = .returned (.bool true) ∧ Below w.heap.size w w' := by
  go_enter Try.func15, Try.ntmps15
  go_wp2_with fail
  refine (seqs_are (some ⟨w.heap.size, 0, none⟩) [0, 20, 1, 22, 0] 0 5 5 _ [⟨0, 0, 0, [0, 1, 3, 4]⟩, ⟨1, 1, 1, [2]⟩] ex1 rfl (made_ints [0, 20, 1, 22, 0] _ _ w rfl) (by omega) (by omega)).mono ?_
  rintro e w1 ⟨A1, c1, rfl, s1, hb1⟩
  have B1 : Below w.heap.size w w1 := nx hb1
  go_wp2_with fail
  refine (seqs_are (some ⟨w1.heap.size, 0, none⟩) [16, 1, 18, 3] 0 4 4 _ [⟨1, 1, 1, [1]⟩, ⟨0, 1, 0, [3]⟩] ex2 rfl (made_ints [16, 1, 18, 3] _ _ w1 rfl) (by omega) (by omega)).mono ?_
  rintro e w2 ⟨A2, c2, rfl, s2, hb2⟩
  replace s1 := s1.below (nx hb2)
  have B2 : Below w.heap.size w w2 := B1.trans ((nx hb2).mono B1.size)
  go_wp2_with fail
  refine (seqs_are (some ⟨w2.heap.size, 0, none⟩) [0, 19, 3] 1 3 3 _ [⟨1, 1, 1, [0, 1]⟩, ⟨2, 0, 0, [2]⟩] ex3 rfl (made_ints [0, 19, 3] _ _ w2 rfl) (by omega) (by omega)).mono ?_
  rintro e w3 ⟨A3, c3, rfl, s3, hb3⟩
  replace s1 := s1.below (nx hb3)
  replace s2 := s2.below (nx hb3)
  have B3 : Below w.heap.size w w3 := B2.trans ((nx hb3).mono B2.size)
  go_wp2_with fail
  have i4 : IntsAt _ (some ⟨w3.heap.size, 0, none⟩) (ns [0, 1, 3, 4]) := made_ints (ns [0, 1, 3, 4]) _ 3 w3 rfl
  refine (seq_any 0 0 0 _ _ _ _).mono ?_
  rintro e w4 ⟨rfl, hb4⟩
  replace i4 := i4.below hb4
  replace s1 := s1.below (nx hb4)
  replace s2 := s2.below (nx hb4)
  replace s3 := s3.below (nx hb4)
  have B4 : Below w.heap.size w w4 := B3.trans ((nx hb4).mono B3.size)
  go_wp2_with fail
  have i5 : IntsAt _ (some ⟨w4.heap.size, 0, none⟩) (ns [2]) := made_ints (ns [2]) _ 3 w4 rfl
  refine (seq_any 1 1 1 _ _ _ _).mono ?_
  rintro e w5 ⟨rfl, hb5⟩
  replace i5 := i5.below hb5
  replace s1 := s1.below (nx hb5)
  replace s2 := s2.below (nx hb5)
  replace s3 := s3.below (nx hb5)
  replace i4 := i4.below (nx hb5)
  have B5 : Below w.heap.size w w5 := B4.trans ((nx hb5).mono B4.size)
  go_wp2_with fail
  have m6 := made_two (w := w5) ⟨0, 0, 0, [0, 1, 3, 4]⟩ ⟨1, 1, 1, [2]⟩ (m := 4) (n := 1) i4 i5
  refine (same_seqs _ _ [⟨0, 0, 0, [0, 1, 3, 4]⟩, ⟨1, 1, 1, [2]⟩] 2 _ _ _ rfl (s1.below (below_made w5 _)) m6 (by omega) (by simp)).mono ?_
  rintro e w6 ⟨rfl, hb6⟩
  replace s1 := s1.below (nx hb6)
  replace s2 := s2.below (nx hb6)
  replace s3 := s3.below (nx hb6)
  replace i4 := i4.below (nx hb6)
  replace i5 := i5.below (nx hb6)
  have B6 : Below w.heap.size w w6 := B5.trans ((nx hb6).mono B5.size)
  clear m6
  go_wp2_with fail
  have i7 : IntsAt _ (some ⟨w6.heap.size, 0, none⟩) (ns [1]) := made_ints (ns [1]) _ 3 w6 rfl
  refine (seq_any 1 1 1 _ _ _ _).mono ?_
  rintro e w7 ⟨rfl, hb7⟩
  replace i7 := i7.below hb7
  replace s2 := s2.below (nx hb7)
  replace s3 := s3.below (nx hb7)
  have B7 : Below w.heap.size w w7 := B6.trans ((nx hb7).mono B6.size)
  go_wp2_with fail
  have i8 : IntsAt _ (some ⟨w7.heap.size, 0, none⟩) (ns [3]) := made_ints (ns [3]) _ 3 w7 rfl
  refine (seq_any 0 1 0 _ _ _ _).mono ?_
  rintro e w8 ⟨rfl, hb8⟩
  replace i8 := i8.below hb8
  replace s2 := s2.below (nx hb8)
  replace s3 := s3.below (nx hb8)
  replace i7 := i7.below (nx hb8)
  have B8 : Below w.heap.size w w8 := B7.trans ((nx hb8).mono B7.size)
  go_wp2_with fail
  have m9 := made_two (w := w8) ⟨1, 1, 1, [1]⟩ ⟨0, 1, 0, [3]⟩ (m := 1) (n := 1) i7 i8
  refine (same_seqs _ _ [⟨1, 1, 1, [1]⟩, ⟨0, 1, 0, [3]⟩] 2 _ _ _ rfl (s2.below (below_made w8 _)) m9 (by omega) (by simp)).mono ?_
  rintro e w9 ⟨rfl, hb9⟩
  replace s2 := s2.below (nx hb9)
  replace s3 := s3.below (nx hb9)
  replace i7 := i7.below (nx hb9)
  replace i8 := i8.below (nx hb9)
  have B9 : Below w.heap.size w w9 := B8.trans ((nx hb9).mono B8.size)
  clear m9
  go_wp2_with fail
  have i10 : IntsAt _ (some ⟨w9.heap.size, 0, none⟩) (ns [0, 1]) := made_ints (ns [0, 1]) _ 3 w9 rfl
  refine (seq_any 1 1 1 _ _ _ _).mono ?_
  rintro e w10 ⟨rfl, hb10⟩
  replace i10 := i10.below hb10
  replace s3 := s3.below (nx hb10)
  have B10 : Below w.heap.size w w10 := B9.trans ((nx hb10).mono B9.size)
  go_wp2_with fail
  have i11 : IntsAt _ (some ⟨w10.heap.size, 0, none⟩) (ns [2]) := made_ints (ns [2]) _ 3 w10 rfl
  refine (seq_any 2 0 0 _ _ _ _).mono ?_
  rintro e w11 ⟨rfl, hb11⟩
  replace i11 := i11.below hb11
  replace s3 := s3.below (nx hb11)
  replace i10 := i10.below (nx hb11)
  have B11 : Below w.heap.size w w11 := B10.trans ((nx hb11).mono B10.size)
  go_wp2_with fail
  have m12 := made_two (w := w11) ⟨1, 1, 1, [0, 1]⟩ ⟨2, 0, 0, [2]⟩ (m := 2) (n := 1) i10 i11
  refine (same_seqs _ _ [⟨1, 1, 1, [0, 1]⟩, ⟨2, 0, 0, [2]⟩] 2 _ _ _ rfl (s3.below (below_made w11 _)) m12 (by omega) (by simp)).mono ?_
  rintro e w12 ⟨rfl, hb12⟩
  replace s3 := s3.below (nx hb12)
  replace i10 := i10.below (nx hb12)
  replace i11 := i11.below (nx hb12)
  have B12 : Below w.heap.size w w12 := B11.trans ((nx hb12).mono B11.size)
  clear m12
  go_wp2_with fail
  refine (seqs_are (some ⟨w12.heap.size, 0, none⟩) [9] 0 1 1 _ [] ex4 rfl (made_ints [9] _ _ w12 rfl) (by omega) (by omega)).mono ?_
  rintro e w13 ⟨A13, c13, rfl, s13, hb13⟩
  have B13 : Below w.heap.size w w13 := B12.trans ((nx hb13).mono B12.size)
  go_wp2_with fail
  refine (seqs_are (some ⟨w13.heap.size, 0, none⟩) [0] 2 1 1 _ [] ex5 rfl (made_ints [0] _ _ w13 rfl) (by omega) (by omega)).mono ?_
  rintro e w14 ⟨A14, c14, rfl, s14, hb14⟩
  have B14 : Below w.heap.size w w14 := B13.trans ((nx hb14).mono B13.size)
  go_wp2_with fail
  go_ret
  exact ⟨rfl, B14⟩
end Go.Proofs.Ytehndhkcmccpmaa.Sq
