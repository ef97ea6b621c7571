/-
  Proved here: what the document's own Explicit returns, for every row of numbers of at most 2^20 in a paragraph of the level 0 or 1: two rows of numbers, by the plain explL. It leaves what was in memory.
-/
import Derived.Test.YtehndhkcmccpmaaLvRefT
import Derived.Test.YtehndhkcmccpmaaLvOne
import Derived.Test.YtehndhkcmccpmaaLvOpen
set_option linter.unusedVariables false
namespace Go.Proofs.Ytehndhkcmccpmaa.Lv
open Go Go.RowKit Go.Lib Go.Proofs.Ytehndhkcmccpmaa.Cl Go.Proofs.Ytehndhkcmccpmaa.Ba

/-- Two rows of the call's own, side by side. -/
def TwoOwn (xs ys : List Int) (n : Nat) (w : World) (x : Ending) (w' : World) : Prop :=
  ∃ A1 c1 A2 c2, x = .returned (.tuple #[.slice A1 n c1, .slice A2 n c2]) ∧ w'.ownsRow w.heap.size 3 1 (.slice A1 n c1) n (icl xs) ∧ w'.ownsRow w.heap.size 3 1 (.slice A2 n c2) n (icl ys) ∧ Two (.slice A1 n c1) (.slice A2 n c2) ∧ Below w.heap.size w w'
/-- What is returned: two rows of numbers. -/
def TwoPost (xs ys : List Int) (n : Nat) (w : World) (x : Ending) (w' : World) : Prop :=
  ∃ A1 c1 A2 c2, x = .returned (.tuple #[.slice A1 n c1, .slice A2 n c2]) ∧ IntsAt w' A1 xs ∧ IntsAt w' A2 ys ∧ Below w.heap.size w w'

theorem own_past {w : World} {base n B : Nat} {v : Value} {xs : List Value} {cs : Array Value} {T : TypeId} (ho : w.ownsRow base 3 1 v n xs) (hB : w.heap[B]? = some (.cells cs T (0, 0))) (hT : T ≠ 3) (i : Nat) (u : Value) : (w.setCell ⟨B, i, none⟩ u).ownsRow base 3 1 v n xs := by
  refine ownsRow_setCell_other ho (a := ⟨B, i, none⟩) (fun e => ?_) u
  rcases ho.2 with ⟨rfl, _⟩ | ⟨g1, c1, cur, rfl, _, hh, _⟩
  · cases e
  · have he2 : some g1 = some B := e
    injection he2 with he2
    subst he2
    rw [hB] at hh
    injection hh with hh
    injection hh with _ hh _
    exact hT hh
theorem own_three {w : World} {base n B : Nat} {v : Value} {xs : List Value} {x0 x1 x2 : Value} {T : TypeId} (ho : w.ownsRow base 3 1 v n xs) (hB : w.heap[B]? = some (.cells #[x0, x1, x2] T (0, 0))) (hT : T ≠ 3) (v0 v1 v2 : Value) : (((w.setCell ⟨B, 0, none⟩ v0).setCell ⟨B, 1, none⟩ v1).setCell ⟨B, 2, none⟩ v2).ownsRow base 3 1 v n xs :=
  own_past (own_past (own_past ho hB hT 0 v0) (heap_setCell_same _ _ 0 _ _ _ hB) hT 1 v1) (heap_setCell_same _ _ 1 _ _ _ (heap_setCell_same _ _ 0 _ _ _ hB)) hT 2 v2
theorem own_four {w : World} {base n B : Nat} {v : Value} {xs : List Value} {x0 x1 x2 x3 : Value} {T : TypeId} (ho : w.ownsRow base 3 1 v n xs) (hB : w.heap[B]? = some (.cells #[x0, x1, x2, x3] T (0, 0))) (hT : T ≠ 3) (v0 v1 v2 v3 : Value) : ((((w.setCell ⟨B, 0, none⟩ v0).setCell ⟨B, 1, none⟩ v1).setCell ⟨B, 2, none⟩ v2).setCell ⟨B, 3, none⟩ v3).ownsRow base 3 1 v n xs :=
  own_past (own_past (own_past (own_past ho hB hT 0 v0) (heap_setCell_same _ _ 0 _ _ _ hB) hT 1 v1) (heap_setCell_same _ _ 1 _ _ _ (heap_setCell_same _ _ 0 _ _ _ hB)) hT 2 v2) (heap_setCell_same _ _ 2 _ _ _ (heap_setCell_same _ _ 1 _ _ _ (heap_setCell_same _ _ 0 _ _ _ hB))) hT 3 v3
theorem three_set {w : World} {g : Nat} {x0 x1 x2 : Value} {t : TypeId} (v0 v1 v2 : Value) (h : w.heap[g]? = some (.cells #[x0, x1, x2] t)) :
    (((w.setCell ⟨g, 0, none⟩ v0).setCell ⟨g, 1, none⟩ v1).setCell ⟨g, 2, none⟩ v2).heap[g]? = some (.cells #[v0, v1, v2] t) :=
  heap_setCell_same _ _ 2 _ _ _ (heap_setCell_same _ _ 1 _ _ _ (heap_setCell_same _ _ 0 _ _ _ h))
theorem three_past {w : World} {g k : Nat} (v0 v1 v2 : Value) (hk : k ≠ g) : (((w.setCell ⟨g, 0, none⟩ v0).setCell ⟨g, 1, none⟩ v1).setCell ⟨g, 2, none⟩ v2).heap[k]? = w.heap[k]? :=
  (heap_setCell_other _ ⟨g, 2, none⟩ _ _ hk).trans ((heap_setCell_other _ ⟨g, 1, none⟩ _ _ hk).trans (heap_setCell_other _ ⟨g, 0, none⟩ _ _ hk))
theorem four_past {w : World} {g k : Nat} (v0 v1 v2 v3 : Value) (hk : k ≠ g) : ((((w.setCell ⟨g, 0, none⟩ v0).setCell ⟨g, 1, none⟩ v1).setCell ⟨g, 2, none⟩ v2).setCell ⟨g, 3, none⟩ v3).heap[k]? = w.heap[k]? :=
  (heap_setCell_other _ ⟨g, 3, none⟩ _ _ hk).trans (three_past v0 v1 v2 hk)
theorem three_ns {W : World} {g c k : Nat} {es : List E} (v0 v1 v2 : Value) (h : NsAt W g c es) (hg : g ≠ k) : NsAt (((W.setCell ⟨k, 0, none⟩ v0).setCell ⟨k, 1, none⟩ v1).setCell ⟨k, 2, none⟩ v2) g c es :=
  ((h.store (a := ⟨k, 0, none⟩) hg _).store (a := ⟨k, 1, none⟩) hg _).store (a := ⟨k, 2, none⟩) hg _
theorem three_below {w W : World} {B g : Nat} (v0 v1 v2 : Value) (h : Below B w W) (hg : B ≤ g) : Below B w (((W.setCell ⟨g, 0, none⟩ v0).setCell ⟨g, 1, none⟩ v1).setCell ⟨g, 2, none⟩ v2) := ((h.setCell hg _).setCell hg _).setCell hg _
theorem own_mem {w w' : World} {b : Nat} {n : Nat} {v : Value} {xs : List Value} (h : w.ownsRow b 3 1 v n xs) (hb : Below w.heap.size w w') : w'.ownsRow b 3 1 v n xs := ownsRow_below h hb
theorem walk_on {b : Nat} {l : List Int} {s : St} {E : List (Int × Int)} {k : Nat} (h : walkL b (l.drop k) s = E.drop k) (hk : k < l.length) (hE : k < E.length) : outS b (closeS l[k] s) l[k] = E[k] ∧ walkL b (l.drop (k + 1)) (openS l[k] (l.drop (k + 1)) (closeS l[k] s)) = E.drop (k + 1) := by
  rw [List.drop_eq_getElem_cons hk, List.drop_eq_getElem_cons hE] at h
  simp only [walkL] at h
  injection h with h1 h2
  exact ⟨h1, h2⟩

theorem grown_at {w w' : World} {base n B : Nat} {v : Value} {xs : List Value} {cs : Array Value} {T : TypeId} (hg : w.grownBy w' v.ownBlock) (ho : w.ownsRow base 3 1 v n xs) (hB : w.heap[B]? = some (.cells cs T (0, 0))) (hT : T ≠ 3) : w'.heap[B]? = some (.cells cs T (0, 0)) := by
  refine (hg.block B (Array.getElem?_eq_some_iff.1 hB).1 (fun e => ?_)).trans hB
  rcases ho.2 with ⟨rfl, _⟩ | ⟨g1, c1, cur, rfl, _, hh, _⟩
  · cases e
  · have he2 : some B = some g1 := e
    injection he2 with he2
    subst he2
    rw [hB] at hh
    injection hh with hh
    injection hh with _ hh _
    exact hT hh
theorem NsAt.grown {w w' : World} {base n g c : Nat} {v : Value} {xs : List Value} {es : List E} (h : NsAt w g c es) (hg : w.grownBy w' v.ownBlock) (ho : w.ownsRow base 3 1 v n xs) : NsAt w' g c es := by
  have hne := h.ints ho
  have hb := hg.block g h.1 (fun e => hne e.symm)
  refine ⟨Nat.lt_of_lt_of_le h.1 hg.size, h.2.1, fun j u hu => ?_, ?_⟩
  · exact (World.cell?_of_block (w := w) (a := ⟨g, j, none⟩) hb).trans (h.2.2.1 j u hu)
  · obtain ⟨cs, hcs⟩ := h.2.2.2
    exact ⟨cs, hb.trans hcs⟩
theorem past_alloc (w : World) (o : Obj) {B : Nat} {o1 : Obj} (hB : w.heap[B]? = some o1) : (w.alloc o).heap[B]? = some o1 := (Below.heap_alloc w o B (Array.getElem?_eq_some_iff.1 hB).1).trans hB
theorem new_one (w : World) (u : Value) (t : TypeId) : (w.alloc (.cells #[u] t)).cell? ⟨w.heap.size, 0, none⟩ = some u := cell_of_row _ _ 0 _ _ _ (heap_alloc_last w _)
theorem new_set (w : World) (B : Nat) (v0 v1 v2 u : Value) (t : TypeId) (x : Nat) (hx : x = w.heap.size := by rfl) : (((((w.setCell ⟨B, 0, none⟩ v0).setCell ⟨B, 1, none⟩ v1).setCell ⟨B, 2, none⟩ v2).alloc (.cells #[u] t))).cell? ⟨x, 0, none⟩ = some u := by
  subst hx
  have h := new_one (((w.setCell ⟨B, 0, none⟩ v0).setCell ⟨B, 1, none⟩ v1).setCell ⟨B, 2, none⟩ v2) u t
  simpa using h
theorem take_one {E : List (Int × Int)} {k : Nat} (hk : k < E.length) : E.take (k + 1) = E.take k ++ [E[k]] := by
  rw [List.take_add_one, List.getElem?_eq_getElem hk]
  rfl

/-- What lies in memory while the rows grow. -/
structure NI (b : Nat) (l : List Int) (E : List (Int × Int)) (h : Nat) (w : World) (k : Nat) (s : St) (g c : Nat) (v6 v7 : Value) (W : World) : Prop where
  ok : Ok b s
  few : Few k s
  walk : walkL b (l.drop k) s = E.drop k
  ns : NsAt W g c s.es
  box : W.heap[h + 1]? = some (.cells #[.slice (some ⟨g, 0, none⟩) s.es.length c, .int .i64 s.li, .int .i64 s.ld, .int .i64 s.op] 76 (0, 0))
  own6 : W.ownsRow (h + 2) 3 1 v6 k (icl ((E.take k).map (·.1)))
  own7 : W.ownsRow (h + 2) 3 1 v7 k (icl ((E.take k).map (·.2)))
  two : Two v6 v7
  below : Below h w W
  size : h + 2 ≤ W.heap.size

set_option maxHeartbeats 4000000 in
set_option maxRecDepth 100000 in
theorem nexplicit_own (A : Option Addr) (l : List Int) (b n m : Nat) (w : World) (hb : b ≤ 1) (hl : l.length = n) (hR : IntsAt w A l) (hn : n ≤ 1000000) (hnm : n ≤ m) :
    Calls Try.prog 36 #[.slice A n m, .int .i64 b] w fun x w' => TwoOwn ((explL l b).map (·.1)) ((explL l b).map (·.2)) n w x w' := by
  have HR := Lib.hid hR
  have HL := Lib.hid hl
  have HEL := Lib.hid (explL_len l b)
  have HW0 := Lib.hid (show walkL b (l.drop 0) (startS b) = (explL l b).drop 0 from rfl)
  clear hR hl
  have kA : decide ((b : Int) < 0) = false := by simp
  have kB : decide ((1 : Int) < (b : Int)) = false := by simp; omega
  have kB2 : decide (1 < b) = false := by simp; omega
  generalize explL l b = E at *
  go_enter Try.func36, Try.ntmps36
  go_wp2_with fail
  obtain ⟨e0, e1, hbV, hsV⟩ := two_new w (.cells #[.int .i64 b, .int .i64 (-1), .int .i64 0] 73) (.cells #[.slice (some ⟨w.heap.size, 0, none⟩) 1 1, .int .i64 0, .int .i64 0, .int .i64 0] 76)
  generalize (w.alloc (.cells #[.int .i64 b, .int .i64 (-1), .int .i64 0] 73)).alloc (.cells #[.slice (some ⟨w.heap.size, 0, none⟩) 1 1, .int .i64 0, .int .i64 0, .int .i64 0] 76) = V at *
  obtain ⟨h, hH⟩ : ∃ h, w.heap.size = h := ⟨_, rfl⟩
  rw [hH] at e0 e1 hbV hsV ⊢
  have HST := Lib.hid (show NI b l E h w 0 (startS b) h 1 (.slice none 0 0) (.slice none 0 0) V from {
    ok := Ok.start b
    few := ⟨Nat.le_refl _, Nat.le_refl _⟩
    walk := HW0.out
    ns := ⟨by omega, Nat.le_refl _, fun j u hu => by
      obtain ⟨⟨c0, c1, c2⟩, -⟩ := three e0
      match j, hu with
      | 0, hu => injection hu with hu; rw [← hu]; exact c0
      | 1, hu => injection hu with hu; rw [← hu]; exact c1
      | 2, hu => injection hu with hu; rw [← hu]; exact c2, ⟨_, e0⟩⟩
    box := e1
    own6 := World.ownsRow_nil _ _ _ _
    own7 := World.ownsRow_nil _ _ _ _
    two := Two.nil _
    below := hbV
    size := by omega })
  clear e0 e1 hbV hsV HW0
  go_loopw [6, 7, 9] (fun s6 s7 s9 wx => ∃ (k : Nat) (s : St) (g c : Nat), s9 = .int .i64 k ∧ k ≤ n ∧ NI b l E h w k s g c s6 s7 wx) (fun _ _ s9 _ => n - (RowKit.intOf s9).toNat)
  case atStart => exact ⟨0, startS b, h, 1, rfl, Nat.zero_le _, HST.out⟩
  case round =>
    obtain ⟨k, s, g, gc, rfl, hk, hni⟩ := hrel
    clear HST
    by_cases hlt : k < n
    · have hkl : k < l.length := by rw [HL.out]; exact hlt
      have hkE : k < E.length := by rw [HEL.out]; exact hkl
      obtain ⟨hout, hnext⟩ := walk_on hni.walk hkl hkE
      have hir := HR.out.below (hH ▸ hni.below)
      obtain ⟨ab, off, rfl, hc0⟩ := hir.at_ hkl
      have hok1 := (hni.ok.close l[k]).open_ l[k] (l.drop (k + 1))
      have hfew1 := (hni.few.close l[k]).open_ l[k] (l.drop (k + 1))
      have hsm := hni.ok.chain.small hb
      have HSTEP := Lib.hid (nStep_any b g gc s.es.length s _ l n m k wr hb hni.ok hni.ns rfl (by have := hni.few.1; omega) (by have := hni.few.2; omega) HL.out hir (by omega) hnm hlt hkl)
      have hlt1 : h + 1 < wr.heap.size := by have := hni.size; omega
      have HTK := Lib.hid (show (E.take (k + 1)).map (·.1) = (E.take k).map (·.1) ++ [E[k].1] by rw [take_one hkE, List.map_append]; rfl)
      have HTK2 := Lib.hid (show (E.take (k + 1)).map (·.2) = (E.take k).map (·.2) ++ [E[k].2] by rw [take_one hkE, List.map_append]; rfl)
      obtain ⟨L1, hL1⟩ : ∃ L1, (E.take k).map (·.1) = L1 := ⟨_, rfl⟩
      obtain ⟨L2, hL2⟩ : ∃ L2, (E.take k).map (·.2) = L2 := ⟨_, rfl⟩
      rw [hL1] at HTK
      rw [hL2] at HTK2
      have HNEXT := Lib.hid hnext
      have HOK1 := Lib.hid hok1
      have HFEW1 := Lib.hid hfew1
      have HOUT := Lib.hid hout
      have HBOX := Lib.hid hni.box
      have HNS := Lib.hid hni.ns
      have HOWN6 := Lib.hid (hL1 ▸ hni.own6)
      have HOWN7 := Lib.hid (hL2 ▸ hni.own7)
      clear hL1 hL2
      have HTW := Lib.hid hni.two
      have HBEL := Lib.hid hni.below
      have HOKS := Lib.hid hni.ok
      have hsz := hni.size
      have HREM := Lib.hid (fun W => nRemoved_any l[k] W)
      have HEND := Lib.hid (fun (hc : l[k] = 22) => show openS l[k] (l.drop (k + 1)) (closeS l[k] s) = closeS l[k] s by rw [hc]; rfl)
      have HCLOSE := Lib.hid (fun (h1 : l[k] ≠ 22) (h2 : remB l[k] = false) => show closeS l[k] s = s by
        unfold closeS
        rw [if_neg (fun e => by rw [e] at h2; cases h2), if_neg h1])
      clear hnext hok1 hfew1 hout hni hir
      generalize l[k] = cc at *
      generalize closeS cc s = s2 at *
      generalize openS cc (l.drop (k + 1)) s2 = s1 at *
      generalize E[k] = ek at *
      obtain ⟨z1, z2⟩ := ek
      obtain ⟨es1, li1, ld1, op1⟩ := s1
      obtain ⟨es, li, ld, op⟩ := s
      simp only at *
      cases es with
      | nil => exact HOKS.out.chain.elim
      | cons e r =>
      cases es1 with
      | nil => exact HOK1.out.chain.elim
      | cons e1 r1 =>
      have hsm1 := HOK1.out.chain.small hb
      simp only [List.length_cons] at hsm hsm1
      simp only [List.length_cons] at HBOX HSTEP
      have HTOP := Lib.hid (fun W (h : Below wr.heap.size wr W) => nTop_any g gc r.length e r li ld op W (HNS.out.below h) rfl (by omega))
      obtain ⟨⟨m0, m1, m2, m3⟩, -⟩ := four HBOX.out
      go_wp2_with fail
      refine HSTEP.out.mono ?_
      rintro x w1 ⟨g1, c1, rfl, hns1, hb1⟩
      have bx1 := (hb1.block (h + 1) hlt1).trans HBOX.out
      obtain ⟨⟨x0, x1, x2, x3⟩, -⟩ := four bx1
      have hlt11 : h + 1 < w1.heap.size := Nat.lt_of_lt_of_le hlt1 hb1.size
      have x0' := fun o => (cell_at w1 o 0 hlt11).trans x0
      have x1' := fun o => (cell_at w1 o 1 hlt11).trans x1
      have x2' := fun o => (cell_at w1 o 2 hlt11).trans x2
      have x3' := fun o => (cell_at w1 o 3 hlt11).trans x3
      have HB1 := Lib.hid hb1
      have HNS1 := Lib.hid hns1
      have hg1 := hns1.1
      clear hb1 hns1 bx1 m0 m1 m2 m3
      go_wp2_with fail
      refine (HTOP.out _ (HB1.out.alloc HB1.out.size _)).mono ?_
      rintro x w2 ⟨rfl, hb2⟩
      have hs12 : w1.heap.size + 1 ≤ w2.heap.size := by have := hb2.size; simp at this; omega
      have b11 := (hb2.block w1.heap.size (by simp)).trans (heap_alloc_last w1 (.cells #[.slice (some ⟨g1, 0, none⟩) (r1.length + 1) c1, .int .i64 li1, .int .i64 ld1, .int .i64 op1] 76))
      have hb12 : Below w1.heap.size w1 w2 := ((Below.refl _ _).alloc (Nat.le_refl _) _).trans (hb2.mono (by simp))
      have hbr2 : Below wr.heap.size wr w2 := HB1.out.trans (hb12.mono HB1.out.size)
      have bx2 := (hbr2.block (h + 1) hlt1).trans HBOX.out
      clear x0 x1 x2 x3 x0' x1' x2' x3' hb2
      generalize hii : inI e = y3 at *
      clear hii
      have hb2a : Below w2.heap.size w2 (w2.alloc (.cells #[.int .i64 e.lev, .int .i64 e.ov, .int .i64 y3] 73)) := (Below.refl _ _).alloc (Nat.le_refl _) _
      have t12 := heap_alloc_last w2 (.cells #[.int .i64 e.lev, .int .i64 e.ov, .int .i64 y3] 73)
      have y11 := (hb2a.block w1.heap.size (by omega)).trans b11
      have yx := (hb2a.block (h + 1) (by omega)).trans bx2
      have hbra := hbr2.trans (hb2a.mono hbr2.size)
      have hb1a := hb12.trans (hb2a.mono (by omega))
      obtain ⟨⟨a0, a1, a2, a3⟩, -⟩ := four y11
      obtain ⟨⟨u0, u1, u2, u3⟩, uf0, uf1, uf2, uf3⟩ := four yx
      have hsa : w2.heap.size + 1 = (w2.alloc (.cells #[.int .i64 e.lev, .int .i64 e.ov, .int .i64 y3] 73)).heap.size := by simp
      have HT12A := Lib.hid t12
      have HY11 := Lib.hid y11
      have HYX := Lib.hid yx
      have HBRA := Lib.hid hbra
      have HB1A := Lib.hid hb1a
      have hltr : wr.heap.size ≤ w1.heap.size := HB1.out.size
      clear b11 hb12 hbr2 bx2 hb2a t12 y11 yx hbra hb1a
      by_cases h22 : cc = 22
      · subst h22
        have hs1 := HEND.out rfl
        rw [← hs1] at HOUT
        have HTOP1 := Lib.hid (fun W (h : Below w1.heap.size w1 W) => nTop_any g1 c1 r1.length e1 r1 li1 ld1 op1 W (HNS1.out.below h) rfl (by omega))
        clear hs1 HCLOSE HEND
        go_wp2_with fail
        refine (HTOP1.out _ HB1A.out).mono ?_
        rintro x w3 ⟨rfl, hb3⟩
        have hov1 := HOK1.out.chain.ov
        simp only [top, List.headD_cons] at hov1
        have t3 := (hb3.block w2.heap.size (by omega)).trans HT12A.out
        have y3' := (hb3.block w1.heap.size (by omega)).trans HY11.out
        have yx3 := (hb3.block (h + 1) (by omega)).trans HYX.out
        have hbr3 := HBRA.out.trans (hb3.mono HBRA.out.size)
        have hb13 := HB1A.out.trans (hb3.mono HB1A.out.size)
        clear a0 a1 a2 a3 u0 u1 u2 u3 uf0 uf1 uf2 uf3
        obtain ⟨⟨a0, a1, a2, a3⟩, -⟩ := four y3'
        obtain ⟨⟨u0, u1, u2, u3⟩, uf0, uf1, uf2, uf3⟩ := four yx3
        obtain ⟨⟨j0, j1, j2⟩, jf0, jf1, jf2⟩ := three t3
        have o63 := own_three (ownsRow_below HOWN6.out hbr3) t3 (by decide) (.int .i64 e1.lev) (.int .i64 e1.ov) (.int .i64 (inI e1))
        have o73 := own_three (ownsRow_below HOWN7.out hbr3) t3 (by decide) (.int .i64 e1.lev) (.int .i64 e1.ov) (.int .i64 (inI e1))
        have yx4 := (three_past (.int .i64 e1.lev) (.int .i64 e1.ov) (.int .i64 (inI e1)) (show h + 1 ≠ w2.heap.size by omega)).trans yx3
        have ns4 := three_ns (.int .i64 e1.lev) (.int .i64 e1.ov) (.int .i64 (inI e1)) (HNS1.out.below hb13) (show g1 ≠ w2.heap.size by omega)
        have t4 := three_set (.int .i64 e1.lev) (.int .i64 e1.ov) (.int .i64 (inI e1)) t3
        have bel4 := three_below (.int .i64 e1.lev) (.int .i64 e1.ov) (.int .i64 (inI e1)) (HBEL.out.trans (hbr3.mono (by omega))) (show h ≤ w2.heap.size by omega)
        have HK5 := Lib.hid (fun v0 v1 v2 v3 => And.intro ((four_past v0 v1 v2 v3 (show w2.heap.size ≠ h + 1 by omega)).trans t4) (And.intro (four_set v0 v1 v2 v3 yx4) (And.intro (four_ns v0 v1 v2 v3 ns4 (ns_ne ns4 HOK1.out.chain yx4)) (And.intro (own_four o63 yx4 (by decide) v0 v1 v2 v3) (And.intro (own_four o73 yx4 (by decide) v0 v1 v2 v3) (four_below v0 v1 v2 v3 bel4 (by omega : h ≤ h + 1)))))))
        clear t3 y3' yx3 hbr3 hb13 o63 o73 yx4 ns4 t4 bel4 hb3
        have hRR : remB 22 = false := rfl
        rw [hRR] at HREM
        by_cases hov : e1.ov = -1
        · have hz := outS_self (b := b) (s := ⟨e1 :: r1, li1, ld1, op1⟩) hRR (by decide) hov
          rw [HOUT.out] at hz
          clear HOUT
          simp only [top, List.headD_cons, Prod.mk.injEq] at hz
          obtain ⟨rfl, rfl⟩ := hz
          generalize inI e1 = y4 at *
          rw [hov] at *
          go_wp2_with fail
          refine (HREM.out _).mono ?_
          rintro x w5 ⟨rfl, hw5⟩
          obtain ⟨t12, bx5, ns5, own6, own7, bel5⟩ := HK5.out _ _ _ _
          rw [hw5] at t12 bx5 ns5 own6 own7 bel5
          have hlt12 : w2.heap.size < w5.heap.size := (Array.getElem?_eq_some_iff.1 t12).1
          clear HK5 hw5 hsa a0 a1 a2 a3 u0 u1 u2 u3 uf0 uf1 uf2 uf3 HT12A HY11 HYX HBRA HB1A HREM
          obtain ⟨⟨q0, q1, q2⟩, -⟩ := three t12
          have HT12 := Lib.hid t12
          have HBX5 := Lib.hid bx5
          have HN5 := Lib.hid ns5
          have HO6 := Lib.hid own6
          have HO7 := Lib.hid own7
          have HTWO := Lib.hid HTW.out
          have HBL := Lib.hid bel5
          clear t12 bx5 ns5 own6 own7 bel5
          have kov : decide ((0 : Int) ≤ (-1 : Int)) = false := decide_eq_false (by omega)
          go_wp2_with (at_builtin; refine wpList_one rfl _ _ rfl (h + 2) _ k L1 ((e1.lev : Int)) rfl ⟨w5.heap.size, 0, none⟩ rfl (HO6.out.alloc _) (by first | exact new_one _ _ _ | exact new_set _ _ _ _ _ _ _ _) rfl (by omega) (by first | omega | (simp; omega)) ?_)
          intro v6' w6 ho6 hg6 hs6
          have n6 := grown_at hg6 (HO6.out.alloc _) (past_alloc _ _ HT12.out) (by decide)
          have bx6 := grown_at hg6 (HO6.out.alloc _) (past_alloc _ _ HBX5.out) (by decide)
          have ns6 := NsAt.grown (HN5.out.below ((Below.refl _ _).alloc (Nat.le_refl _) _)) hg6 (HO6.out.alloc _)
          have two6 := HTWO.out.grow (HO7.out.alloc (.cells #[.int .i64 ((e1.lev : Int))] 3)) (by simpa using hs6)
          have own7 := HTWO.out.kept (HO7.out.alloc _) hg6
          have bel6 := (HBL.out.alloc (by first | omega | (simp; omega)) _).grown hg6 (by simp; omega) (fun q hq => by have := (HO6.out.lt q hq).1; omega)
          have hs56 := hg6.size
          simp at hs56
          obtain ⟨⟨q0, q1, q2⟩, -⟩ := three n6
          have HO66 := Lib.hid ho6
          have HO76 := Lib.hid own7
          have HBX6 := Lib.hid bx6
          have HN6 := Lib.hid ns6
          have HTWO6 := Lib.hid two6
          have HBL6 := Lib.hid bel6
          clear ho6 own7 bx6 ns6 two6 bel6 hg6 hs6 n6 HO6 HO7 HBX5 HN5 HTWO HBL HT12
          go_wp2_with (at_builtin; refine wpList_one rfl _ _ rfl (h + 2) _ k L2 (22) rfl ⟨w6.heap.size, 0, none⟩ rfl (HO76.out.alloc _) (new_one w6 _ _) rfl (by omega) (by first | omega | (simp; omega)) ?_)
          intro v7' w7 ho7 hg7 hs7
          have bx7 := grown_at hg7 (HO76.out.alloc _) (past_alloc w6 _ HBX6.out) (by decide)
          have ns7 := NsAt.grown (HN6.out.below ((Below.refl _ _).alloc (Nat.le_refl _) _)) hg7 (HO76.out.alloc _)
          have two7 := (HTWO6.out.swap.grow (HO66.out.alloc (.cells #[.int .i64 (22)] 3)) (by simpa using hs7)).swap
          have own6 := HTWO6.out.swap.kept (HO66.out.alloc _) hg7
          have bel7 := (HBL6.out.alloc (by omega) _).grown hg7 (by simp; omega) (fun q hq => by have := (HO76.out.lt q hq).1; omega)
          have hs67 := hg7.size
          simp at hs67
          have HNI : Hid (NI b l E h w (k + 1) ⟨e1 :: r1, li1, ld1, op1⟩ g1 c1 v6' v7' w7) := Lib.hid {
            ok := HOK1.out, few := HFEW1.out, walk := HNEXT.out, ns := ns7, box := bx7
            own6 := by rw [HTK.out]; exact own6
            own7 := by rw [HTK2.out]; exact ho7
            two := two7, below := bel7, size := by omega }
          clear bx7 ns7 two7 own6 bel7 hg7 hs7 ho7 HO66 HO76 HBX6 HN6 HTWO6 HBL6 q0 q1 q2
          go_wp2
          go_roundw
          case measure => simp [RowKit.intOf]; omega
          case rel => exact ⟨k + 1, _, g1, c1, by go_num, by omega, HNI.out⟩
        · have hz := outS_over (b := b) (s := ⟨e1 :: r1, li1, ld1, op1⟩) hRR (by decide) hov
          rw [HOUT.out] at hz
          clear HOUT
          simp only [top, List.headD_cons, Prod.mk.injEq] at hz
          obtain ⟨rfl, rfl⟩ := hz
          generalize inI e1 = y4 at *
          have hov0 : 0 ≤ e1.ov := by omega
          clear hov hov1
          go_wp2_with fail
          refine (HREM.out _).mono ?_
          rintro x w5 ⟨rfl, hw5⟩
          obtain ⟨t12, bx5, ns5, own6, own7, bel5⟩ := HK5.out _ _ _ _
          rw [hw5] at t12 bx5 ns5 own6 own7 bel5
          have hlt12 : w2.heap.size < w5.heap.size := (Array.getElem?_eq_some_iff.1 t12).1
          clear HK5 hw5 hsa a0 a1 a2 a3 u0 u1 u2 u3 uf0 uf1 uf2 uf3 HT12A HY11 HYX HBRA HB1A HREM
          obtain ⟨⟨q0, q1, q2⟩, -⟩ := three t12
          have HT12 := Lib.hid t12
          have HBX5 := Lib.hid bx5
          have HN5 := Lib.hid ns5
          have HO6 := Lib.hid own6
          have HO7 := Lib.hid own7
          have HTWO := Lib.hid HTW.out
          have HBL := Lib.hid bel5
          clear t12 bx5 ns5 own6 own7 bel5
          have kov : decide ((0 : Int) ≤ (e1.ov : Int)) = true := decide_eq_true (by omega)
          go_wp2_with (at_builtin; refine wpList_one rfl _ _ rfl (h + 2) _ k L1 ((e1.lev : Int)) rfl ⟨w5.heap.size, 0, none⟩ rfl (HO6.out.alloc _) (by first | exact new_one _ _ _ | exact new_set _ _ _ _ _ _ _ _) rfl (by omega) (by first | omega | (simp; omega)) ?_)
          intro v6' w6 ho6 hg6 hs6
          have n6 := grown_at hg6 (HO6.out.alloc _) (past_alloc _ _ HT12.out) (by decide)
          have bx6 := grown_at hg6 (HO6.out.alloc _) (past_alloc _ _ HBX5.out) (by decide)
          have ns6 := NsAt.grown (HN5.out.below ((Below.refl _ _).alloc (Nat.le_refl _) _)) hg6 (HO6.out.alloc _)
          have two6 := HTWO.out.grow (HO7.out.alloc (.cells #[.int .i64 ((e1.lev : Int))] 3)) (by simpa using hs6)
          have own7 := HTWO.out.kept (HO7.out.alloc _) hg6
          have bel6 := (HBL.out.alloc (by first | omega | (simp; omega)) _).grown hg6 (by simp; omega) (fun q hq => by have := (HO6.out.lt q hq).1; omega)
          have hs56 := hg6.size
          simp at hs56
          obtain ⟨⟨q0, q1, q2⟩, -⟩ := three n6
          have HO66 := Lib.hid ho6
          have HO76 := Lib.hid own7
          have HBX6 := Lib.hid bx6
          have HN6 := Lib.hid ns6
          have HTWO6 := Lib.hid two6
          have HBL6 := Lib.hid bel6
          clear ho6 own7 bx6 ns6 two6 bel6 hg6 hs6 n6 HO6 HO7 HBX5 HN5 HTWO HBL HT12
          go_wp2_with (at_builtin; refine wpList_one rfl _ _ rfl (h + 2) _ k L2 (e1.ov) rfl ⟨w6.heap.size, 0, none⟩ rfl (HO76.out.alloc _) (new_one w6 _ _) rfl (by omega) (by first | omega | (simp; omega)) ?_)
          intro v7' w7 ho7 hg7 hs7
          have bx7 := grown_at hg7 (HO76.out.alloc _) (past_alloc w6 _ HBX6.out) (by decide)
          have ns7 := NsAt.grown (HN6.out.below ((Below.refl _ _).alloc (Nat.le_refl _) _)) hg7 (HO76.out.alloc _)
          have two7 := (HTWO6.out.swap.grow (HO66.out.alloc (.cells #[.int .i64 (e1.ov)] 3)) (by simpa using hs7)).swap
          have own6 := HTWO6.out.swap.kept (HO66.out.alloc _) hg7
          have bel7 := (HBL6.out.alloc (by omega) _).grown hg7 (by simp; omega) (fun q hq => by have := (HO76.out.lt q hq).1; omega)
          have hs67 := hg7.size
          simp at hs67
          have HNI : Hid (NI b l E h w (k + 1) ⟨e1 :: r1, li1, ld1, op1⟩ g1 c1 v6' v7' w7) := Lib.hid {
            ok := HOK1.out, few := HFEW1.out, walk := HNEXT.out, ns := ns7, box := bx7
            own6 := by rw [HTK.out]; exact own6
            own7 := by rw [HTK2.out]; exact ho7
            two := two7, below := bel7, size := by omega }
          clear bx7 ns7 two7 own6 bel7 hg7 hs7 ho7 HO66 HO76 HBX6 HN6 HTWO6 HBL6 q0 q1 q2
          go_wp2
          go_roundw
          case measure => simp [RowKit.intOf]; omega
          case rel => exact ⟨k + 1, _, g1, c1, by go_num, by omega, HNI.out⟩
      · have k22 : (cc == 22) = false := by simpa using h22
        have HK5 := Lib.hid (fun v0 v1 v2 v3 => And.intro ((four_past v0 v1 v2 v3 (show w2.heap.size ≠ h + 1 by omega)).trans HT12A.out) (And.intro (four_set v0 v1 v2 v3 HYX.out) (And.intro (four_ns v0 v1 v2 v3 (HNS1.out.below HB1A.out) (ns_ne (HNS1.out.below HB1A.out) HOK1.out.chain HYX.out)) (And.intro (own_four (ownsRow_below HOWN6.out HBRA.out) HYX.out (by decide) v0 v1 v2 v3) (And.intro (own_four (ownsRow_below HOWN7.out HBRA.out) HYX.out (by decide) v0 v1 v2 v3) (four_below v0 v1 v2 v3 (HBEL.out.trans (HBRA.out.mono (by omega))) (by omega : h ≤ h + 1)))))))
        cases hR : remB cc with
        | true =>
          have hz := outS_rem (b := b) (s := s2) hR
          rw [HOUT.out] at hz
          simp only [Prod.mk.injEq] at hz
          obtain ⟨rfl, rfl⟩ := hz
          have k10 : (z2 == 10) = false := by
            have h10 : z2 ≠ 10 := fun h => by rw [h] at hR; cases hR
            simpa using h10
          rw [hR] at HREM
          clear HOUT HCLOSE HEND hR
          go_wp2_with fail
          refine (HREM.out _).mono ?_
          rintro x w5 ⟨rfl, hw5⟩
          obtain ⟨t12, bx5, ns5, own6, own7, bel5⟩ := HK5.out _ _ _ _
          rw [hw5] at t12 bx5 ns5 own6 own7 bel5
          have hlt12 : w2.heap.size < w5.heap.size := (Array.getElem?_eq_some_iff.1 t12).1
          clear HK5 hw5 hsa a0 a1 a2 a3 u0 u1 u2 u3 uf0 uf1 uf2 uf3 HT12A HY11 HYX HBRA HB1A HREM
          obtain ⟨⟨j0, j1, j2⟩, jf0, jf1, jf2⟩ := three t12
          have bx5 := (three_past (.int .i64 (-1)) (.int .i64 (-1)) (.int .i64 0) (show h + 1 ≠ w2.heap.size by omega)).trans bx5
          have ns5 := three_ns (.int .i64 (-1)) (.int .i64 (-1)) (.int .i64 0) ns5 (show g1 ≠ w2.heap.size by omega)
          have own6 := own_three own6 t12 (by decide) (.int .i64 (-1)) (.int .i64 (-1)) (.int .i64 0)
          have own7 := own_three own7 t12 (by decide) (.int .i64 (-1)) (.int .i64 (-1)) (.int .i64 0)
          have bel5 := three_below (.int .i64 (-1)) (.int .i64 (-1)) (.int .i64 0) bel5 (show h ≤ w2.heap.size by omega)
          have t12 := three_set (.int .i64 (-1)) (.int .i64 (-1)) (.int .i64 0) t12
          have HT12 := Lib.hid t12
          have HBX5 := Lib.hid bx5
          have HN5 := Lib.hid ns5
          have HO6 := Lib.hid own6
          have HO7 := Lib.hid own7
          have HTWO := Lib.hid HTW.out
          have HBL := Lib.hid bel5
          clear t12 bx5 ns5 own6 own7 bel5
          have kov : decide ((0 : Int) ≤ (-1 : Int)) = false := decide_eq_false (by omega)
          go_wp2_with (at_builtin; refine wpList_one rfl _ _ rfl (h + 2) _ k L1 ((-1 : Int)) rfl ⟨w5.heap.size, 0, none⟩ rfl (HO6.out.alloc _) (by first | exact new_one _ _ _ | exact new_set _ _ _ _ _ _ _ _) rfl (by omega) (by first | omega | (simp; omega)) ?_)
          intro v6' w6 ho6 hg6 hs6
          have n6 := grown_at hg6 (HO6.out.alloc _) (past_alloc _ _ HT12.out) (by decide)
          have bx6 := grown_at hg6 (HO6.out.alloc _) (past_alloc _ _ HBX5.out) (by decide)
          have ns6 := NsAt.grown (HN5.out.below ((Below.refl _ _).alloc (Nat.le_refl _) _)) hg6 (HO6.out.alloc _)
          have two6 := HTWO.out.grow (HO7.out.alloc (.cells #[.int .i64 ((-1 : Int))] 3)) (by simpa using hs6)
          have own7 := HTWO.out.kept (HO7.out.alloc _) hg6
          have bel6 := (HBL.out.alloc (by first | omega | (simp; omega)) _).grown hg6 (by simp; omega) (fun q hq => by have := (HO6.out.lt q hq).1; omega)
          have hs56 := hg6.size
          simp at hs56
          obtain ⟨⟨q0, q1, q2⟩, -⟩ := three n6
          have HO66 := Lib.hid ho6
          have HO76 := Lib.hid own7
          have HBX6 := Lib.hid bx6
          have HN6 := Lib.hid ns6
          have HTWO6 := Lib.hid two6
          have HBL6 := Lib.hid bel6
          clear ho6 own7 bx6 ns6 two6 bel6 hg6 hs6 n6 HO6 HO7 HBX5 HN5 HTWO HBL HT12
          go_wp2_with (at_builtin; refine wpList_one rfl _ _ rfl (h + 2) _ k L2 (z2) rfl ⟨w6.heap.size, 0, none⟩ rfl (HO76.out.alloc _) (new_one w6 _ _) rfl (by omega) (by first | omega | (simp; omega)) ?_)
          intro v7' w7 ho7 hg7 hs7
          have bx7 := grown_at hg7 (HO76.out.alloc _) (past_alloc w6 _ HBX6.out) (by decide)
          have ns7 := NsAt.grown (HN6.out.below ((Below.refl _ _).alloc (Nat.le_refl _) _)) hg7 (HO76.out.alloc _)
          have two7 := (HTWO6.out.swap.grow (HO66.out.alloc (.cells #[.int .i64 (z2)] 3)) (by simpa using hs7)).swap
          have own6 := HTWO6.out.swap.kept (HO66.out.alloc _) hg7
          have bel7 := (HBL6.out.alloc (by omega) _).grown hg7 (by simp; omega) (fun q hq => by have := (HO76.out.lt q hq).1; omega)
          have hs67 := hg7.size
          simp at hs67
          have HNI : Hid (NI b l E h w (k + 1) ⟨e1 :: r1, li1, ld1, op1⟩ g1 c1 v6' v7' w7) := Lib.hid {
            ok := HOK1.out, few := HFEW1.out, walk := HNEXT.out, ns := ns7, box := bx7
            own6 := by rw [HTK.out]; exact own6
            own7 := by rw [HTK2.out]; exact ho7
            two := two7, below := bel7, size := by omega }
          clear bx7 ns7 two7 own6 bel7 hg7 hs7 ho7 HO66 HO76 HBX6 HN6 HTWO6 HBL6 q0 q1 q2
          go_wp2
          go_roundw
          case measure => simp [RowKit.intOf]; omega
          case rel => exact ⟨k + 1, _, g1, c1, by go_num, by omega, HNI.out⟩
        | false =>
          have hRR := hR
          rw [hR] at HREM
          by_cases h10 : cc = 10
          · subst h10
            have hz := outS_B (b := b) (s := s2) hRR
            rw [HOUT.out] at hz
            simp only [Prod.mk.injEq] at hz
            obtain ⟨rfl, rfl⟩ := hz
            clear HOUT HCLOSE HEND hR hRR
            go_wp2_with fail
            refine (HREM.out _).mono ?_
            rintro x w5 ⟨rfl, hw5⟩
            obtain ⟨t12, bx5, ns5, own6, own7, bel5⟩ := HK5.out _ _ _ _
            rw [hw5] at t12 bx5 ns5 own6 own7 bel5
            have hlt12 : w2.heap.size < w5.heap.size := (Array.getElem?_eq_some_iff.1 t12).1
            clear HK5 hw5 hsa a0 a1 a2 a3 u0 u1 u2 u3 uf0 uf1 uf2 uf3 HT12A HY11 HYX HBRA HB1A HREM
            obtain ⟨⟨j0, j1, j2⟩, jf0, jf1, jf2⟩ := three t12
            have bx5 := (three_past (.int .i64 b) (.int .i64 (-1)) (.int .i64 0) (show h + 1 ≠ w2.heap.size by omega)).trans bx5
            have ns5 := three_ns (.int .i64 b) (.int .i64 (-1)) (.int .i64 0) ns5 (show g1 ≠ w2.heap.size by omega)
            have own6 := own_three own6 t12 (by decide) (.int .i64 b) (.int .i64 (-1)) (.int .i64 0)
            have own7 := own_three own7 t12 (by decide) (.int .i64 b) (.int .i64 (-1)) (.int .i64 0)
            have bel5 := three_below (.int .i64 b) (.int .i64 (-1)) (.int .i64 0) bel5 (show h ≤ w2.heap.size by omega)
            have t12 := three_set (.int .i64 b) (.int .i64 (-1)) (.int .i64 0) t12
            have HT12 := Lib.hid t12
            have HBX5 := Lib.hid bx5
            have HN5 := Lib.hid ns5
            have HO6 := Lib.hid own6
            have HO7 := Lib.hid own7
            have HTWO := Lib.hid HTW.out
            have HBL := Lib.hid bel5
            clear t12 bx5 ns5 own6 own7 bel5
            have kov : decide ((0 : Int) ≤ (-1 : Int)) = false := decide_eq_false (by omega)
            go_wp2_with (at_builtin; refine wpList_one rfl _ _ rfl (h + 2) _ k L1 ((b : Int)) rfl ⟨w5.heap.size, 0, none⟩ rfl (HO6.out.alloc _) (by first | exact new_one _ _ _ | exact new_set _ _ _ _ _ _ _ _) rfl (by omega) (by first | omega | (simp; omega)) ?_)
            intro v6' w6 ho6 hg6 hs6
            have n6 := grown_at hg6 (HO6.out.alloc _) (past_alloc _ _ HT12.out) (by decide)
            have bx6 := grown_at hg6 (HO6.out.alloc _) (past_alloc _ _ HBX5.out) (by decide)
            have ns6 := NsAt.grown (HN5.out.below ((Below.refl _ _).alloc (Nat.le_refl _) _)) hg6 (HO6.out.alloc _)
            have two6 := HTWO.out.grow (HO7.out.alloc (.cells #[.int .i64 ((b : Int))] 3)) (by simpa using hs6)
            have own7 := HTWO.out.kept (HO7.out.alloc _) hg6
            have bel6 := (HBL.out.alloc (by first | omega | (simp; omega)) _).grown hg6 (by simp; omega) (fun q hq => by have := (HO6.out.lt q hq).1; omega)
            have hs56 := hg6.size
            simp at hs56
            obtain ⟨⟨q0, q1, q2⟩, -⟩ := three n6
            have HO66 := Lib.hid ho6
            have HO76 := Lib.hid own7
            have HBX6 := Lib.hid bx6
            have HN6 := Lib.hid ns6
            have HTWO6 := Lib.hid two6
            have HBL6 := Lib.hid bel6
            clear ho6 own7 bx6 ns6 two6 bel6 hg6 hs6 n6 HO6 HO7 HBX5 HN5 HTWO HBL HT12
            go_wp2_with (at_builtin; refine wpList_one rfl _ _ rfl (h + 2) _ k L2 (10) rfl ⟨w6.heap.size, 0, none⟩ rfl (HO76.out.alloc _) (new_one w6 _ _) rfl (by omega) (by first | omega | (simp; omega)) ?_)
            intro v7' w7 ho7 hg7 hs7
            have bx7 := grown_at hg7 (HO76.out.alloc _) (past_alloc w6 _ HBX6.out) (by decide)
            have ns7 := NsAt.grown (HN6.out.below ((Below.refl _ _).alloc (Nat.le_refl _) _)) hg7 (HO76.out.alloc _)
            have two7 := (HTWO6.out.swap.grow (HO66.out.alloc (.cells #[.int .i64 (10)] 3)) (by simpa using hs7)).swap
            have own6 := HTWO6.out.swap.kept (HO66.out.alloc _) hg7
            have bel7 := (HBL6.out.alloc (by omega) _).grown hg7 (by simp; omega) (fun q hq => by have := (HO76.out.lt q hq).1; omega)
            have hs67 := hg7.size
            simp at hs67
            have HNI : Hid (NI b l E h w (k + 1) ⟨e1 :: r1, li1, ld1, op1⟩ g1 c1 v6' v7' w7) := Lib.hid {
              ok := HOK1.out, few := HFEW1.out, walk := HNEXT.out, ns := ns7, box := bx7
              own6 := by rw [HTK.out]; exact own6
              own7 := by rw [HTK2.out]; exact ho7
              two := two7, below := bel7, size := by omega }
            clear bx7 ns7 two7 own6 bel7 hg7 hs7 ho7 HO66 HO76 HBX6 HN6 HTWO6 HBL6 q0 q1 q2
            go_wp2
            go_roundw
            case measure => simp [RowKit.intOf]; omega
            case rel => exact ⟨k + 1, _, g1, c1, by go_num, by omega, HNI.out⟩
          · have k10 : (cc == 10) = false := by simpa using h10
            have hs2 := HCLOSE.out h22 hRR
            rw [hs2] at HOUT
            have hov1 := HOKS.out.chain.ov
            simp only [top, List.headD_cons] at hov1
            by_cases hov : e.ov = -1
            · have hz := outS_self (b := b) (s := ⟨e :: r, li, ld, op⟩) hRR h10 hov
              rw [HOUT.out] at hz
              clear hs2 HCLOSE HEND HOUT
              simp only [top, List.headD_cons, Prod.mk.injEq] at hz
              obtain ⟨rfl, rfl⟩ := hz
              have hov0 : e.ov < 0 := by omega
              clear hov hov1
              go_wp2_with fail
              refine (HREM.out _).mono ?_
              rintro x w5 ⟨rfl, hw5⟩
              obtain ⟨t12, bx5, ns5, own6, own7, bel5⟩ := HK5.out _ _ _ _
              rw [hw5] at t12 bx5 ns5 own6 own7 bel5
              have hlt12 : w2.heap.size < w5.heap.size := (Array.getElem?_eq_some_iff.1 t12).1
              clear HK5 hw5 hsa a0 a1 a2 a3 u0 u1 u2 u3 uf0 uf1 uf2 uf3 HT12A HY11 HYX HBRA HB1A HREM
              obtain ⟨⟨q0, q1, q2⟩, -⟩ := three t12
              have HT12 := Lib.hid t12
              have HBX5 := Lib.hid bx5
              have HN5 := Lib.hid ns5
              have HO6 := Lib.hid own6
              have HO7 := Lib.hid own7
              have HTWO := Lib.hid HTW.out
              have HBL := Lib.hid bel5
              clear t12 bx5 ns5 own6 own7 bel5
              have kov : decide ((0 : Int) ≤ (e.ov : Int)) = false := decide_eq_false (by omega)
              go_wp2_with (at_builtin; refine wpList_one rfl _ _ rfl (h + 2) _ k L1 ((e.lev : Int)) rfl ⟨w5.heap.size, 0, none⟩ rfl (HO6.out.alloc _) (by first | exact new_one _ _ _ | exact new_set _ _ _ _ _ _ _ _) rfl (by omega) (by first | omega | (simp; omega)) ?_)
              intro v6' w6 ho6 hg6 hs6
              have n6 := grown_at hg6 (HO6.out.alloc _) (past_alloc _ _ HT12.out) (by decide)
              have bx6 := grown_at hg6 (HO6.out.alloc _) (past_alloc _ _ HBX5.out) (by decide)
              have ns6 := NsAt.grown (HN5.out.below ((Below.refl _ _).alloc (Nat.le_refl _) _)) hg6 (HO6.out.alloc _)
              have two6 := HTWO.out.grow (HO7.out.alloc (.cells #[.int .i64 ((e.lev : Int))] 3)) (by simpa using hs6)
              have own7 := HTWO.out.kept (HO7.out.alloc _) hg6
              have bel6 := (HBL.out.alloc (by first | omega | (simp; omega)) _).grown hg6 (by simp; omega) (fun q hq => by have := (HO6.out.lt q hq).1; omega)
              have hs56 := hg6.size
              simp at hs56
              obtain ⟨⟨q0, q1, q2⟩, -⟩ := three n6
              have HO66 := Lib.hid ho6
              have HO76 := Lib.hid own7
              have HBX6 := Lib.hid bx6
              have HN6 := Lib.hid ns6
              have HTWO6 := Lib.hid two6
              have HBL6 := Lib.hid bel6
              clear ho6 own7 bx6 ns6 two6 bel6 hg6 hs6 n6 HO6 HO7 HBX5 HN5 HTWO HBL HT12
              go_wp2_with (at_builtin; refine wpList_one rfl _ _ rfl (h + 2) _ k L2 (z2) rfl ⟨w6.heap.size, 0, none⟩ rfl (HO76.out.alloc _) (new_one w6 _ _) rfl (by omega) (by first | omega | (simp; omega)) ?_)
              intro v7' w7 ho7 hg7 hs7
              have bx7 := grown_at hg7 (HO76.out.alloc _) (past_alloc w6 _ HBX6.out) (by decide)
              have ns7 := NsAt.grown (HN6.out.below ((Below.refl _ _).alloc (Nat.le_refl _) _)) hg7 (HO76.out.alloc _)
              have two7 := (HTWO6.out.swap.grow (HO66.out.alloc (.cells #[.int .i64 (z2)] 3)) (by simpa using hs7)).swap
              have own6 := HTWO6.out.swap.kept (HO66.out.alloc _) hg7
              have bel7 := (HBL6.out.alloc (by omega) _).grown hg7 (by simp; omega) (fun q hq => by have := (HO76.out.lt q hq).1; omega)
              have hs67 := hg7.size
              simp at hs67
              have HNI : Hid (NI b l E h w (k + 1) ⟨e1 :: r1, li1, ld1, op1⟩ g1 c1 v6' v7' w7) := Lib.hid {
                ok := HOK1.out, few := HFEW1.out, walk := HNEXT.out, ns := ns7, box := bx7
                own6 := by rw [HTK.out]; exact own6
                own7 := by rw [HTK2.out]; exact ho7
                two := two7, below := bel7, size := by omega }
              clear bx7 ns7 two7 own6 bel7 hg7 hs7 ho7 HO66 HO76 HBX6 HN6 HTWO6 HBL6 q0 q1 q2
              go_wp2
              go_roundw
              case measure => simp [RowKit.intOf]; omega
              case rel => exact ⟨k + 1, _, g1, c1, by go_num, by omega, HNI.out⟩
            · have hz := outS_over (b := b) (s := ⟨e :: r, li, ld, op⟩) hRR h10 hov
              rw [HOUT.out] at hz
              clear hs2 HCLOSE HEND HOUT
              simp only [top, List.headD_cons, Prod.mk.injEq] at hz
              obtain ⟨rfl, rfl⟩ := hz
              have hov0 : 0 ≤ e.ov := by omega
              clear hov hov1
              go_wp2_with fail
              refine (HREM.out _).mono ?_
              rintro x w5 ⟨rfl, hw5⟩
              obtain ⟨t12, bx5, ns5, own6, own7, bel5⟩ := HK5.out _ _ _ _
              rw [hw5] at t12 bx5 ns5 own6 own7 bel5
              have hlt12 : w2.heap.size < w5.heap.size := (Array.getElem?_eq_some_iff.1 t12).1
              clear HK5 hw5 hsa a0 a1 a2 a3 u0 u1 u2 u3 uf0 uf1 uf2 uf3 HT12A HY11 HYX HBRA HB1A HREM
              obtain ⟨⟨q0, q1, q2⟩, -⟩ := three t12
              have HT12 := Lib.hid t12
              have HBX5 := Lib.hid bx5
              have HN5 := Lib.hid ns5
              have HO6 := Lib.hid own6
              have HO7 := Lib.hid own7
              have HTWO := Lib.hid HTW.out
              have HBL := Lib.hid bel5
              clear t12 bx5 ns5 own6 own7 bel5
              have kov : decide ((0 : Int) ≤ (e.ov : Int)) = true := decide_eq_true (by omega)
              go_wp2_with (at_builtin; refine wpList_one rfl _ _ rfl (h + 2) _ k L1 ((e.lev : Int)) rfl ⟨w5.heap.size, 0, none⟩ rfl (HO6.out.alloc _) (by first | exact new_one _ _ _ | exact new_set _ _ _ _ _ _ _ _) rfl (by omega) (by first | omega | (simp; omega)) ?_)
              intro v6' w6 ho6 hg6 hs6
              have n6 := grown_at hg6 (HO6.out.alloc _) (past_alloc _ _ HT12.out) (by decide)
              have bx6 := grown_at hg6 (HO6.out.alloc _) (past_alloc _ _ HBX5.out) (by decide)
              have ns6 := NsAt.grown (HN5.out.below ((Below.refl _ _).alloc (Nat.le_refl _) _)) hg6 (HO6.out.alloc _)
              have two6 := HTWO.out.grow (HO7.out.alloc (.cells #[.int .i64 ((e.lev : Int))] 3)) (by simpa using hs6)
              have own7 := HTWO.out.kept (HO7.out.alloc _) hg6
              have bel6 := (HBL.out.alloc (by first | omega | (simp; omega)) _).grown hg6 (by simp; omega) (fun q hq => by have := (HO6.out.lt q hq).1; omega)
              have hs56 := hg6.size
              simp at hs56
              obtain ⟨⟨q0, q1, q2⟩, -⟩ := three n6
              have HO66 := Lib.hid ho6
              have HO76 := Lib.hid own7
              have HBX6 := Lib.hid bx6
              have HN6 := Lib.hid ns6
              have HTWO6 := Lib.hid two6
              have HBL6 := Lib.hid bel6
              clear ho6 own7 bx6 ns6 two6 bel6 hg6 hs6 n6 HO6 HO7 HBX5 HN5 HTWO HBL HT12
              go_wp2_with (at_builtin; refine wpList_one rfl _ _ rfl (h + 2) _ k L2 (e.ov) rfl ⟨w6.heap.size, 0, none⟩ rfl (HO76.out.alloc _) (new_one w6 _ _) rfl (by omega) (by first | omega | (simp; omega)) ?_)
              intro v7' w7 ho7 hg7 hs7
              have bx7 := grown_at hg7 (HO76.out.alloc _) (past_alloc w6 _ HBX6.out) (by decide)
              have ns7 := NsAt.grown (HN6.out.below ((Below.refl _ _).alloc (Nat.le_refl _) _)) hg7 (HO76.out.alloc _)
              have two7 := (HTWO6.out.swap.grow (HO66.out.alloc (.cells #[.int .i64 (e.ov)] 3)) (by simpa using hs7)).swap
              have own6 := HTWO6.out.swap.kept (HO66.out.alloc _) hg7
              have bel7 := (HBL6.out.alloc (by omega) _).grown hg7 (by simp; omega) (fun q hq => by have := (HO76.out.lt q hq).1; omega)
              have hs67 := hg7.size
              simp at hs67
              have HNI : Hid (NI b l E h w (k + 1) ⟨e1 :: r1, li1, ld1, op1⟩ g1 c1 v6' v7' w7) := Lib.hid {
                ok := HOK1.out, few := HFEW1.out, walk := HNEXT.out, ns := ns7, box := bx7
                own6 := by rw [HTK.out]; exact own6
                own7 := by rw [HTK2.out]; exact ho7
                two := two7, below := bel7, size := by omega }
              clear bx7 ns7 two7 own6 bel7 hg7 hs7 ho7 HO66 HO76 HBX6 HN6 HTWO6 HBL6 q0 q1 q2
              go_wp2
              go_roundw
              case measure => simp [RowKit.intOf]; omega
              case rel => exact ⟨k + 1, _, g1, c1, by go_num, by omega, HNI.out⟩
    · obtain rfl : k = n := by omega
      have hEk : E.length = k := HEL.out.trans HL.out
      have h6 := hni.own6
      have h7 := hni.own7
      rw [List.take_of_length_le (by omega)] at h6 h7
      obtain ⟨A1, c1, rfl, hA1⟩ := intsAt_icl h6 (by simp [hEk])
      obtain ⟨A2, c2, rfl, hA2⟩ := intsAt_icl h7 (by simp [hEk])
      have HF := Lib.hid (And.intro (h6.mono (Nat.le_add_right h 2)) (And.intro (h7.mono (Nat.le_add_right h 2)) (And.intro hni.two hni.below)))
      clear h6 h7 hni hA1 hA2
      go_wp2
      go_ret2
      obtain ⟨hA1, hA2, htw, hbl⟩ := HF.out
      exact ⟨A1, c1, A2, c2, rfl, hH ▸ hA1, hH ▸ hA2, htw, hH ▸ hbl⟩
theorem nexplicit_any (A : Option Addr) (l : List Int) (b n m : Nat) (w : World) (hb : b ≤ 1) (hl : l.length = n) (hR : IntsAt w A l) (hn : n ≤ 1000000) (hnm : n ≤ m) :
    Calls Try.prog 36 #[.slice A n m, .int .i64 b] w fun x w' => TwoPost ((explL l b).map (·.1)) ((explL l b).map (·.2)) n w x w' := by
  refine (nexplicit_own A l b n m w hb hl hR hn hnm).mono ?_
  rintro x w' ⟨A1, c1, A2, c2, rfl, h6, h7, -, hbl⟩
  obtain ⟨A1', c1', e1, hA1⟩ := intsAt_icl h6 (by rw [List.length_map, explL_len, hl])
  obtain ⟨A2', c2', e2, hA2⟩ := intsAt_icl h7 (by rw [List.length_map, explL_len, hl])
  injection e1 with e1 _ _
  injection e2 with e2 _ _
  subst e1 e2
  exact ⟨_, c1, _, c2, rfl, hA1, hA2, hbl⟩
end Go.Proofs.Ytehndhkcmccpmaa.Lv
