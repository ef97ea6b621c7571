/-
  Proved here: what the document's own State.Top, Next, Fits, Without, With return, for what is open in memory; they leave what was in memory. Condition: what is open is as it may be.
-/
import Derived.Test.YtehndhkcmccpmaaLvMem
import Derived.Test.YtehndhkcmccpmaaStepKit
import Derived.Test.YtehndhkcmccpmaaArrKit
set_option linter.unusedVariables false
namespace Go.Proofs.Ytehndhkcmccpmaa.Lv
open Go Go.RowKit Go.Lib Go.Proofs.Ytehndhkcmccpmaa.Cl

def inI (e : E) : Int := if e.iso = true then 1 else 0
def nC (e : E) : List Value := [.int .i64 e.lev, .int .i64 e.ov, .int .i64 (inI e)]
/-- The cells of a State's row. -/
def nsC : List E → List Value
  | [] => []
  | e :: r => nsC r ++ nC e
theorem nsC_len : ∀ (es : List E), (nsC es).length = es.length * 3
  | [] => rfl
  | e :: r => by simp [nsC, nC, nsC_len r]; omega
theorem nsC_last (e : E) (r : List E) : (nsC (e :: r))[r.length * 3]? = some (.int .i64 e.lev) ∧ (nsC (e :: r))[r.length * 3 + 1]? = some (.int .i64 e.ov) ∧ (nsC (e :: r))[r.length * 3 + 2]? = some (.int .i64 (inI e)) := by
  have h := nsC_len r
  refine ⟨?_, ?_, ?_⟩
  · rw [nsC, List.getElem?_append_right (by omega), h, Nat.sub_self]; rfl
  · rw [nsC, List.getElem?_append_right (by omega), h, Nat.add_sub_cancel_left]; rfl
  · rw [nsC, List.getElem?_append_right (by omega), h, Nat.add_sub_cancel_left]; rfl
theorem nsC_one : ∀ (es : List E), ∀ u ∈ nsC es, u.oneCell' = true
  | [], u, hu => by cases hu
  | e :: r, u, hu => by
    rcases List.mem_append.1 hu with h | h
    · exact nsC_one r u h
    · simp only [nC, List.mem_cons, List.not_mem_nil, or_false] at h
      rcases h with rfl | rfl | rfl <;> rfl
/-- A State's row lies at block g, with room c. -/
def NsAt (w : World) (g c : Nat) (es : List E) : Prop := g < w.heap.size ∧ es.length ≤ c ∧ (∀ j u, (nsC es)[j]? = some u → w.cell? ⟨g, j, none⟩ = some u) ∧ ∃ cs, w.heap[g]? = some (.cells cs 73 (0, 0))
theorem NsAt.below {w w' : World} {g c : Nat} {es : List E} (h : NsAt w g c es) (hb : Below w.heap.size w w') : NsAt w' g c es :=
  ⟨Nat.lt_of_lt_of_le h.1 hb.size, h.2.1, fun j u hu => (hb.cell (p := ⟨g, j, none⟩) h.1).trans (h.2.2.1 j u hu), by obtain ⟨cs, hcs⟩ := h.2.2.2; exact ⟨cs, (hb.block g h.1).trans hcs⟩⟩
theorem NsAt.store {w : World} {g c : Nat} {es : List E} (h : NsAt w g c es) {a : Addr} (ha : g ≠ a.block) (u : Value) : NsAt (w.setCell a u) g c es :=
  ⟨by simpa using h.1, h.2.1, fun j u hu => (World.cell?_of_block (w := w) (a := ⟨g, j, none⟩) (Below.heap_setCell _ _ _ _ ha)).trans (h.2.2.1 j u hu), by obtain ⟨cs, hcs⟩ := h.2.2.2; exact ⟨cs, (Below.heap_setCell _ _ _ _ ha).trans hcs⟩⟩
theorem NsAt.last {w : World} {g c n : Nat} {e : E} {r : List E} (h : NsAt w g c (e :: r)) (hn : r.length = n) : w.cell? ⟨g, n * 3, none⟩ = some (.int .i64 e.lev) ∧ w.cell? ⟨g, n * 3 + 1, none⟩ = some (.int .i64 e.ov) ∧ w.cell? ⟨g, n * 3 + 2, none⟩ = some (.int .i64 (inI e)) := by
  subst hn
  obtain ⟨h0, h1, h2⟩ := nsC_last e r
  exact ⟨h.2.2.1 _ _ h0, h.2.2.1 _ _ h1, h.2.2.1 _ _ h2⟩
theorem NsAt.off {w : World} {g c : Nat} {e : E} {r : List E} (h : NsAt w g c (e :: r)) : NsAt w g c r := by
  refine ⟨h.1, by have := h.2.1; simp at this; omega, fun j u hu => h.2.2.1 j u ?_, h.2.2.2⟩
  obtain ⟨hj, -⟩ := List.getElem?_eq_some_iff.1 hu
  rw [nsC, List.getElem?_append_left hj]
  exact hu
theorem nsAt_own {w : World} {B : Nat} {v : Value} {n : Nat} {es : List E} (h : w.ownsRow B 73 3 v n (nsC es)) (hn : es.length = n) (h0 : 0 < n) : ∃ g c, v = .slice (some ⟨g, 0, none⟩) n c ∧ NsAt w g c es ∧ B ≤ g := by
  subst hn
  obtain ⟨g, c, rfl, hg, hl⟩ := h.form h0
  refine ⟨g, c, rfl, ⟨hl, ?_, fun j u hu => ?_, ?_⟩, hg⟩
  · rcases h.2 with ⟨h1, _⟩ | ⟨g1, c1, cur, hv, _, _, hle, _⟩
    · cases h1
    · cases hv; exact hle
  · have := h.cells (g := g) rfl j u hu
    have hadd : (⟨g, 0, none⟩ : Addr).add j = ⟨g, 0 + j, none⟩ := by unfold Addr.add; split <;> simp_all
    rw [hadd, Nat.zero_add] at this
    exact this
  · rcases h.2 with ⟨h1, _⟩ | ⟨g1, c1, cur, hv, _, hh, _⟩
    · cases h1
    · cases hv; exact ⟨cur, hh⟩
/-- A row of numbers is none of a State's. -/
theorem NsAt.ints {w : World} {g c base n : Nat} {es : List E} {v : Value} {xs : List Value} (h : NsAt w g c es) (ho : w.ownsRow base 3 1 v n xs) : v.ownBlock ≠ some g := by
  intro he
  obtain ⟨cs, hcs⟩ := h.2.2.2
  rcases ho.2 with ⟨rfl, _⟩ | ⟨g1, c1, cur, rfl, _, hh, _⟩
  · cases he
  · have he2 : some g1 = some g := he
    injection he2 with he2
    subst he2
    rw [hcs] at hh
    injection hh with hh
    injection hh with _ hh _
    exact absurd hh (by decide)
theorem infoN : (Try.prog.info? 73).map (·.size) = some 3 := by kernel_rfl
theorem infoN3 : (Try.prog.info? 73).map (fun i => (i.zero, i.size, i.bytes)) = some (some (.agg #[.int .i64 0, .int .i64 0, .int .i64 0]), 3, 24) := by kernel_rfl
theorem infoS : (Try.prog.info? 76).map (·.size) = some 4 := by kernel_rfl
theorem cell_at (w : World) (o : Obj) {k : Nat} (j : Nat) (h : k < w.heap.size) : (w.alloc o).cell? ⟨k, j, none⟩ = w.cell? ⟨k, j, none⟩ := World.cell?_of_block (w := w) (Below.heap_alloc w o k h)
/-- Two new variables. -/
theorem two_new (w : World) (o1 o2 : Obj) : ((w.alloc o1).alloc o2).heap[w.heap.size]? = some o1 ∧ ((w.alloc o1).alloc o2).heap[w.heap.size + 1]? = some o2 ∧ Below w.heap.size w ((w.alloc o1).alloc o2) ∧ ((w.alloc o1).alloc o2).heap.size = w.heap.size + 2 := by
  have s1 : (w.alloc o1).heap.size = w.heap.size + 1 := by simp
  refine ⟨(Below.heap_alloc _ _ _ (by simp)).trans (heap_alloc_last _ _), ?_, ((Below.refl _ _).alloc (Nat.le_refl _) _).alloc (by simp) _, by simp⟩
  have := heap_alloc_last (w.alloc o1) o2
  rw [s1] at this
  exact this

set_option maxHeartbeats 1000000 in
set_option maxRecDepth 100000 in
theorem nTop_any (g c n : Nat) (e : E) (r : List E) (x1 x2 x3 : Int) (w : World) (hO : NsAt w g c (e :: r)) (hn : r.length = n) (hr : n ≤ 1000) :
    Calls Try.prog 55 #[.agg #[.slice (some ⟨g, 0, none⟩) (n + 1) c, .int .i64 x1, .int .i64 x2, .int .i64 x3]] w fun x w' => x = .returned (.agg #[.int .i64 e.lev, .int .i64 e.ov, .int .i64 (inI e)]) ∧ Below w.heap.size w w' := by
  obtain ⟨k0, k1, k2⟩ := hO.last hn
  have hg := hO.1
  have HI := Lib.hid infoN
  obtain ⟨o1, ho1⟩ : ∃ o, (Obj.cells #[.slice (some ⟨g, 0, none⟩) (n + 1) c, .int .i64 x1, .int .i64 x2, .int .i64 x3] 76 (0, 0)) = o := ⟨_, rfl⟩
  obtain ⟨o2, ho2⟩ : ∃ o, (Obj.cells #[.int .i64 0, .int .i64 0, .int .i64 0] 73 (0, 0)) = o := ⟨_, rfl⟩
  have hg1 : g < (w.alloc o1).heap.size := by simp; omega
  have q0 := (cell_at _ o2 (n * 3) hg1).trans ((cell_at w o1 (n * 3) hg).trans k0)
  have q1 := (cell_at _ o2 (n * 3 + 1) hg1).trans ((cell_at w o1 (n * 3 + 1) hg).trans k1)
  have q2 := (cell_at _ o2 (n * 3 + 2) hg1).trans ((cell_at w o1 (n * 3 + 2) hg).trans k2)
  subst ho1 ho2
  clear hO k0 k1 k2 hg1 hg hn
  generalize inI e = ii at *
  obtain ⟨lev, ov, iso⟩ := e
  simp only at *
  go_enter Try.func55, Try.ntmps55
  go_wp2_with fail
  refine bodyPost_ret (results_cell_row Try.results55 _ _ (w.heap.size + 1) 73 _ (0, 0) _ rfl (two_new w _ _).2.1 Try.underlying73 rfl HI.out) rfl ?_
  exact ⟨rfl, (two_new w _ _).2.2.1⟩

theorem fits_cons (o : Nat) (e : E) (r : List E) (li ld op : Nat) : fits o ⟨e :: r, li, ld, op⟩ = (decide (nxt o e.lev ≤ 125) && (decide (li = 0) && decide (ld = 0))) := rfl
theorem field_lev (x0 x1 x2 : Int) (w : World) : (Instr.field 73 (.agg #[.int .i64 x0, .int .i64 x1, .int .i64 x2]) 0).run Try.prog w = .ok (.int .i64 x0) w := by kernel_rfl
theorem field_in (x0 x1 x2 : Int) (w : World) : (Instr.field 73 (.agg #[.int .i64 x0, .int .i64 x1, .int .i64 x2]) 2).run Try.prog w = .ok (.int .i64 x2) w := by kernel_rfl
theorem nat_tmod2 (k : Nat) : Int.tmod (k : Int) 2 = ((k % 2 : Nat) : Int) := by
  rw [Int.tmod_eq_emod_of_nonneg (by omega)]
  omega

set_option maxHeartbeats 1000000 in
set_option maxRecDepth 100000 in
theorem nNext_any (o g c n : Nat) (e : E) (r : List E) (x1 x2 x3 : Int) (w : World) (ho : o ≤ 1) (hO : NsAt w g c (e :: r)) (hn : r.length = n) (hr : n ≤ 1000) (hl : e.lev ≤ 125) :
    Calls Try.prog 67 #[.agg #[.slice (some ⟨g, 0, none⟩) (n + 1) c, .int .i64 x1, .int .i64 x2, .int .i64 x3], .int .i64 o] w fun x w' => x = .returned (.int .i64 (nxt o e.lev)) ∧ Below w.heap.size w w' := by
  have HT := Lib.hid (fun W (h : Below w.heap.size w W) => nTop_any g c n e r x1 x2 x3 W (hO.below h) hn hr)
  have hf := fun W => field_lev e.lev e.ov (inI e) W
  clear hO hn
  generalize inI e = ii at *
  obtain ⟨lev, ov, iso⟩ := e
  simp only at *
  obtain ⟨x, hx⟩ : ∃ x, nxt o lev = x := ⟨_, rfl⟩
  rw [hx]
  have HX := Lib.hid hx
  clear hx
  go_enter Try.func67, Try.ntmps67
  go_wp2_with fail
  refine (HT.out _ ((Below.refl _ _).alloc (Nat.le_refl _) _)).mono ?_
  rintro y w1 ⟨rfl, hb1⟩
  have HB := Lib.hid (((Below.refl w.heap.size w).alloc (Nat.le_refl _) _).trans (hb1.mono (by simp)))
  clear HT hb1
  go_wp2_with fail
  go_loop [5] (fun s5 => ∃ k : Nat, s5 = .int .i64 k ∧ (k = lev + 1 ∨ (k = lev + 2 ∧ (lev + 1) % 2 ≠ o))) (fun s5 => lev + 3 - (RowKit.intOf s5).toNat)
  case atStart => exact ⟨lev + 1, by go_num, .inl rfl⟩
  case round =>
    obtain ⟨k, rfl, hk⟩ := hrel
    have hm := nat_tmod2 k
    by_cases hko : k % 2 = o
    · have kt : (((k % 2 : Nat) : Int) != (o : Int)) = false := by rw [hko]; simp
      have hxk : x = k := by
        have hx := HX.out
        unfold nxt at hx
        rcases hk with h | ⟨h, h2⟩
        · rw [if_pos (by rw [← h]; exact hko)] at hx
          omega
        · rw [if_neg h2] at hx
          omega
      subst hxk
      clear hk hko HX
      go_wp2
      go_ret
      exact ⟨rfl, HB.out⟩
    · have kt : (((k % 2 : Nat) : Int) != (o : Int)) = true := by simp; omega
      have hk2 : k = lev + 1 ∧ (lev + 1) % 2 ≠ o := by
        rcases hk with h | ⟨h, h2⟩
        · exact ⟨h, by rw [← h]; exact hko⟩
        · omega
      have HK := Lib.hid hk2
      clear hk hko
      have hk63 : k ≤ 126 := by omega
      clear hk2
      go_wp2
      go_round
      case measure => have := HK.out.1; simp [RowKit.intOf]; omega
      case rel => exact ⟨k + 1, by go_num, .inr ⟨by have := HK.out.1; omega, HK.out.2⟩⟩

set_option maxHeartbeats 1000000 in
set_option maxRecDepth 100000 in
theorem nFits_any (o g c n : Nat) (e : E) (r : List E) (li ld op : Nat) (w : World) (ho : o ≤ 1) (hO : NsAt w g c (e :: r)) (hn : r.length = n) (hr : n ≤ 1000) (hl : e.lev ≤ 125) (h1 : li ≤ 1099511627776) (h2 : ld ≤ 1099511627776) :
    Calls Try.prog 65 #[.agg #[.slice (some ⟨g, 0, none⟩) (n + 1) c, .int .i64 li, .int .i64 ld, .int .i64 op], .int .i64 o] w fun x w' => x = .returned (.bool (fits o ⟨e :: r, li, ld, op⟩)) ∧ Below w.heap.size w w' := by
  have HN := Lib.hid (fun W (h : Below w.heap.size w W) => nNext_any o g c n e r li ld op W ho (hO.below h) hn hr hl)
  have hnl : nxt o e.lev ≤ 127 := by unfold nxt; split <;> omega
  rw [fits_cons]
  obtain ⟨q, hqq⟩ : ∃ q, nxt o e.lev = q := ⟨_, rfl⟩
  rw [hqq] at HN hnl ⊢
  clear hO hn hqq
  by_cases hq : q ≤ 125
  · have kq : decide ((q : Int) ≤ 125) = true := by simp; omega
    rw [show decide (q ≤ 125) = true from by simpa using hq]
    by_cases hz : li + ld = 0
    · obtain ⟨rfl, rfl⟩ : li = 0 ∧ ld = 0 := by omega
      go_enter Try.func65, Try.ntmps65
      go_wp2_with fail
      refine (HN.out _ ((Below.refl _ _).alloc (Nat.le_refl _) _)).mono ?_
      rintro y w1 ⟨rfl, hb1⟩
      have hB1 := hb1.mono (B' := w.heap.size) (by simp)
      have e1 := (hb1.block w.heap.size (by simp)).trans (heap_alloc_last w _)
      obtain ⟨⟨-, c1, c2, -⟩, -⟩ := four e1
      have HB := Lib.hid (((Below.refl w.heap.size w).alloc (Nat.le_refl _) _).trans hB1)
      clear hb1 hB1 e1
      go_wp2
      go_ret
      exact ⟨rfl, HB.out⟩
    · have kz : (((li : Int) + (ld : Int)) == 0) = false := by simp; omega
      rw [show (decide (li = 0) && decide (ld = 0)) = false from by simp; omega]
      have h12 : li + ld ≤ 2199023255552 := by omega
      go_enter Try.func65, Try.ntmps65
      go_wp2_with fail
      refine (HN.out _ ((Below.refl _ _).alloc (Nat.le_refl _) _)).mono ?_
      rintro y w1 ⟨rfl, hb1⟩
      have hB1 := hb1.mono (B' := w.heap.size) (by simp)
      have e1 := (hb1.block w.heap.size (by simp)).trans (heap_alloc_last w _)
      obtain ⟨⟨-, c1, c2, -⟩, -⟩ := four e1
      have HB := Lib.hid (((Below.refl w.heap.size w).alloc (Nat.le_refl _) _).trans hB1)
      clear hb1 hB1 e1
      go_wp2
      go_ret
      exact ⟨rfl, HB.out⟩
  · have kq : decide ((q : Int) ≤ 125) = false := by simp; omega
    rw [show decide (q ≤ 125) = false from by simpa using hq]
    go_enter Try.func65, Try.ntmps65
    go_wp2_with fail
    refine (HN.out _ ((Below.refl _ _).alloc (Nat.le_refl _) _)).mono ?_
    rintro y w1 ⟨rfl, hb1⟩
    have HB := Lib.hid (((Below.refl w.heap.size w).alloc (Nat.le_refl _) _).trans (hb1.mono (by simp)))
    clear hb1
    go_wp2
    go_ret
    exact ⟨rfl, HB.out⟩
end Go.Proofs.Ytehndhkcmccpmaa.Lv
