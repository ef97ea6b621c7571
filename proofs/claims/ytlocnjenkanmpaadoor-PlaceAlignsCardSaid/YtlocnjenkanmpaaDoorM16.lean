/-
  Several texts in one, each with its own remark: GcSearch, GcOf.
-/
import Derived.IntWalk
import Derived.OwnWalk
import Derived.Test.YtlocnjenkanmpaaDoorMGcRows
import Derived.Test.YtlocnjenkanmpaaDoorM14

/-
  Proved here: what the closure of gcb.lastBegun, gcb.lastBegun and (gcb.kind).of return, for every number; they leave what was in memory. Condition: begins that rise, small, of 1000 at most.
-/
set_option linter.unusedVariables false
namespace Go.Proofs.YtlocnjenkanmpaaDoor.Gc
open Go.RowKit Go.Lib Go.Proofs.YtlocnjenkanmpaaDoor.Arr Go.Proofs.YtlocnjenkanmpaaDoor.Co
/-- Begins in memory. -/
def BegAt (w : World) (b : Nat) (l : List GB) : Prop :=
  b < w.heap.size ∧ ∀ k (hk : k < l.length), w.cell? ⟨b, k * 2, none⟩ = some (.int .i32 l[k].1) ∧ w.cell? ⟨b, k * 2 + 1, none⟩ = some (.int .u8 l[k].2)
theorem BegAt.below {w w' : World} {b : Nat} {l : List GB} (h : BegAt w b l) (hb : Below w.heap.size w w') : BegAt w' b l :=
  ⟨Nat.lt_of_lt_of_le h.1 hb.size, fun k hk => ⟨(hb.cell (p := ⟨b, k * 2, none⟩) h.1).trans (h.2 k hk).1, (hb.cell (p := ⟨b, k * 2 + 1, none⟩) h.1).trans (h.2 k hk).2⟩⟩
theorem begC_at : ∀ (l : List GB) (k : Nat) (hk : k < l.length), (begC l)[k * 2]? = some (.int .i32 l[k].1) ∧ (begC l)[k * 2 + 1]? = some (.int .u8 l[k].2)
  | r :: l, 0, _ => ⟨rfl, rfl⟩
  | r :: l, k + 1, hk => by
    have := begC_at l k (by simpa using hk)
    rw [show (k + 1) * 2 = k * 2 + 2 from by omega]
    exact this
theorem begAt_made (l : List GB) (t : TypeId) (w : World) : BegAt (w.alloc (.cells (begC l).toArray t)) w.heap.size l := by
  refine ⟨by simp, fun k hk => ?_⟩
  obtain ⟨h0, h1⟩ := begC_at l k hk
  refine ⟨?_, ?_⟩
  · simpa using h0
  · simpa using h1
/-- What the closure reads: a variable that holds the slice, one that holds the number, the slice's row. -/
def Boxed (w : World) (g1 g2 b : Nat) (l : List GB) (c : Int) : Prop :=
  BegAt w b l ∧ g1 < w.heap.size ∧ g2 < w.heap.size ∧ w.cell? ⟨g1, 0, none⟩ = some (.slice (some ⟨b, 0, none⟩) l.length l.length) ∧ w.cell? ⟨g2, 0, none⟩ = some (.int .i64 c)
theorem Boxed.below {w w' : World} {g1 g2 b : Nat} {l : List GB} {c : Int} (h : Boxed w g1 g2 b l c) (hb : Below w.heap.size w w') : Boxed w' g1 g2 b l c :=
  ⟨h.1.below hb, Nat.lt_of_lt_of_le h.2.1 hb.size, Nat.lt_of_lt_of_le h.2.2.1 hb.size, (hb.cell (p := ⟨g1, 0, none⟩) h.2.1).trans h.2.2.2.1, (hb.cell (p := ⟨g2, 0, none⟩) h.2.2.1).trans h.2.2.2.2⟩
set_option maxHeartbeats 1000000 in
set_option maxRecDepth 100000 in
theorem closure_any (l : List GB) (c : Int) (g1 g2 b k : Nat) (w : World) (hB : Boxed w g1 g2 b l c) (hk : k < l.length) (ho : okB l[k] = true) :
    Calls Tryd.prog 87 #[.int .i64 k, .pointer (some ⟨g1, 0, none⟩), .pointer (some ⟨g2, 0, none⟩)] w fun e w' => e = .returned (.bool (decide (c < l[k].1))) ∧ Below w.heap.size w w' := by
  obtain ⟨⟨hlt, hE⟩, h1, h2, c1, c2⟩ := hB
  have c0 := (hE k hk).1
  obtain ⟨o1, o2, -⟩ := okB_is ho
  clear hE ho
  generalize l[k] = y at *
  obtain ⟨y, z⟩ := y
  simp only at *
  generalize l.length = n at *
  go_enter Tryd.func87, Tryd.ntmps87
  go_wp2
  go_quiet (fail)
  go_wp2
  go_ret
  exact ⟨rfl, below_drewN (Below.refl _ _) _⟩
theorem ahead_lo : ∀ (l : List Int) (c : Int) (k : Nat) (hk : k < l.length), k < Co.ahead l c → l[k] ≤ c
  | e :: l, c, k, hk, h => by
    unfold Co.ahead at h
    split at h
    · rename_i he
      cases k with
      | zero => exact he
      | succ k => exact ahead_lo l c k (by simpa using hk) (by omega)
    · omega
theorem ahead_hi : ∀ (l : List Int) (c : Int), risesI l = true → ∀ (k : Nat) (hk : k < l.length), Co.ahead l c ≤ k → c < l[k]
  | e :: l, c, hr, k, hk, h => by
    unfold Co.ahead at h
    split at h
    · rename_i he
      cases k with
      | zero => omega
      | succ k => exact ahead_hi l c (risesI_tail hr) k (by simpa using hk) (by omega)
    · rename_i he
      cases k with
      | zero => simp only [List.getElem_cons_zero]; omega
      | succ k =>
        have := risesI_head hr _ (List.getElem_mem (by simpa using hk : k < l.length))
        simp only [List.getElem_cons_succ]
        omega
set_option maxHeartbeats 1000000 in
set_option maxRecDepth 100000 in
theorem search_any (l : List GB) (c : Int) (g1 g2 b n : Nat) (w : World) (hn : n = l.length) (hB : Boxed w g1 g2 b l c) (hl : l.length ≤ 1000) (hr : risesI (froms l) = true) (hok : l.all okB = true) :
    Calls Tryd.prog 85 #[.int .i64 n, .func (.func 87) #[] #[.pointer (some ⟨g1, 0, none⟩), .pointer (some ⟨g2, 0, none⟩)]] w fun e w' => e = .returned (.int .i64 (Co.ahead (froms l) c : Nat)) ∧ Below w.heap.size w w' := by
  subst hn
  have hfl : (froms l).length = l.length := by simp [froms]
  have hat : ∀ k (h : k < l.length), (froms l)[k]'(by omega) = l[k].1 := fun k h => by simp [froms]
  refine So.search_of 87 (enters_of Tryd.func87 (by kernel_rfl) rfl) (fun k => decide (c < (l.getD k (0, 0)).1)) l.length _ _ (fun W => Boxed W g1 g2 b l c) (fun W W' h hb => h.below hb) w hB (by omega)
    (Co.ahead (froms l) c) (by have := ahead_le (froms l) c; omega) (fun k hk => ?_) (fun k hk hkn => ?_) (fun k W hk hW => ?_)
  · have h1 : k < l.length := by have := ahead_le (froms l) c; omega
    have := ahead_lo (froms l) c k (by omega) hk
    rw [hat k h1] at this
    simp [h1]
    omega
  · have := ahead_hi (froms l) c hr k (by omega) hk
    rw [hat k hkn] at this
    simp [hkn]
    omega
  · have := closure_any l c g1 g2 b k W hW hk (List.all_eq_true.1 hok _ (List.getElem_mem hk))
    rw [show l.getD k (0, 0) = l[k] from by simp [hk]]
    exact this
theorem third_kept (w : World) (o1 o2 : Obj) (cs : Array Value) (t : TypeId) (w3 : World) (hb : Below (((w.alloc o1).alloc o2).alloc (.cells cs t)).heap.size (((w.alloc o1).alloc o2).alloc (.cells cs t)) w3) : w3.heap[w.heap.size + 1 + 1]? = some (.cells cs t (0, 0)) := by
  have hs : ((w.alloc o1).alloc o2).heap.size = w.heap.size + 1 + 1 := by simp
  have h := heap_alloc_last ((w.alloc o1).alloc o2) (.cells cs t)
  rw [hs] at h
  exact (hb.block (w.heap.size + 1 + 1) (by simp)).trans h
set_option maxHeartbeats 1000000 in
set_option maxRecDepth 100000 in
theorem last_any (l : List GB) (c : Int) (b n : Nat) (w : World) (hn : n = l.length) (hL : BegAt w b l) (hl : l.length ≤ 1000) (hr : risesI (froms l) = true) (hok : l.all okB = true) :
    Calls Tryd.prog 63 #[.slice (some ⟨b, 0, none⟩) n n, .int .i64 c] w fun e w' => e = .returned (.agg #[.int .i32 (lastB l (0, 0) c).1, .int .u8 (lastB l (0, 0) c).2]) ∧ Below w.heap.size w w' := by
  have SE := Lib.hid (fun g1 g2 W hW => search_any l c g1 g2 b n W hn hW hl hr hok)
  have hle := ahead_le (froms l) c
  have hfl : (froms l).length = l.length := by simp [froms]
  have HL := Lib.hid hL
  have HNONE := Lib.hid (fun h => lastB_none (l := l) (d := (0, 0)) (c := c) h)
  have HSOME := Lib.hid (fun k h hk => lastB_some (l := l) (d := (0, 0)) (c := c) (k := k) h hk)
  rw [hfl] at hle
  have HN := Lib.hid hn
  have hnl : n ≤ 1000 := by omega
  rw [← hn] at hle
  clear hL hr hok hn hfl hl
  have hb2 : Below w.heap.size w (((w.alloc (.cells #[.slice (some ⟨b, 0, none⟩) n n] 98)).alloc (.cells #[.int .i64 c] 3)).alloc (.cells #[.int .i32 0, .int .u8 0] 94)) := (((Below.refl _ _).alloc (Nat.le_refl _) _).alloc (by simp) _).alloc (by simp; omega) _
  have HB2 := Lib.hid hb2
  have HX := Lib.hid (show Boxed (((w.alloc (.cells #[.slice (some ⟨b, 0, none⟩) n n] 98)).alloc (.cells #[.int .i64 c] 3)).alloc (.cells #[.int .i32 0, .int .u8 0] 94)) w.heap.size (w.heap.size + 1) b l c from by
    have hn := HN.out
    subst hn
    have e1 : (w.alloc (.cells #[.slice (some ⟨b, 0, none⟩) l.length l.length] 98)).cell? ⟨w.heap.size, 0, none⟩ = some (.slice (some ⟨b, 0, none⟩) l.length l.length) := by simp
    have e2 : ((w.alloc (.cells #[.slice (some ⟨b, 0, none⟩) l.length l.length] 98)).alloc (.cells #[.int .i64 c] 3)).cell? ⟨w.heap.size + 1, 0, none⟩ = some (.int .i64 c) := by simp
    have s1 : (w.alloc (.cells #[.slice (some ⟨b, 0, none⟩) l.length l.length] 98)).heap.size = w.heap.size + 1 := by simp
    have s2 : ((w.alloc (.cells #[.slice (some ⟨b, 0, none⟩) l.length l.length] 98)).alloc (.cells #[.int .i64 c] 3)).heap.size = w.heap.size + 2 := by simp
    refine ⟨HL.out.below hb2, by simp; omega, by simp, ?_, ?_⟩
    · exact ((((Below.refl _ _).alloc (Nat.le_refl _) _).alloc (by simp) _).cell (p := ⟨w.heap.size, 0, none⟩) (by rw [s1]; exact Nat.lt_succ_self _)).trans e1
    · exact (((Below.refl _ _).alloc (Nat.le_refl _) _).cell (p := ⟨w.heap.size + 1, 0, none⟩) (by rw [s2]; exact Nat.lt_succ_self _)).trans e2)
  clear hb2
  have hi : (Tryd.prog.info? 94).map (·.size) = some 2 := by kernel_rfl
  have HI := Lib.hid hi
  clear hi
  cases ha : Co.ahead (froms l) c with
  | zero =>
    rw [ha] at SE
    rw [HNONE.out ha]
    clear ha
    go_enter Tryd.func63, Tryd.ntmps63
    go_wp2_with fail
    refine (SE.out _ _ _ HX.out).mono ?_
    rintro e w3 ⟨rfl, hb3⟩
    have hv := third_kept w _ _ _ _ _ hb3
    have HB := Lib.hid (HB2.out.trans (hb3.mono HB2.out.size))
    clear hb3 HB2 HX SE
    have hlt : w.heap.size ≤ w.heap.size + 1 + 1 := by omega
    generalize w.heap.size + 1 + 1 = v at *
    have q0 := cell_of_row w3 v 0 _ _ _ hv
    have q1 := cell_of_row w3 v 1 _ _ _ hv
    have f0 := frozen_of_row w3 v 0 _ _ hv
    have f1 := frozen_of_row w3 v 1 _ _ hv
    have HV := Lib.hid hv
    clear hv
    simp at q0 q1
    go_wp2
    refine bodyPost_ret (results_cell_row Tryd.results63 _ _ v 94 _ (0, 0) _ rfl (heap_setCell_same _ v 1 _ _ _ (heap_setCell_same w3 v 0 _ _ _ HV.out)) Tryd.underlying94 rfl HI.out) rfl ?_
    exact ⟨rfl, (HB.out.setCell (by exact hlt) _).setCell (by exact hlt) _⟩
  | succ k =>
    have hkn : k < n := by omega
    have hkl : k < l.length := by have := HN.out; omega
    rw [ha] at SE
    rw [HSOME.out k ha hkl]
    generalize hy : l[k] = y
    obtain ⟨y0, y1⟩ := y
    have hx := Lib.hid (show ∃ h : k < l.length, l[k] = (y0, y1) from ⟨hkl, hy⟩)
    clear ha hle hy hkl
    simp only
    go_enter Tryd.func63, Tryd.ntmps63
    go_wp2_with fail
    refine (SE.out _ _ _ HX.out).mono ?_
    rintro e w3 ⟨rfl, hb3⟩
    have hv := third_kept w _ _ _ _ _ hb3
    have HB := Lib.hid (HB2.out.trans (hb3.mono HB2.out.size))
    obtain ⟨⟨hbz, hcs⟩, -, -, hc1, -⟩ := HX.out.below hb3
    obtain ⟨hk1, hk2⟩ := hx.out
    obtain ⟨c0, c1⟩ := hcs k hk1
    rw [hk2] at c0 c1
    clear hb3 HB2 HX SE hcs
    clear hx hk1 hk2
    rw [← HN.out] at hc1
    simp only at c0 c1
    have hlt : w.heap.size ≤ w.heap.size + 1 + 1 := by omega
    generalize w.heap.size + 1 + 1 = v at *
    have q0 := cell_of_row w3 v 0 _ _ _ hv
    have q1 := cell_of_row w3 v 1 _ _ _ hv
    have f0 := frozen_of_row w3 v 0 _ _ hv
    have f1 := frozen_of_row w3 v 1 _ _ hv
    have HV := Lib.hid hv
    clear hv
    simp at q0 q1
    go_wp2
    refine bodyPost_ret (results_cell_row Tryd.results63 _ _ v 94 _ (0, 0) _ rfl (heap_setCell_same _ v 1 _ _ _ (heap_setCell_same w3 v 0 _ _ _ HV.out)) Tryd.underlying94 rfl HI.out) rfl ?_
    exact ⟨rfl, (HB.out.setCell (by exact hlt) _).setCell (by exact hlt) _⟩
set_option maxHeartbeats 1000000 in
set_option maxRecDepth 100000 in
theorem of_any (k c : Int) (h0 : 0 ≤ k) (h1 : k ≤ 16) (hk : k = 14 → 44032 ≤ c ∧ c ≤ 55203) (w : World) :
    Calls Tryd.prog 64 #[.int .u8 k, .int .i64 c] w fun e w' => e = .returned (.int .i64 (ofK k c)) ∧ Below w.heap.size w w' := by
  unfold ofK
  by_cases h : k = 14
  · obtain ⟨h2, h3⟩ := hk h
    subst h
    rw [if_pos rfl]
    clear hk h0 h1
    by_cases hm : (c - 44032) % 28 = 0
    · have hd : ((c - 44032) % 28 == 0) = true := by simpa using hm
      rw [if_pos hm]
      clear hm
      go_enter Tryd.func64, Tryd.ntmps64
      go_wp2
      go_ret
      exact ⟨rfl, Below.refl _ _⟩
    · have hd : ((c - 44032) % 28 == 0) = false := by simpa using hm
      rw [if_neg hm]
      clear hm
      go_enter Tryd.func64, Tryd.ntmps64
      go_wp2
      go_ret
      exact ⟨rfl, Below.refl _ _⟩
  · rw [if_neg h]
    clear hk
    go_enter Tryd.func64, Tryd.ntmps64
    go_wp2
    go_ret
    exact ⟨rfl, Below.refl _ _⟩
end Go.Proofs.YtlocnjenkanmpaaDoor.Gc

/-
  Proved here: what gcb.Of and gcb.Pict return, for every number; they leave what was in memory. No condition.
-/
set_option linter.unusedVariables false
namespace Go.Proofs.YtlocnjenkanmpaaDoor.Gc
open Go.RowKit Go.Lib Go.Proofs.YtlocnjenkanmpaaDoor.Arr
theorem field_kind (y0 y1 : Int) (w : World) : (Instr.field 94 (.agg #[.int .i32 y0, .int .u8 y1]) 1).run Tryd.prog w = .ok (.int .u8 y1) w := by kernel_rfl
set_option maxHeartbeats 1000000 in
set_option maxRecDepth 100000 in
theorem gOf_any (c : Int) (w : World) :
    Calls Tryd.prog 45 #[.int .i64 c] w fun e w' => e = .returned (.int .i64 (kindT c)) ∧ Below w.heap.size w w' := by
  have HK := Lib.hid (fun W => kinds_any W)
  have HS := Lib.hid (fun b W (h : BegAt W b bgs) => last_any bgs c b 130 W bgs_len.symm h (by rw [bgs_len]; decide) bgs_rises bgs_small)
  have hok := okB_is (lastB_ok (l := bgs) (d := (0, 0)) (c := c) bgs_small (by decide))
  have HO := Lib.hid (fun W => of_any (lastB bgs (0, 0) c).2 c hok.2.2.1 hok.2.2.2 (fun h => kind_syl h) W)
  obtain ⟨hz, hi⟩ := zero_of_info infoK
  have HZ := Lib.hid hz
  rw [← k_size] at hi
  have HI := Lib.hid hi
  have HN := Lib.hid k_size
  have HC := Lib.hid k_one
  have HL := Lib.hid (fun W => begAt_made bgs 95 W)
  clear hz hi hok
  unfold kindT
  generalize ofK (lastB bgs (0, 0) c).2 c = v at *
  generalize lastB bgs (0, 0) c = y at *
  obtain ⟨y0, y1⟩ := y
  simp only at HS HO
  have hf := field_kind y0 y1
  generalize (begC bgs).toArray = cs at *
  go_enter Tryd.func45, Tryd.ntmps45
  go_wp2_with fail
  rename_i Q0 K1 hK1 K2 hK2
  refine (HK.out _).mono ?_
  rintro e w1 ⟨rfl, hb1⟩
  refine hK2 _ _ ?_
  refine wpList_allocVar rfl _ rfl (some 3) rfl _ HZ.out ?_
  refine wpList_store_rowTo rfl _ _ _ rfl rfl w1.heap.size cs rfl rfl 95 _ (heap_alloc_last _ _) HI.out (by rw [HN.out]; rfl) HC.out ?_
  rw [World.setRow_alloc_new]
  refine wpList_nil (hK1 _ _ ?_)
  have hL := HL.out w1
  have hb2 := hb1.alloc hb1.size (.cells cs 95)
  have HB := Lib.hid hb2
  clear hb1 hb2 HI HZ HC HN HK HL
  have HX := Lib.hid hL
  clear hL
  generalize w1.alloc (.cells cs 95) = w2 at *
  generalize w1.heap.size = b at *
  go_wp2_with fail
  refine (HS.out _ _ HX.out).mono ?_
  rintro e w3 ⟨rfl, hb3⟩
  go_wp2_with fail
  refine (HO.out _).mono ?_
  rintro e w4 ⟨rfl, hb4⟩
  go_wp2
  go_ret
  have h3 := HB.out.trans (hb3.mono HB.out.size)
  exact ⟨rfl, h3.trans (hb4.mono h3.size)⟩
set_option maxHeartbeats 1000000 in
set_option maxRecDepth 100000 in
theorem gPict_any (c : Int) (w : World) :
    Calls Tryd.prog 46 #[.int .i64 c] w fun e w' => e = .returned (.bool (pictT c)) ∧ Below w.heap.size w w' := by
  have HK := Lib.hid (fun W => picts_any W)
  have HS := Lib.hid (fun b W (h : BegAt W b pts) => last_any pts c b 154 W pts_len.symm h (by rw [pts_len]; decide) pts_rises pts_small)
  obtain ⟨hz, hi⟩ := zero_of_info infoP
  have HZ := Lib.hid hz
  rw [← p_size] at hi
  have HI := Lib.hid hi
  have HN := Lib.hid p_size
  have HC := Lib.hid p_one
  have HL := Lib.hid (fun W => begAt_made pts 99 W)
  clear hz hi
  rw [pict_last c]
  generalize lastB pts (0, 0) c = y at *
  obtain ⟨y0, y1⟩ := y
  simp only at HS
  have hf := field_kind y0 y1
  generalize (begC pts).toArray = cs at *
  go_enter Tryd.func46, Tryd.ntmps46
  go_wp2_with fail
  rename_i Q0 K1 hK1 K2 hK2
  refine (HK.out _).mono ?_
  rintro e w1 ⟨rfl, hb1⟩
  refine hK2 _ _ ?_
  refine wpList_allocVar rfl _ rfl (some 3) rfl _ HZ.out ?_
  refine wpList_store_rowTo rfl _ _ _ rfl rfl w1.heap.size cs rfl rfl 99 _ (heap_alloc_last _ _) HI.out (by rw [HN.out]; rfl) HC.out ?_
  rw [World.setRow_alloc_new]
  refine wpList_nil (hK1 _ _ ?_)
  have hL := HL.out w1
  have hb2 := hb1.alloc hb1.size (.cells cs 99)
  have HB := Lib.hid hb2
  clear hb1 hb2 HI HZ HC HN HK HL
  have HX := Lib.hid hL
  clear hL
  generalize w1.alloc (.cells cs 99) = w2 at *
  generalize w1.heap.size = b at *
  go_wp2_with fail
  refine (HS.out _ _ HX.out).mono ?_
  rintro e w3 ⟨rfl, hb3⟩
  go_wp2
  go_ret
  exact ⟨rfl, HB.out.trans (hb3.mono HB.out.size)⟩
end Go.Proofs.YtlocnjenkanmpaaDoor.Gc
