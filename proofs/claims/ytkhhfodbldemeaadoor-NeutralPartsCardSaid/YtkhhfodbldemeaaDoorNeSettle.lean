/-
  Proved here: what neutral's direction, levelDirection, levelOf, the closure of Settle, Settle and Levels return: the plain ones. They leave what was in memory.
-/
import Derived.Test.YtkhhfodbldemeaaDoorNeRef
import Derived.Test.YtkhhfodbldemeaaDoorNeGap
import Derived.Deep.LoopGhost
set_option linter.unusedVariables false
namespace Go.Proofs.YtkhhfodbldemeaaDoor.Ne
open Go Go.RowKit Go.Lib Go.Proofs.YtkhhfodbldemeaaDoor.Cl

set_option maxHeartbeats 1000000 in
theorem dir_any (c : Int) (w : World) : Calls Tryd.prog 21 #[.int .i64 c] w fun e w' => e = .returned (.int .i64 (dirN c)) ∧ w' = w := by
  by_cases h0 : c = 0
  · subst h0
    go_enter Tryd.func21, Tryd.ntmps21
    go_wp2
    go_ret
    exact ⟨rfl, rfl⟩
  · have d0 : (c == 0) = false := beq_eq_false_iff_ne.2 h0
    by_cases h1 : c = 1
    · subst h1
      go_enter Tryd.func21, Tryd.ntmps21
      go_wp2
      go_ret
      exact ⟨rfl, rfl⟩
    · have d1 : (c == 1) = false := beq_eq_false_iff_ne.2 h1
      by_cases h3 : c = 3
      · subst h3
        go_enter Tryd.func21, Tryd.ntmps21
        go_wp2
        go_ret
        exact ⟨rfl, rfl⟩
      · have d3 : (c == 3) = false := beq_eq_false_iff_ne.2 h3
        by_cases h6 : c = 6
        · subst h6
          go_enter Tryd.func21, Tryd.ntmps21
          go_wp2
          go_ret
          exact ⟨rfl, rfl⟩
        · have d6 : (c == 6) = false := beq_eq_false_iff_ne.2 h6
          rw [dirN_no h0 h1 h3 h6]
          clear h0 h1 h3 h6
          go_enter Tryd.func21, Tryd.ntmps21
          go_wp2
          go_ret
          exact ⟨rfl, rfl⟩

set_option maxHeartbeats 1000000 in
theorem levdir_any (l : Int) (w : World) : Calls Tryd.prog 20 #[.int .i64 l] w fun e w' => e = .returned (.int .i64 (lvN l)) ∧ w' = w := by
  by_cases hm : l.tmod 2 = 0
  · have m1 : (l.tmod 2 == 0) = true := by simpa using hm
    rw [show lvN l = 0 from if_pos hm]
    clear hm
    go_enter Tryd.func20, Tryd.ntmps20
    go_wp2
    go_ret
    exact ⟨rfl, rfl⟩
  · have m1 : (l.tmod 2 == 0) = false := by simpa using hm
    rw [show lvN l = 1 from if_neg hm]
    clear hm
    go_enter Tryd.func20, Tryd.ntmps20
    go_wp2
    go_ret
    exact ⟨rfl, rfl⟩

set_option maxHeartbeats 1000000 in
theorem levof_any (c l : Int) (w : World) (hl0 : 0 ≤ l) (hl1 : l ≤ 2147483647) : Calls Tryd.prog 24 #[.int .i64 c, .int .i64 l] w fun e w' => e = .returned (.int .i64 (levN l c)) ∧ w' = w := by
  have e1 : bits .and .i64 l 1 = l % 2 := and_one l
  have e2 : bits .and .i64 (l + 1) 1 = (l + 1) % 2 := and_one _
  have e3 : bits .or .i64 l 1 = l + (1 - l % 2) := i64_or1 l hl0 (by omega)
  have w1 : IntKind.i64.wrap (l + 1) = l + 1 := IntWalk.i64_in _ (by omega)
  have w2 : IntKind.i64.wrap (l + l % 2) = l + l % 2 := IntWalk.i64_in _ (by omega)
  have w3 : IntKind.i64.wrap (l + 1 + (l + 1) % 2) = l + (2 - l % 2) := (IntWalk.i64_in _ (by omega)).trans (by omega)
  clear hl0 hl1
  by_cases h0 : c = 0
  · subst h0
    rw [show levN l 0 = l + l % 2 from rfl]
    go_enter Tryd.func24, Tryd.ntmps24
    go_wp2
    go_ret
    exact ⟨rfl, rfl⟩
  · have d0 : (c == 0) = false := beq_eq_false_iff_ne.2 h0
    by_cases h1 : c = 1
    · subst h1
      rw [show levN l 1 = l + (1 - l % 2) from rfl]
      go_enter Tryd.func24, Tryd.ntmps24
      go_wp2
      go_ret
      exact ⟨rfl, rfl⟩
    · have d1 : (c == 1) = false := beq_eq_false_iff_ne.2 h1
      by_cases h3 : c = 3
      · subst h3
        rw [show levN l 3 = l + (2 - l % 2) from rfl]
        go_enter Tryd.func24, Tryd.ntmps24
        go_wp2
        go_ret
        exact ⟨rfl, rfl⟩
      · have d3 : (c == 3) = false := beq_eq_false_iff_ne.2 h3
        by_cases h6 : c = 6
        · subst h6
          rw [show levN l 6 = l + (2 - l % 2) from rfl]
          go_enter Tryd.func24, Tryd.ntmps24
          go_wp2
          go_ret
          exact ⟨rfl, rfl⟩
        · have d6 : (c == 6) = false := beq_eq_false_iff_ne.2 h6
          rw [show levN l c = l from by unfold levN; rw [if_neg h0, if_neg h1, if_neg (by omega)]]
          clear h0 h1 h3 h6
          go_enter Tryd.func24, Tryd.ntmps24
          go_wp2
          go_ret
          exact ⟨rfl, rfl⟩

set_option maxHeartbeats 2000000 in
set_option maxRecDepth 100000 in
theorem fill_any (w : World) (n r ql qs qa qg : Nat) (l a d : Int) (P G R : List Int) (p g : Nat) (W : World) (hp : P.length = p) (hg : G.length = g) (hap : Apart w.heap.size r ql qs qa qg)
    (hs : St w n r ql qs qa qg l (P ++ G ++ R) a p W) (hn : n ≤ 1099511627776) (m : Nat) (hm : p + g = m) :
    Calls Tryd.prog 19 #[.int .i64 m, .int .i64 d, .pointer (some ⟨ql, 0, none⟩), .pointer (some ⟨qa, 0, none⟩), .pointer (some ⟨qg, 0, none⟩), .pointer (some ⟨qs, 0, none⟩)] W
      fun e W' => e = .returned (.tuple #[]) ∧ St w n r ql qs qa qg l (P ++ List.replicate g (fillN l a d) ++ R) d (m + 1) W' := by
  have hmn : m ≤ n := by have := hs.len; simp at this; omega
  obtain ⟨c1, c2, c3, c4, f3, f4⟩ := hs.reads
  have HAP := Lib.hid hap
  have HS := Lib.hid hs
  have HP := Lib.hid hp
  have HG := Lib.hid hg
  have HM := Lib.hid hm
  have HLD := Lib.hid (fun V => levdir_any l V)
  obtain ⟨f, hf⟩ : ∃ f, f = fillN l a d := ⟨_, rfl⟩
  rw [← hf]
  have hcase : ((a == d) = true ∧ f = d) ∨ ((a == d) = false ∧ f = lvN l) := by
    by_cases h : a = d
    · exact .inl ⟨beq_iff_eq.2 h, by rw [hf]; exact (if_pos h).trans h⟩
    · exact .inr ⟨beq_eq_false_iff_ne.2 h, by rw [hf]; exact if_neg h⟩
  clear hs hap hp hg hm hf
  generalize lvN l = v at *
  go_enter Tryd.func19, Tryd.ntmps19
  go_wp2_with fail
  refine (HLD.out _).mono ?_
  rintro e w1 ⟨rfl, rfl⟩
  clear HLD
  rcases hcase with ⟨hb, hfd⟩ | ⟨hb, hfd⟩
  all_goals
    subst hfd
    go_wp2_with fail
    go_loopg [] g (fun gf wx => ∃ j k : Nat, j + gf = g ∧ p + j = k ∧ St w n r ql qs qa qg l (P ++ (List.replicate j f ++ G.drop j) ++ R) a k wx)
    case atStart => exact ⟨0, p, by omega, by omega, by simpa using HS.out⟩
    case round =>
      obtain ⟨j, k, hj, hk, hst⟩ := hrel
      obtain ⟨d1, d2, d3, d4, g3, g4⟩ := hst.reads
      clear c1 c2 c3 c4 f3 f4
      have HST := Lib.hid hst
      by_cases hlt : k < m
      · obtain ⟨g', rfl⟩ : ∃ g', gk = g' + 1 := ⟨gk - 1, by have := HM.out; omega⟩
        have hm := HM.out
        obtain ⟨x, hx, hfx⟩ := hst.cell (j := k) (by omega)
        have hst2 : St w n r ql qs qa qg l (P ++ (List.replicate (j + 1) f ++ G.drop (j + 1)) ++ R) a k (wr.setCell ⟨r, k, none⟩ (.int .i64 f)) := by
          have h := hst.put HAP.out k f
          have fs := fun x => fill_set P (G.drop (j + 1)) R f x j
          have hjg : j < G.length := by rw [HG.out]; omega
          rw [HP.out, hk] at fs
          rw [List.drop_eq_getElem_cons hjg, fs] at h
          exact h
        obtain ⟨-, -, -, k4, -, k6⟩ := hst2.reads
        have HST2 := Lib.hid (hst2.setGap HAP.out (k + 1))
        have HJ := Lib.hid (show j + 1 + g' = g ∧ p + (j + 1) = k + 1 from ⟨by omega, by omega⟩)
        clear hst2 hst HS hj hk hm
        go_wp2_with fail
        go_roundg g'
        case measure => omega
        case rel => exact ⟨j + 1, k + 1, HJ.out.1, HJ.out.2, HST2.out⟩
      · have hm := HM.out
        obtain rfl : k = m := by omega
        obtain rfl : j = g := by omega
        have hst2 : St w n r ql qs qa qg l (P ++ List.replicate j f ++ R) a k wr := by
          rw [List.drop_eq_nil_of_le (by rw [HG.out]; exact Nat.le_refl _), List.append_nil] at hst
          exact hst
        have HST2 := Lib.hid (fun z => (hst2.setLast HAP.out z))
        have k4 := fun z => (hst2.setLast HAP.out z).reads.2.2.2.1
        have k6 := fun z => (hst2.setLast HAP.out z).reads.2.2.2.2.2
        clear hst2 hst HS hj hk hm
        go_wp2_with fail
        go_end0
        exact ⟨rfl, (HST2.out _).setGap HAP.out _⟩

theorem grown_cell {w w' : World} {g q : Nat} {cs : Array Value} {t : TypeId} (h : w.grownBy w' (some g)) (hq : q ≠ g) (hc : w.heap[q]? = some (.cells cs t (0, 0))) : w'.heap[q]? = some (.cells cs t (0, 0)) := by
  have hlt := (Array.getElem?_eq_some_iff.1 hc).1
  rw [h.block q hlt (fun e => hq (by simpa using e))]
  exact hc

set_option maxHeartbeats 2000000 in
set_option maxRecDepth 100000 in
theorem settle_any (A0 : Option Addr) (T : List Int) (n cp : Nat) (l s b : Int) (w : World) (hA : IntsAt w A0 T) (hl : T.length = n) (hn : n ≤ 1099511627776) :
    Calls Tryd.prog 10 #[.slice A0 n cp, .int .i64 l, .int .i64 s, .int .i64 b] w fun e w' => ∃ A c, e = .returned (.slice A n c) ∧ w'.ownsRow w.heap.size 3 1 (.slice A n c) n (icl (settleN l b s T)) ∧ Below w.heap.size w w' := by
  obtain ⟨i0, hi0, hq0, hq1, hq2⟩ := info_parts infoInt
  have HI := Lib.hid hi0
  have HQ0 := Lib.hid hq0
  have HQ1 := Lib.hid hq1
  have HQ2 := Lib.hid hq2
  have HA := Lib.hid hA
  have HL := Lib.hid hl
  clear hi0 hq0 hq1 hq2 hA hl
  go_enter Tryd.func10, Tryd.ntmps10
  go_wp2_with (refine wpList_make_full _ rfl _ _ 22 rfl w.heap.size 3 i0 (.int .i64 0) 1 Tryd.underlying22 HI.out HQ0.out HQ1.out .i64 .i64 _ _ n rfl rfl rfl rfl ?c1 ?c2 ?c3 ?_)
  case c1 => rw [HQ2.out]; omega
  case c2 => unfold maxLen; omega
  case c3 => simp
  intro w1 hown hgr
  have hb1 : Below w.heap.size w w1 := (below_made w _).grown hgr (by simp) (fun k h => by cases h)
  have hsz1 : w.heap.size + 1 < w1.heap.size := (hown.lt _ rfl).2
  have hcl1 : w1.heap[w.heap.size]? = some (.cells #[.int .i64 l] 3 (0, 0)) := (hgr.block _ (by simp) (by simp)).trans (heap_alloc_new w _)
  have HCL1 := Lib.hid hcl1
  have HB1 := Lib.hid hb1
  have HOWN := Lib.hid hown
  clear hown hgr hcl1 hb1 HI HQ0 HQ1 HQ2
  go_wp2_with (refine wpList_copy_ints rfl _ _ rfl (w.heap.size + 1) n n cp A0 rfl rfl w.heap.size _ (HOWN.out.alloc _) T (HA.out.below (HB1.out.alloc (by omega) _)) HL.out ?_)
  intro w3 hown3 hgr3
  have hcl3 : w3.heap[w.heap.size]? = some (.cells #[.int .i64 l] 3 (0, 0)) := grown_cell hgr3 (by omega) ((Below.heap_alloc _ _ _ (by omega)).trans HCL1.out)
  have hcs3 : w3.heap[w1.heap.size]? = some (.cells #[.slice (some ⟨w.heap.size + 1, 0, none⟩) n n] 22 (0, 0)) := grown_cell hgr3 (by omega) (heap_alloc_new w1 _)
  have hb3 : Below w.heap.size w w3 := (HB1.out.alloc (by omega) _).grown hgr3 (by simp; omega) (fun k h => by cases h; omega)
  have hq3 : w1.heap.size < w3.heap.size := (Array.getElem?_eq_some_iff.1 hcs3).1
  have HST0 := Lib.hid (St.start hb3 hown3 hcl3 hcs3 s)
  clear hown3 hgr3 hcl3 hcs3 hb3 HCL1 HB1 HOWN
  have HAP : Hid (Apart w.heap.size (w.heap.size + 1) w.heap.size w1.heap.size w3.heap.size (w3.heap.size + 1)) := Lib.hid (by constructor <;> omega)
  clear hsz1 hq3
  generalize w1.heap.size = qs at *
  go_wp2_with fail
  go_loopw [26] (fun s26 wx => ∃ (k : Nat) (P G : List Int) (a : Int) (p : Nat), k ≤ n ∧ s26 = .int .i64 k ∧ P.length = p ∧ P.length + G.length = k ∧ (∀ c ∈ G, ¬ 0 ≤ dirN c) ∧ P ++ settleN l b a (G ++ T.drop k) = settleN l b s T ∧ St w n (w.heap.size + 1) w.heap.size qs w3.heap.size (w3.heap.size + 1) l (P ++ G ++ T.drop k) a p wx) (fun s26 _ => n - (RowKit.intOf s26).toNat)
  case atStart => exact ⟨0, [], [], s, 0, Nat.zero_le _, rfl, rfl, rfl, by simp, by simp, by simpa using HST0.out⟩
  case round =>
    obtain ⟨k, P, G, a, p, hk, rfl, hp, hg, hno, heq, hst⟩ := hrel
    have HST := Lib.hid hst
    have HP := Lib.hid hp
    have HG := Lib.hid hg
    have HNO := Lib.hid hno
    have HEQ := Lib.hid heq
    clear hp hg hno heq HST0
    by_cases hlt : k < n
    · have hkz : k < T.length := by rw [HL.out]; exact hlt
      obtain ⟨g, off, rfl, hc⟩ := (HA.out.below hst.b).at_ hkz
      have hdr : T.drop k = T[k] :: T.drop (k + 1) := List.drop_eq_getElem_cons hkz
      have HDR := Lib.hid hdr
      clear hst hdr
      generalize T[k] = z at *
      rw [HDR.out] at HST HEQ
      clear hkz HDR
      have HD := Lib.hid (fun (W : World) => dir_any z W)
      have hk0 : (0 : Int) ≤ (k : Int) := by omega
      have hk1 : (k : Int) < (n : Int) := by omega
      by_cases hx : 0 ≤ dirN z
      · have hbx : (dirN z != -1) = true := bne_iff_ne.2 (by omega)
        have HX := Lib.hid hx
        obtain ⟨d, hd⟩ : ∃ d, dirN z = d := ⟨_, rfl⟩
        rw [hd] at hbx
        have HDZ := Lib.hid hd
        have HD2 := Lib.hid (fun (W : World) => hd ▸ HD.out W)
        have HF := Lib.hid (fill_any w n _ _ _ _ _ l a d P G (z :: T.drop (k + 1)) p G.length wr HP.out rfl HAP.out HST.out hn k (by have := HP.out; have := HG.out; omega))
        clear hx hd HD
        go_wp2_with fail
        refine (HD2.out _).mono ?_
        rintro e w4 ⟨rfl, rfl⟩
        go_wp2_with fail
        refine HF.out.mono ?_
        rintro e w4 ⟨rfl, hst4⟩
        have HST4 := Lib.hid hst4
        clear hst4 HF HD2
        go_wp2_with fail
        go_roundw
        case rel =>
          refine ⟨k + 1, P ++ List.replicate G.length (fillN l a d) ++ [z], [], d, k + 1, by omega, by go_num, ?_, ?_, by simp, ?_, ?_⟩
          · have := HG.out; simp; omega
          · have := HG.out; simp; omega
          · rw [← HEQ.out, settle_gap l b (z :: T.drop (k + 1)) a G (fun c h => by have := HNO.out c h; omega)]
            simp only [settleN, nextN]
            rw [if_pos HX.out, if_pos HX.out, HDZ.out]
            simp
          · simpa using HST4.out
        case measure => simp [RowKit.intOf]; omega
      · have hbx : (dirN z != -1) = false := by rcases dirN_cases z with h | h | h <;> simp_all
        have HX := Lib.hid hx
        obtain ⟨d, hd⟩ : ∃ d, dirN z = d := ⟨_, rfl⟩
        rw [hd] at hbx
        have HD2 := Lib.hid (fun (W : World) => hd ▸ HD.out W)
        clear hx hd HD
        go_wp2_with fail
        refine (HD2.out _).mono ?_
        rintro e w4 ⟨rfl, rfl⟩
        go_wp2_with fail
        go_roundw
        case rel =>
          refine ⟨k + 1, P, G ++ [z], a, p, by omega, by go_num, HP.out, ?_, ?_, ?_, ?_⟩
          · have := HG.out; simp; omega
          · intro c hc
            rcases List.mem_append.1 hc with h | h
            · have := HNO.out c h; omega
            · obtain rfl := List.mem_singleton.1 h
              have := HX.out; omega
          · simpa using HEQ.out
          · simpa using HST.out
        case measure => simp [RowKit.intOf]; omega
    · obtain rfl : k = n := by omega
      have hdr : T.drop k = [] := List.drop_eq_nil_of_le (by rw [HL.out]; exact Nat.le_refl _)
      rw [hdr] at HST HEQ
      have HF := Lib.hid (fill_any w k _ _ _ _ _ l a b P G [] p G.length wr HP.out rfl HAP.out HST.out hn k (by have := HP.out; have := HG.out; omega))
      clear hdr hst
      go_wp2_with fail
      refine HF.out.mono ?_
      rintro e w4 ⟨rfl, hst4⟩
      have hr4 := hst4.reads.2.1
      have HST4 := Lib.hid hst4
      clear hst4 HF
      go_wp2_with fail
      go_ret
      refine ⟨_, _, rfl, ?_, HST4.out.b⟩
      have e : settleN l b s T = P ++ List.replicate G.length (fillN l a b) ++ [] := by
        rw [← HEQ.out, settle_gap l b [] a G (fun c h => by have := HNO.out c h; omega)]
        simp [settleN, nextN]
      rw [e]
      exact HST4.out.row

theorem set_take (Z : List Int) (k : Nat) (v : Int) (h : k < Z.length) : (Z.set k v).take (k + 1) = Z.take k ++ [v] := by
  rw [List.take_set, List.take_succ_eq_append_getElem h, List.set_append_right _ _ (by simp; omega)]
  simp [Nat.min_eq_left (Nat.le_of_lt h)]

set_option maxHeartbeats 2000000 in
set_option maxRecDepth 100000 in
theorem levels_any (A0 : Option Addr) (T : List Int) (n cp : Nat) (l : Int) (w : World) (hA : IntsAt w A0 T) (hl : T.length = n) (hn : n ≤ 1099511627776) (hl0 : 0 ≤ l) (hl1 : l ≤ 2147483647) :
    Calls Tryd.prog 13 #[.slice A0 n cp, .int .i64 l] w fun e w' => ∃ A c, e = .returned (.slice A n c) ∧ w'.ownsRow w.heap.size 3 1 (.slice A n c) n (icl (T.map (levN l))) ∧ Below w.heap.size w w' := by
  obtain ⟨i0, hi0, hq0, hq1, hq2⟩ := info_parts infoInt
  have HI := Lib.hid hi0
  have HQ0 := Lib.hid hq0
  have HQ1 := Lib.hid hq1
  have HQ2 := Lib.hid hq2
  have HA := Lib.hid hA
  have HL := Lib.hid hl
  have HLM := Lib.hid (show (T.map (levN l)).length = n from by rw [List.length_map, hl])
  have HLO := Lib.hid (fun (c : Int) (V : World) => levof_any c l V hl0 hl1)
  clear hi0 hq0 hq1 hq2 hA hl hl0 hl1
  go_enter Tryd.func13, Tryd.ntmps13
  go_wp2_with (refine wpList_make_full _ rfl _ _ 22 rfl w.heap.size 3 i0 (.int .i64 0) 1 Tryd.underlying22 HI.out HQ0.out HQ1.out .i64 .i64 _ _ n rfl rfl rfl rfl ?c1 ?c2 ?c3 ?_)
  case c1 => rw [HQ2.out]; omega
  case c2 => unfold maxLen; omega
  case c3 => exact Nat.le_refl _
  intro w1 hown hgr
  have hown1 : w1.ownsRow w.heap.size 3 1 (.slice (some ⟨w.heap.size, 0, none⟩) n n) n (icl (List.replicate n 0)) := by
    have h := hown
    rw [toList_madeCells_one] at h
    rw [show icl (List.replicate n 0) = List.replicate n (.int .i64 0) from by simp [icl]]
    exact h
  have hb1 : Below w.heap.size w w1 := (Below.refl _ _).grown hgr (Nat.le_refl _) (fun k h => by cases h)
  have HO := Lib.hid hown1
  have HB1 := Lib.hid hb1
  clear hown hgr hown1 hb1 HI HQ0 HQ1 HQ2
  go_wp2_with fail
  go_loopw [13] (fun s13 wx => ∃ (k : Nat) (Z : List Int), k ≤ n ∧ s13 = .int .i64 k ∧ Z.take k = (T.map (levN l)).take k ∧ Z.length = n ∧ wx.ownsRow w.heap.size 3 1 (.slice (some ⟨w.heap.size, 0, none⟩) n n) n (icl Z) ∧ Below w.heap.size w wx) (fun s13 _ => n - (RowKit.intOf s13).toNat)
  case atStart => exact ⟨0, List.replicate n 0, Nat.zero_le _, rfl, rfl, by simp, HO.out, HB1.out⟩
  case round =>
    obtain ⟨k, Z, hk, rfl, hz, hzl, hown, hb⟩ := hrel
    have HZ := Lib.hid hz
    have HZL := Lib.hid hzl
    have HW := Lib.hid hown
    have HB := Lib.hid hb
    clear hz hown HO HB1
    by_cases hlt : k < n
    · have hkz : k < T.length := by rw [HL.out]; exact hlt
      have hkl : k < Z.length := by rw [HZL.out]; exact hlt
      obtain ⟨g, off, rfl, hc⟩ := (HA.out.below hb).at_ hkz
      have hcr : wr.cell? ⟨w.heap.size, k, none⟩ = some (.int .i64 Z[k]) := by
        rw [HW.out.cellAt _ (by omega)]
        simp [icl, hkl]
      have hfr := HW.out.frozenAt k
      obtain ⟨h1, h2⟩ := HW.out.stored k (.int .i64 (levN l T[k]))
      rw [show (icl Z).set k (.int .i64 (levN l T[k])) = icl (Z.set k (levN l T[k])) from by simp [icl]] at h1
      have HST := Lib.hid (set_take Z k (levN l T[k]) hkl)
      have HMT := Lib.hid (show (T.map (levN l)).take (k + 1) = (T.map (levN l)).take k ++ [levN l T[k]] from by
        rw [List.take_succ_eq_append_getElem (by rw [List.length_map]; exact hkz), List.getElem_map])
      generalize T[k] = z at *
      generalize Z[k] = y at *
      have HLZ := Lib.hid (fun (V : World) => HLO.out z V)
      generalize levN l z = v at *
      have HOW := Lib.hid h1
      have hk0 : (0 : Int) ≤ (k : Int) := by omega
      have hk1 : (k : Int) < (n : Int) := by omega
      clear h1 h2 hkz hkl hb hzl
      go_wp2_with fail
      refine (HLZ.out _).mono ?_
      rintro e w4 ⟨rfl, rfl⟩
      clear HLZ
      go_wp2_with fail
      go_roundw
      case rel => exact ⟨k + 1, Z.set k v, by omega, by go_num, by rw [HST.out, HMT.out, HZ.out], by rw [List.length_set]; exact HZL.out, HOW.out, HB.out.setCell (p := ⟨w.heap.size, k, none⟩) (Nat.le_refl _) _⟩
      case measure => simp [RowKit.intOf]; omega
    · obtain rfl : k = n := by omega
      have HE := Lib.hid (show Z = T.map (levN l) from by
        have h := HZ.out
        rw [List.take_of_length_le (by rw [hzl]; exact Nat.le_refl _), List.take_of_length_le (by rw [HLM.out]; exact Nat.le_refl _)] at h
        exact h)
      clear hb hzl
      go_wp2_with fail
      go_ret
      exact ⟨_, _, rfl, by rw [← HE.out]; exact HW.out, HB.out⟩
end Go.Proofs.YtkhhfodbldemeaaDoor.Ne
