/-
  Proved here: what parquetrylaw18's six, is and awake (the chapter's examples) return: the example's clusters and line; yes; true. They leave what was in memory.
-/
import Derived.Test.YtikjchebffohdaaCkAll
import Derived.Test.YtikjchebffohdaaCkWide
import Derived.Test.YtikjchebffohdaaKrSplit
import Derived.OneCell
set_option linter.unusedVariables false
namespace Go.Proofs.Ytikjchebffohdaa.Ck
open Go Go.RowKit Go.Lib Go.Proofs.Ytikjchebffohdaa.Ku Go.Proofs.Ytikjchebffohdaa.Wr Go.Proofs.Ytikjchebffohdaa.Arr

def abc : ByteArray := ⟨#[97, 98, 99, 100, 101, 102]⟩
def x6 : L5 := ⟨0, 6, 6, 1, 0⟩
def okA (l : List C6) : Bool := l.length == 6 && clipP l x6 6 == ⟨0, 6, 6, 1, 0⟩ && clipP l x6 5 == ⟨0, 6, 4, 1, 1⟩ && clipP l x6 1 == ⟨0, 6, 0, 1, 1⟩ && cutP l x6 6 == ⟨0, 6, 5, 1, 1⟩ && cutP l x6 9 == ⟨0, 6, 6, 1, 1⟩ && allP l [x6, x6] 9 1 == [⟨0, 6, 6, 1, 1⟩]
theorem okA_is : okA (ofS abc) = true := by decide +kernel

set_option maxHeartbeats 1000000 in
set_option maxRecDepth 100000 in
theorem six_any (w : World) : Calls Try.prog 14 #[] w fun e w' => ∃ A c, e = .returned (.tuple #[.slice A (ofS abc).length c, lnV x6]) ∧ CuAt w' A (ofS abc) ∧ (ofS abc).length ≤ c ∧ (A = none → c = 0) ∧ Below w.heap.size w w' := by
  have HSP := Lib.hid (fun W => rsplit_any abc W (by decide))
  unfold abc at HSP
  have HI := Lib.hid infoLs
  have HZ := Lib.hid (heap_alloc_new w (.cells #[.int .i64 0, .int .i64 0, .int .i64 0, .int .i64 0, .int .i64 0] 24))
  have HB0 := Lib.hid ((Below.refl w.heap.size w).alloc (Nat.le_refl _) (.cells #[.int .i64 0, .int .i64 0, .int .i64 0, .int .i64 0, .int .i64 0] 24))
  have hsz : w.heap.size < (w.alloc (.cells #[.int .i64 0, .int .i64 0, .int .i64 0, .int .i64 0, .int .i64 0] 24)).heap.size := by rw [World.size_alloc]; omega
  have HSZ := Lib.hid hsz
  clear hsz
  unfold lnV x6
  generalize hl : ofS abc = l at *
  rw [show ofS ⟨#[97, 98, 99, 100, 101, 102]⟩ = l from hl] at HSP
  clear hl
  go_enter Try.func14, Try.ntmps14
  go_wp2_with fail
  refine (HSP.out _).mono ?_
  rintro e w1 ⟨v, rfl, hown, hb1⟩
  have e1 := (hb1.block _ HSZ.out).trans HZ.out
  obtain ⟨⟨z0, z1, z2, z3, z4⟩, y0, y1, y2, y3, y4⟩ := cell5 e1
  have H1 := Lib.hid e1
  have HB2 := Lib.hid (HB0.out.trans (hb1.mono HB0.out.size))
  have HO := Lib.hid hown
  have HU := Lib.hid hb1
  clear e1 hown hb1 HZ
  go_wp2_with fail
  refine bodyPost_ret (results_tmp_row Try.results14 _ _ w.heap.size 24 _ (0, 0) _ rfl (five_set _ _ _ _ _ H1.out) Try.underlying24 rfl HI.out) rfl ?_
  have hbf := below_five HB2.out (Nat.le_refl _) (.int .i64 0) (.int .i64 6) (.int .i64 6) (.int .i64 1) (.int .i64 0)
  have hown5 := ownsRow_setCell_below (ownsRow_setCell_below (ownsRow_setCell_below (ownsRow_setCell_below (ownsRow_setCell_below HO.out (a := ⟨w.heap.size, 0, none⟩) HSZ.out (.int .i64 0)) (a := ⟨w.heap.size, 1, none⟩) HSZ.out (.int .i64 6)) (a := ⟨w.heap.size, 2, none⟩) HSZ.out (.int .i64 6)) (a := ⟨w.heap.size, 3, none⟩) HSZ.out (.int .i64 1)) (a := ⟨w.heap.size, 4, none⟩) HSZ.out (.int .i64 0)
  obtain ⟨A, c, rfl, hcu⟩ := cuAt_own hown5
  have hroom : l.length ≤ c := by
    rcases HO.out.2 with ⟨e1, h0⟩ | ⟨g, cap, cur, e1, _, _, hle, _⟩
    · injection e1 with _ _ e2; omega
    · injection e1 with _ _ e2; omega
  refine ⟨A, c, rfl, hcu, hroom, ?_, hbf⟩
  intro hA
  rcases HO.out.2 with ⟨e1, h0⟩ | ⟨g, cap, cur, e1, _⟩
  · injection e1
  · injection e1 with e2
    rw [hA] at e2
    cases e2

set_option maxHeartbeats 1000000 in
set_option maxRecDepth 100000 in
theorem is_yes (s d : Int) (w : World) : Calls Try.prog 15 #[lnV ⟨0, 6, s, 1, d⟩, .int .i64 0, .int .i64 s, .int .i64 d] w fun e w' => e = .returned (.bool true) ∧ Below w.heap.size w w' := by
  unfold lnV
  have HB := Lib.hid ((Below.refl w.heap.size w).alloc (Nat.le_refl _) (.cells #[.int .i64 0, .int .i64 6, .int .i64 s, .int .i64 1, .int .i64 d] 24))
  have k1 : (s == s) = true := beq_iff_eq.2 rfl
  have k2 : (d == d) = true := beq_iff_eq.2 rfl
  go_enter Try.func15, Try.ntmps15
  go_wp2_with fail
  go_ret
  exact ⟨rfl, HB.out⟩

set_option maxHeartbeats 4000000 in
set_option maxRecDepth 100000 in
theorem awake_any (w : World) : Calls Try.prog 6 #[] w fun e w' => e = .returned (.bool true) ∧ Below w.heap.size w w' := by
  have hok := okA_is
  have HSIX := Lib.hid (fun W => six_any W)
  have HIS := Lib.hid (fun s d W => is_yes s d W)
  generalize ofS abc = l at *
  simp only [okA, Bool.and_eq_true, beq_iff_eq] at hok
  obtain ⟨⟨⟨⟨⟨⟨hl, h1⟩, h2⟩, h3⟩, h4⟩, h5⟩, h6⟩ := hok
  rw [hl] at HSIX
  have hm6 : mayB 6 x6 = true := by decide
  have HM6 := Lib.hid (show [x6, x6].all (mayB 6) = true by decide)
  have HC1 := Lib.hid (fun A c W (hR : CuAt W A l) hnil hc => pclip_any A l 6 c x6 6 W hR hl hnil hc (by omega) (by omega))
  rw [h1, hm6] at HC1
  have HC2 := Lib.hid (fun A c W (hR : CuAt W A l) hnil hc => pclip_any A l 6 c x6 5 W hR hl hnil hc (by omega) (by omega))
  rw [h2, hm6] at HC2
  have HC3 := Lib.hid (fun A c W (hR : CuAt W A l) hnil hc => pclip_any A l 6 c x6 1 W hR hl hnil hc (by omega) (by omega))
  rw [h3, hm6] at HC3
  have HC4 := Lib.hid (fun A c W (hR : CuAt W A l) hnil hc => pcut_any A l 6 c x6 6 W hR hl hnil hc (by omega) (by omega))
  rw [h4, hm6] at HC4
  have HC5 := Lib.hid (fun A c W (hR : CuAt W A l) hnil hc => pcut_any A l 6 c x6 9 W hR hl hnil hc (by omega) (by omega))
  rw [h5, hm6] at HC5
  have HC6 := Lib.hid (fun A c B d W (hR : CuAt W A l) hnil hc (hX : LiAt W B [x6, x6]) => all_any A l 6 c [x6, x6] B 2 d 9 1 W hR hl hnil hc (by omega) (by omega) hX rfl (by omega))
  unfold AllPost allR at HC6
  rw [HM6.out, h6] at HC6
  clear hl h1 h2 h3 h4 h5 h6 hm6 HM6
  unfold madeV lnV x6 zeroL at *
  simp only [if_true] at HC1 HC2 HC3 HC4 HC5 HC6
  go_enter Try.func6, Try.ntmps6
  go_wp2_with fail
  refine (HSIX.out _).mono ?_
  rintro e w1 ⟨A, c, rfl, hcu, hroom, hnil, hb1⟩
  have HN := Lib.hid (And.intro hnil hroom)
  have HS0 := Lib.hid (fun V (h : Below (w1.alloc (.cells #[.int .i64 0, .int .i64 6, .int .i64 6, .int .i64 1, .int .i64 0] 24)).heap.size (w1.alloc (.cells #[.int .i64 0, .int .i64 6, .int .i64 6, .int .i64 1, .int .i64 0] 24)) V) => (⟨(h.block w1.heap.size (by rw [World.size_alloc]; omega)).trans (heap_alloc_new w1 _), hcu.below (((Below.refl w1.heap.size w1).alloc (Nat.le_refl _) _).trans (h.mono (by rw [World.size_alloc]; omega))), (hb1.alloc hb1.size _).trans (h.mono ((hb1.alloc hb1.size _).size))⟩ : V.heap[w1.heap.size]? = some (.cells #[.int .i64 0, .int .i64 6, .int .i64 6, .int .i64 1, .int .i64 0] 24 (0, 0)) ∧ CuAt V A l ∧ Below w.heap.size w V))
  clear hcu hroom hnil hb1 HSIX
  obtain ⟨e0, hcu, hbw⟩ := HS0.out _ (Below.refl _ _)
  have HC1W := Lib.hid (HC1.out A c _ hcu HN.out.1 HN.out.2)
  obtain ⟨⟨z0, z1, z2, z3, z4⟩, -⟩ := cell5 e0
  clear e0 hcu hbw HC1
  go_wp2_with fail
  refine HC1W.out.mono ?_
  rintro e w2 ⟨rfl, hb⟩
  have HBN := Lib.hid hb
  clear hb HC1W z0 z1 z2 z3 z4
  have HS1 := Lib.hid (fun V (h : Below (w2.alloc (.cells #[.int .i64 0, .int .i64 6, .int .i64 6, .int .i64 1, .int .i64 0] 24)).heap.size (w2.alloc (.cells #[.int .i64 0, .int .i64 6, .int .i64 6, .int .i64 1, .int .i64 0] 24)) V) => (show V.heap[w1.heap.size]? = some (.cells #[.int .i64 0, .int .i64 6, .int .i64 6, .int .i64 1, .int .i64 0] 24 (0, 0)) ∧ V.heap[w2.heap.size]? = some (.cells #[.int .i64 0, .int .i64 6, .int .i64 6, .int .i64 1, .int .i64 0] 24 (0, 0)) ∧ CuAt V A l ∧ Below w.heap.size w V from by
    have hv := (HBN.out.alloc HBN.out.size (.cells #[.int .i64 0, .int .i64 6, .int .i64 6, .int .i64 1, .int .i64 0] 24)).trans (h.mono (Nat.le_trans HBN.out.size (by rw [World.size_alloc]; omega)))
    exact ⟨(HS0.out V hv).1, (h.block w2.heap.size (by rw [World.size_alloc]; omega)).trans (heap_alloc_new w2 _), (HS0.out V hv).2.1, (HS0.out V hv).2.2⟩))
  clear HBN HS0
  obtain ⟨e0, -, hcu, hbw⟩ := HS1.out _ (Below.refl _ _)
  have HC2W := Lib.hid (HC2.out A c _ hcu HN.out.1 HN.out.2)
  obtain ⟨⟨z0, z1, z2, z3, z4⟩, -⟩ := cell5 e0
  clear e0 hcu hbw HC2
  go_wp2_with fail
  refine HC2W.out.mono ?_
  rintro e w3 ⟨rfl, hb⟩
  have HBN := Lib.hid hb
  clear hb HC2W z0 z1 z2 z3 z4
  have HS2 := Lib.hid (fun V (h : Below (w3.alloc (.cells #[.int .i64 0, .int .i64 6, .int .i64 4, .int .i64 1, .int .i64 1] 24)).heap.size (w3.alloc (.cells #[.int .i64 0, .int .i64 6, .int .i64 4, .int .i64 1, .int .i64 1] 24)) V) => (show V.heap[w1.heap.size]? = some (.cells #[.int .i64 0, .int .i64 6, .int .i64 6, .int .i64 1, .int .i64 0] 24 (0, 0)) ∧ V.heap[w2.heap.size]? = some (.cells #[.int .i64 0, .int .i64 6, .int .i64 6, .int .i64 1, .int .i64 0] 24 (0, 0)) ∧ V.heap[w3.heap.size]? = some (.cells #[.int .i64 0, .int .i64 6, .int .i64 4, .int .i64 1, .int .i64 1] 24 (0, 0)) ∧ CuAt V A l ∧ Below w.heap.size w V from by
    have hv := (HBN.out.alloc HBN.out.size (.cells #[.int .i64 0, .int .i64 6, .int .i64 4, .int .i64 1, .int .i64 1] 24)).trans (h.mono (Nat.le_trans HBN.out.size (by rw [World.size_alloc]; omega)))
    exact ⟨(HS1.out V hv).1, (HS1.out V hv).2.1, (h.block w3.heap.size (by rw [World.size_alloc]; omega)).trans (heap_alloc_new w3 _), (HS1.out V hv).2.2.1, (HS1.out V hv).2.2.2⟩))
  clear HBN HS1
  obtain ⟨e0, -, -, hcu, hbw⟩ := HS2.out _ (Below.refl _ _)
  have HC3W := Lib.hid (HC3.out A c _ hcu HN.out.1 HN.out.2)
  obtain ⟨⟨z0, z1, z2, z3, z4⟩, -⟩ := cell5 e0
  clear e0 hcu hbw HC3
  go_wp2_with fail
  refine HC3W.out.mono ?_
  rintro e w4 ⟨rfl, hb⟩
  have HBN := Lib.hid hb
  clear hb HC3W z0 z1 z2 z3 z4
  have HS3 := Lib.hid (fun V (h : Below (w4.alloc (.cells #[.int .i64 0, .int .i64 6, .int .i64 0, .int .i64 1, .int .i64 1] 24)).heap.size (w4.alloc (.cells #[.int .i64 0, .int .i64 6, .int .i64 0, .int .i64 1, .int .i64 1] 24)) V) => (show V.heap[w1.heap.size]? = some (.cells #[.int .i64 0, .int .i64 6, .int .i64 6, .int .i64 1, .int .i64 0] 24 (0, 0)) ∧ V.heap[w2.heap.size]? = some (.cells #[.int .i64 0, .int .i64 6, .int .i64 6, .int .i64 1, .int .i64 0] 24 (0, 0)) ∧ V.heap[w3.heap.size]? = some (.cells #[.int .i64 0, .int .i64 6, .int .i64 4, .int .i64 1, .int .i64 1] 24 (0, 0)) ∧ V.heap[w4.heap.size]? = some (.cells #[.int .i64 0, .int .i64 6, .int .i64 0, .int .i64 1, .int .i64 1] 24 (0, 0)) ∧ CuAt V A l ∧ Below w.heap.size w V from by
    have hv := (HBN.out.alloc HBN.out.size (.cells #[.int .i64 0, .int .i64 6, .int .i64 0, .int .i64 1, .int .i64 1] 24)).trans (h.mono (Nat.le_trans HBN.out.size (by rw [World.size_alloc]; omega)))
    exact ⟨(HS2.out V hv).1, (HS2.out V hv).2.1, (HS2.out V hv).2.2.1, (h.block w4.heap.size (by rw [World.size_alloc]; omega)).trans (heap_alloc_new w4 _), (HS2.out V hv).2.2.2.1, (HS2.out V hv).2.2.2.2⟩))
  clear HBN HS2
  obtain ⟨e0, -, -, -, hcu, hbw⟩ := HS3.out _ (Below.refl _ _)
  have HC4W := Lib.hid (HC4.out A c _ hcu HN.out.1 HN.out.2)
  obtain ⟨⟨z0, z1, z2, z3, z4⟩, -⟩ := cell5 e0
  clear e0 hcu hbw HC4
  go_wp2_with fail
  refine HC4W.out.mono ?_
  rintro e w5 ⟨rfl, hb⟩
  have HBN := Lib.hid hb
  clear hb HC4W z0 z1 z2 z3 z4
  have HS4 := Lib.hid (fun V (h : Below (w5.alloc (.cells #[.int .i64 0, .int .i64 6, .int .i64 5, .int .i64 1, .int .i64 1] 24)).heap.size (w5.alloc (.cells #[.int .i64 0, .int .i64 6, .int .i64 5, .int .i64 1, .int .i64 1] 24)) V) => (show V.heap[w1.heap.size]? = some (.cells #[.int .i64 0, .int .i64 6, .int .i64 6, .int .i64 1, .int .i64 0] 24 (0, 0)) ∧ V.heap[w2.heap.size]? = some (.cells #[.int .i64 0, .int .i64 6, .int .i64 6, .int .i64 1, .int .i64 0] 24 (0, 0)) ∧ V.heap[w3.heap.size]? = some (.cells #[.int .i64 0, .int .i64 6, .int .i64 4, .int .i64 1, .int .i64 1] 24 (0, 0)) ∧ V.heap[w4.heap.size]? = some (.cells #[.int .i64 0, .int .i64 6, .int .i64 0, .int .i64 1, .int .i64 1] 24 (0, 0)) ∧ V.heap[w5.heap.size]? = some (.cells #[.int .i64 0, .int .i64 6, .int .i64 5, .int .i64 1, .int .i64 1] 24 (0, 0)) ∧ CuAt V A l ∧ Below w.heap.size w V from by
    have hv := (HBN.out.alloc HBN.out.size (.cells #[.int .i64 0, .int .i64 6, .int .i64 5, .int .i64 1, .int .i64 1] 24)).trans (h.mono (Nat.le_trans HBN.out.size (by rw [World.size_alloc]; omega)))
    exact ⟨(HS3.out V hv).1, (HS3.out V hv).2.1, (HS3.out V hv).2.2.1, (HS3.out V hv).2.2.2.1, (h.block w5.heap.size (by rw [World.size_alloc]; omega)).trans (heap_alloc_new w5 _), (HS3.out V hv).2.2.2.2.1, (HS3.out V hv).2.2.2.2.2⟩))
  clear HBN HS3
  obtain ⟨e0, -, -, -, -, hcu, hbw⟩ := HS4.out _ (Below.refl _ _)
  have HC5W := Lib.hid (HC5.out A c _ hcu HN.out.1 HN.out.2)
  obtain ⟨⟨z0, z1, z2, z3, z4⟩, -⟩ := cell5 e0
  clear e0 hcu hbw HC5
  go_wp2_with fail
  refine HC5W.out.mono ?_
  rintro e w6 ⟨rfl, hb⟩
  have HBN := Lib.hid hb
  clear hb HC5W z0 z1 z2 z3 z4
  have HS5 := Lib.hid (fun V (h : Below (w6.alloc (.cells #[.int .i64 0, .int .i64 6, .int .i64 6, .int .i64 1, .int .i64 1] 24)).heap.size (w6.alloc (.cells #[.int .i64 0, .int .i64 6, .int .i64 6, .int .i64 1, .int .i64 1] 24)) V) => (show V.heap[w1.heap.size]? = some (.cells #[.int .i64 0, .int .i64 6, .int .i64 6, .int .i64 1, .int .i64 0] 24 (0, 0)) ∧ V.heap[w2.heap.size]? = some (.cells #[.int .i64 0, .int .i64 6, .int .i64 6, .int .i64 1, .int .i64 0] 24 (0, 0)) ∧ V.heap[w3.heap.size]? = some (.cells #[.int .i64 0, .int .i64 6, .int .i64 4, .int .i64 1, .int .i64 1] 24 (0, 0)) ∧ V.heap[w4.heap.size]? = some (.cells #[.int .i64 0, .int .i64 6, .int .i64 0, .int .i64 1, .int .i64 1] 24 (0, 0)) ∧ V.heap[w5.heap.size]? = some (.cells #[.int .i64 0, .int .i64 6, .int .i64 5, .int .i64 1, .int .i64 1] 24 (0, 0)) ∧ V.heap[w6.heap.size]? = some (.cells #[.int .i64 0, .int .i64 6, .int .i64 6, .int .i64 1, .int .i64 1] 24 (0, 0)) ∧ CuAt V A l ∧ Below w.heap.size w V from by
    have hv := (HBN.out.alloc HBN.out.size (.cells #[.int .i64 0, .int .i64 6, .int .i64 6, .int .i64 1, .int .i64 1] 24)).trans (h.mono (Nat.le_trans HBN.out.size (by rw [World.size_alloc]; omega)))
    exact ⟨(HS4.out V hv).1, (HS4.out V hv).2.1, (HS4.out V hv).2.2.1, (HS4.out V hv).2.2.2.1, (HS4.out V hv).2.2.2.2.1, (h.block w6.heap.size (by rw [World.size_alloc]; omega)).trans (heap_alloc_new w6 _), (HS4.out V hv).2.2.2.2.2.1, (HS4.out V hv).2.2.2.2.2.2⟩))
  clear HBN HS4
  obtain ⟨e0, -, -, -, -, -, hcu, hbw⟩ := HS5.out _ (Below.refl _ _)
  have hsl : ∀ W V : World, Below (W.alloc (.cells #[.int .i64 0, .int .i64 6, .int .i64 6, .int .i64 1, .int .i64 0, .int .i64 0, .int .i64 6, .int .i64 6, .int .i64 1, .int .i64 0] 24)).heap.size (W.alloc (.cells #[.int .i64 0, .int .i64 6, .int .i64 6, .int .i64 1, .int .i64 0, .int .i64 0, .int .i64 6, .int .i64 6, .int .i64 1, .int .i64 0] 24)) V → LiAt V (some ⟨W.heap.size, 0, none⟩) [⟨0, 6, 6, 1, 0⟩, ⟨0, 6, 6, 1, 0⟩] := fun W V h => by
    have hlt : W.heap.size < (W.alloc (.cells #[.int .i64 0, .int .i64 6, .int .i64 6, .int .i64 1, .int .i64 0, .int .i64 0, .int .i64 6, .int .i64 6, .int .i64 1, .int .i64 0] 24)).heap.size := by rw [World.size_alloc]; omega
    have hh := (h.block _ hlt).trans (heap_alloc_new W _)
    refine .inr ⟨_, _, rfl, Nat.lt_of_lt_of_le hlt h.size, fun k hk => ?_⟩
    rcases k with _ | _ | k
    · exact ⟨cell_of_row _ _ 0 _ _ _ hh, cell_of_row _ _ 1 _ _ _ hh, cell_of_row _ _ 2 _ _ _ hh, cell_of_row _ _ 3 _ _ _ hh, cell_of_row _ _ 4 _ _ _ hh⟩
    · exact ⟨cell_of_row _ _ 5 _ _ _ hh, cell_of_row _ _ 6 _ _ _ hh, cell_of_row _ _ 7 _ _ _ hh, cell_of_row _ _ 8 _ _ _ hh, cell_of_row _ _ 9 _ _ _ hh⟩
    · simp at hk; omega
  obtain ⟨⟨z0, z1, z2, z3, z4⟩, -⟩ := cell5 e0
  have hsz6 : (w6.alloc (.cells #[.int .i64 0, .int .i64 6, .int .i64 6, .int .i64 1, .int .i64 1] 24)).heap.size = w6.heap.size + 1 := by rw [World.size_alloc]
  have hgo := (Below.refl (w6.alloc (.cells #[.int .i64 0, .int .i64 6, .int .i64 6, .int .i64 1, .int .i64 1] 24)).heap.size (w6.alloc (.cells #[.int .i64 0, .int .i64 6, .int .i64 6, .int .i64 1, .int .i64 1] 24))).alloc (Nat.le_refl _) (.cells #[.int .i64 0, .int .i64 6, .int .i64 6, .int .i64 1, .int .i64 0, .int .i64 0, .int .i64 6, .int .i64 6, .int .i64 1, .int .i64 0] 24)
  have hcu2 := (HS5.out _ hgo).2.2.2.2.2.2.1
  have HC6W := Lib.hid (fun d => HC6.out A c _ d _ hcu2 HN.out.1 HN.out.2 (hsl _ _ (Below.refl _ _)))
  have HGO := Lib.hid hgo
  rw [hsz6] at HC6W
  clear e0 hcu hbw HC6 hsl hgo hcu2
  go_wp2_with fail
  refine (HC6W.out _).mono ?_
  rintro e w7 ⟨A', c', rfl, hown, hb⟩
  have HB7 := Lib.hid (HGO.out.trans (hb.mono HGO.out.size))
  obtain ⟨A2, c2, e2, hli⟩ := liAt_own (l := [⟨0, 6, 6, 1, 1⟩]) hown
  injection e2 with e21 _ e23
  subst e21
  subst e23
  have HLI := Lib.hid hli
  clear hown hb hli HC6W HGO hsz6 z0 z1 z2 z3 z4
  have HV7 := Lib.hid (Below.refl w7.heap.size w7)
  obtain ⟨-, e0, -, -, -, -, -⟩ := HS5.out w7 (HB7.out.trans (HV7.out.mono HB7.out.size))
  obtain ⟨⟨z0, z1, z2, z3, z4⟩, -⟩ := cell5 e0
  clear e0
  go_wp2_with fail
  refine (HIS.out 6 0 _).mono ?_
  rintro e w8 ⟨rfl, hb⟩
  have HV8 := Lib.hid (HV7.out.trans (hb.mono HV7.out.size))
  clear hb z0 z1 z2 z3 z4 HV7
  obtain ⟨-, -, e0, -, -, -, -⟩ := HS5.out w8 (HB7.out.trans (HV8.out.mono HB7.out.size))
  obtain ⟨⟨z0, z1, z2, z3, z4⟩, -⟩ := cell5 e0
  clear e0
  go_wp2_with fail
  refine (HIS.out 4 1 _).mono ?_
  rintro e w9 ⟨rfl, hb⟩
  have HV9 := Lib.hid (HV8.out.trans (hb.mono HV8.out.size))
  clear hb z0 z1 z2 z3 z4 HV8
  obtain ⟨-, -, -, e0, -, -, -⟩ := HS5.out w9 (HB7.out.trans (HV9.out.mono HB7.out.size))
  obtain ⟨⟨z0, z1, z2, z3, z4⟩, -⟩ := cell5 e0
  clear e0
  go_wp2_with fail
  refine (HIS.out 0 1 _).mono ?_
  rintro e w10 ⟨rfl, hb⟩
  have HV10 := Lib.hid (HV9.out.trans (hb.mono HV9.out.size))
  clear hb z0 z1 z2 z3 z4 HV9
  obtain ⟨-, -, -, -, e0, -, -⟩ := HS5.out w10 (HB7.out.trans (HV10.out.mono HB7.out.size))
  obtain ⟨⟨z0, z1, z2, z3, z4⟩, -⟩ := cell5 e0
  clear e0
  go_wp2_with fail
  refine (HIS.out 5 1 _).mono ?_
  rintro e w11 ⟨rfl, hb⟩
  have HV11 := Lib.hid (HV10.out.trans (hb.mono HV10.out.size))
  clear hb z0 z1 z2 z3 z4 HV10
  obtain ⟨-, -, -, -, -, e0, -⟩ := HS5.out w11 (HB7.out.trans (HV11.out.mono HB7.out.size))
  obtain ⟨⟨z0, z1, z2, z3, z4⟩, -⟩ := cell5 e0
  clear e0
  go_wp2_with fail
  refine (HIS.out 6 1 _).mono ?_
  rintro e w12 ⟨rfl, hb⟩
  have HV12 := Lib.hid (HV11.out.trans (hb.mono HV11.out.size))
  clear hb z0 z1 z2 z3 z4 HV11
  obtain ⟨g, o, rfl, hg, z0, z1, z2, z3, z4⟩ := (HLI.out.below HV12.out).at_ (k := 0) (by simp)
  simp only [Nat.zero_mul, Nat.add_zero, List.getElem_cons_zero] at z0 z1 z2 z3 z4
  go_wp2_with fail
  refine (HIS.out 6 1 _).mono ?_
  rintro e w13 ⟨rfl, hb⟩
  have HV13 := Lib.hid (HV12.out.trans (hb.mono HV12.out.size))
  clear hb z0 z1 z2 z3 z4 HV12
  go_wp2_with fail
  go_ret
  exact ⟨rfl, (HS5.out _ (HB7.out.trans (HV13.out.mono HB7.out.size))).2.2.2.2.2.2.2⟩
end Go.Proofs.Ytikjchebffohdaa.Ck
