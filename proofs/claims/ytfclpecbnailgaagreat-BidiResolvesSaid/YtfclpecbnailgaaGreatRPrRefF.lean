/-
 Proved here: what parquetryref14.Find returns: a new row of the pairs, by the plain findP. It leaves what was in memory.
-/
import Derived.Deep.RegionHeld3
import Derived.Test.YtfclpecbnailgaaGreatR35
import Derived.Test.YtfclpecbnailgaaGreatRPbFind
import Derived.Test.YtfclpecbnailgaaGreatR26
set_option linter.unusedVariables false
set_option linter.unusedSimpArgs false
namespace Go.Proofs.YtfclpecbnailgaaGreat.Pb
open Go Go.RowKit Go.Lib Go.Shelf Go.Proofs.YtfclpecbnailgaaGreat.Cl Go.Proofs.YtfclpecbnailgaaGreat.Pr Go.Proofs.YtfclpecbnailgaaGreat.Mi
/-- What lies in memory while the document's answer looks for pairs. -/
structure RefAt (w W : World) (vl vo : Value) (L : List (Nat × Nat)) (st : List (Nat × Int)) : Prop where
 ol : W.ownsRow w.heap.size 95 2 vl L.length (cellsP L)
 oo : W.ownsRow w.heap.size 3 1 vo st.length (icl (stI st))
 below : Below w.heap.size w W
theorem RefAt.later {w W W' : World} {vl vo : Value} {L : List (Nat × Nat)} {st : List (Nat × Int)} (h : RefAt w W vl vo L st) (hb : Below W.heap.size W W') : RefAt w W' vl vo L st :=
 ⟨ownsRow_below h.ol hb, ownsRow_below h.oo hb, h.below.trans (hb.mono h.below.size)⟩
theorem stack_ints {W : World} {b cap : Nat} {A : Option Addr} {st : List (Nat × Int)} (h : W.ownsRow b 3 1 (.slice A st.length cap) st.length (icl (stI st))) : IntsAt W A (stI st) := by
 obtain ⟨A', c', e, hat⟩ := intsAt_icl h (stI_len st)
 injection e with e
 rw [e]
 exact hat
theorem below_drew {B : Nat} {a w : World} (h : Below B a w) : Below B a w.drew := h.drew
theorem step_belowB {wr V V' : World} (h : Below wr.heap.size wr V) (h' : Below V.heap.size V V') : Below wr.heap.size wr V' := h.trans (h'.mono h.size)
theorem gone_more {s1 : List (Nat × Int)} {k : Nat} {o c : Int} (h : ∀ y : Nat × Int, y ∈ s1 → meetT y.2 c = false) (hm : meetT o c = false) : ∀ y : Nat × Int, y ∈ s1 ++ [(k, o)] → meetT y.2 c = false := by
 intro y hy
 rcases List.mem_append.1 hy with hy | hy
 ·exact h y hy
 ·obtain rfl : y = (k, o) := by simpa using hy
  exact hm
theorem order_bound (a k : Nat) (E : List (Nat × Nat)) : (inOrder a E ++ (E.take k).filter (fun p => decide (p.1 = a))).length ≤ E.length + E.length := by
 rw [List.length_append]
 have h1 := inOrder_len a E
 have h2 := List.length_filter_le (fun p : Nat × Nat => decide (p.1 = a)) (E.take k)
 rw [List.length_take] at h2
 omega
set_option maxHeartbeats 4000000 in
set_option maxRecDepth 100000 in
theorem rfind_like (A1 A2 : Option Addr) (T C : List Int) (n c1 c2 : Nat) (w : World) (hT : IntsAt w A1 T) (hC : IntsAt w A2 C) (hlT : T.length = n) (hlC : C.length = n) (hn : n ≤ 1099511627776) :
  Calls Tryz.prog 72 #[.slice A1 n c1, .slice A2 n c2] w fun e w' => ∃ v, e = .returned v ∧ w'.ownsRow w.heap.size 95 2 v (findP T C).length (cellsP (findP T C)) ∧ Below w.heap.size w w' := by
 have hFP : findP T C = inOrder n (ends 0 [] (T.zip C)) := by unfold findP; rw [if_pos (by rw [hlT, hlC]), hlC]
 rw [hFP]
 have hEL : (ends 0 [] (T.zip C)).length ≤ n := by
  have := ends_len (T.zip C) 0 []
  rw [List.length_zip, hlT, hlC] at this
  omega
 have HT := Lib.hid hT
 have HC := Lib.hid hC
 have HLT := Lib.hid hlT
 have HLC := Lib.hid hlC
 obtain ⟨E, hE⟩ : ∃ E, ends 0 [] (T.zip C) = E := ⟨_, rfl⟩
 rw [hE] at hEL ⊢
 have HE := Lib.hid hE
 clear hT hC hlT hlC hFP hE
 go_enter Tryz.func72, Tryz.ntmps72
 go_wp2_with fail
 rename_i K hK
 have HEND : ∀ a W, (∃ vl vo st, FitPrRf a (.slice A2 n c2) (.slice none 0 0) vl ∧ RefAt w W vl vo E st) → K a W := by
  rintro a W ⟨vl, vo, st, hfit, hF⟩
  refine hK _ _ ?_
  clear hK
  obtain ⟨g, rfl⟩ := hfit.opened
  obtain ⟨AL, cl, hvl, hPa⟩ := paAt_own hF.ol rfl
  subst hvl
  have HB := Lib.hid hF.below
  have HPA := Lib.hid hPa
  obtain ⟨iP, hi, hz0, hz1, hz2⟩ := info_parts infoPair
  obtain ⟨m, hm⟩ : ∃ m, E.length = m := ⟨_, rfl⟩
  have HM := Lib.hid hm
  rw [hm] at hEL ⊢
  clear hfit hF hPa HT HC HLT HLC HE hm
  go_wp2_with fail
  go_loopw [11, 12] (fun s11 s12 wx => ∃ (a : Nat), a ≤ n ∧ s12 = .int .i64 a ∧ wx.ownsRow W.heap.size 95 2 s11 (inOrder a E).length (cellsP (inOrder a E)) ∧ Below W.heap.size W wx) (fun _ s12 _ => n - (RowKit.intOf s12).toNat)
  case atStart => exact ⟨0, Nat.zero_le _, rfl, World.ownsRow_nil _ _ _ _, Below.refl _ _⟩
  case round =>
   obtain ⟨a, ha, rfl, hown, hbw⟩ := hrel
   have HOW := Lib.hid hown
   have HBW := Lib.hid hbw
   clear hown hbw
   by_cases hlt : a < n
   ·go_wp2_with fail
    go_loopw [11, 13] (fun s11 s13 wx => ∃ (k : Nat), k ≤ m ∧ s13 = .int .i64 k ∧ wx.ownsRow W.heap.size 95 2 s11 (inOrder a E ++ (E.take k).filter (fun p => decide (p.1 = a))).length (cellsP (inOrder a E ++ (E.take k).filter (fun p => decide (p.1 = a)))) ∧ Below W.heap.size W wx) (fun _ s13 _ => m - (RowKit.intOf s13).toNat)
    case atStart => exact ⟨0, Nat.zero_le _, rfl, by rw [List.take_zero, List.filter_nil, List.append_nil]; exact HOW.out, HBW.out⟩
    case round =>
     obtain ⟨k, hk, rfl, hown, hbw2⟩ := hrel
     have HOW2 := Lib.hid hown
     have HBW2 := Lib.hid hbw2
     clear hown
     by_cases hkm : k < m
     ·have hkE : k < E.length := by rw [HM.out]; exact hkm
      obtain ⟨⟨x, y⟩, hp⟩ : ∃ p, E[k]? = some p := ⟨_, List.getElem?_eq_getElem hkE⟩
      obtain ⟨ba, oa, rfl, hblt, a0, a1⟩ := (HPA.out.below hbw2).at_ hp
      have HFS := Lib.hid (filter_step hp a)
      try dsimp only at a0 a1 HFS
      have hk0 : (0 : Int) ≤ (k : Int) := by omega
      have hk1 : (k : Int) < (m : Int) := by omega
      clear hkE hp hbw2
      by_cases hxa : x = a
      ·rw [if_pos hxa] at HFS
       have hbx : ((x : Int) == (a : Int)) = true := beq_iff_eq.2 (by omega)
       have hbn : (x == a) = true := by simpa using hxa
       have hsz := HBW2.out.size
       have hln := order_bound a k E
       rw [HM.out] at hln
       generalize hLL : inOrder a E ++ (E.take k).filter (fun p => decide (p.1 = a)) = LL at *
       clear hxa
       go_wp2_with (at_builtin; refine wpList_append_own _ rfl _ _ 91 rfl W.heap.size 95 iP _ 2 16 Tryz.underlying91 hi hz0 hz1 hz2 rfl (by decide) _ _ _ rfl (ownsRow_below HOW2.out (below_made _ _)) ⟨wr.heap.size, 0, none⟩ 1 1 [.int .i64 x, .int .i64 y] rfl rfl (cells_new rfl) (by simp [Value.oneCell']) (by unfold maxLen; omega) (by omega) (by simp; omega) ?_; intro v' w1 hown' hg hnil; clear hnil)
       have hown2 := pair_own hown'
       have hb2 := ((HBW2.out.alloc HBW2.out.size (.cells #[.int .i64 x, .int .i64 y] 95)).grown hg (by simp; omega) (fun q hq => (HOW2.out.lt q hq).1))
       go_roundw
       case rel => exact ⟨k + 1, by omega, by go_num, by rw [HFS.out, ← List.append_assoc, hLL]; exact hown2, hb2⟩
       case measure => simp [RowKit.intOf]; omega
      ·rw [if_neg hxa, List.append_nil] at HFS
       have hbx : ((x : Int) == (a : Int)) = false := beq_eq_false_iff_ne.2 (by omega)
       have hbn : (x == a) = false := by simpa using hxa
       clear hxa
       go_wp2_with fail
       go_roundw
       case rel => exact ⟨k + 1, by omega, by go_num, by rw [HFS.out]; exact HOW2.out, HBW2.out⟩
       case measure => simp [RowKit.intOf]; omega
     ·obtain rfl : k = m := by omega
      have hE2 : inOrder a E ++ (E.take k).filter (fun p => decide (p.1 = a)) = inOrder (a + 1) E := by rw [List.take_of_length_le (by rw [HM.out]; exact Nat.le_refl _), inOrder_succ]
      rw [hE2] at HOW2
      clear hE2 hkm hbw2
      go_wp2_with fail
      go_roundw
      case rel => exact ⟨a + 1, by omega, by go_num, HOW2.out, HBW2.out⟩
      case measure => simp [RowKit.intOf]; omega
   ·obtain rfl : a = n := by omega
    clear hlt
    go_wp2_with fail
    go_ret
    exact ⟨_, rfl, ownsRow_mono HOW.out HB.out.size, HB.out.trans (HBW.out.mono HB.out.size)⟩
 clear hK
 have HND := Lib.hid HEND
 clear HEND
 go_loopw [5, 6, 7] (fun s5 s6 s7 wx => ∃ (L : List (Nat × Nat)) (st : List (Nat × Int)) (i : Nat), i ≤ n ∧ s7 = .int .i64 i ∧ RefAt w wx s5 s6 L st ∧ Pr.Open T C i st ∧ st.length ≤ 63 ∧ L ++ ends i st ((T.zip C).drop i) = E) (fun _ _ s7 _ => n - (RowKit.intOf s7).toNat)
 case atStart => exact ⟨[], [], 0, Nat.zero_le _, rfl, ⟨World.ownsRow_nil _ _ _ _, World.ownsRow_nil _ _ _ _, Below.refl _ _⟩, Pr.Open.nil T C 0, by simp, HE.out⟩
 case round =>
  obtain ⟨L, st, i, hi, rfl, hF, hO, h63, hL⟩ := hrel
  have HF := Lib.hid hF
  have HO := Lib.hid hO
  have HL := Lib.hid hL
  clear hO hL
  by_cases hlt : i < n
  ·have hT := HT.out.below hF.below
   have hC := HC.out.below hF.below
   have hiT : i < T.length := by rw [HLT.out]; exact hlt
   have hiC : i < C.length := by rw [HLC.out]; exact hlt
   obtain ⟨b1, o1, rfl, hcT⟩ := hT.at_ hiT
   obtain ⟨b2, o2, rfl, hcC⟩ := hC.at_ hiC
   have HTI := Lib.hid (List.getElem?_eq_getElem hiT)
   have HCI := Lib.hid (List.getElem?_eq_getElem hiC)
   generalize T[i] = t at *
   generalize C[i] = c at *
   have HZD := Lib.hid (zip_drop HTI.out HCI.out)
   have hi0 : (0 : Int) ≤ (i : Int) := by omega
   have hi1 : (i : Int) < (n : Int) := by omega
   obtain ⟨A3, cap3, hvo⟩ := own_shape hF.oo
   subst hvo
   have HCC := Lib.hid (fun (V : World) (h : Below wr.heap.size wr V) => HC.out.below (HF.out.below.trans (h.mono HF.out.below.size)))
   have hb1 := World.block_lt_of_cell? wr _ hcT
   clear hT hC hiT hiC hF
   go_wp2_with fail
   refine (Mr.refPair_any c _).mono ?_
   rintro e W2 ⟨rfl, hb⟩
   have hcT2 := (hb.cell (p := ⟨b1, o1 + i, none⟩) hb1).trans hcT
   have HF2 := Lib.hid (HF.out.later hb)
   have HB2 := Lib.hid hb
   clear hcT hcC hb1 hb HF
   by_cases h13 : t = 13
   ·subst h13
    rcases kind_012 c with hk | hk | hk
    ·have HLN := Lib.hid (show L ++ ends (i + 1) st ((T.zip C).drop (i + 1)) = E from by rw [← HL.out, HZD.out, ends_skip (.inr hk)])
     have hk' : (pairT c).1 = 0 := hk
     rw [hk']
     clear hk hk' HL HZD
     go_wp2_with fail
     go_roundw
     case rel => exact ⟨L, st, i + 1, by omega, by go_num, HF2.out, HO.out.next, h63, HLN.out⟩
     case measure => simp [RowKit.intOf]; omega
    ·have hk' : (pairT c).1 = 1 := hk
     rw [hk']
     by_cases hfull : 63 ≤ st.length
     ·have HLN := Lib.hid (show L = E from by rw [← HL.out, HZD.out, ends_full hk hfull, List.append_nil])
      have hs : st.length = 63 := by omega
      rw [hs]
      clear hk hk' hfull HL HZD
      go_wp2_with fail
      have hF3 := HF2.out
      rw [HLN.out] at hF3
      exact HND.out _ _ ⟨_, _, st, ⟨rfl, rfl, rfl, rfl, rfl⟩, hF3⟩
     ·have HLN := Lib.hid (show L ++ ends (i + 1) ((i, c) :: st) ((T.zip C).drop (i + 1)) = E from by rw [← HL.out, HZD.out, ends_push hk (by omega)])
      have hbt : decide ((63 : Int) ≤ (st.length : Int)) = false := decide_eq_false (by omega)
      have hbn : decide (63 ≤ st.length) = false := decide_eq_false hfull
      have HON := Lib.hid (HO.out.push HTI.out HCI.out)
      have hlen : st.length ≤ 62 := by omega
      have HM := Lib.hid (show (W2.alloc (.cells #[] 3)).ownsRow W2.heap.size 3 1 (.slice (some ⟨W2.heap.size, 0, none⟩) 0 0) 0 (icl []) from World.ownsRow_made W2 #[] 0 (Nat.le_refl _) (Nat.zero_le _) rfl)
      have HD := Lib.hid (below_made W2 (.cells #[] 3))
      have HSK := Lib.hid (stack_ints (HF2.out.later HD.out).oo)
      clear hk hk' hfull HL HZD
      go_wp2_with (at_builtin; refine wpList_add rfl _ _ rfl W2.heap.size _ 0 [] rfl HM.out A3 st.length cap3 (stI st) rfl HSK.out (stI_len st) (by omega) (by simp) ?_)
      intro v1 w1 hown1 hbd1
      try simp only [List.nil_append, Nat.zero_add] at hown1
      have HO1 := Lib.hid hown1
      have HBD1 := Lib.hid (HD.out.trans hbd1)
      have hsz1 := HBD1.out.size
      clear hown1 hbd1 HM HSK
      go_wp2_with (at_builtin; refine wpList_add rfl _ _ rfl W2.heap.size v1 st.length (stI st) rfl (ownsRow_below HO1.out (below_made _ _)) (some ⟨w1.heap.size, 0, none⟩) 1 1 [(i : Int)] rfl (made_ints [(i : Int)] _ _ _ rfl) rfl (by omega) (by simp; omega) ?_)
      intro v2 w2 hown2 hbd2
      have hb4 : Below W2.heap.size W2 w2 := (HBD1.out.trans ((below_made w1 _).mono hsz1)).trans hbd2
      have hF4 := HF2.out.later hb4
      have HF4 := Lib.hid (show RefAt w w2 u5 v2 L ((i, c) :: st) from ⟨hF4.ol, by rw [List.length_cons, stI_push]; exact ownsRow_mono hown2 HF2.out.below.size, hF4.below⟩)
      clear hown2 hbd2 hb4 hF4
      go_wp2_with fail
      go_roundw
      case rel => exact ⟨L, (i, c) :: st, i + 1, by omega, by go_num, HF4.out, HON.out, Nat.succ_le_succ hlen, HLN.out⟩
      case measure => simp [RowKit.intOf]; omega
    ·have hk' : (pairT c).1 = 2 := hk
     rw [hk']
     obtain ⟨vl, rfl⟩ : ∃ v, v = u5 := ⟨_, rfl⟩
     have HCC2 := Lib.hid (fun (V : World) (h : Below W2.heap.size W2 V) => HCC.out V (HB2.out.trans (h.mono HB2.out.size)))
     clear hk' HCC
     go_wp2_with fail
     go_loopw [5, 6, 10] (fun s5 s6 s10 wx => ∃ (s1 s2 : List (Nat × Int)), st = s1 ++ s2 ∧ s5 = vl ∧ s6 = .slice A3 st.length cap3 ∧ s10 = .int .i64 ((s2.length : Int) - 1) ∧ (∀ y : Nat × Int, y ∈ s1 → meetT y.2 c = false) ∧ Below W2.heap.size W2 wx) (fun _ _ s10 _ => (RowKit.intOf s10 + 1).toNat)
     case atStart => exact ⟨[], st, rfl, rfl, rfl, rfl, by simp, Below.refl _ _⟩
     case round =>
      obtain ⟨s1, s2, hst, rfl, rfl, rfl, hno, hbw⟩ := hrel
      have HST := Lib.hid hst
      have HNO := Lib.hid hno
      have HBW := Lib.hid hbw
      have HFW := Lib.hid (HF2.out.later hbw)
      clear hst hno hbw
      cases s2 with
      | nil =>
       have HLN := Lib.hid (show L ++ ends (i + 1) st ((T.zip C).drop (i + 1)) = E from by
        rw [← HL.out, HZD.out, ends_lone hk]
        rw [HST.out, List.append_nil]
        exact dropTo_none HNO.out)
       clear HL HZD hk
       go_wp2_with fail
       go_roundw
       case rel => exact ⟨L, st, i + 1, by omega, by go_num, HFW.out, HO.out.next, h63, HLN.out⟩
       case measure => simp [RowKit.intOf]; omega
      | cons y s2 =>
       obtain ⟨k, o⟩ := y
       have hst : st = s1 ++ (k, o) :: s2 := HST.out
       have hslt : s2.length < st.length := by rw [hst, List.length_append, List.length_cons]; omega
       obtain ⟨g3, hA3, hle3⟩ := own_some HFW.out.oo (by omega)
       subst hA3
       have hCk : C[k]? = some o := (HO.out.are (k, o) (by rw [hst]; simp)).2
       have hkn : k < n := by rw [← HLC.out]; exact (List.getElem?_eq_some_iff.1 hCk).1
       have hSk : (stI st)[s2.length]? = some (k : Int) := by rw [hst]; exact stI_at s1 s2 k o
       have HS := Lib.hid (fun (V : World) (h : Below wr.heap.size wr V) => show V.cell? ⟨g3, 0 + s2.length, none⟩ = some (.int .i64 k) ∧ V.cell? ⟨b2, o2 + k, none⟩ = some (.int .i64 o) ∧ V.cell? ⟨b2, o2 + i, none⟩ = some (.int .i64 c) ∧ Below wr.heap.size wr V from
        ⟨ints_cell (stack_ints (HFW.out.later h).oo) hSk, ints_cell (HCC2.out V (HBW.out.trans (h.mono HBW.out.size))) hCk, ints_cell (HCC2.out V (HBW.out.trans (h.mono HBW.out.size))) HCI.out, h⟩)
       obtain ⟨f1, f2, f3, -⟩ := HS.out wr (Below.refl _ _)
       have e1 : (((s2.length + 1 : Nat) : Int) - 1) = (s2.length : Int) := by omega
       have hs0 : (0 : Int) ≤ (s2.length : Int) := by omega
       have hs1 : (s2.length : Int) < (st.length : Int) := by omega
       have hk0 : (0 : Int) ≤ (k : Int) := by omega
       have hk1 : (k : Int) < (n : Int) := by omega
       have HMT := Lib.hid (fun (V : World) => Mr.refMeet_any o c V)
       rw [Nat.zero_add] at f1
       simp only [Nat.zero_add] at HS
       rw [List.length_cons, e1]
       clear hst hCk hSk e1
       go_wp2_with fail
       go_region_held3 (fun V => V.cell? ⟨g3, s2.length, none⟩ = some (.int .i64 k) ∧ V.cell? ⟨b2, o2 + k, none⟩ = some (.int .i64 o) ∧ V.cell? ⟨b2, o2 + i, none⟩ = some (.int .i64 c) ∧ Below wr.heap.size wr V) (first | exact HS.out _ (below_drew (Below.refl _ _)) | exact HS.out _ (by assumption) | exact HS.out _ (below_drew (by assumption)))
        (first | (go_at_call 116; ((with_reducible refine (HMT.out _).mono ?_); rintro e w7 ⟨rfl, hb7⟩; have hbx := step_belowB (wr := wr) (by first | assumption | exact below_drew (Below.refl _ _) | exact below_drew (by assumption)) hb7; clear hb7)))
       rename_i hh1
       have HV := Lib.hid hh1.2.2.2
       have q1 := hh1.1
       clear hh1 f1 f2 f3
       cases hm : meetT o c with
       | false =>
        have HNO2 := Lib.hid (gone_more (k := k) HNO.out hm)
        clear hm
        go_wp2_with fail
        go_roundw
        case rel => exact ⟨s1 ++ [(k, o)], s2, by rw [HST.out]; simp, rfl, rfl, by go_num, HNO2.out, HBW.out.trans (HV.out.mono HBW.out.size)⟩
        case measure => simp [RowKit.intOf]
       | true =>
        have HLN := Lib.hid (show (L ++ [(k, i)]) ++ ends (i + 1) s2 ((T.zip C).drop (i + 1)) = E from by
         rw [← HL.out, HZD.out, ends_pair hk (by rw [HST.out]; exact dropTo_some hm HNO.out)]
         simp)
        have HON := Lib.hid (show Pr.Open T C (i + 1) s2 from by
         have h := HO.out
         rw [HST.out] at h
         exact h.below.1)
        have hLn : L.length ≤ 1099511627776 := by
         have h1 := congrArg List.length HL.out
         rw [List.length_append] at h1
         omega
        have HFV := Lib.hid (HFW.out.later HV.out)
        have HOL := Lib.hid (fun (o : Obj) => (HFV.out.later (below_made _ o)).ol)
        have hsz := HFV.out.below.size
        have hsc : (s2.length : Int) ≤ (cap3 : Int) := by omega
        have h63' : s2.length ≤ 63 := by omega
        obtain ⟨iP, hi, hz0, hz1, hz2⟩ := info_parts infoPair
        clear hm HL HZD hk HMT HS HCC2
        go_wp2_with (at_builtin; refine wpList_append_own _ rfl _ _ 91 rfl w.heap.size 95 iP _ 2 16 Tryz.underlying91 hi hz0 hz1 hz2 rfl (by decide) _ _ _ rfl (HOL.out _) ⟨_, 0, none⟩ 1 1 [.int .i64 k, .int .i64 i] rfl rfl (cells_new rfl) (by simp [Value.oneCell']) (by unfold maxLen; omega) (by omega) (by simp; omega) ?_)
        intro v' w1 hown hg hnil
        clear hnil
        have HOP := Lib.hid (pair_own hown)
        have hFA := HFV.out.later (below_made _ (.cells #[.int .i64 k, .int .i64 i] 95))
        have HOO := Lib.hid (hFA.oo.kept hg (own_not hFA.oo hFA.ol (by decide)))
        have HB1 := Lib.hid (hFA.below.grown hg hFA.below.size (fun q hq => (hFA.ol.lt q hq).1))
        have HM := Lib.hid (show (w1.alloc (.cells #[] 3)).ownsRow w1.heap.size 3 1 (.slice (some ⟨w1.heap.size, 0, none⟩) 0 0) 0 (icl []) from World.ownsRow_made w1 #[] 0 (Nat.le_refl _) (Nat.zero_le _) rfl)
        have HSK := Lib.hid (show IntsAt (w1.alloc (.cells #[] 3)) (some ⟨g3, 0, none⟩) (stI s2) from by
         have h := ints_take rfl ((stack_ints HOO.out).below (below_made w1 (.cells #[] 3))) s2.length
         rw [HST.out, stI_take s1 s2 k o] at h
         exact h)
        have hs2 : s2.length ≤ 1099511627776 := by omega
        clear hown hg hFA
        go_wp2_with (at_builtin; refine wpList_add rfl _ _ rfl w1.heap.size _ 0 [] rfl HM.out (some ⟨g3, 0, none⟩) s2.length cap3 (stI s2) rfl HSK.out (stI_len s2) (by omega) (by simp) ?_)
        intro v2 w2 hown2 hbd2
        try simp only [List.nil_append, Nat.zero_add] at hown2
        have hb2 : Below w1.heap.size w1 w2 := (below_made w1 (.cells #[] 3)).trans hbd2
        have HF4 := Lib.hid (show RefAt w w2 v' v2 (L ++ [(k, i)]) s2 from ⟨ownsRow_below HOP.out hb2, ownsRow_mono hown2 HB1.out.size, HB1.out.trans (hb2.mono HB1.out.size)⟩)
        clear hown2 hbd2 hb2
        go_wp2_with fail
        go_roundw
        case rel => exact ⟨L ++ [(k, i)], s2, i + 1, by omega, by go_num, HF4.out, HON.out, h63', HLN.out⟩
        case measure => simp [RowKit.intOf]; omega
   ·have HLN := Lib.hid (show L ++ ends (i + 1) st ((T.zip C).drop (i + 1)) = E from by rw [← HL.out, HZD.out, ends_skip (.inl h13)])
    have hb : (t != 13) = true := by simpa using h13
    clear HL HZD h13
    go_wp2_with fail
    go_roundw
    case rel => exact ⟨L, st, i + 1, by omega, by go_num, HF2.out, HO.out.next, h63, HLN.out⟩
    case measure => simp [RowKit.intOf]; omega
  ·obtain rfl : i = n := by omega
   have HX := Lib.hid (show L = E from by
    have := HL.out
    rw [List.drop_eq_nil_of_le (by rw [List.length_zip, HLT.out, HLC.out]; omega)] at this
    simpa [ends] using this)
   clear hF hlt h63 hi
   go_wp2_with fail
   exact HND.out _ _ ⟨_, _, st, ⟨rfl, rfl, rfl, rfl, rfl⟩, HX.out ▸ HF.out⟩
set_option maxHeartbeats 1000000 in
set_option maxRecDepth 100000 in
theorem rfind_any (A1 A2 : Option Addr) (T C : List Int) (n m c1 c2 : Nat) (w : World) (hT : IntsAt w A1 T) (hC : IntsAt w A2 C) (hlT : T.length = n) (hlC : C.length = m) (hn : n ≤ 1099511627776) :
  Calls Tryz.prog 72 #[.slice A1 n c1, .slice A2 m c2] w fun e w' => ∃ v, e = .returned v ∧ w'.ownsRow w.heap.size 95 2 v (findP T C).length (cellsP (findP T C)) ∧ Below w.heap.size w w' := by
 by_cases h : n = m
 ·subst h
  exact rfind_like A1 A2 T C n c1 c2 w hT hC hlT hlC hn
 ·rw [find_unlike (by rw [hlT, hlC]; exact h)]
  have hb : (((n : Int)) != (m : Int)) = true := bne_iff_ne.2 (by omega)
  clear h hT hC hlT hlC
  go_enter Tryz.func72, Tryz.ntmps72
  go_wp2_with fail
  go_ret
  exact ⟨_, rfl, World.ownsRow_nil _ _ _ _, Below.refl _ _⟩
end Go.Proofs.YtfclpecbnailgaaGreat.Pb
