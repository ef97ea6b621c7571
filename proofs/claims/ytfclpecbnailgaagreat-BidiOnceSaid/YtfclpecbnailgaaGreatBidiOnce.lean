/-
  Proved here: for every row of bytes BidiOnce returns true (an order of at most 300 levels has each place once; places of one level that stand side by side in the text stand so in the order: as they are, if it is even, turned round, if it is odd), and the row stays. No condition.
-/
import Derived.BigQuiet
import Derived.Deep.QuietTactic
import Derived.Test.YtfclpecbnailgaaGreatM24
import Derived.Test.YtfclpecbnailgaaGreatM27
import Derived.Test.YtfclpecbnailgaaGreatM19
import Derived.Test.YtfclpecbnailgaaGreatM4
set_option linter.unusedVariables false
namespace Go.Proofs.YtfclpecbnailgaaGreat.BidiOnce
open Go Go.ChangeShapes Go.WideShapes Go.ChangeAt Go.RowKit Go.Lib Go.Proofs.YtfclpecbnailgaaGreat.Cl Go.Proofs.YtfclpecbnailgaaGreat.Rc Go.Proofs.YtfclpecbnailgaaGreat.Bi Go.Proofs.YtfclpecbnailgaaGreat.Bo Go.Proofs.YtfclpecbnailgaaGreat.Wk
/-- Where each place stands in the order, as far as so many have been gone through. -/
structure Pos (L : List Nat) (n i : Nat) (V : List Int) : Prop where
  len : V.length = n
  has : ∀ j q, j < i → L[j]? = some q → V[q]? = some (j : Int)
  non : ∀ q, q < n → (∀ j, j < i → L[j]? ≠ some q) → V[q]? = some (-1)
theorem Pos.start (L : List Nat) (n : Nat) : Pos L n 0 (List.replicate n (-1)) := ⟨by simp, fun j q h => by omega, fun q h _ => by simp [h]⟩
theorem Pos.free {L : List Nat} {n i q : Nat} {V : List Int} (h : Pos L n i V) (hn : L.Nodup) (hq : L[i]? = some q) (hqn : q < n) : V[q]? = some (-1) :=
  h.non q hqn fun j hj e => by
    have := (List.getElem?_inj (List.getElem?_eq_some_iff.1 e).1 hn).1 (e.trans hq.symm)
    omega
theorem Pos.step {L : List Nat} {n i q : Nat} {V : List Int} (h : Pos L n i V) (hn : L.Nodup) (hq : L[i]? = some q) (hqn : q < n) : Pos L n (i + 1) (V.set q (i : Int)) := by
  refine ⟨by rw [List.length_set]; exact h.len, fun j p hj hp => ?_, fun p hp hno => ?_⟩
  · by_cases e : j = i
    · subst e
      rw [hq] at hp
      injection hp with hp
      subst hp
      rw [List.getElem?_set_self (by rw [h.len]; exact hqn)]
    · have hne : q ≠ p := fun e2 => by
        subst e2
        have := (List.getElem?_inj (List.getElem?_eq_some_iff.1 hp).1 hn).1 (hp.trans hq.symm)
        exact e this
      rw [List.getElem?_set_ne hne]
      exact h.has j p (by omega) hp
  · have hne : q ≠ p := fun e2 => by
      subst e2
      exact hno i (by omega) hq
    rw [List.getElem?_set_ne hne]
    exact h.non p hp fun j hj => hno j (by omega)
def modL (zs : List Int) : List Int := zs.map fun z => z % 127
theorem modL_len (zs : List Int) : (modL zs).length = zs.length := by simp [modL]
theorem modL_take {zs : List Int} {k : Nat} (h : k < zs.length) : (modL zs).take (k + 1) = (modL zs).take k ++ [zs[k] % 127] := by
  rw [List.take_succ_eq_append_getElem (by rw [modL_len]; exact h)]
  simp [modL]
theorem modL_in (zs : List Int) : ∀ x ∈ modL zs, 0 ≤ x ∧ x ≤ 126 := by
  intro x hx
  obtain ⟨z, _, rfl⟩ := List.mem_map.1 hx
  exact ⟨by omega, by omega⟩
/-- Side by side. -/
theorem side {O : List Int} (hO : ∀ x ∈ O, 0 ≤ x ∧ x ≤ 126) {i x y : Nat} (h : i + 1 < O.length) (he : O[i + 1] = O[i]) (hx : (orderP O)[x]? = some (i + 1)) (hy : (orderP O)[y]? = some i) : (O[i + 1] % 2 = 1 → y = x + 1) ∧ (O[i + 1] % 2 ≠ 1 → x = y + 1) := by
  have h1 := hO _ (List.getElem_mem h)
  have h0 := hO _ (List.getElem_mem (show i < O.length by omega))
  obtain ⟨v, hv⟩ : ∃ v : Nat, O[i + 1] = (v : Int) := ⟨O[i + 1].toNat, by omega⟩
  have la : lvAt O i = (v : Int) := by rw [lvAt_in (by omega) h0.1 h0.2, ← he, hv]
  have lb : lvAt O (i + 1) = (v : Int) := by rw [lvAt_in h h1.1 h1.2, hv]
  obtain ⟨s0, s1⟩ := order_side h la lb (by omega)
  rw [hv]
  constructor
  · intro hm
    exact adj_pos (s1 (by omega)) (order_nodup O) hx hy
  · intro hm
    exact adj_pos (s0 (by omega)) (order_nodup O) hy hx
set_option maxHeartbeats 8000000 in
set_option maxRecDepth 100000 in
theorem walk_n (w : World) (A : Option Addr) (zs : List Int) (n c : Nat) (hr : BytesAt w A zs) (hl : zs.length = n) (hz : ∀ z ∈ zs, 0 ≤ z ∧ z ≤ 255) :
    Calls Tryz.prog 8 #[.slice A n c] w fun e w' => e = .returned (.bool true) ∧ Below w.heap.size w w' := by
  by_cases h300 : 300 < n
  · have d0 : decide ((300 : Int) < (n : Int)) = true := decide_eq_true (by omega)
    have e0 : decide (300 < n) = true := decide_eq_true h300
    go_enter Tryz.func8, Tryz.ntmps8
    go_wp2_with (go_at_call 10; refine (awake_any _).mono ?_; rintro e w' ⟨rfl, hb⟩)
    go_ret
    exact ⟨rfl, hb⟩
  · have d0 : decide ((300 : Int) < (n : Int)) = false := decide_eq_false (by omega)
    have e0 : decide (300 < n) = false := decide_eq_false h300
    have hn3 : n ≤ 300 := by omega
    have HR := Lib.hid hr
    have HL := Lib.hid hl
    have HZ := Lib.hid hz
    have HTK := Lib.hid (fun (k : Nat) (h : k < zs.length) => modL_take h)
    have HON := Lib.hid (modL_in zs)
    have HOL := Lib.hid (show (modL zs).length = n from by rw [modL_len, hl])
    obtain ⟨O, hO⟩ : ∃ O, modL zs = O := ⟨_, rfl⟩
    rw [hO] at HTK HON HOL
    clear hr hl hz h300 hO
    go_enter Tryz.func8, Tryz.ntmps8
    go_wp2_with fail
    go_loopw [3, 4, 5] (fun s3 s4 s5 wx => ∃ k : Nat, k ≤ n ∧ s5 = .int .i64 k ∧ wx.ownsRow w.heap.size 3 1 s3 k (icl (O.take k)) ∧ wx.ownsRow w.heap.size 3 1 s4 k (icl (List.replicate k (-1))) ∧ Two s3 s4 ∧ Below w.heap.size w wx) (fun _ _ s5 _ => n - (RowKit.intOf s5).toNat)
    case atStart => exact ⟨0, Nat.zero_le _, rfl, World.ownsRow_nil _ _ _ _, World.ownsRow_nil _ _ _ _, Two.nil _, Below.refl _ _⟩
    case round =>
      obtain ⟨k, hk, rfl, ho3, ho4, htw, hb⟩ := hrel
      have HB := Lib.hid hb
      have HO3 := Lib.hid ho3
      have HO4 := Lib.hid ho4
      have HTW := Lib.hid htw
      clear ho3 ho4 htw
      by_cases hlt : k < n
      · have hkz : k < zs.length := by rw [HL.out]; exact hlt
        obtain ⟨g, off, rfl, hc⟩ := (HR.out.below hb).at_ hkz
        have hzb := HZ.out _ (List.getElem_mem hkz)
        have HT := Lib.hid (HTK.out k hkz)
        generalize zs[k] = z at *
        have hsz := HB.out.size
        have hk0 : (0 : Int) ≤ (k : Int) := by omega
        have hk1 : (k : Int) < (n : Int) := by omega
        have hz0 : 0 ≤ z := hzb.1
        have hz1 : z ≤ 255 := hzb.2
        have ezt : z.tmod 127 = z % 127 := Int.tmod_eq_emod_of_nonneg hz0
        have ezw : IntKind.i64.wrap z = z := IntWalk.i64_in _ (by omega)
        clear hkz hb hzb
        go_wp2_with (at_builtin; refine wpList_addAt rfl _ _ rfl w.heap.size _ k (O.take k) rfl (ownsRow_below HO3.out (below_made _ _)) (some ⟨wr.heap.size, 0, none⟩) 1 1 [(z % 127 : Int)] rfl (made_ints [(z % 127 : Int)] _ _ _ rfl) rfl (by omega) (by simp; omega) ?_)
        intro v1 w1 hown hgr hwh hb1
        have hm := below_made wr (.cells #[.int .i64 (z % 127)] 3)
        have HB1 := Lib.hid ((bt HB.out hm).trans (hb1))
        have HT1 := Lib.hid (HTW.out.grow (ownsRow_below HO4.out hm) (by simpa using hwh))
        have HO41 := Lib.hid (HTW.out.kept (ownsRow_below HO4.out hm) hgr)
        have HO31 := Lib.hid (show w1.ownsRow w.heap.size 3 1 v1 (k + 1) (icl (O.take (k + 1))) from by rw [HT.out]; exact hown)
        have hs1 := HB1.out.size
        clear hown hgr hwh hb1 hm HO3 HO4 HTW
        go_wp2_with (at_builtin; refine wpList_addAt rfl _ _ rfl w.heap.size _ k (List.replicate k (-1)) rfl (ownsRow_below HO41.out (below_made _ _)) (some ⟨w1.heap.size, 0, none⟩) 1 1 [(-1 : Int)] rfl (made_ints [(-1 : Int)] _ _ _ rfl) rfl (by omega) (by simp; omega) ?_)
        intro v2 w2 hown hgr hwh hb2
        have hm := below_made w1 (.cells #[.int .i64 (-1)] 3)
        have HB2 := Lib.hid ((bt HB1.out hm).trans (hb2))
        have HT2 := Lib.hid (HT1.out.swap.grow (ownsRow_below HO31.out hm) (by simpa using hwh)).swap
        have HO32 := Lib.hid (HT1.out.swap.kept (ownsRow_below HO31.out hm) hgr)
        have HO42 := Lib.hid (show w2.ownsRow w.heap.size 3 1 v2 (k + 1) (icl (List.replicate (k + 1) (-1))) from by rw [List.replicate_succ']; exact hown)
        clear hown hgr hwh hb2 hm HO31 HO41 HT1 HB1
        go_wp2_with fail
        go_roundw
        case rel => exact ⟨k + 1, by omega, by go_num, HO32.out, HO42.out, HT2.out, HB2.out⟩
        case measure => simp [RowKit.intOf] <;> omega
      · obtain rfl : k = n := by omega
        rw [List.take_of_length_le (by rw [HOL.out]; exact Nat.le_refl _)] at HO3
        obtain ⟨A3, c3, rfl, i3⟩ := intsAt_icl HO3.out HOL.out
        obtain ⟨A4, c4, rfl, -⟩ := intsAt_icl HO4.out (by simp)
        have HI3 := Lib.hid i3
        have HOD := Lib.hid (order_any A3 O k c3 wr i3 HOL.out (by omega))
        have HLN := Lib.hid (show (orderP O).length = k from by rw [order_len, HOL.out])
        have HLM := Lib.hid (fun y => show y ∈ orderP O ↔ y < k from by rw [order_mem, HOL.out])
        have HND := Lib.hid (order_nodup O)
        have HSD := Lib.hid (fun (i x y : Nat) (h : i + 1 < O.length) he hx hy => side HON.out (i := i) (x := x) (y := y) h he hx hy)
        generalize orderP O = L at *
        clear i3 hb HZ HTK
        go_wp2_with fail
        refine HOD.out.mono ?_
        rintro e w6 ⟨A6, c6, rfl, ho6, hb6⟩
        have HB6 := Lib.hid (bt HB.out hb6)
        have HI6 := Lib.hid (own_reads ho6 (by rw [Sq.ns_len, HLN.out]))
        have HO46 := Lib.hid (ownsRow_below HO4.out hb6)
        have HI36 := Lib.hid (HI3.out.below hb6)
        have HNE3 := Lib.hid (fun (a : Addr) (h : A3 = some a) => show some a.block ≠ (Value.slice A4 k c4).ownBlock from fun e => by
          rcases HTW.out with h1 | h1
          · rw [h] at h1; cases h1
          · exact h1 (by rw [← e, h]; rfl))
        have HNE6 := Lib.hid (fun (a : Addr) (h : A6 = some a) => show some a.block ≠ (Value.slice A4 k c4).ownBlock from fun e => by
          have h1 := (ho6.lt a.block (by rw [h]; rfl)).1
          have h2 := (HO4.out.lt _ e.symm).2
          omega)
        have hbase := HO46.out.lt
        have HLT4 := Lib.hid hbase
        clear ho6 hb6 HOD HO3 HO4 HI3 hbase
        go_wp2_with fail
        go_loopw [7] (fun s7 wx => ∃ (i : Nat) (V : List Int), i ≤ k ∧ s7 = .int .i64 i ∧ Pos L k i V ∧ Row w.heap.size A4 k c4 w6 V wx) (fun s7 _ => k - (RowKit.intOf s7).toNat)
        case atStart => exact ⟨0, _, Nat.zero_le _, rfl, Pos.start L k, Row.start HO46.out⟩
        case round =>
          obtain ⟨i, V, hi, rfl, hpos, hrow⟩ := hrel
          have HP := Lib.hid hpos
          have HRW := Lib.hid hrow
          clear hpos hrow
          by_cases hlt2 : i < k
          · have hiL : i < L.length := by rw [HLN.out]; exact hlt2
            have hq : L[i]? = some L[i] := List.getElem?_eq_getElem hiL
            have hqk : L[i] < k := (HLM.out _).1 (List.getElem_mem hiL)
            obtain ⟨g6, o6, hA6, c61⟩ := (ints_kept2 HI6.out HRW.out.gr HNE6.out).at_ (k := i) (by rw [Sq.ns_len]; exact hiL)
            have enL : (Sq.ns L)[i]'(by rw [Sq.ns_len]; exact hiL) = ((L[i] : Nat) : Int) := by simp [Sq.ns]
            rw [enL] at c61
            clear enL
            generalize L[i] = q at *
            have hfree := HP.out.free HND.out hq hqk
            have HST := Lib.hid (HP.out.step HND.out hq hqk)
            obtain ⟨g4, hg4⟩ := own_head HRW.out.own (by omega)
            subst hg4
            subst hA6
            obtain ⟨hc4, hf4⟩ := own_int HRW.out.own hfree
            have HRS := Lib.hid (row_set HRW.out q (i : Int))
            have hi0 : (0 : Int) ≤ (i : Int) := by omega
            have hi1 : (i : Int) < (k : Int) := by omega
            have q0 : (0 : Int) ≤ (q : Int) := by omega
            have q1 : (q : Int) < (k : Int) := by omega
            have q2 : decide ((q : Int) < 0) = false := decide_eq_false (by omega)
            have q3 : decide ((k : Int) ≤ (q : Int)) = false := decide_eq_false (by omega)
            have q4 : decide (k ≤ q) = false := decide_eq_false (by omega)
            clear hiL hq hqk hfree
            go_wp2_with fail
            all_goals go_roundw
            case rel => exact ⟨i + 1, _, by omega, by go_num, HST.out, HRS.out⟩
            case measure => simp [RowKit.intOf] <;> omega
          · obtain rfl : i = k := by omega
            have hall : ∀ q, q < i → ∃ x : Nat, L[x]? = some q ∧ V[q]? = some (x : Int) ∧ x < i := fun q hq => by
              obtain ⟨x, hx, e⟩ := List.getElem_of_mem ((HLM.out q).2 hq)
              have hx' : L[x]? = some q := by rw [List.getElem?_eq_getElem hx, e]
              have hxi : x < i := by rw [HLN.out] at hx; exact hx
              exact ⟨x, hx', HP.out.has x q hxi hx', hxi⟩
            have HALL := Lib.hid hall
            have HBK := Lib.hid ((HB6.out).grown HRW.out.gr HB6.out.size (fun q hq => (HLT4.out q hq).1))
            have HV := Lib.hid (own_reads HRW.out.own HP.out.len)
            have HI3k := Lib.hid (ints_kept2 HI36.out HRW.out.gr HNE3.out)
            have HVL := Lib.hid HP.out.len
            obtain ⟨w7, hw7⟩ : ∃ w7 : World, w7 = wr := ⟨_, rfl⟩
            rw [← hw7] at HBK HV HI3k ⊢
            clear hall HRW hw7 HI6 HI36 HNE3 HNE6 HO46 HLT4 HTW
            go_wp2_with fail
            go_loopw [8] (fun s8 wx => ∃ j : Nat, 1 ≤ j ∧ (j ≤ i ∨ j = 1) ∧ s8 = .int .i64 j ∧ Below w7.heap.size w7 wx) (fun s8 _ => i + 1 - (RowKit.intOf s8).toNat)
            case atStart => exact ⟨1, Nat.le_refl _, .inr rfl, rfl, Below.refl _ _⟩
            case round =>
              obtain ⟨j, hj1, hji, rfl, hb⟩ := hrel
              have HBJ := Lib.hid hb
              by_cases hlt3 : j < i
              · obtain ⟨t, rfl⟩ : ∃ t, j = t + 1 := ⟨j - 1, by omega⟩
                obtain ⟨x, hx1, hx2, hx3⟩ := HALL.out (t + 1) hlt3
                obtain ⟨y, hy1, hy2, hy3⟩ := HALL.out t (by omega)
                have hO1 : t + 1 < O.length := by rw [HOL.out]; exact hlt3
                have hO0 : t < O.length := by omega
                have hSD := HSD.out t x y hO1
                have hon := HON.out _ (List.getElem_mem hO1)
                obtain ⟨gO, oO, hA3, o1⟩ := (HI3k.out.below hb).at_ hO1
                obtain ⟨gO', oO', hA3', o0⟩ := (HI3k.out.below hb).at_ hO0
                rw [hA3] at hA3'
                injection hA3' with hA3'
                injection hA3' with e1 e2
                subst e1 e2
                have hV1 : t + 1 < V.length := by rw [HVL.out]; exact hlt3
                have hV0 : t < V.length := by omega
                obtain ⟨gV, oV, hA4, v1⟩ := (HV.out.below hb).at_ hV1
                obtain ⟨gV', oV', hA4', v0⟩ := (HV.out.below hb).at_ hV0
                rw [hA4] at hA4'
                injection hA4' with hA4'
                injection hA4' with e1 e2
                subst e1 e2
                rw [(List.getElem?_eq_some_iff.1 hx2).2] at v1
                rw [(List.getElem?_eq_some_iff.1 hy2).2] at v0
                subst hA3
                subst hA4
                generalize O[t + 1] = p at *
                generalize O[t] = r at *
                have hand : bits .and .i64 p 1 = p % 2 := Ne.i64_and1 p
                have t0 : (0 : Int) ≤ (t : Int) := by omega
                have t1 : (t : Int) + 1 < (i : Int) := by omega
                have t2 : (t : Int) < (i : Int) := by omega
                have tw : IntKind.i64.wrap ((t : Int) + 1 - 1) = (t : Int) := (IntWalk.i64_in _ (by omega)).trans (by omega)
                have t3 : decide ((t : Int) < 0) = false := decide_eq_false (by omega)
                have t4 : decide ((i : Int) ≤ (t : Int)) = false := decide_eq_false (by omega)
                have t5 : decide (i ≤ t) = false := decide_eq_false (by omega)
                have t6 : decide ((t : Int) + 1 < 0) = false := decide_eq_false (by omega)
                have t7 : decide ((i : Int) ≤ (t : Int) + 1) = false := decide_eq_false (by omega)
                clear hO1 hO0 hV1 hV0 hx2 hy2 hb
                cases hpr : (p == r) with
                | false =>
                  clear hSD
                  cases hp2 : (p % 2 == 1) with
                  | true =>
                    go_wp2_with fail
                    go_quiet (fail)
                    all_goals go_wp2_with fail
                    all_goals go_roundw
                    case rel => exact ⟨t + 1 + 1, by omega, .inl (by omega), by go_num, by first | exact HBJ.out | exact HBJ.out.trans ((same_ints_drewN wr _).mono HBJ.out.size)⟩
                    case measure => simp [RowKit.intOf] <;> omega
                  | false =>
                    go_wp2_with fail
                    go_quiet (fail)
                    all_goals go_wp2_with fail
                    all_goals go_roundw
                    case rel => exact ⟨t + 1 + 1, by omega, .inl (by omega), by go_num, by first | exact HBJ.out | exact HBJ.out.trans ((same_ints_drewN wr _).mono HBJ.out.size)⟩
                    case measure => simp [RowKit.intOf] <;> omega
                | true =>
                  obtain ⟨s1, s0⟩ := hSD (by simpa using hpr) hx1 hy1
                  cases hp2 : (p % 2 == 1) with
                  | true =>
                    have hxy := s1 (by simpa using hp2)
                    have ew : IntKind.i64.wrap ((y : Int) + -1) = (x : Int) := (IntWalk.i64_in _ (by omega)).trans (by omega)
                    have ew2 : ((x : Int) != (y : Int) + -1) = false := by simp; omega
                    have ew3 : ((x : Int) == (y : Int) + -1) = true := by simp; omega
                    clear s1 s0 hxy
                    go_wp2_with fail
                    go_quiet (fail)
                    all_goals go_wp2_with fail
                    all_goals go_roundw
                    case rel => exact ⟨t + 1 + 1, by omega, .inl (by omega), by go_num, by first | exact HBJ.out | exact HBJ.out.trans ((same_ints_drewN wr _).mono HBJ.out.size)⟩
                    case measure => simp [RowKit.intOf] <;> omega
                  | false =>
                    have hxy := s0 (by simpa using hp2)
                    have ew : IntKind.i64.wrap ((y : Int) + 1) = (x : Int) := (IntWalk.i64_in _ (by omega)).trans (by omega)
                    have ew2 : ((x : Int) != (y : Int) + 1) = false := by simp; omega
                    have ew3 : ((x : Int) == (y : Int) + 1) = true := by simp; omega
                    clear s1 s0 hxy
                    go_wp2_with fail
                    go_quiet (fail)
                    all_goals go_wp2_with fail
                    all_goals go_roundw
                    case rel => exact ⟨t + 1 + 1, by omega, .inl (by omega), by go_num, by first | exact HBJ.out | exact HBJ.out.trans ((same_ints_drewN wr _).mono HBJ.out.size)⟩
                    case measure => simp [RowKit.intOf] <;> omega
              · have HBZ := Lib.hid (bt HBK.out hb)
                have t1 : decide ((j : Int) < (i : Int)) = false := decide_eq_false (by omega)
                clear hb
                go_wp2_with fail
                refine (awake_any _).mono ?_
                rintro e w9 ⟨rfl, hb9⟩
                go_wp2_with fail
                go_ret
                exact ⟨rfl, bt HBZ.out hb9⟩
theorem walk (w : World) (A : Option Addr) (zs : List Int) (c : Nat) (hr : BytesAt w A zs) (_ : A = none → zs = [] ∧ c = 0) (_ : zs.length ≤ 9223372036854775807) (hz : ∀ z ∈ zs, 0 ≤ z ∧ z ≤ 255) :
    Calls Tryz.prog 8 #[.slice A zs.length c] w fun e w' => e = .returned (.bool true) ∧ Below w.heap.size w w' :=
  walk_n w A zs zs.length c hr rfl hz
set_option maxRecDepth 100000 in
theorem lifted (os : Os) (started : os.Started) (H : Type) (enc : TypeId × Value → H) :
    ReturnsInHanded {} Tryz.checked os 8 .any (Rows.bidiOnceSpec.pre6 enc Tryz.prog Tryz.f8 Rows.bidiOnceRow.domain false) (Rows.bidiOnceSpec.post enc Tryz.prog Tryz.f8 false true false false) := by
  refine returnsInHanded_of_change (C := Tryz.checked) law_own started (by kernel_rfl) Tryz.func8
    (ChangeSpec.witness6 (enc := enc) (C := Tryz.checked) false ⟨#[], #[.slice none 0 0], []⟩ 8 (by kernel_rfl) (by kernel_rfl) (by kernel_rfl) (by kernel_rfl)) ?_
  intro W base args ds gs before hval0 hW _ _
  have hval : ∀ (j : Nat) t v, Tryz.f8.params[j]? = some t → args[j]? = some v → Value.okWide Tryz.prog W .any base t v := hval0
  have hW' := hW
  obtain ⟨p, q, hA0, hV, rfl, hfz, hnd⟩ := hW
  have hA : DataW.TrodAll enc Tryz.prog W 0 (fun _ => true) true Tryz.f8.params.toList args.toList ds p := hA0
  rw [Tryz.params8] at hA hval
  obtain ⟨v0, vs0, d0, ds0, p0, q0, hargs, rfl, rfl, h0, r0⟩ := ChangeShapes.trodAll_cons hA
  obtain ⟨rfl, rfl, rfl⟩ := ChangeShapes.trodAll_nil r0
  obtain rfl : args = #[v0] := by cases args; simp_all
  obtain ⟨rfl, rfl⟩ := ChangeShapes.trodVars_none hV
  obtain ⟨A0, zs0, c0, rfl, hr0, hnil0, hl0, hz0⟩ := Bi.open_bytesw (hval 0 40 v0 rfl rfl) h0
  refine (walk W A0 zs0 c0 hr0 hnil0 hl0 hz0).mono fun e W' ⟨he, hB⟩ => ?_
  subst he
  exact ⟨_, rfl, law_post hW' rfl rfl (by kernel_rfl) rfl hB⟩
theorem holds : Rows.BidiOnceSaid :=
  OpenClaim.holds_of_wide 8 Tryz.f8 rfl rfl rfl rfl rfl rfl rfl ⟨rfl, rfl, rfl, rfl, rfl⟩ rfl rfl rfl rfl rfl (by kernel_rfl) Tryz.func8 (by kernel_rfl)
    (of_decide_eq_true (by kernel_rfl)) (by unfold Func.isWrapper; first | (rw [if_pos (by decide +kernel)]; kernel_rfl) | (rw [if_neg (by decide +kernel)]; exact ⟨rfl, rfl⟩))
    (fun os started H enc _ => lifted os started H enc)
end Go.Proofs.YtfclpecbnailgaaGreat.BidiOnce
