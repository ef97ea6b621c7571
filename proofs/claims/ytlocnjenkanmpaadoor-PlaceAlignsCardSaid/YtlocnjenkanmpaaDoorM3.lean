/-
  Several texts in one, each with its own remark: PlLawK, PlAwake, PlSame.
-/
import Derived.Test.YtlocnjenkanmpaaDoorM2

/-
  Proved here: what parquetrylaw19's of, codes, comes, awake return, for any program of placing that keeps to the plain one (SlotsOk). They leave what was in memory.
-/
set_option linter.unusedVariables false
namespace Go.Proofs.YtlocnjenkanmpaaDoor.Pl
open Go Go.RowKit Go.Lib Go.Proofs.YtlocnjenkanmpaaDoor.Ku Go.Proofs.YtlocnjenkanmpaaDoor.Wr Go.Proofs.YtlocnjenkanmpaaDoor.Arr Go.Proofs.YtlocnjenkanmpaaDoor.Cl
/-- What is asked of place.Slots, where memory holds what H says. -/
def SlotsOk (H : World → Prop) : Prop := ∀ (A B : Option Addr) (l : List R3) (lv : List Int) (n m c d : Nat) (x : L5) (para W al : Int) (w : World), H w → RuAt w A l → IntsAt w B lv → l.length = n → lv.length = m → n ≤ 1000 → n ≤ c → m ≤ d → m ≤ 9223372036854775807 → (A = none → c = 0) → (B = none → d = 0) →
  Calls Tryd.prog 8 #[.slice A n c, .slice B m d, lnV x, .int .i64 para, .int .i64 W, .int .i64 al] w fun e w' => ∃ A' c', e = .returned (.tuple #[.slice A' (ansP l lv x para W al).length c', .int .i64 (errP n m (ofC l).length x para W al)]) ∧ CuAt w' A' (ansP l lv x para W al) ∧ (ansP l lv x para W al).length ≤ c' ∧ Below w.heap.size w w'
/-- What holds in a world holds in later ones. -/
def Lasts (H : World → Prop) : Prop := ∀ w w', H w → Below w.heap.size w w' → H w'
def runesOf (zs : List Int) : List R3 := zs.zipIdx.map fun z => ((z.2 : Int), 1, z.1)
theorem runesOf_snoc {zs : List Int} {k : Nat} (h : k < zs.length) : runesOf (zs.take (k + 1)) = runesOf (zs.take k) ++ [((k : Int), 1, zs[k])] := by
  unfold runesOf
  rw [List.take_succ_eq_append_getElem h, List.zipIdx_append, List.map_append]
  simp [List.length_take, Nat.min_eq_left (Nat.le_of_lt h)]
theorem runesOf_len (zs : List Int) : (runesOf zs).length = zs.length := by simp [runesOf]
set_option maxHeartbeats 2000000 in
set_option maxRecDepth 100000 in
theorem lof_any (A : Option Addr) (zs : List Int) (n c : Nat) (w : World) (hI : IntsAt w A zs) (hl : zs.length = n) (hn : n ≤ 1000) :
    Calls Tryd.prog 15 #[.slice A n c] w fun e w' => ∃ A' c', e = .returned (.slice A' n c') ∧ RuAt w' A' (runesOf zs) ∧ n ≤ c' ∧ (A' = none → c' = 0) ∧ Below w.heap.size w w' := by
  obtain ⟨i0, hi, hz0, hz1, hz2⟩ := info_parts infoR
  have HI := Lib.hid hI
  have HL := Lib.hid hl
  have HSN := Lib.hid (fun k (h : k < zs.length) => runesOf_snoc h)
  have HRL := Lib.hid (fun k => runesOf_len (zs.take k))
  have HTK := Lib.hid (show zs.take n = zs from List.take_of_length_le (by omega))
  clear hI hl
  go_enter Tryd.func15, Tryd.ntmps15
  go_wp2_with fail
  go_loopw [3, 4] (fun s3 s4 wx => ∃ (k : Nat) (v : Value), k ≤ n ∧ s4 = .int .i64 k ∧ s3 = v ∧ wx.ownsRow w.heap.size 36 3 v k (cellsR (runesOf (zs.take k))) ∧ Below w.heap.size w wx) (fun _ s4 _ => n - (RowKit.intOf s4).toNat)
  case atStart => exact ⟨0, _, Nat.zero_le _, rfl, rfl, World.ownsRow_nil _ _ _ _, Below.refl _ _⟩
  case round =>
    obtain ⟨k, v, hk, rfl, rfl, hown, hb⟩ := hrel
    have HO := Lib.hid hown
    have HB := Lib.hid hb
    have hsz := hb.size
    by_cases hlt : k < n
    · have hkz : k < zs.length := by rw [HL.out]; exact hlt
      obtain ⟨g, off, rfl, hc⟩ := (HI.out.below hb).at_ hkz
      have HS := Lib.hid (HSN.out k hkz)
      generalize zs[k] = z at *
      have k0 : (0 : Int) ≤ (k : Int) := by omega
      have k1 : (k : Int) < (n : Int) := by omega
      clear hown hb hkz
      go_wp2_with (at_builtin; refine wpList_append_own _ rfl _ _ 22 rfl w.heap.size 36 i0 (.agg #[.int .i64 0, .int .i64 0, .int .i64 0]) 3 24 Tryd.underlying22 hi hz0 hz1 hz2 rfl (by decide) _ _ _ rfl (HO.out.alloc _) ⟨wr.heap.size, 0, none⟩ 1 1 [.int .i64 k, .int .i64 1, .int .i64 z] rfl rfl (by intro j u hu; rcases j with _ | _ | _ | j <;> simp at hu <;> subst hu <;> simp [Addr.add]) (cellsR_one [((k : Int), 1, z)]) (by unfold maxLen; omega) (by omega) (by rw [World.size_alloc]; omega) ?_)
      intro v' w4 hown' hgrow _
      have HB4 := Lib.hid ((HB.out.trans ((below_made wr (.cells #[.int .i64 k, .int .i64 1, .int .i64 z] 36)).mono hsz)).grown hgrow (by rw [World.size_alloc]; omega) (fun q hq => (HO.out.lt q hq).1))
      have HO4 := Lib.hid (show w4.ownsRow w.heap.size 36 3 v' (k + 1) (cellsR (runesOf (zs.take (k + 1)))) from by rw [HS.out, cellsR_snoc]; exact hown')
      clear hown' hgrow
      go_wp2_with fail
      exact ⟨⟨k + 1, v', by omega, by go_num, rfl, HO4.out, HB4.out⟩, by simp [RowKit.intOf]; omega⟩
    · obtain rfl : k = n := by omega
      have j1 : decide ((k : Int) < (k : Int)) = false := decide_eq_false (by omega)
      rw [HTK.out] at hown
      have hrl := HRL.out k
      rw [HTK.out, HL.out] at hrl
      have HO2 := Lib.hid hown
      have HRL2 := Lib.hid hrl
      clear hown hb
      go_wp2_with fail
      go_ret
      obtain ⟨A', c', rfl, hru⟩ := ruAt_own (l := runesOf zs) (by rw [HRL2.out]; exact HO2.out)
      have hr := HRL2.out
      refine ⟨A', c', by rw [hr]; rfl, hru, ?_, ?_, HB.out⟩
      · rcases HO2.out.2 with ⟨e1, h0⟩ | ⟨g, cap, cur, e1, _, _, hle, _⟩
        · omega
        · injection e1 with _ _ e2; omega
      · intro hA
        rcases HO2.out.2 with ⟨e1, h0⟩ | ⟨g, cap, cur, e1, _⟩
        · injection e1
        · injection e1 with e2
          rw [hA] at e2
          cases e2
def codeZ (x : C6) : Int := if x.a = 4 then x.c + x.w * 2097152 else -x.a
def okS (S : List C6) : Bool := S.all fun x => decide (0 ≤ x.a) && decide (x.a ≤ 4) && decide (0 ≤ x.w) && decide (x.w ≤ 1) && decide (0 ≤ x.c) && decide (x.c ≤ 2097151)
set_option maxHeartbeats 2000000 in
set_option maxRecDepth 100000 in
theorem codes_any (A : Option Addr) (S : List C6) (n c : Nat) (w : World) (hC : CuAt w A S) (hl : S.length = n) (hn : n ≤ 10000) (hok : okS S = true) :
    Calls Tryd.prog 32 #[.slice A n c] w fun e w' => ∃ A' c', e = .returned (.slice A' n c') ∧ IntsAt w' A' (S.map codeZ) ∧ Below w.heap.size w w' := by
  have HC := Lib.hid hC
  have HL := Lib.hid hl
  have HOK := Lib.hid (fun x hx => List.all_eq_true.1 hok x hx)
  have HTK := Lib.hid (fun (Z : List Int) (h : Z.length = n) => (show Z.take n = Z from List.take_of_length_le (by omega)))
  obtain ⟨Z, hZ⟩ : ∃ Z, S.map codeZ = Z := ⟨_, rfl⟩
  have HSN := Lib.hid (fun k (h : k < S.length) => (show Z.take (k + 1) = Z.take k ++ [codeZ S[k]] from by
    rw [← hZ, List.take_succ_eq_append_getElem (by rw [List.length_map]; exact h), List.getElem_map]))
  have HZL := Lib.hid (show Z.length = n from by rw [← hZ, List.length_map, hl])
  rw [hZ]
  clear hZ
  clear hC hl hok
  go_enter Tryd.func32, Tryd.ntmps32
  go_wp2_with fail
  go_loopw [3, 4] (fun s3 s4 wx => ∃ (k : Nat) (v : Value), k ≤ n ∧ s4 = .int .i64 k ∧ s3 = v ∧ wx.ownsRow w.heap.size 3 1 v k (icl (Z.take k)) ∧ Below w.heap.size w wx) (fun _ s4 _ => n - (RowKit.intOf s4).toNat)
  case atStart => exact ⟨0, _, Nat.zero_le _, rfl, rfl, World.ownsRow_nil _ _ _ _, Below.refl _ _⟩
  case round =>
    obtain ⟨k, v, hk, rfl, rfl, hown, hb⟩ := hrel
    have HO := Lib.hid hown
    have HB := Lib.hid hb
    have hsz := hb.size
    by_cases hlt : k < n
    · have hkz : k < S.length := by rw [HL.out]; exact hlt
      obtain ⟨g, off, rfl, hg, c0, c1, c2, c3, c4, c5⟩ := (HC.out.below hb).at_ hkz
      have HS := Lib.hid (HSN.out k hkz)
      have hx := HOK.out _ (List.getElem_mem hkz)
      generalize S[k] = x at *
      simp only [Bool.and_eq_true, decide_eq_true_eq] at hx
      obtain ⟨⟨⟨⟨⟨x0, x1⟩, x2⟩, x3⟩, x4⟩, x5⟩ := hx
      have k0 : (0 : Int) ≤ (k : Int) := by omega
      have k1 : (k : Int) < (n : Int) := by omega
      have hneg : IntKind.i64.wrap (-x.a) = -x.a := IntWalk.i64_in _ (by omega)
      have hneg2 : IntKind.i64.wrap (0 - x.a) = -x.a := by rw [Int.zero_sub]; exact hneg
      by_cases h4 : x.a = 4
      · have t1 : (x.a == (3 : Int)) = false := beq_eq_false_iff_ne.2 (by omega)
        have t2 : (x.a == (4 : Int)) = true := beq_iff_eq.2 h4
        have hw1 : IntKind.i64.wrap (x.w * 2097152) = x.w * 2097152 := IntWalk.i64_in _ (by omega)
        have hw2 : IntKind.i64.wrap (x.c + x.w * 2097152) = x.c + x.w * 2097152 := IntWalk.i64_in _ (by omega)
        have hcz : codeZ x = x.c + x.w * 2097152 := by unfold codeZ; rw [if_pos h4]
        rw [hcz] at HS
        clear hown hkz hcz
        obtain ⟨y, hy⟩ : ∃ y, x.c + x.w * 2097152 = y := ⟨_, rfl⟩
        rw [hy] at HS hw2
        clear hb
        go_wp2_with fail
        go_quiet (fail)
        go_wp2_with (at_builtin; refine wpList_add rfl _ _ rfl w.heap.size _ k (Z.take k) rfl (ownsRow_below (ownsRow_below HO.out (Arr.below_drewN (Below.refl _ _) _)) (below_made _ _)) (some ⟨wr.heap.size, 0, none⟩) 1 1 [y] rfl (made_ints' (by rfl) (by rfl)) rfl (by omega) (by show _ ≤ (_ : World).heap.size; simp; omega) ?_)
        intro v' w4 hown' hb4
        have HB4 := Lib.hid ((HB.out.trans (((Arr.below_drewN (Below.refl wr.heap.size wr) _).alloc (Nat.le_refl _) (.cells #[.int .i64 y] 3)).mono hsz)).trans hb4)
        have HO4 := Lib.hid (show w4.ownsRow w.heap.size 3 1 v' (k + 1) (icl (Z.take (k + 1))) from by rw [HS.out]; exact hown')
        clear hown' hb4
        go_wp2_with fail
        exact ⟨⟨k + 1, v', by omega, by go_num, rfl, HO4.out, HB4.out⟩, by simp [RowKit.intOf]; omega⟩
      · have t2 : (x.a == (4 : Int)) = false := beq_eq_false_iff_ne.2 h4
        have hcz : codeZ x = -x.a := by unfold codeZ; rw [if_neg h4]
        rw [hcz] at HS
        by_cases h3 : x.a = 3
        · have t1 : (x.a == (3 : Int)) = true := beq_iff_eq.2 h3
          rw [h3] at HS
          clear hown hkz hcz hb
          go_wp2_with (at_builtin; refine wpList_add rfl _ _ rfl w.heap.size _ k (Z.take k) rfl (ownsRow_below HO.out (below_made _ _)) (some ⟨wr.heap.size, 0, none⟩) 1 1 [(-3)] rfl (made_ints [(-3)] _ _ _ rfl) rfl (by omega) (by rw [World.size_alloc]; omega) ?_)
          intro v' w4 hown' hb4
          have HB4 := Lib.hid ((HB.out.trans ((below_made wr (.cells #[.int .i64 (-3)] 3)).mono hsz)).trans hb4)
          have HO4 := Lib.hid (show w4.ownsRow w.heap.size 3 1 v' (k + 1) (icl (Z.take (k + 1))) from by rw [HS.out]; exact hown')
          clear hown' hb4
          go_wp2_with fail
          exact ⟨⟨k + 1, v', by omega, by go_num, rfl, HO4.out, HB4.out⟩, by simp [RowKit.intOf]; omega⟩
        · have t1 : (x.a == (3 : Int)) = false := beq_eq_false_iff_ne.2 h3
          obtain ⟨y, hy⟩ : ∃ y, -x.a = y := ⟨_, rfl⟩
          rw [hy] at HS hneg hneg2
          clear hown hkz hcz hb
          go_wp2_with (at_builtin; refine wpList_add rfl _ _ rfl w.heap.size _ k (Z.take k) rfl (ownsRow_below HO.out (below_made _ _)) (some ⟨wr.heap.size, 0, none⟩) 1 1 [y] rfl (made_ints [y] _ _ _ rfl) rfl (by omega) (by rw [World.size_alloc]; omega) ?_)
          intro v' w4 hown' hb4
          have HB4 := Lib.hid ((HB.out.trans ((below_made wr (.cells #[.int .i64 y] 3)).mono hsz)).trans hb4)
          have HO4 := Lib.hid (show w4.ownsRow w.heap.size 3 1 v' (k + 1) (icl (Z.take (k + 1))) from by rw [HS.out]; exact hown')
          clear hown' hb4
          go_wp2_with fail
          exact ⟨⟨k + 1, v', by omega, by go_num, rfl, HO4.out, HB4.out⟩, by simp [RowKit.intOf]; omega⟩
    · obtain rfl : k = n := by omega
      have j1 : decide ((k : Int) < (k : Int)) = false := decide_eq_false (by omega)
      rw [HTK.out Z HZL.out] at hown
      have HO2 := Lib.hid hown
      clear hown hb
      go_wp2_with fail
      go_ret
      obtain ⟨A', c', rfl, hin⟩ := intsAt_icl HO2.out HZL.out
      exact ⟨A', c', rfl, hin, HB.out⟩
/-- Do these codes come? -/
def comesB (l : List R3) (lv : List Int) (x : L5) (para W al : Int) (want : List Int) : Bool := decide (l.length = lv.length) && decide (l.length ≤ 1000) && decide (errP l.length lv.length (ofC l).length x para W al = 0) && okS (ansP l lv x para W al) && decide ((ansP l lv x para W al).length ≤ 10000) && ((ansP l lv x para W al).map codeZ == want)
set_option maxHeartbeats 2000000 in
set_option maxRecDepth 100000 in
theorem comes_yes {H : World → Prop} (HS : SlotsOk H) (HLT : Lasts H) (A B C : Option Addr) (l : List R3) (lv want : List Int) (n m k c d e : Nat) (x : L5) (para W al : Int) (w : World) (hH : H w) (hA : RuAt w A l) (hB : IntsAt w B lv) (hC : IntsAt w C want) (hl : l.length = n) (hm : lv.length = m) (hk : want.length = k) (hnc : n ≤ c) (hmd : m ≤ d) (hnA : A = none → c = 0) (hnB : B = none → d = 0) (hok : comesB l lv x para W al want = true) :
    Calls Tryd.prog 16 #[.slice A n c, .slice B m d, lnV x, .int .i64 para, .int .i64 W, .int .i64 al, .slice C k e] w fun r w' => r = .returned (.bool true) ∧ Below w.heap.size w w' := by
  unfold comesB at hok
  simp only [Bool.and_eq_true, decide_eq_true_eq, beq_iff_eq] at hok
  obtain ⟨⟨⟨⟨⟨o1, o2⟩, o3⟩, o4⟩, o5⟩, o6⟩ := hok
  have HB0 := Lib.hid ((Below.refl w.heap.size w).alloc (Nat.le_refl _) (.cells #[.int .i64 x.f, .int .i64 x.t, .int .i64 x.s, .int .i64 x.h, .int .i64 x.d] 25))
  have HSL := Lib.hid (fun V (h : Below w.heap.size w V) => HS A B l lv n m c d x para W al V (HLT w V hH h) (hA.below h) (hB.below h) hl hm (by omega) hnc hmd (by omega) hnA hnB)
  rw [← hl, ← hm, o3] at HSL
  have HWN := Lib.hid hC
  have hwl : want.length = (ansP l lv x para W al).length := by rw [← o6, List.length_map]
  rw [← hl, ← hm, ← hk, hwl]
  have HCD := Lib.hid (fun V A' c' (h : CuAt V A' (ansP l lv x para W al)) => codes_any A' (ansP l lv x para W al) (ansP l lv x para W al).length c' V h rfl o5 o4)
  rw [o6] at HCD
  have HSM := Lib.hid (fun V A1 A2 c1 c2 (h1 : IntsAt V A1 want) (h2 : IntsAt V A2 want) => Rc.same_ints A1 A2 want c1 c2 V h1 h2 (by rw [hwl]; omega))
  rw [hwl] at HSM
  generalize ansP l lv x para W al = S at *
  clear hA hB hC o1 o2 o3 o4 o5 o6 hwl hl hm hk
  generalize S.length = N at *
  generalize l.length = n' at *
  generalize lv.length = m' at *
  unfold lnV at *
  go_enter Tryd.func16, Tryd.ntmps16
  go_wp2_with fail
  refine (HSL.out _ HB0.out).mono ?_
  rintro r w1 ⟨A1, c1, rfl, hcu, hle, hb1⟩
  have HB1 := Lib.hid (HB0.out.trans (hb1.mono HB0.out.size))
  have HCU := Lib.hid hcu
  clear hb1 hcu hle
  go_wp2_with fail
  refine (HCD.out _ _ _ HCU.out).mono ?_
  rintro r w2 ⟨A2, c2, rfl, hin, hb2⟩
  have HB2 := Lib.hid (HB1.out.trans (hb2.mono HB1.out.size))
  have HIN := Lib.hid hin
  clear hb2 hin
  go_wp2_with fail
  refine (HSM.out _ _ _ _ _ HIN.out (HWN.out.below HB2.out)).mono ?_
  rintro r w3 ⟨rfl, hb3⟩
  go_wp2_with fail
  go_ret
  exact ⟨rfl, HB2.out.trans (hb3.mono HB2.out.size)⟩
end Go.Proofs.YtlocnjenkanmpaaDoor.Pl

/-
  Proved here: that parquetrylaw19.awake (the chapter's examples) returns true, for any program of placing that keeps to the plain one (SlotsOk). It leaves what was in memory.
-/
set_option linter.unusedVariables false
namespace Go.Proofs.YtlocnjenkanmpaaDoor.Pl
open Go Go.RowKit Go.Lib Go.Proofs.YtlocnjenkanmpaaDoor.Ku Go.Proofs.YtlocnjenkanmpaaDoor.Wr Go.Proofs.YtlocnjenkanmpaaDoor.Arr Go.Proofs.YtlocnjenkanmpaaDoor.Cl
theorem ex0 : comesB (runesOf [97, 1488, 1489]) [0, 1, 1] ⟨0, 3, 3, 1, 0⟩ 0 5 2 [97, 1489, 1488, (-2), (-2)] = true := by decide +kernel
theorem ex1 : comesB (runesOf [97, 1488, 1489]) [2, 1, 1] ⟨0, 3, 3, 1, 0⟩ 1 5 3 [(-2), (-2), 1489, 1488, 97] = true := by decide +kernel
theorem ex2 : comesB (runesOf [40, 1488]) [1, 1] ⟨0, 2, 2, 0, 0⟩ 1 4 4 [(-2), 1488, 41, (-2)] = true := by decide +kernel
theorem ex3 : comesB (runesOf [97, 98, 99]) [0, 0, 0] ⟨0, 3, 1, 0, 1⟩ 0 3 2 [97, (-3), (-2)] = true := by decide +kernel
theorem ex4 : comesB (runesOf [19968]) [0] ⟨0, 1, 1, 0, 0⟩ 0 3 3 [(-2), 19968, 2117120] = true := by decide +kernel
set_option maxHeartbeats 4000000 in
set_option maxRecDepth 100000 in
theorem awake_of {H : World → Prop} (HS : SlotsOk H) (HLT : Lasts H) (w : World) (hH : H w) : Calls Tryd.prog 7 #[] w fun r w' => r = .returned (.bool true) ∧ Below w.heap.size w w' := by
  have HC0 := Lib.hid (fun (A B C : Option Addr) (c : Nat) (W : World) (hW : Below w.heap.size w W) (hA : RuAt W A (runesOf [97, 1488, 1489])) (hB : IntsAt W B [0, 1, 1]) (hC : IntsAt W C [97, 1489, 1488, (-2), (-2)]) (hle : 3 ≤ c) (hnA : A = none → c = 0) (hnB : B ≠ none) => comes_yes HS HLT A B C (runesOf [97, 1488, 1489]) [0, 1, 1] [97, 1489, 1488, (-2), (-2)] 3 3 5 c 3 5 ⟨0, 3, 3, 1, 0⟩ 0 5 2 W (HLT w W hH hW) hA hB hC rfl rfl rfl hle (Nat.le_refl _) hnA (fun h => absurd h hnB) ex0)
  have HC1 := Lib.hid (fun (A B C : Option Addr) (c : Nat) (W : World) (hW : Below w.heap.size w W) (hA : RuAt W A (runesOf [97, 1488, 1489])) (hB : IntsAt W B [2, 1, 1]) (hC : IntsAt W C [(-2), (-2), 1489, 1488, 97]) (hle : 3 ≤ c) (hnA : A = none → c = 0) (hnB : B ≠ none) => comes_yes HS HLT A B C (runesOf [97, 1488, 1489]) [2, 1, 1] [(-2), (-2), 1489, 1488, 97] 3 3 5 c 3 5 ⟨0, 3, 3, 1, 0⟩ 1 5 3 W (HLT w W hH hW) hA hB hC rfl rfl rfl hle (Nat.le_refl _) hnA (fun h => absurd h hnB) ex1)
  have HC2 := Lib.hid (fun (A B C : Option Addr) (c : Nat) (W : World) (hW : Below w.heap.size w W) (hA : RuAt W A (runesOf [40, 1488])) (hB : IntsAt W B [1, 1]) (hC : IntsAt W C [(-2), 1488, 41, (-2)]) (hle : 2 ≤ c) (hnA : A = none → c = 0) (hnB : B ≠ none) => comes_yes HS HLT A B C (runesOf [40, 1488]) [1, 1] [(-2), 1488, 41, (-2)] 2 2 4 c 2 4 ⟨0, 2, 2, 0, 0⟩ 1 4 4 W (HLT w W hH hW) hA hB hC rfl rfl rfl hle (Nat.le_refl _) hnA (fun h => absurd h hnB) ex2)
  have HC3 := Lib.hid (fun (A B C : Option Addr) (c : Nat) (W : World) (hW : Below w.heap.size w W) (hA : RuAt W A (runesOf [97, 98, 99])) (hB : IntsAt W B [0, 0, 0]) (hC : IntsAt W C [97, (-3), (-2)]) (hle : 3 ≤ c) (hnA : A = none → c = 0) (hnB : B ≠ none) => comes_yes HS HLT A B C (runesOf [97, 98, 99]) [0, 0, 0] [97, (-3), (-2)] 3 3 3 c 3 3 ⟨0, 3, 1, 0, 1⟩ 0 3 2 W (HLT w W hH hW) hA hB hC rfl rfl rfl hle (Nat.le_refl _) hnA (fun h => absurd h hnB) ex3)
  have HC4 := Lib.hid (fun (A B C : Option Addr) (c : Nat) (W : World) (hW : Below w.heap.size w W) (hA : RuAt W A (runesOf [19968])) (hB : IntsAt W B [0]) (hC : IntsAt W C [(-2), 19968, 2117120]) (hle : 1 ≤ c) (hnA : A = none → c = 0) (hnB : B ≠ none) => comes_yes HS HLT A B C (runesOf [19968]) [0] [(-2), 19968, 2117120] 1 1 3 c 1 3 ⟨0, 1, 1, 0, 0⟩ 0 3 3 W (HLT w W hH hW) hA hB hC rfl rfl rfl hle (Nat.le_refl _) hnA (fun h => absurd h hnB) ex4)
  have HOF := Lib.hid (fun (A : Option Addr) (zs : List Int) (n : Nat) (W : World) (hI : IntsAt W A zs) (hl : zs.length = n) (hn : n ≤ 1000) => lof_any A zs n n W hI hl hn)
  clear HS
  unfold lnV at *
  go_enter Tryd.func7, Tryd.ntmps7
  go_wp2_with fail
  refine (HOF.out _ [97, 1488, 1489] 3 _ (made_ints _ _ _ _ rfl) rfl (by omega)).mono ?_
  rintro r w1 ⟨A1, c1, rfl, hru, hle, hnil, hb⟩
  have HR1 := Lib.hid (And.intro hru (And.intro hle hnil))
  have HB1 := Lib.hid (((Below.refl w.heap.size w).alloc (Nat.le_refl _) (.cells #[.int .i64 97, .int .i64 1488, .int .i64 1489] 3)).trans (hb.mono (by rw [World.size_alloc]; omega)))
  clear hru hle hnil hb
  have hnew : Below w1.heap.size w1 (((w1.alloc (.cells #[.int .i64 0, .int .i64 3, .int .i64 3, .int .i64 1, .int .i64 0] 25)).alloc (.cells #[.int .i64 0, .int .i64 1, .int .i64 1] 3)).alloc (.cells #[.int .i64 97, .int .i64 1489, .int .i64 1488, .int .i64 (-2), .int .i64 (-2)] 3)) := ((((Below.refl w1.heap.size w1).alloc (by simp <;> omega) (.cells #[.int .i64 0, .int .i64 3, .int .i64 3, .int .i64 1, .int .i64 0] 25)).alloc (by simp <;> omega) (.cells #[.int .i64 0, .int .i64 1, .int .i64 1] 3)).alloc (by simp <;> omega) (.cells #[.int .i64 97, .int .i64 1489, .int .i64 1488, .int .i64 (-2), .int .i64 (-2)] 3))
  have HNEW := Lib.hid hnew
  have HLV := Lib.hid (show IntsAt (((w1.alloc (.cells #[.int .i64 0, .int .i64 3, .int .i64 3, .int .i64 1, .int .i64 0] 25)).alloc (.cells #[.int .i64 0, .int .i64 1, .int .i64 1] 3)).alloc (.cells #[.int .i64 97, .int .i64 1489, .int .i64 1488, .int .i64 (-2), .int .i64 (-2)] 3)) (some ⟨w1.heap.size + 1, 0, none⟩) [0, 1, 1] from (made_ints' (W := (w1.alloc (.cells #[.int .i64 0, .int .i64 3, .int .i64 3, .int .i64 1, .int .i64 0] 25))) (by simp) rfl).below (below_made _ _))
  have HWT := Lib.hid (show IntsAt (((w1.alloc (.cells #[.int .i64 0, .int .i64 3, .int .i64 3, .int .i64 1, .int .i64 0] 25)).alloc (.cells #[.int .i64 0, .int .i64 1, .int .i64 1] 3)).alloc (.cells #[.int .i64 97, .int .i64 1489, .int .i64 1488, .int .i64 (-2), .int .i64 (-2)] 3)) (some ⟨w1.heap.size + 1 + 1, 0, none⟩) [97, 1489, 1488, (-2), (-2)] from made_ints' (W := ((w1.alloc (.cells #[.int .i64 0, .int .i64 3, .int .i64 3, .int .i64 1, .int .i64 0] 25)).alloc (.cells #[.int .i64 0, .int .i64 1, .int .i64 1] 3))) (by simp) rfl)
  clear hnew
  go_wp2_with fail
  refine (HC0.out _ _ _ _ _ (HB1.out.trans (HNEW.out.mono HB1.out.size)) (HR1.out.1.below HNEW.out) HLV.out HWT.out HR1.out.2.1 HR1.out.2.2 (by simp)).mono ?_
  rintro r w2 ⟨rfl, hb⟩
  have HBw2 := Lib.hid ((HB1.out.trans (HNEW.out.mono HB1.out.size)).trans (hb.mono (HB1.out.trans (HNEW.out.mono HB1.out.size)).size))
  have HUw2 := Lib.hid (HNEW.out.trans (hb.mono HNEW.out.size))
  have HV2 := Lib.hid (HUw2.out)
  have hz1 := (hb.block w1.heap.size (by simp <;> omega)).trans ((Below.heap_alloc _ _ _ (by simp <;> omega)).trans ((Below.heap_alloc _ _ _ (by simp <;> omega)).trans (heap_alloc_new w1 (.cells #[.int .i64 0, .int .i64 3, .int .i64 3, .int .i64 1, .int .i64 0] 25))))
  have hz2 : w1.heap.size < w2.heap.size := (Array.getElem?_eq_some_iff.1 hz1).1
  obtain ⟨⟨z0, z1, z2, z3, z4⟩, -⟩ := cell5 ((Below.heap_alloc w2 (.cells #[.int .i64 2, .int .i64 1, .int .i64 1] 3) w1.heap.size hz2).trans hz1)
  clear hz1 hz2
  clear hb HLV HWT HNEW
  have hnew : Below w2.heap.size w2 ((w2.alloc (.cells #[.int .i64 2, .int .i64 1, .int .i64 1] 3)).alloc (.cells #[.int .i64 (-2), .int .i64 (-2), .int .i64 1489, .int .i64 1488, .int .i64 97] 3)) := (((Below.refl w2.heap.size w2).alloc (by simp <;> omega) (.cells #[.int .i64 2, .int .i64 1, .int .i64 1] 3)).alloc (by simp <;> omega) (.cells #[.int .i64 (-2), .int .i64 (-2), .int .i64 1489, .int .i64 1488, .int .i64 97] 3))
  have HNEW := Lib.hid hnew
  have HLV := Lib.hid (show IntsAt ((w2.alloc (.cells #[.int .i64 2, .int .i64 1, .int .i64 1] 3)).alloc (.cells #[.int .i64 (-2), .int .i64 (-2), .int .i64 1489, .int .i64 1488, .int .i64 97] 3)) (some ⟨w2.heap.size, 0, none⟩) [2, 1, 1] from (made_ints' (W := w2) (by simp) rfl).below (below_made _ _))
  have HWT := Lib.hid (show IntsAt ((w2.alloc (.cells #[.int .i64 2, .int .i64 1, .int .i64 1] 3)).alloc (.cells #[.int .i64 (-2), .int .i64 (-2), .int .i64 1489, .int .i64 1488, .int .i64 97] 3)) (some ⟨w2.heap.size + 1, 0, none⟩) [(-2), (-2), 1489, 1488, 97] from made_ints' (W := (w2.alloc (.cells #[.int .i64 2, .int .i64 1, .int .i64 1] 3))) (by simp) rfl)
  clear hnew
  go_wp2_with fail
  refine (HC1.out _ _ _ _ _ (HBw2.out.trans (HNEW.out.mono HBw2.out.size)) ((HR1.out.1.below HV2.out).below HNEW.out) HLV.out HWT.out HR1.out.2.1 HR1.out.2.2 (by simp)).mono ?_
  rintro r w3 ⟨rfl, hb⟩
  have HBw3 := Lib.hid ((HBw2.out.trans (HNEW.out.mono HBw2.out.size)).trans (hb.mono (HBw2.out.trans (HNEW.out.mono HBw2.out.size)).size))
  have HUw3 := Lib.hid (HNEW.out.trans (hb.mono HNEW.out.size))
  clear hb HLV HWT HNEW HUw2 HV2 z0 z1 z2 z3 z4
  go_wp2_with fail
  refine (HOF.out _ [40, 1488] 2 _ (made_ints _ _ _ _ rfl) rfl (by omega)).mono ?_
  rintro r w4 ⟨A2, c2, rfl, hru, hle, hnil, hb⟩
  have HR := Lib.hid (And.intro hru (And.intro hle hnil))
  have HBw4 := Lib.hid (HBw3.out.trans ((((Below.refl w3.heap.size w3).alloc (Nat.le_refl _) (.cells #[.int .i64 40, .int .i64 1488] 3)).trans (hb.mono (by rw [World.size_alloc]; omega))).mono HBw3.out.size))
  clear hru hle hnil hb
  have hnew : Below w4.heap.size w4 ((w4.alloc (.cells #[.int .i64 1, .int .i64 1] 3)).alloc (.cells #[.int .i64 (-2), .int .i64 1488, .int .i64 41, .int .i64 (-2)] 3)) := (((Below.refl w4.heap.size w4).alloc (by simp <;> omega) (.cells #[.int .i64 1, .int .i64 1] 3)).alloc (by simp <;> omega) (.cells #[.int .i64 (-2), .int .i64 1488, .int .i64 41, .int .i64 (-2)] 3))
  have HNEW := Lib.hid hnew
  have HLV := Lib.hid (show IntsAt ((w4.alloc (.cells #[.int .i64 1, .int .i64 1] 3)).alloc (.cells #[.int .i64 (-2), .int .i64 1488, .int .i64 41, .int .i64 (-2)] 3)) (some ⟨w4.heap.size, 0, none⟩) [1, 1] from (made_ints' (W := w4) (by simp) rfl).below (below_made _ _))
  have HWT := Lib.hid (show IntsAt ((w4.alloc (.cells #[.int .i64 1, .int .i64 1] 3)).alloc (.cells #[.int .i64 (-2), .int .i64 1488, .int .i64 41, .int .i64 (-2)] 3)) (some ⟨w4.heap.size + 1, 0, none⟩) [(-2), 1488, 41, (-2)] from made_ints' (W := (w4.alloc (.cells #[.int .i64 1, .int .i64 1] 3))) (by simp) rfl)
  clear hnew
  go_wp2_with fail
  refine (HC2.out _ _ _ _ _ (HBw4.out.trans (HNEW.out.mono HBw4.out.size)) (HR.out.1.below HNEW.out) HLV.out HWT.out HR.out.2.1 HR.out.2.2 (by simp)).mono ?_
  rintro r w5 ⟨rfl, hb⟩
  have HBw5 := Lib.hid ((HBw4.out.trans (HNEW.out.mono HBw4.out.size)).trans (hb.mono (HBw4.out.trans (HNEW.out.mono HBw4.out.size)).size))
  have HUw5 := Lib.hid (HNEW.out.trans (hb.mono HNEW.out.size))
  clear hb HLV HWT HNEW HUw5 HR
  go_wp2_with fail
  refine (HOF.out _ [97, 98, 99] 3 _ (made_ints _ _ _ _ rfl) rfl (by omega)).mono ?_
  rintro r w6 ⟨A3, c3, rfl, hru, hle, hnil, hb⟩
  have HR := Lib.hid (And.intro hru (And.intro hle hnil))
  have HBw6 := Lib.hid (HBw5.out.trans ((((Below.refl w5.heap.size w5).alloc (Nat.le_refl _) (.cells #[.int .i64 97, .int .i64 98, .int .i64 99] 3)).trans (hb.mono (by rw [World.size_alloc]; omega))).mono HBw5.out.size))
  clear hru hle hnil hb
  have hnew : Below w6.heap.size w6 ((w6.alloc (.cells #[.int .i64 0, .int .i64 0, .int .i64 0] 3)).alloc (.cells #[.int .i64 97, .int .i64 (-3), .int .i64 (-2)] 3)) := (((Below.refl w6.heap.size w6).alloc (by simp <;> omega) (.cells #[.int .i64 0, .int .i64 0, .int .i64 0] 3)).alloc (by simp <;> omega) (.cells #[.int .i64 97, .int .i64 (-3), .int .i64 (-2)] 3))
  have HNEW := Lib.hid hnew
  have HLV := Lib.hid (show IntsAt ((w6.alloc (.cells #[.int .i64 0, .int .i64 0, .int .i64 0] 3)).alloc (.cells #[.int .i64 97, .int .i64 (-3), .int .i64 (-2)] 3)) (some ⟨w6.heap.size, 0, none⟩) [0, 0, 0] from (made_ints' (W := w6) (by simp) rfl).below (below_made _ _))
  have HWT := Lib.hid (show IntsAt ((w6.alloc (.cells #[.int .i64 0, .int .i64 0, .int .i64 0] 3)).alloc (.cells #[.int .i64 97, .int .i64 (-3), .int .i64 (-2)] 3)) (some ⟨w6.heap.size + 1, 0, none⟩) [97, (-3), (-2)] from made_ints' (W := (w6.alloc (.cells #[.int .i64 0, .int .i64 0, .int .i64 0] 3))) (by simp) rfl)
  clear hnew
  go_wp2_with fail
  refine (HC3.out _ _ _ _ _ (HBw6.out.trans (HNEW.out.mono HBw6.out.size)) (HR.out.1.below HNEW.out) HLV.out HWT.out HR.out.2.1 HR.out.2.2 (by simp)).mono ?_
  rintro r w7 ⟨rfl, hb⟩
  have HBw7 := Lib.hid ((HBw6.out.trans (HNEW.out.mono HBw6.out.size)).trans (hb.mono (HBw6.out.trans (HNEW.out.mono HBw6.out.size)).size))
  have HUw7 := Lib.hid (HNEW.out.trans (hb.mono HNEW.out.size))
  clear hb HLV HWT HNEW HUw7 HR
  go_wp2_with fail
  refine (HOF.out _ [19968] 1 _ (made_ints _ _ _ _ rfl) rfl (by omega)).mono ?_
  rintro r w8 ⟨A4, c4, rfl, hru, hle, hnil, hb⟩
  have HR := Lib.hid (And.intro hru (And.intro hle hnil))
  have HBw8 := Lib.hid (HBw7.out.trans ((((Below.refl w7.heap.size w7).alloc (Nat.le_refl _) (.cells #[.int .i64 19968] 3)).trans (hb.mono (by rw [World.size_alloc]; omega))).mono HBw7.out.size))
  clear hru hle hnil hb
  have hnew : Below w8.heap.size w8 ((w8.alloc (.cells #[.int .i64 0] 3)).alloc (.cells #[.int .i64 (-2), .int .i64 19968, .int .i64 2117120] 3)) := (((Below.refl w8.heap.size w8).alloc (by simp <;> omega) (.cells #[.int .i64 0] 3)).alloc (by simp <;> omega) (.cells #[.int .i64 (-2), .int .i64 19968, .int .i64 2117120] 3))
  have HNEW := Lib.hid hnew
  have HLV := Lib.hid (show IntsAt ((w8.alloc (.cells #[.int .i64 0] 3)).alloc (.cells #[.int .i64 (-2), .int .i64 19968, .int .i64 2117120] 3)) (some ⟨w8.heap.size, 0, none⟩) [0] from (made_ints' (W := w8) (by simp) rfl).below (below_made _ _))
  have HWT := Lib.hid (show IntsAt ((w8.alloc (.cells #[.int .i64 0] 3)).alloc (.cells #[.int .i64 (-2), .int .i64 19968, .int .i64 2117120] 3)) (some ⟨w8.heap.size + 1, 0, none⟩) [(-2), 19968, 2117120] from made_ints' (W := (w8.alloc (.cells #[.int .i64 0] 3))) (by simp) rfl)
  clear hnew
  go_wp2_with fail
  refine (HC4.out _ _ _ _ _ (HBw8.out.trans (HNEW.out.mono HBw8.out.size)) (HR.out.1.below HNEW.out) HLV.out HWT.out HR.out.2.1 HR.out.2.2 (by simp)).mono ?_
  rintro r w9 ⟨rfl, hb⟩
  have HBw9 := Lib.hid ((HBw8.out.trans (HNEW.out.mono HBw8.out.size)).trans (hb.mono (HBw8.out.trans (HNEW.out.mono HBw8.out.size)).size))
  have HUw9 := Lib.hid (HNEW.out.trans (hb.mono HNEW.out.size))
  clear hb HLV HWT HNEW HUw9 HR
  go_wp2_with fail
  go_ret
  exact ⟨rfl, HBw9.out⟩
end Go.Proofs.YtlocnjenkanmpaaDoor.Pl

/-
  Proved here: what parquetryref19.Same returns for a row of slots and itself: true. It writes nothing.
-/
set_option linter.unusedVariables false
namespace Go.Proofs.YtlocnjenkanmpaaDoor.Pl
open Go Go.RowKit Go.Lib Go.Proofs.YtlocnjenkanmpaaDoor.Ku Go.Proofs.YtlocnjenkanmpaaDoor.Wr Go.Proofs.YtlocnjenkanmpaaDoor.Arr Go.Proofs.YtlocnjenkanmpaaDoor.Cl
set_option maxHeartbeats 1000000 in
set_option maxRecDepth 1000000 in
theorem psame_yes (A B : Option Addr) (l : List C6) (n c d : Nat) (w : World) (hl : l.length = n) (ha : CuAt w A l) (hb : CuAt w B l) (hn : n ≤ 1099511627776) :
    Calls Tryd.prog 10 #[.slice A n c, .slice B n d] w fun e w' => e = .returned (.bool true) ∧ Below w.heap.size w w' := by
  have HA := Lib.hid ha
  have HB := Lib.hid hb
  have HL := Lib.hid hl
  clear ha hb hl
  go_enter Tryd.func10, Tryd.ntmps10
  go_wp2_with fail
  go_loopw [5] (fun s5 wx => ∃ k : Nat, k ≤ n ∧ s5 = .int .i64 k ∧ Below w.heap.size w wx) (fun s5 _ => n - (RowKit.intOf s5).toNat)
  case atStart => exact ⟨0, Nat.zero_le _, rfl, Below.refl _ _⟩
  case round =>
    obtain ⟨k, hk, rfl, hbw⟩ := hrel
    by_cases hlt : k < n
    · have hkl : k < l.length := by rw [HL.out]; exact hlt
      obtain ⟨g, off, rfl, hg, c0, c1, c2, c3, c4, c5⟩ := (HA.out.below hbw).at_ hkl
      obtain ⟨g', off', rfl, hg', d0, d1, d2, d3, d4, d5⟩ := (HB.out.below hbw).at_ hkl
      clear HA HB
      generalize l[k] = r at *
      go_wp2_with fail
      go_quiet (fail)
      go_wp2_with fail
      go_roundw
      case rel => exact ⟨k + 1, by omega, by go_num, hbw.trans ((Arr.below_drewN (Below.refl _ _) _).mono hbw.size)⟩
      case measure => simp [RowKit.intOf]; omega
    · go_wp2
      go_ret
      exact ⟨rfl, hbw⟩
end Go.Proofs.YtlocnjenkanmpaaDoor.Pl
