/-
  Several texts in one, each with its own remark: RuSame, PlLaw1, KuNo, SoSearch.
-/
import Derived.Deep.RegionWith
import Derived.Carry
import Derived.ProofKit
import Derived.OpenShut
import Derived.Below
import Derived.Lib.Hide
import Derived.WalkKit
import Derived.Shelf.Abstract
import Derived.IntWalk
import Derived.OwnWalk
import Derived.Test.YtlocnjenkanmpaaDoorM0
import Derived.Test.YtlocnjenkanmpaaDoorM2
import Derived.Test.YtlocnjenkanmpaaDoorM3
import Derived.Test.YtlocnjenkanmpaaDoorMPlSlots
import Derived.Test.YtlocnjenkanmpaaDoorM1
import Derived.Test.YtlocnjenkanmpaaDoorM11
import Derived.Test.YtlocnjenkanmpaaDoorRows

/-
  Proved here: parquetryref01.Same of two rows of the same runes is true; it leaves what was in memory.
-/
set_option linter.unusedVariables false
namespace Go.Proofs.YtlocnjenkanmpaaDoor.Ku
open Go.RowKit Go.Lib Go.Proofs.YtlocnjenkanmpaaDoor.Arr
set_option maxHeartbeats 1000000 in
set_option maxRecDepth 1000000 in
theorem rsame_yes (A B : Option Addr) (l : List R3) (n c d : Nat) (w : World) (hl : l.length = n) (ha : RuAt w A l) (hb : RuAt w B l) (hn : n ≤ 1099511627776) :
    Calls Tryd.prog 11 #[.slice A n c, .slice B n d] w fun e w' => e = .returned (.bool true) ∧ Below w.heap.size w w' := by
  have HA := Lib.hid ha
  have HB := Lib.hid hb
  have HL := Lib.hid hl
  clear ha hb hl
  go_enter Tryd.func11, Tryd.ntmps11
  go_wp2_with fail
  go_loopw [5] (fun s5 wx => ∃ k : Nat, k ≤ n ∧ s5 = .int .i64 k ∧ Below w.heap.size w wx) (fun s5 _ => n - (RowKit.intOf s5).toNat)
  case atStart => exact ⟨0, Nat.zero_le _, rfl, Below.refl _ _⟩
  case round =>
    obtain ⟨k, hk, rfl, hbw⟩ := hrel
    by_cases hlt : k < n
    · have hkl : k < l.length := by rw [HL.out]; exact hlt
      obtain ⟨g, off, rfl, hg, c0, c1, c2⟩ := (HA.out.below hbw).at_ hkl
      obtain ⟨g', off', rfl, hg', d0, d1, d2⟩ := (HB.out.below hbw).at_ hkl
      clear HA HB
      generalize l[k] = r at *
      go_wp2_with fail
      go_quiet (fail)
      go_wp2_with fail
      go_roundw
      case rel => exact ⟨k + 1, by omega, by go_num, hbw.trans ((below_drewN (Below.refl _ _) _).mono hbw.size)⟩
      case measure => simp [RowKit.intOf]; omega
    · go_wp2
      go_ret
      exact ⟨rfl, hbw⟩
end Go.Proofs.YtlocnjenkanmpaaDoor.Ku

/-
  Proved here: what parquetrylaw19.PlaceSlots returns for every row of runes, of levels, every line and three numbers: true, for any program of placing that keeps to the plain one (SlotsOk). It leaves what was in memory.
-/
set_option linter.unusedVariables false
namespace Go.Proofs.YtlocnjenkanmpaaDoor.Pl
open Go Go.RowKit Go.Lib Go.Proofs.YtlocnjenkanmpaaDoor.Ku Go.Proofs.YtlocnjenkanmpaaDoor.Wr Go.Proofs.YtlocnjenkanmpaaDoor.Arr Go.Proofs.YtlocnjenkanmpaaDoor.Cl
theorem made_at {V : World} {B : Nat} (hB : V.heap.size = B) (e : TypeId) (sz : Nat) : (V.alloc (.cells #[] e)).ownsRow B e sz (.slice (some ⟨B, 0, none⟩) 0 0) 0 [] := by
  subst hB
  exact World.ownsRow_made V #[] 0 (Nat.le_refl _) (Nat.zero_le _) (by simp)
theorem made_nil (w : World) : (w.alloc (.cells #[] 3)).ownsRow w.heap.size 3 1 (.slice (some ⟨w.heap.size, 0, none⟩) 0 0) 0 (icl []) := World.ownsRow_made w #[] 0 (Nat.le_refl _) (Nat.zero_le _) rfl
theorem own_caps {w : World} {B k : Nat} {e : TypeId} {A : Option Addr} {n c : Nat} {cs : List Value} {k3 : Nat} (h : w.ownsRow B e k3 (.slice A n c) k cs) : k ≤ c ∧ (A = none → c = 0) := by
  rcases h.2 with ⟨e1, h0⟩ | ⟨g, cap, cur, e1, _, _, hle, _⟩
  · injection e1 with _ _ e2
    subst h0
    exact ⟨Nat.zero_le _, fun _ => e2⟩
  · injection e1 with e0 _ e2
    refine ⟨by omega, fun hA => ?_⟩
    rw [hA] at e0
    cases e0
theorem lt_of_block {w : World} {b : Nat} {o : Obj} (h : w.heap[b]? = some o) : b < w.heap.size := by
  obtain ⟨h1, _⟩ := Array.getElem?_eq_some_iff.1 h
  exact h1
set_option maxHeartbeats 8000000 in
set_option maxRecDepth 100000 in
theorem slots_law {H : World → Prop} (HS : SlotsOk H) (HLT : Lasts H) (A B : Option Addr) (l : List R3) (lv : List Int) (n m c d : Nat) (x : L5) (para W al : Int) (w : World) (hH : H w) (hA : RuAt w A l) (hB : IntsAt w B lv) (hl : l.length = n) (hm : lv.length = m) (hcn : n ≤ c) (hdm : m ≤ d) (hnA : A = none → l = [] ∧ c = 0) (hnB : B = none → lv = [] ∧ d = 0) (hm63 : m ≤ 9223372036854775807) :
    Calls Tryd.prog 3 #[.slice A n c, .slice B m d, lnV x, .int .i64 para, .int .i64 W, .int .i64 al] w fun e w' => e = .returned (.bool true) ∧ Below w.heap.size w w' := by
  have hB0 := (Below.refl w.heap.size w).alloc (Nat.le_refl _) (.cells #[.int .i64 x.f, .int .i64 x.t, .int .i64 x.s, .int .i64 x.h, .int .i64 x.d] 25)
  have HB0 := Lib.hid hB0
  have HAW := Lib.hid (fun V (h : Below w.heap.size w V) => awake_of HS HLT V (HLT w V hH h))
  have HE0 := Lib.hid (heap_alloc_new w (.cells #[.int .i64 x.f, .int .i64 x.t, .int .i64 x.s, .int .i64 x.h, .int .i64 x.d] 25))
  by_cases h1 : 120 < n
  · have d0 : decide ((120 : Int) < (n : Int)) = true := decide_eq_true (by omega)
    have e0 : decide (120 < n) = true := decide_eq_true h1
    unfold lnV
    go_enter Tryd.func3, Tryd.ntmps3
    go_wp2_with fail
    refine (HAW.out _ HB0.out).mono ?_
    rintro e w1 ⟨rfl, hb1⟩
    go_wp2_with fail
    go_ret
    exact ⟨rfl, HB0.out.trans (hb1.mono HB0.out.size)⟩
  have d0 : decide ((120 : Int) < (n : Int)) = false := decide_eq_false (by omega)
  have e0 : decide (120 < n) = false := decide_eq_false h1
  by_cases h2 : 120 < m
  · have d1 : decide ((120 : Int) < (m : Int)) = true := decide_eq_true (by omega)
    have e1 : decide (120 < m) = true := decide_eq_true h2
    unfold lnV
    go_enter Tryd.func3, Tryd.ntmps3
    go_wp2_with fail
    refine (HAW.out _ HB0.out).mono ?_
    rintro e w1 ⟨rfl, hb1⟩
    go_wp2_with fail
    go_ret
    exact ⟨rfl, HB0.out.trans (hb1.mono HB0.out.size)⟩
  have d1 : decide ((120 : Int) < (m : Int)) = false := decide_eq_false (by omega)
  have e1 : decide (120 < m) = false := decide_eq_false h2
  obtain ⟨i0, hi, hz0, hz1, hz2⟩ := info_parts infoR
  have HSL := Lib.hid (fun V (h : Below w.heap.size w V) A' B' c' d' (h1 : RuAt V A' l) (h2 : IntsAt V B' lv) (h3 : n ≤ c') (h4 : m ≤ d') (h5 : A' = none → c' = 0) (h6 : B' = none → d' = 0) => HS A' B' l lv n m c' d' x para W al V (HLT w V hH h) h1 h2 hl hm (by omega) h3 h4 hm63 h5 h6)
  have HRS := Lib.hid (fun V (h : Below w.heap.size w V) => rslots_any A B l lv n m c d x para W al V (hA.below h) (hB.below h) hl hm (by omega) hcn hdm hm63)
  have HRU := Lib.hid (fun V A1 A2 c1 c2 (h1 : RuAt V A1 l) (h2 : RuAt V A2 l) => rsame_yes A1 A2 l n c1 c2 V hl h1 h2 (by omega))
  have HIN := Lib.hid (fun V A1 A2 c1 c2 (h1 : IntsAt V A1 lv) (h2 : IntsAt V A2 lv) => (show Calls Tryd.prog 12 #[.slice A1 m c1, .slice A2 m c2] V fun e w' => e = .returned (.bool true) ∧ Below V.heap.size V w' from by
    have h := Rc.same_ints A1 A2 lv c1 c2 V h1 h2 (by omega)
    rwa [hm] at h))
  obtain ⟨S, hS⟩ : ∃ S, ansP l lv x para W al = S := ⟨_, rfl⟩
  rw [hS] at HSL HRS
  have HSB := Lib.hid (show S.length ≤ 1024 from by
    rw [← hS]
    unfold ansP
    split
    · next he =>
      have := errP_ok he
      unfold slotsP
      rw [pad_len]
      omega
    · simp)
  obtain ⟨er, her⟩ : ∃ er, errP n m (ofC l).length x para W al = er := ⟨_, rfl⟩
  rw [her] at HSL HRS
  have HSM := Lib.hid (fun V A1 A2 c1 c2 (h1 : CuAt V A1 S) (h2 : CuAt V A2 S) => psame_yes A1 A2 S S.length c1 c2 V rfl h1 h2 (by have := HSB.out; omega))
  have hmade := made_at (V := w.alloc (.cells #[.int .i64 x.f, .int .i64 x.t, .int .i64 x.s, .int .i64 x.h, .int .i64 x.d] 25)) (B := w.heap.size + 1) (by rw [World.size_alloc]) 36 3
  have hb1 := hB0.alloc (by rw [World.size_alloc]; omega) (.cells #[] 36)
  have HM := Lib.hid hmade
  have HA1 := Lib.hid (hA.below hb1)
  have HB1 := Lib.hid hb1
  have HA := Lib.hid hA
  have HBI := Lib.hid hB
  have HNA := Lib.hid (fun h => (show n = 0 from by rw [← hl, (hnA h).1]; rfl))
  have HL := Lib.hid hl
  have HML := Lib.hid hm
  have hcr := cellsR_len l
  rw [hl] at hcr
  have hek : ((er == er) : Bool) = true := beq_iff_eq.2 rfl
  clear hS her hA hB hnA hnB hB0 hmade hb1 hl hm hm63 HS
  unfold lnV at *
  go_enter Tryd.func3, Tryd.ntmps3
  go_wp2_with (at_builtin; refine wpList_append_src _ rfl _ _ 22 rfl (w.heap.size + 1) 36 i0 (.agg #[.int .i64 0, .int .i64 0, .int .i64 0]) 3 24 Tryd.underlying22 hi hz0 hz1 hz2 rfl (by decide) _ _ _ rfl HM.out A n c (cellsR l) rfl hcr HNA.out (fun ad had => (had ▸ HA1.out : RuAt _ (some ad) l).news) (cellsR_one _) (by unfold maxLen; omega) (by omega) (by simp) ?_)
  intro v' w2 hown' hgrow
  have hown2 : w2.ownsRow (w.heap.size + 1) 36 3 v' l.length (cellsR l) := by
    rw [HL.out]
    simpa using hown'
  have hb2 : Below w.heap.size w w2 := HB1.out.grown hgrow HB1.out.size (fun g hg => by simp [Value.ownBlock] at hg; omega)
  have hbx : w2.heap[w.heap.size]? = some (.cells #[.int .i64 x.f, .int .i64 x.t, .int .i64 x.s, .int .i64 x.h, .int .i64 x.d] 25 (0, 0)) := (hgrow.block w.heap.size (by simp; omega) (by simp [Value.ownBlock])).trans ((Below.heap_alloc _ _ _ (by rw [World.size_alloc]; omega)).trans HE0.out)
  obtain ⟨A1, c1, rfl, hr'⟩ := ruAt_own hown2
  have hc1 : l.length ≤ c1 ∧ (A1 = none → c1 = 0) := own_caps hown2
  rw [HL.out] at hc1 ⊢
  have HC1 := Lib.hid hc1
  have HO2 := Lib.hid hr'
  have HB2 := Lib.hid hb2
  have HX2 := Lib.hid hbx
  have hsz2 := hb2.size
  clear hgrow hown' hown2 hr' hb2 hbx HM HA1 HB1 hi hz0 hz1 hz2 hcr hc1
  have HDD := Lib.hid (below_made w2 (.cells #[] 3))
  have HSRC := Lib.hid ((HBI.out.below HB2.out).below HDD.out)
  go_wp2_with (at_builtin; refine wpList_add rfl _ _ rfl w2.heap.size _ 0 [] rfl (made_nil w2) B m d lv rfl HSRC.out HML.out (by omega) (by simp) ?_)
  intro v3 w3 hown hb
  try simp only [List.nil_append, Nat.zero_add] at hown
  obtain ⟨A3, c3, rfl, hat⟩ := intsAt_icl hown HML.out
  have hc3 : m ≤ c3 ∧ (A3 = none → c3 = 0) := own_caps hown
  have hb23 := HDD.out.trans hb
  have HB3 := Lib.hid (HB2.out.trans (hb23.mono hsz2))
  have HO3 := Lib.hid (HO2.out.below hb23)
  have HX3 := Lib.hid (show w3.heap[w.heap.size]? = some (.cells #[.int .i64 x.f, .int .i64 x.t, .int .i64 x.s, .int .i64 x.h, .int .i64 x.d] 25 (0, 0)) from (hb23.block w.heap.size (lt_of_block HX2.out)).trans HX2.out)
  have HI3 := Lib.hid hat
  have HC3 := Lib.hid hc3
  clear hown hb hb23 hat HDD HSRC HO2 HB2 HX2 hc3 HE0
  have HSL2 := Lib.hid (HSL.out w3 HB3.out A1 A3 c1 c3 HO3.out HI3.out HC1.out.1 HC3.out.1 HC1.out.2 HC3.out.2)
  obtain ⟨⟨b0, b1, b2, b3, b4⟩, _⟩ := cell5 HX3.out
  have HX3' := Lib.hid HX3.out
  clear HX3 HSL
  go_wp2_with fail
  refine HSL2.out.mono ?_
  rintro e w4 ⟨A4, c4, rfl, hcu, hle, hb⟩
  have HB4 := Lib.hid (HB3.out.trans (hb.mono HB3.out.size))
  have HX4 := Lib.hid (show w4.heap[w.heap.size]? = some (.cells #[.int .i64 x.f, .int .i64 x.t, .int .i64 x.s, .int .i64 x.h, .int .i64 x.d] 25 (0, 0)) from (hb.block w.heap.size (lt_of_block HX3'.out)).trans HX3'.out)
  have HO4 := Lib.hid (HO3.out.below hb)
  have HI4 := Lib.hid (HI3.out.below hb)
  have HS4 := Lib.hid hcu
  clear b0 b1 b2 b3 b4 HX3' hcu hle hb HSL2 HO3 HI3
  have HRS4 := Lib.hid (HRS.out w4 HB4.out)
  obtain ⟨⟨b0, b1, b2, b3, b4⟩, _⟩ := cell5 HX4.out
  clear HX4 HRS
  go_wp2_with fail
  refine HRS4.out.mono ?_
  rintro e w5 ⟨v5, rfl, hown, hb⟩
  obtain ⟨A5, c5, rfl, hcu⟩ := cuAt_own hown
  have HB5 := Lib.hid (HB4.out.trans (hb.mono HB4.out.size))
  have HO5 := Lib.hid (HO4.out.below hb)
  have HI5 := Lib.hid (HI4.out.below hb)
  have HS5 := Lib.hid (HSM.out w5 A4 A5 c4 c5 (HS4.out.below hb) hcu)
  clear b0 b1 b2 b3 b4 hcu hown hb HRS4 HO4 HI4 HS4 HSM
  go_wp2_with fail
  refine HS5.out.mono ?_
  rintro e w6 ⟨rfl, hb⟩
  have HB6 := Lib.hid (HB5.out.trans (hb.mono HB5.out.size))
  have HI6 := Lib.hid (HI5.out.below hb)
  have HU6 := Lib.hid (HRU.out w6 A1 A c1 c (HO5.out.below hb) (HA.out.below HB6.out))
  clear hb HS5 HRU HO5 HI5
  go_wp2_with fail
  refine HU6.out.mono ?_
  rintro e w7 ⟨rfl, hb⟩
  have HB7 := Lib.hid (HB6.out.trans (hb.mono HB6.out.size))
  have HN7 := Lib.hid (HIN.out w7 A3 B c3 d (HI6.out.below hb) (HBI.out.below HB7.out))
  clear hb HU6 HIN HI6
  go_wp2_with fail
  refine HN7.out.mono ?_
  rintro e w8 ⟨rfl, hb⟩
  have HB8 := Lib.hid (HB7.out.trans (hb.mono HB7.out.size))
  clear hb HN7
  go_wp2_with fail
  refine (HAW.out _ HB8.out).mono ?_
  rintro e w9 ⟨rfl, hb⟩
  have HB9 := Lib.hid (HB8.out.trans (hb.mono HB8.out.size))
  clear hb
  go_wp2_with fail
  go_ret
  exact ⟨by first | rfl | simp, HB9.out⟩
end Go.Proofs.YtlocnjenkanmpaaDoor.Pl

/-
  Proved here: what cluster.nothing returns. It leaves what was in memory. No condition.
-/
set_option linter.unusedVariables false
namespace Go.Proofs.YtlocnjenkanmpaaDoor.Ku
open Go.RowKit Go.Lib
theorem infoS : (Tryd.prog.info? 63).map (·.size) = some 6 := by kernel_rfl
set_option maxHeartbeats 1000000 in
set_option maxRecDepth 100000 in
theorem nothing_any (w : World) :
    Calls Tryd.prog 28 #[] w fun e w' => e = .returned (.agg #[.int .i64 0, .int .i64 0, .int .i64 0, .int .i64 3, .int .i64 0, .bool false]) ∧ Below w.heap.size w w' := by
  have hi := infoS
  go_enter Tryd.func28, Tryd.ntmps28
  go_wp2
  exact bodyPost_ret (results_cell_row Tryd.results28 _ _ w.heap.size 63 _ (0, 0) _ (by kernel_rfl) (heap_alloc_last w _) Tryd.underlying63 rfl hi) (by kernel_rfl) ⟨rfl, (Below.refl _ _).alloc (Nat.le_refl _) _⟩
end Go.Proofs.YtlocnjenkanmpaaDoor.Ku

/-
  Proved here: what sort.Search returns, for any closure of two captured variables that answers a test of its number, false ahead of one place and true from there on; it leaves what was in memory. Condition: at most 2^40 numbers.
-/
set_option linter.unusedVariables false
namespace Go.Proofs.YtlocnjenkanmpaaDoor.So
open Go.RowKit Go.Lib
set_option maxHeartbeats 1000000 in
set_option maxRecDepth 100000 in
theorem search_of (f : FuncId) (hf : ∀ args w, (callFunc f args).run Tryd.prog w = .ok (.enter f args) w) (F : Nat → Bool) (n : Nat) (p1 p2 : Value) (P : World → Prop) (hP : ∀ W W', P W → Below W.heap.size W W' → P W') (w : World) (h0 : P w) (hn : n ≤ 1099511627776)
    (a : Nat) (ha : a ≤ n) (hlo : ∀ k, k < a → F k = false) (hhi : ∀ k, a ≤ k → k < n → F k = true)
    (call : ∀ k W, k < n → P W → Calls Tryd.prog f #[.int .i64 k, p1, p2] W fun e W' => e = .returned (.bool (F k)) ∧ Below W.heap.size W W') :
    Calls Tryd.prog 85 #[.int .i64 n, .func (.func f) #[] #[p1, p2]] w fun e w' => e = .returned (.int .i64 a) ∧ Below w.heap.size w w' := by
  have HLO := Lib.hid hlo
  have HHI := Lib.hid hhi
  have HP := Lib.hid hP
  have H0 := Lib.hid h0
  have CL := Lib.hid call
  clear hlo hhi hP h0 call
  go_enter Tryd.func85, Tryd.ntmps85
  go_wp2
  go_loopw [5, 6] (fun s5 s6 wx => ∃ i j : Nat, i ≤ a ∧ a ≤ j ∧ j ≤ n ∧ s5 = .int .i64 i ∧ s6 = .int .i64 j ∧ Below w.heap.size w wx) (fun s5 s6 _ => (RowKit.intOf s6).toNat - (RowKit.intOf s5).toNat)
  case atStart => exact ⟨0, n, Nat.zero_le _, ha, Nat.le_refl _, rfl, rfl, Below.refl _ _⟩
  case round =>
    obtain ⟨i, j, hi, hj, hjn, rfl, rfl, hb⟩ := hrel
    have HB := Lib.hid hb
    clear hb
    by_cases hlt : i < j
    · have hh : (i + j) / 2 < n := by omega
      have CL' := Lib.hid (fun W hW => CL.out ((i + j) / 2) W hh hW)
      by_cases hc : a ≤ (i + j) / 2
      · have hd := HHI.out _ hc hh
        rw [hd] at CL'
        clear hd
        go_wp2_with fail
        refine (CL'.out _ (HP.out _ _ H0.out HB.out)).mono ?_
        rintro e w' ⟨rfl, hb2⟩
        go_wp2
        go_roundw
        case rel => exact ⟨i, (i + j) / 2, hi, hc, by omega, rfl, by go_num, HB.out.trans (hb2.mono HB.out.size)⟩
        case measure => simp [RowKit.intOf]; omega
      · have hd := HLO.out ((i + j) / 2) (by omega)
        rw [hd] at CL'
        clear hd
        go_wp2_with fail
        refine (CL'.out _ (HP.out _ _ H0.out HB.out)).mono ?_
        rintro e w' ⟨rfl, hb2⟩
        go_wp2
        go_roundw
        case rel => exact ⟨(i + j) / 2 + 1, j, by omega, hj, hjn, by go_num, rfl, HB.out.trans (hb2.mono HB.out.size)⟩
        case measure => simp [RowKit.intOf]; omega
    · obtain rfl : i = a := by omega
      obtain rfl : i = j := by omega
      go_wp2
      go_ret
      exact ⟨rfl, HB.out⟩
end Go.Proofs.YtlocnjenkanmpaaDoor.So
