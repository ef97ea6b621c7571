/-
  Several texts in one, each with its own remark: CrFns, KrWide, RnPlain, KuChain, KuText, KuSix, RnRows.
-/
import Derived.Lib.MinMax
import Derived.Lib.MapLaws
import Derived.Lib.RuneBytes
import Derived.Lib.Strings
import Derived.WalkKit
import Derived.Lib.Small
import Derived.Lib.Slices
import Derived.Lib.Walk
import Derived.Laws.Strings3
import Derived.Deep.QuietTactic
import Derived.BigQuiet
import Derived.LoopTactic
import Derived.Deep.LoopGhost
import Derived.Lib.OthersKept
import Derived.Lib.Hide
import Derived.Below
import Derived.Laws.AppendOwn
import Derived.Laws.OwnMore
import Derived.OwnWalk
import Derived.Test.YtlocnjenkanmpaaDoorM2
import Derived.Test.YtlocnjenkanmpaaDoorM0
import Derived.Test.YtlocnjenkanmpaaDoorMKrJoin
import Derived.Test.YtlocnjenkanmpaaDoorM1
import Derived.Test.YtlocnjenkanmpaaDoorRows

/-
  Proved here: what parquetryref04.Narrow, Wide, in, Of return, for every number; they leave what was in memory. Condition (in): a row of at most 1000 spans.
-/
set_option linter.unusedVariables false
namespace Go.Proofs.YtlocnjenkanmpaaDoor.Cr
open Go.RowKit Go.Lib Go.Proofs.YtlocnjenkanmpaaDoor.Co Go.Proofs.YtlocnjenkanmpaaDoor.Tab
theorem flatL_len : ∀ (l : List CSpan), (flatL l).length = 2 * l.length
  | [] => rfl
  | r :: l => by
    have := flatL_len l
    unfold flatL at this ⊢
    rw [List.flatMap_cons, List.length_append, this]
    simp
    omega
theorem flatL_at : ∀ (l : List CSpan) (k : Nat) (hk : k < l.length), (flatL l)[2 * k]? = some l[k].1 ∧ (flatL l)[2 * k + 1]? = some l[k].2
  | r :: l, 0, hk => ⟨rfl, rfl⟩
  | r :: l, k + 1, hk => by
    have := flatL_at l k (by simpa using hk)
    rw [show flatL (r :: l) = r.1 :: r.2 :: flatL l from rfl, show 2 * (k + 1) = 2 * k + 1 + 1 from by omega]
    simpa using this
theorem flat_at {w : World} {g : Nat} {rs : List CSpan} (h : LitAt w g (flatL rs)) {k : Nat} (hk : k < rs.length) : w.cell? ⟨g, 2 * k, none⟩ = some (.int .i64 rs[k].1) ∧ w.cell? ⟨g, 2 * k + 1, none⟩ = some (.int .i64 rs[k].2) := by
  have hl := flatL_len rs
  obtain ⟨h1, h2⟩ := flatL_at rs k hk
  rw [List.getElem?_eq_getElem (by omega), Option.some.injEq] at h1 h2
  have h3 := h.2 (2 * k) (by omega)
  have h4 := h.2 (2 * k + 1) (by omega)
  rw [h1] at h3
  rw [h2] at h4
  exact ⟨h3, h4⟩
theorem inS_take (rs : List CSpan) (c : Int) (k : Nat) (hk : k < rs.length) (h : inS (rs.take k) c = false) : inS (rs.take (k + 1)) c = (decide (rs[k].1 ≤ c) && decide (c ≤ rs[k].2)) := by
  unfold inS at h ⊢
  rw [List.take_succ_eq_append_getElem hk, List.any_append, h]
  simp
theorem inS_yes (rs : List CSpan) (c : Int) (k : Nat) (hk : k < rs.length) (h : (decide (rs[k].1 ≤ c) && decide (c ≤ rs[k].2)) = true) : inS rs c = true :=
  List.any_eq_true.2 ⟨_, List.getElem_mem hk, h⟩
set_option maxHeartbeats 1000000 in
set_option maxRecDepth 100000 in
theorem in_any (g : Nat) (rs : List CSpan) (c : Int) (n : Nat) (w : World) (hn : n = 2 * rs.length) (hR : LitAt w g (flatL rs)) (hl : rs.length ≤ 1000) :
    Calls Tryd.prog 75 #[.slice (some ⟨g, 0, none⟩) n n, .int .i64 c] w fun e w' => e = .returned (.bool (inS rs c)) ∧ w = w' := by
  have HR := Lib.hid hR
  have HN := Lib.hid hn
  have hn2 : n ≤ 2000 := by omega
  clear hR hn
  obtain ⟨res, hres⟩ : ∃ res, inS rs c = res := ⟨_, rfl⟩
  rw [hres]
  have HRes := Lib.hid hres
  clear hres
  go_enter Tryd.func75, Tryd.ntmps75
  go_wp2
  go_loop [5] (fun s5 => ∃ k i : Nat, k = 2 * i ∧ k ≤ n ∧ s5 = .int .i64 k ∧ inS (rs.take i) c = false) (fun s5 => n - (RowKit.intOf s5).toNat)
  case atStart => exact ⟨0, 0, rfl, Nat.zero_le _, rfl, rfl⟩
  case round =>
    obtain ⟨k, i, hki, hk, rfl, hlo⟩ := hrel
    have HLO := Lib.hid hlo
    have HKI := Lib.hid hki
    clear hlo hki
    by_cases hltk : k < n
    · have hlt : i < rs.length := by have := HN.out; have := HKI.out; omega
      have hlt1 : k + 1 < n := by have := HN.out; have := HKI.out; omega
      obtain ⟨c0, c1⟩ := flat_at HR.out hlt
      rw [← HKI.out] at c0 c1
      have HT := Lib.hid (inS_take rs c i hlt HLO.out)
      have HY := Lib.hid (inS_yes rs c i hlt)
      generalize rs[i] = r at *
      obtain ⟨a, z⟩ := r
      simp only at c0 c1 HT HY
      by_cases e1 : a ≤ c
      · have d1 : decide (a ≤ c) = true := decide_eq_true e1
        by_cases e2 : c ≤ z
        · have d2 : decide (c ≤ z) = true := decide_eq_true e2
          have HV := Lib.hid (HRes.out.symm.trans (HY.out (by simp only [d1, d2, Bool.and_self])))
          clear e1 e2
          go_wp2
          go_ret
          exact ⟨by rw [HV.out]; rfl, rfl⟩
        · have d2 : decide (c ≤ z) = false := decide_eq_false e2
          have HV := Lib.hid (show inS (rs.take (i + 1)) c = false from HT.out.trans (by rw [d2, Bool.and_false]))
          clear e1 e2
          go_wp2
          go_round
          case rel => exact ⟨k + 2, i + 1, by have := HKI.out; omega, by have := HN.out; have := HKI.out; omega, by go_num, HV.out⟩
          case measure => simp [RowKit.intOf]; omega
      · have d1 : decide (a ≤ c) = false := decide_eq_false e1
        have HV := Lib.hid (show inS (rs.take (i + 1)) c = false from HT.out.trans (by rw [d1, Bool.false_and]))
        clear e1
        go_wp2
        go_round
        case rel => exact ⟨k + 2, i + 1, by have := HKI.out; omega, by have := HN.out; have := HKI.out; omega, by go_num, HV.out⟩
        case measure => simp [RowKit.intOf]; omega
    · have HD := Lib.hid (show inS rs c = false by
        have h1 := HLO.out
        rwa [List.take_of_length_le (by have := HN.out; have := HKI.out; omega)] at h1)
      go_wp2
      go_ret
      exact ⟨by rw [← HRes.out, HD.out]; rfl, rfl⟩
set_option maxRecDepth 100000 in
theorem narrowR_any (w : World) :
    Calls Tryd.prog 76 #[] w fun e w' => e = .returned (.slice (some ⟨w.heap.size, 0, none⟩) 90 90) ∧ LitAt w' w.heap.size (flatL narrowS) ∧ Below w.heap.size w w' := by
  go_enter Tryd.func76, Tryd.ntmps76
  refine wp_seq (wp_region_lit (l := [_]) (wpList_assignTo rfl _ rfl ?_))
  show Exit.then _ _ _ _ _
  refine wp_seq ?_
  refine wp_ints 1 0 23 3 (flatL narrowS) 90 Tryd.underlying23 infoI1 infoI2 (by kernel_rfl) (by decide) (by decide) (by kernel_rfl) ?_
  refine wp_ret ?_
  go_ret
  exact ⟨rfl, litAt_made _ _ _, (Below.refl _ _).alloc (Nat.le_refl _) _⟩
set_option maxRecDepth 100000 in
theorem wideR_any (w : World) :
    Calls Tryd.prog 77 #[] w fun e w' => e = .returned (.slice (some ⟨w.heap.size, 0, none⟩) 184 184) ∧ LitAt w' w.heap.size (flatL wideS) ∧ Below w.heap.size w w' := by
  go_enter Tryd.func77, Tryd.ntmps77
  refine wp_seq (wp_region_lit (l := [_]) (wpList_assignTo rfl _ rfl ?_))
  show Exit.then _ _ _ _ _
  refine wp_seq ?_
  refine wp_ints 1 0 23 3 (flatL wideS) 184 Tryd.underlying23 infoI1 infoI2 (by kernel_rfl) (by decide) (by decide) (by kernel_rfl) ?_
  refine wp_ret ?_
  go_ret
  exact ⟨rfl, litAt_made _ _ _, (Below.refl _ _).alloc (Nat.le_refl _) _⟩
theorem n_len : 90 = 2 * narrowS.length := by kernel_rfl
theorem w_len : 184 = 2 * wideS.length := by kernel_rfl
set_option maxHeartbeats 1000000 in
set_option maxRecDepth 100000 in
theorem refOf_any (c : Int) (w : World) :
    Calls Tryd.prog 56 #[.int .i64 c] w fun e w' => e = .returned (.int .i64 (slotsT c)) ∧ Below w.heap.size w w' := by
  have HN := Lib.hid (fun g W (h : LitAt W g (flatL narrowS)) => in_any g narrowS c 90 W n_len h (by have := n_len; omega))
  have HW := Lib.hid (fun g W (h : LitAt W g (flatL wideS)) => in_any g wideS c 184 W w_len h (by have := w_len; omega))
  unfold slotsT
  generalize inS narrowS c = p at *
  generalize inS wideS c = q at *
  cases p
  · cases q
    all_goals
      go_enter Tryd.func56, Tryd.ntmps56
      go_wp2_with fail
      refine (narrowR_any _).mono ?_
      rintro e w1 ⟨rfl, hr, hb1⟩
      have HR := Lib.hid hr
      clear hr
      go_wp2_with fail
      refine (HN.out _ _ HR.out).mono ?_
      rintro e w2 ⟨rfl, rfl⟩
      go_wp2_with fail
      refine (wideR_any _).mono ?_
      rintro e w2 ⟨rfl, hr, hb2⟩
      have HQ := Lib.hid hr
      clear hr
      go_wp2_with fail
      refine (HW.out _ _ HQ.out).mono ?_
      rintro e w3 ⟨rfl, rfl⟩
      go_wp2
      go_ret
      exact ⟨rfl, hb1.trans (hb2.mono hb1.size)⟩
  · go_enter Tryd.func56, Tryd.ntmps56
    go_wp2_with fail
    refine (narrowR_any _).mono ?_
    rintro e w1 ⟨rfl, hr, hb1⟩
    have HR := Lib.hid hr
    clear hr
    go_wp2_with fail
    refine (HN.out _ _ HR.out).mono ?_
    rintro e w2 ⟨rfl, rfl⟩
    go_wp2
    go_ret
    exact ⟨rfl, hb1⟩
end Go.Proofs.YtlocnjenkanmpaaDoor.Cr

/-
  Proved here: what parquetryref06.Wide returns, for every row of numbers, of one at least, of at most 1000000; it leaves what was in memory.
-/
set_option linter.unusedVariables false
namespace Go.Proofs.YtlocnjenkanmpaaDoor.Ku
open Go.RowKit Go.Lib Go.Proofs.YtlocnjenkanmpaaDoor.Arr Go.Proofs.YtlocnjenkanmpaaDoor.Gc Go.Proofs.YtlocnjenkanmpaaDoor.Co
open Go.Proofs.YtlocnjenkanmpaaDoor.Cl (IntsAt)
theorem wl_append : ∀ (l m : List Int) (p n : Int), wl p n (l ++ m) = wl (l.getLastD p) (wl p n l) m
  | [], m, p, n => rfl
  | c :: l, m, p, n => by
    show wl c _ (l ++ m) = _
    rw [wl_append l m]
    show _ = wl ((c :: l).getLastD p) (wl c _ l) m
    congr 1
    cases l <;> rfl
theorem lastD_take (zs : List Int) (i : Nat) (hi : i < zs.length) : (zs.take (i + 1)).getLastD 0 = zs[i] := by
  rw [List.take_succ_eq_append_getElem hi]
  generalize zs.take i = t
  generalize zs[i] = c
  simp
theorem wl_next (zs : List Int) (i : Nat) (hi : i < zs.length) : wl 0 0 (zs.take (i + 1)) = max (wl 0 0 (zs.take i)) (wideC ((zs.take i).getLastD 0) zs[i]) := by
  rw [List.take_succ_eq_append_getElem hi, wl_snoc]
theorem wl_done (zs : List Int) (i : Nat) (h : wl 0 0 (zs.take i) = 2) : wl 0 0 zs = 2 := by
  have := wl_append (zs.take i) (zs.drop i) 0 0
  rw [List.take_append_drop, h, wl_two] at this
  exact this
theorem wideC_plain {p c : Int} (h : ¬ (c = 65039 ∧ pictT p = true)) : wideC p c = slotsT c := by
  unfold wideC
  rw [if_neg h]
theorem wideC_two {p c : Int} (h : c = 65039 ∧ pictT p = true) : wideC p c = 2 := by
  unfold wideC
  rw [if_pos h]
set_option maxHeartbeats 4000000 in
set_option maxRecDepth 100000 in
theorem rwide_any (A : Option Addr) (zs : List Int) (n : Nat) (w : World) (hR : IntsAt w A zs) (hn : zs.length ≤ 1000000) (h1 : 0 < zs.length) :
    Calls Tryd.prog 38 #[.slice A zs.length n] w fun e w' => e = .returned (.int .i64 (wideR zs)) ∧ Below w.heap.size w w' := by
  obtain ⟨res, hres⟩ : ∃ res : Int, wideR zs = res := ⟨_, rfl⟩
  rw [hres]
  obtain ⟨g, off, rfl, hc0⟩ := hR.at_ h1
  rw [Nat.add_zero] at hc0
  have hhd : zs.headD 0 = zs[0] := by cases zs <;> first | rfl | (simp at h1)
  unfold wideR at hres
  rw [hhd] at hres
  have HRes := Lib.hid hres
  have HR := Lib.hid hR
  have HK0 := Lib.hid (fun W => refKind_any zs[0] W)
  have HAL := Lib.hid (fun W => alone_any (kindT zs[0]) W)
  have hgl : g < w.heap.size := World.block_lt_of_cell? w _ hc0
  clear hR hres hhd
  generalize zs[0] = z0 at *
  generalize kindT z0 = k0 at *
  go_enter Tryd.func38, Tryd.ntmps38
  cases ha : alone k0 with
  | true =>
    rw [ha] at HAL
    have HV := Lib.hid (show res = 0 by rw [← HRes.out, if_pos ha])
    clear HRes
    go_wp2_with fail
    refine (HK0.out _).mono ?_
    rintro e w1 ⟨rfl, hb1⟩
    go_wp2_with fail
    refine (HAL.out _).mono ?_
    rintro e w2 ⟨rfl, rfl⟩
    go_wp2
    go_ret
    exact ⟨by rw [HV.out]; rfl, hb1⟩
  | false =>
    rw [ha] at HAL
    have HV := Lib.hid (show wl 0 0 zs = res by rw [← HRes.out, if_neg (by rw [ha]; decide)])
    clear HRes
    go_wp2_with fail
    refine (HK0.out _).mono ?_
    rintro e w1 ⟨rfl, hb1⟩
    go_wp2_with fail
    refine (HAL.out _).mono ?_
    rintro e w2 ⟨rfl, rfl⟩
    go_wp2_with fail
    go_loopw [3, 4] (fun s3 s4 wx => ∃ (i : Nat) (v : Int), i ≤ zs.length ∧ s4 = .int .i64 i ∧ s3 = .int .i64 v ∧ v = wl 0 0 (zs.take i) ∧ Below w.heap.size w wx) (fun _ s4 _ => zs.length - (RowKit.intOf s4).toNat)
    case atStart => exact ⟨0, 0, Nat.zero_le _, rfl, rfl, rfl, hb1⟩
    case round =>
      obtain ⟨i, v, hi, rfl, rfl, hv, hbw⟩ := hrel
      by_cases hlt : i < zs.length
      · obtain ⟨b', off', hA', hct⟩ := (HR.out.below hbw).at_ hlt
        injection hA' with hA'
        injection hA' with e1 e2
        subst e1 e2
        have hnx := wl_next zs i hlt
        rw [← hv] at hnx
        have hvb := wl_bounds (zs.take i) 0 0 (by omega) (by omega)
        rw [← hv] at hvb
        have hgb : g < wr.heap.size := World.block_lt_of_cell? wr _ hct
        have HS := Lib.hid (fun W => Cr.refOf_any zs[i] W)
        have hsb := slotsT_bounds zs[i]
        have HBW := Lib.hid hbw
        have hi0 : (0 : Int) ≤ (i : Int) := by omega
        have hi1 : (i : Int) < zs.length := by omega
        clear hbw hv
        cases i with
        | zero =>
          rw [Nat.add_zero] at hct
          have hw : wideC (([] : List Int).getLastD 0) zs[0] = slotsT zs[0] := wideC_plain (by rw [show ([] : List Int).getLastD 0 = 0 from rfl, pict_0]; rintro ⟨_, h⟩; cases h)
          rw [List.take_zero, hw] at hnx
          have HN := Lib.hid hnx
          clear hnx hw
          generalize zs[0] = c at *
          generalize slotsT c = sc at *
          go_wp2_with fail
          refine (HS.out _).mono ?_
          rintro e w5 ⟨rfl, hb5⟩
          go_wp2
          go_roundw
          case rel => exact ⟨1, max v sc, by omega, by rfl, by rfl, HN.out.symm, HBW.out.trans (hb5.mono HBW.out.size)⟩
          case measure => simp [RowKit.intOf]; omega
        | succ i =>
          have hil : i < zs.length := by omega
          rw [lastD_take zs i hil] at hnx
          obtain ⟨b', off', hA', hcp⟩ := (HR.out.below HBW.out).at_ hil
          injection hA' with hA'
          injection hA' with e1 e2
          subst e1 e2
          have HP := Lib.hid (fun W => Gr.refPict_any zs[i] W)
          have HN := Lib.hid hnx
          have HDONE := Lib.hid (fun h => HV.out.symm.trans (wl_done zs (i + 1 + 1) h))
          have hx1 : IntKind.i64.wrap ((i : Int) + 1 - 1) = i := by rw [IntWalk.i64_in _ (by omega)]; omega
          have hx2 : IntKind.i64.wrap (i : Int) = i := IntWalk.i64_in _ (by omega)
          have hx3 : (i : Int) < zs.length := by omega
          have hx4 : decide ((0 : Int) < (i : Int) + 1) = true := decide_eq_true (by omega)
          clear hnx
          generalize zs[i] = p at *
          generalize zs[i + 1] = c at *
          have HPL := Lib.hid (wideC_plain (p := p) (c := c))
          have HTW := Lib.hid (wideC_two (p := p) (c := c))
          generalize slotsT c = sc at *
          generalize pictT p = q at *
          cases hc : (c == 65039) with
          | true =>
            cases q with
            | true =>
              have hnx2 := HTW.out ⟨by simpa using hc, rfl⟩
              have HV2 := Lib.hid (HDONE.out (by rw [HN.out, hnx2]; omega))
              clear hnx2 HTW HPL HN HDONE HV
              go_wp2_with fail
              refine (HS.out _).mono ?_
              rintro e w5 ⟨rfl, hb5⟩
              have hct2 := (hb5.cell (p := ⟨g, off + (i + 1), none⟩) hgb).trans hct
              have hcp2 := (hb5.cell (p := ⟨g, off + i, none⟩) hgb).trans hcp
              have HB5 := Lib.hid (HBW.out.trans (hb5.mono HBW.out.size))
              clear hb5 hct hcp HBW
              go_wp2_with fail
              refine (HP.out _).mono ?_
              rintro e w6 ⟨rfl, hb6⟩
              go_wp2
              go_ret
              exact ⟨by rw [HV2.out]; rfl, HB5.out.trans (hb6.mono HB5.out.size)⟩
            | false =>
              have hnx2 := HPL.out (by rintro ⟨_, h⟩; cases h)
              have HN2 := Lib.hid (show max v sc = wl 0 0 (zs.take (i + 1 + 1)) by rw [HN.out, hnx2])
              clear hnx2 HTW HPL HN HDONE
              go_wp2_with fail
              refine (HS.out _).mono ?_
              rintro e w5 ⟨rfl, hb5⟩
              have hct2 := (hb5.cell (p := ⟨g, off + (i + 1), none⟩) hgb).trans hct
              have hcp2 := (hb5.cell (p := ⟨g, off + i, none⟩) hgb).trans hcp
              have HB5 := Lib.hid (HBW.out.trans (hb5.mono HBW.out.size))
              clear hb5 hct hcp HBW
              go_wp2_with fail
              refine (HP.out _).mono ?_
              rintro e w6 ⟨rfl, hb6⟩
              go_wp2
              go_roundw
              case rel => exact ⟨i + 1 + 1, max v sc, by omega, by go_num, by rfl, HN2.out, HB5.out.trans (hb6.mono HB5.out.size)⟩
              case measure => simp [RowKit.intOf]; omega
          | false =>
            have hnx2 := HPL.out (by rintro ⟨h, _⟩; rw [h] at hc; cases hc)
            have HN2 := Lib.hid (show max v sc = wl 0 0 (zs.take (i + 1 + 1)) by rw [HN.out, hnx2])
            clear hnx2 HTW HPL HN HDONE
            go_wp2_with fail
            refine (HS.out _).mono ?_
            rintro e w5 ⟨rfl, hb5⟩
            have hct2 := (hb5.cell (p := ⟨g, off + (i + 1), none⟩) hgb).trans hct
            have HB5 := Lib.hid (HBW.out.trans (hb5.mono HBW.out.size))
            clear hb5 hct hcp HBW
            go_wp2
            go_roundw
            case rel => exact ⟨i + 1 + 1, max v sc, by omega, by go_num, by rfl, HN2.out, HB5.out⟩
            case measure => simp [RowKit.intOf]; omega
      · obtain rfl : i = zs.length := by omega
        rw [List.take_length] at hv
        have hv2 : v = res := hv.trans HV.out
        subst hv2
        go_wp2
        go_ret
        exact ⟨rfl, hbw⟩
end Go.Proofs.YtlocnjenkanmpaaDoor.Ku

/-
  Plain mathematics, no program in it: a text as its runes (place, size, code), by the model's own decoder; how it steps.
-/
set_option linter.unusedVariables false
namespace Go.Proofs.YtlocnjenkanmpaaDoor.Rn
open Go.Lib
/-- Runes that follow one another without a gap, from a to b, each of one to four bytes. -/
def Chain : List (Nat × Nat × Nat) → Nat → Nat → Prop
  | [], a, b => a = b
  | r :: rs, a, b => r.1 = a ∧ 1 ≤ r.2.1 ∧ r.2.1 ≤ 4 ∧ r.2.2 ≤ 1114111 ∧ Chain rs (a + r.2.1) b
/-- The document's test: is a number a code point? -/
def isPoint (c : Int) : Bool := decide ((0 ≤ c ∧ c < 0xD800) ∨ (0xDFFF < c ∧ c ≤ 0x10FFFF))
def okFirst (l : List UInt8) (c n : Nat) : Prop := n ≤ l.length ∧ isPoint (c : Int) = true ∧ Lib.encodeRune (c : Int) = l.take n
end Go.Proofs.YtlocnjenkanmpaaDoor.Rn

/-
  Plain facts on clusters: runes that follow one another without a gap have clusters that do; which cluster has a byte; no program here.
-/
set_option linter.unusedVariables false
namespace Go.Proofs.YtlocnjenkanmpaaDoor.Ku
open Go.Proofs.YtlocnjenkanmpaaDoor.Co Go.Proofs.YtlocnjenkanmpaaDoor.Gc
/-- Clusters that follow one another without a gap, from a byte and a place to a byte. -/
def Chn : Nat → Nat → List C6 → Nat → Prop
  | p, q, [], e => p = e
  | p, q, x :: l, e => ∃ m k : Nat, 1 ≤ m ∧ 1 ≤ k ∧ x.a = p ∧ x.z = m ∧ x.f = q ∧ x.t = (q + k : Nat) ∧ Chn (p + m) (q + k) l e
end Go.Proofs.YtlocnjenkanmpaaDoor.Ku

/-
  The clusters of a text, plainly. No program in it.
-/
set_option linter.unusedVariables false
namespace Go.Proofs.YtlocnjenkanmpaaDoor.Ku
open Go.RowKit Go.Lib
theorem cut_len (zs : List Int) (a m : Nat) (ha : a + m ≤ zs.length) : ((zs.drop a).take m).length = m := by simp; omega
end Go.Proofs.YtlocnjenkanmpaaDoor.Ku

/-
  A variable of six cells: as it is read, as it is written. No program in it.
-/
set_option linter.unusedVariables false
namespace Go.Proofs.YtlocnjenkanmpaaDoor.Ku
open Go.RowKit Go.Lib Go.Proofs.YtlocnjenkanmpaaDoor.Arr
theorem six {w : World} {g : Nat} {v0 v1 v2 v3 v4 v5 : Value} {t : TypeId} (h : w.heap[g]? = some (.cells #[v0, v1, v2, v3, v4, v5] t)) : (w.cell? ⟨g, 0, none⟩ = some v0 ∧ w.cell? ⟨g, 1, none⟩ = some v1 ∧ w.cell? ⟨g, 2, none⟩ = some v2 ∧ w.cell? ⟨g, 3, none⟩ = some v3 ∧ w.cell? ⟨g, 4, none⟩ = some v4 ∧ w.cell? ⟨g, 5, none⟩ = some v5) ∧ w.frozen? ⟨g, 0, none⟩ = false ∧ w.frozen? ⟨g, 1, none⟩ = false ∧ w.frozen? ⟨g, 2, none⟩ = false ∧ w.frozen? ⟨g, 3, none⟩ = false ∧ w.frozen? ⟨g, 4, none⟩ = false ∧ w.frozen? ⟨g, 5, none⟩ = false :=
  ⟨⟨cell_of_row w g 0 _ _ _ h, cell_of_row w g 1 _ _ _ h, cell_of_row w g 2 _ _ _ h, cell_of_row w g 3 _ _ _ h, cell_of_row w g 4 _ _ _ h, cell_of_row w g 5 _ _ _ h⟩, frozen_of_row w g 0 _ _ h, frozen_of_row w g 1 _ _ h, frozen_of_row w g 2 _ _ h, frozen_of_row w g 3 _ _ h, frozen_of_row w g 4 _ _ h, frozen_of_row w g 5 _ _ h⟩
theorem six_set {w : World} {g : Nat} {x0 x1 x2 x3 x4 x5 : Value} {t : TypeId} (v0 v1 v2 v3 v4 v5 : Value) (h : w.heap[g]? = some (.cells #[x0, x1, x2, x3, x4, x5] t)) :
    ((((((w.setCell ⟨g, 0, none⟩ v0).setCell ⟨g, 1, none⟩ v1).setCell ⟨g, 2, none⟩ v2).setCell ⟨g, 3, none⟩ v3).setCell ⟨g, 4, none⟩ v4).setCell ⟨g, 5, none⟩ v5).heap[g]? = some (.cells #[v0, v1, v2, v3, v4, v5] t) :=
  heap_setCell_same _ _ 5 _ _ _ (heap_setCell_same _ _ 4 _ _ _ (heap_setCell_same _ _ 3 _ _ _ (heap_setCell_same _ _ 2 _ _ _ (heap_setCell_same _ _ 1 _ _ _ (heap_setCell_same _ _ 0 _ _ _ h)))))
theorem six_below {w W : World} {B g : Nat} (v0 v1 v2 v3 v4 v5 : Value) (h : Below B w W) (hg : B ≤ g) :
    Below B w ((((((W.setCell ⟨g, 0, none⟩ v0).setCell ⟨g, 1, none⟩ v1).setCell ⟨g, 2, none⟩ v2).setCell ⟨g, 3, none⟩ v3).setCell ⟨g, 4, none⟩ v4).setCell ⟨g, 5, none⟩ v5) :=
  (((((h.setCell hg _).setCell hg _).setCell hg _).setCell hg _).setCell hg _).setCell hg _
end Go.Proofs.YtlocnjenkanmpaaDoor.Ku

/-
  Rows of runes in memory: their cells, as they are read. No program in it but its types.
-/
set_option linter.unusedVariables false
namespace Go.Proofs.YtlocnjenkanmpaaDoor.Rn
open Go.RowKit Go.Lib
/-- A row of runes in memory: a slice's address and what its cells hold. -/
def RunesAt (w : World) (A : Option Addr) (l : List (Nat × Nat × Nat)) : Prop :=
  ∀ k (hk : k < l.length), ∃ g, A = some ⟨g, 0, none⟩ ∧ g < w.heap.size ∧ w.cell? ⟨g, k * 3, none⟩ = some (.int .i64 l[k].1) ∧ w.cell? ⟨g, k * 3 + 1, none⟩ = some (.int .i64 l[k].2.1) ∧ w.cell? ⟨g, k * 3 + 2, none⟩ = some (.int .i64 l[k].2.2)
theorem RunesAt.below {w w' : World} {A : Option Addr} {l : List (Nat × Nat × Nat)} (h : RunesAt w A l) (hb : Below w.heap.size w w') : RunesAt w' A l := by
  intro k hk
  obtain ⟨g, rfl, hg, h0, h1, h2⟩ := h k hk
  exact ⟨g, rfl, Nat.lt_of_lt_of_le hg hb.size, (hb.cell (p := ⟨g, k * 3, none⟩) hg).trans h0, (hb.cell (p := ⟨g, k * 3 + 1, none⟩) hg).trans h1, (hb.cell (p := ⟨g, k * 3 + 2, none⟩) hg).trans h2⟩
end Go.Proofs.YtlocnjenkanmpaaDoor.Rn
