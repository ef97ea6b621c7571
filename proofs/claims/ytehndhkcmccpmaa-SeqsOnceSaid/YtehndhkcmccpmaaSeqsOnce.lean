/-
  Proved here: for every row of numbers and every number SeqsOnce returns true (each place that has a level stands in one sequence, of that level, in rising order; no other place stands in one; sequences stand by their first places; directions are L or R, where the row is of at most 500), and the row stays. No condition.
-/
import Derived.Test.YtehndhkcmccpmaaSqLawKit
import Derived.Test.YtehndhkcmccpmaaLvReads
import Derived.Test.YtehndhkcmccpmaaLawKit
import Derived.Test.YtehndhkcmccpmaaLawInts
import Derived.Stop.Joined
set_option linter.unusedVariables false
namespace Go.Proofs.Ytehndhkcmccpmaa.SeqsOnce
open Go.ChangeShapes Go.WideShapes Go.ChangeAt Go.RowKit Go.Lib Go.Proofs.Ytehndhkcmccpmaa.Lv Go.Proofs.Ytehndhkcmccpmaa.Cl Go.Proofs.Ytehndhkcmccpmaa.Sq Go.Proofs.Ytehndhkcmccpmaa.Ba

theorem way_two (x y : Int) : way x y = 0 ∨ way x y = 1 := by
  unfold way
  by_cases h : (max x y).tmod 2 = 0
  · rw [if_pos h]; exact .inl rfl
  · rw [if_neg h]; exact .inr rfl
theorem heads_rise {c z : List Int} {lv : Int} {T : List S4} (h : SeqsOk c z lv T) {i : Nat} {s s' : S4} (h1 : T[i]? = some s) (h2 : T[i + 1]? = some s') : hd s.p < hd s'.p := by
  have hp : (T.map (fun s => hd s.p)).Pairwise (· < ·) := by
    rw [h.heads]
    exact List.Pairwise.filter _ List.pairwise_lt_range
  obtain ⟨l1, e1⟩ := List.getElem?_eq_some_iff.1 h1
  obtain ⟨l2, e2⟩ := List.getElem?_eq_some_iff.1 h2
  have := List.pairwise_iff_getElem.1 hp i (i + 1) (by simpa using l1) (by simpa using l2) (by omega)
  simp only [List.getElem_map, e1, e2] at this
  exact this

set_option maxHeartbeats 8000000 in
set_option maxRecDepth 1000000 in
theorem walk (w : World) (A : Option Addr) (zs : List Int) (c : Nat) (hr : IntsAt w A zs) (hnil : A = none → zs = [] ∧ c = 0) (hlz : zs.length ≤ 9223372036854775807) (hcap : zs.length ≤ c) (x : Int) :
    Calls Try.prog 7 #[.slice A zs.length c, .int .i64 x] w fun e w' => e = .returned (.bool true) ∧ Below w.heap.size w w' := by
  by_cases hbig : 500 < zs.length
  · go_enter Try.func7, Try.ntmps7
    go_wp2_with (go_at_call 15; refine (awake_any _).mono ?_; rintro e w' ⟨rfl, hb⟩)
    go_ret
    exact ⟨rfl, hb⟩
  · obtain ⟨b, hb, hbx⟩ := low_bit x
    obtain ⟨n, hn⟩ : ∃ n, zs.length = n := ⟨_, rfl⟩
    rw [hn] at hbig hcap ⊢
    have HN := Lib.hid hn
    have HR := Lib.hid hr
    have HSQ := Lib.hid (seqs_reads A zs (b : Int) n c w hn hr (by omega) hcap)
    rw [zOf_B zs hb] at HSQ
    have HEX := Lib.hid (fun V (h : Below w.heap.size w V) => explicit_reads A zs b n c V hb hn (hr.below h) (by omega) hcap)
    have hzl : (zB zs b).length = n := by rw [zB_len, hn]
    have HZL := Lib.hid hzl
    clear hr hnil hn hlz hzl hb
    go_enter Try.func7, Try.ntmps7
    go_wp2_with fail
    refine HSQ.out.mono ?_
    rintro e w2 ⟨A1, c1, T, rfl, hT, hall, hb2⟩
    have HALL := Lib.hid hall
    have HB2 := Lib.hid hb2
    have HT2 := Lib.hid hT
    have htl : T.length ≤ n := by have := hall.len; rw [HZL.out] at this; exact this
    obtain ⟨tl, htl2⟩ : ∃ tl, T.length = tl := ⟨_, rfl⟩
    rw [htl2] at htl ⊢
    have HTL := Lib.hid htl2
    clear hT hall hb2 htl2 HSQ
    go_wp2_with fail
    refine (HEX.out _ HB2.out).mono ?_
    rintro e w3 ⟨g1, g2, rfl, -, -, -, -, -, i1, -, hb3⟩
    have HZ3 := Lib.hid (show IntsAt w3 (some ⟨g1, 0, none⟩) (zB zs b) from i1)
    have HT3 := Lib.hid (HT2.out.below hb3)
    have HB3 := Lib.hid (HB2.out.trans (hb3.mono HB2.out.size))
    have HWH := Lib.hid (where_any A1 T tl c1 n w3 HTL.out HT3.out (by omega) (by omega) HALL.out.uniq HALL.out.up (fun s hs p hp => by have := HALL.out.lt s hs p hp; rw [HZL.out] at this; exact this) (fun s hs => by have := HALL.out.sl s hs; rw [HZL.out] at this; exact this))
    clear i1 hb3 HT2 HEX
    go_wp2_with fail
    refine HWH.out.mono ?_
    rintro e w4 ⟨v, f, rfl, hown, hwp, hb4⟩
    obtain ⟨Aw, cw, rfl, hiw⟩ := intsAt_icl hown (wl_len n f)
    have HWP := Lib.hid hwp
    have HIW := Lib.hid hiw
    have HZ4 := Lib.hid (HZ3.out.below hb4)
    have HT4 := Lib.hid (HT3.out.below hb4)
    have HB4 := Lib.hid (HB3.out.trans (hb4.mono HB3.out.size))
    clear hown hwp hb4 hiw HZ3 HT3 HWH
    go_wp2_with fail
    go_loopw [9] (fun s9 V => ∃ i : Nat, s9 = .int .i64 i ∧ i ≤ n ∧ Below w4.heap.size w4 V) (fun s9 _ => n - (RowKit.intOf s9).toNat)
    case atStart => exact ⟨0, rfl, Nat.zero_le _, Below.refl _ _⟩
    case round =>
      obtain ⟨i, rfl, hi, hbi⟩ := hrel
      have HBI := Lib.hid hbi
      clear hbi
      by_cases hlt : i < n
      · have hii : (0 : Int) ≤ (i : Int) := by omega
        have hii2 : (i : Int) < (n : Int) := by omega
        have hiz : i < (zB zs b).length := by rw [HZL.out]; exact hlt
        have hLi : L (zB zs b) i = (zB zs b)[i] := L_at hiz
        have hz := List.getElem?_eq_getElem hiz
        have hok := zB_ok zs b i
        generalize (zB zs b)[i] = y at *
        obtain ⟨bl, ol, ebl, hcl⟩ := at_val (HZ4.out.below HBI.out) hz
        obtain ⟨rfl, rfl⟩ : g1 = bl ∧ 0 = ol := by injection ebl with e; injection e with e1 e2; exact ⟨e1, e2⟩
        rw [Nat.zero_add] at hcl
        have hw := wl_at (n := n) (f := f) (p := i) hlt
        by_cases hk : y = -1
        · have hf : f i = -1 := HWP.out.not (fun j s hs hp => by
            have := (HALL.out.lev s (List.mem_of_getElem? hs) i hp).1
            rw [hLi] at this
            exact this hk)
          rw [hf] at hw
          obtain ⟨bw, ow, rfl, hcw⟩ := at_val (HIW.out.below HBI.out) hw
          subst hk
          clear hLi hz hok ebl hw hf
          go_wp2_with fail
          go_quiet (fail)
          have HQ := Lib.hid (Arr.below_drewN HBI.out nq)
          go_wp2_with fail
          go_roundw
          case rel => exact ⟨i + 1, by simp, by omega, HQ.out⟩
          case measure => simp [RowKit.intOf]; omega
        · have hk2 : L (zB zs b) i ≠ -1 := by rw [hLi]; exact hk
          obtain ⟨idx, s, hs1, hs2⟩ := HALL.out.cover i hk2
          have hf := HWP.out.at_ HTL.out hs1 hs2
          have hlev := (HALL.out.lev s (List.mem_of_getElem? hs1) i hs2).2
          rw [hLi] at hlev
          have hix : idx < T.length := (List.getElem?_eq_some_iff.1 hs1).1
          have hix2 : idx < tl := by rw [← HTL.out]; exact hix
          rw [hf] at hw
          obtain ⟨bw, ow, rfl, hcw⟩ := at_val (HIW.out.below HBI.out) hw
          obtain ⟨bt, ot, A', c', rfl, q0, -, -, -, -⟩ := (HT4.out.below HBI.out).at_ hix
          rw [(List.getElem?_eq_some_iff.1 hs1).2, ← hlev] at q0
          have k1 : decide ((0 : Int) ≤ y) = true := decide_eq_true (by rw [hLi] at hok; omega)
          have k2 : decide ((0 : Int) ≤ (idx : Int)) = true := by simp
          have k3 : (0 : Int) ≤ (idx : Int) := by omega
          have k4 : (idx : Int) < (tl : Int) := by omega
          clear hLi hz hok ebl hw hf hk hk2 hs1 hs2 hlev
          go_wp2_with fail
          go_quiet (fail)
          have HQ := Lib.hid (Arr.below_drewN HBI.out nq)
          go_wp2_with fail
          go_roundw
          case rel => exact ⟨i + 1, by simp, by omega, HQ.out⟩
          case measure => simp [RowKit.intOf]; omega
      · obtain rfl : i = n := by omega
        go_wp2_with fail
        go_loopw [10] (fun s10 V => ∃ k : Nat, s10 = .int .i64 k ∧ k ≤ tl ∧ Below w4.heap.size w4 V) (fun s10 _ => tl - (RowKit.intOf s10).toNat)
        case atStart => exact ⟨0, rfl, Nat.zero_le _, HBI.out⟩
        case round =>
          obtain ⟨k, rfl, hk, hbk⟩ := hrel
          have HBK := Lib.hid hbk
          have hszk := hbk.size
          clear hbk
          by_cases hlt2 : k < tl
          · have hkT : k < T.length := by rw [HTL.out]; exact hlt2
            have hki : (0 : Int) ≤ (k : Int) := by omega
            have hki2 : (k : Int) < (tl : Int) := by omega
            have hsk : T[k]? = some T[k] := List.getElem?_eq_getElem hkT
            have hone := HALL.out.ok.each T[k] (List.getElem_mem hkT)
            obtain ⟨bt, ot, A', c', rfl, q0, q1, q2, q3, qi⟩ := (HT4.out.below HBK.out).at_ hkT
            have hhd := ns_hd hone.ne
            have hwb : ∃ β, T[k].b = β ∧ (β = 0 ∨ β = 1) := ⟨_, rfl, by rw [hone.eb]; exact way_two _ _⟩
            have hwc : ∃ γ, T[k].c = γ ∧ (γ = 0 ∨ γ = 1) := ⟨_, rfl, by rw [hone.ec]; exact way_two _ _⟩
            obtain ⟨β, hβ, hβ2⟩ := hwb
            obtain ⟨γ, hγ, hγ2⟩ := hwc
            rw [hβ] at q1
            rw [hγ] at q2
            have hpl : ∃ pl, T[k].p.length = pl ∧ 0 < pl := ⟨_, rfl, List.length_pos_iff.2 hone.ne⟩
            obtain ⟨pl, hpl, hpl0⟩ := hpl
            rw [hpl] at q3
            obtain ⟨bp, op, rfl, hcp⟩ := at_val qi hhd
            rw [Nat.add_zero] at hcp
            generalize T[k].a = α at *
            have hpl1 : ((pl : Int) == 0) = false := by simp; omega
            have hpl2 : (0 : Int) < (pl : Int) := by omega
            have HHK := Lib.hid hsk
            obtain ⟨hk0, hhk0⟩ : ∃ h0, hd T[k].p = h0 := ⟨_, rfl⟩
            rw [hhk0] at hcp
            -- the box of the sequence at hand
            obtain ⟨W1, hW1⟩ : ∃ W1, wr.alloc (.cells #[.int .i64 α, .int .i64 β, .int .i64 γ, .slice (some ⟨bp, op, none⟩) pl c'] 35) = W1 := ⟨_, rfl⟩
            have hb1 : Below wr.heap.size wr W1 := by rw [← hW1]; exact (Below.refl _ _).alloc (Nat.le_refl _) _
            have hbx : W1.heap[wr.heap.size]? = some (.cells #[.int .i64 α, .int .i64 β, .int .i64 γ, .slice (some ⟨bp, op, none⟩) pl c'] 35 (0, 0)) := by rw [← hW1]; exact heap_alloc_last _ _
            obtain ⟨x0, x1, x2, x3⟩ := box4 hbx
            have hcp1 : W1.cell? ⟨bp, op, none⟩ = some (.int .i64 (hk0 : Int)) := (hb1.cell (p := ⟨bp, op, none⟩) (World.block_lt_of_cell? wr _ hcp)).trans hcp
            have HBW1 := Lib.hid (HBK.out.trans (hb1.mono hszk))
            cases k with
            | zero =>
              rw [Nat.zero_mul, Nat.add_zero] at q0 q1 q2 q3
              clear hone hhd hβ hγ hpl qi hsk hhk0 hbx HHK hszk
              rcases hβ2 with rfl | rfl <;> rcases hγ2 with rfl | rfl
              all_goals
                go_wp2_with fail
                go_quiet (fail)
                have HQ := Lib.hid (Arr.below_drewN HBW1.out nq)
                go_wp2_with fail
                go_roundw
                case rel => exact ⟨1, by simp, by omega, HQ.out⟩
                case measure => simp [RowKit.intOf]; omega
            | succ k =>
              have hkT2 : k < T.length := by omega
              have hsk2 : T[k]? = some T[k] := List.getElem?_eq_getElem hkT2
              have hrise := heads_rise HALL.out.ok hsk2 HHK.out
              have hone2 := HALL.out.ok.each T[k] (List.getElem_mem hkT2)
              obtain ⟨bt2, ot2, A2', c2', eA, -, -, -, r3, ri⟩ := ((HT4.out.below HBK.out).below hb1).at_ hkT2
              obtain ⟨rfl, rfl⟩ : bt = bt2 ∧ ot = ot2 := by injection eA with e; injection e with e1 e2; exact ⟨e1, e2⟩
              obtain ⟨pl2', hpl2', hpl20⟩ : ∃ pl, T[k].p.length = pl ∧ 0 < pl := ⟨_, rfl, List.length_pos_iff.2 hone2.ne⟩
              rw [hpl2'] at r3
              obtain ⟨bp2, op2, rfl, hcp2⟩ := at_val ri (ns_hd hone2.ne)
              rw [Nat.add_zero] at hcp2
              rw [hhk0] at hrise
              obtain ⟨h20, hh20⟩ : ∃ h0, hd T[k].p = h0 := ⟨_, rfl⟩
              rw [hh20] at hcp2 hrise
              have k5 : decide ((hk0 : Int) ≤ (h20 : Int)) = false := by simp; omega
              have k5n : decide (hk0 ≤ h20) = false := by simp; omega
              have k6 : decide ((0 : Int) < (k : Int) + 1) = true := by (simp; try omega)
              have hw1 : IntKind.i64.wrap ((k : Int) + 1 - 1) = (k : Int) := by rw [IntKind.wrap_i64]; omega
              have hw2 : IntKind.i64.wrap (k : Int) = (k : Int) := by rw [IntKind.wrap_i64]; omega
              have hkj : (0 : Int) ≤ (k : Int) := by omega
              have hkj2 : (k : Int) < (tl : Int) := by omega
              have hpl22 : (0 : Int) < (pl2' : Int) := by omega
              clear hone hhd hβ hγ hpl qi hsk hhk0 hbx HHK hszk hone2 hsk2 hrise eA hpl2' ri hh20
              rcases hβ2 with rfl | rfl <;> rcases hγ2 with rfl | rfl
              all_goals
                go_wp2_with fail
                go_quiet (fail)
                have HQ := Lib.hid (Arr.below_drewN HBW1.out nq)
                go_wp2_with fail
                go_roundw
                case rel => exact ⟨k + 1 + 1, by simp, by omega, HQ.out⟩
                case measure => simp [RowKit.intOf]; omega
          · obtain rfl : k = tl := by omega
            have HBV := Lib.hid (HB4.out.trans (HBK.out.mono HB4.out.size))
            go_wp2_with fail
            refine (awake_any _).mono ?_
            rintro e w5 ⟨rfl, hb5⟩
            have HE := Lib.hid (HBV.out.trans (hb5.mono HBV.out.size))
            clear hb5
            go_wp2_with fail
            go_ret
            exact ⟨rfl, HE.out⟩

set_option maxRecDepth 100000 in
theorem lifted (os : Os) (started : os.Started) (H : Type) (enc : TypeId × Value → H) :
    ReturnsInHanded {} Try.checked os 7 .any (Rows.seqsOnceSpec.pre6 enc Try.prog Try.f7 Rows.seqsOnceRow.domain false) (Rows.seqsOnceSpec.post enc Try.prog Try.f7 false true false false) := by
  refine returnsInHanded_of_change (C := Try.checked) law_own started (by kernel_rfl) Try.func7
    (ChangeSpec.witness6 (enc := enc) (C := Try.checked) false ⟨#[], #[.slice none 0 0, .int .i64 0], []⟩ 8 (by kernel_rfl) (by kernel_rfl) (by kernel_rfl) (by kernel_rfl)) ?_
  intro W base args ds gs before hval0 hW _ _
  have hval : ∀ (j : Nat) t v, Try.f7.params[j]? = some t → args[j]? = some v → Value.okWide Try.prog W .any base t v := hval0
  have hW' := hW
  obtain ⟨p, q, hA0, hV, rfl, hfz, hnd⟩ := hW
  have hA : DataW.TrodAll enc Try.prog W 0 (fun _ => true) true Try.f7.params.toList args.toList ds p := hA0
  rw [Try.params7] at hA hval
  obtain ⟨v0, vs0, d0, ds0, p0, q0, hargs, rfl, rfl, h0, r0⟩ := ChangeShapes.trodAll_cons hA
  obtain ⟨v1, vs1, d1, ds1, p1, q1, rfl, rfl, rfl, h1, r1⟩ := ChangeShapes.trodAll_cons r0
  obtain ⟨rfl, rfl, rfl⟩ := ChangeShapes.trodAll_nil r1
  obtain rfl : args = #[v0, v1] := by cases args; simp_all
  obtain ⟨rfl, rfl⟩ := ChangeShapes.trodVars_none hV
  obtain ⟨A0, zs0, c0, rfl, hr0, hnil0, hl0, hz0, hc0⟩ := open_introwc (hval 0 22 v0 rfl rfl) h0
  obtain ⟨x1, rfl, rfl, rfl, wx1⟩ := open_int Try.underlying3 (hval 1 3 v1 rfl rfl) h1
  refine (walk W A0 zs0 c0 hr0 hnil0 hl0 hc0 x1).mono fun e W' ⟨he, hB⟩ => ?_
  subst he
  exact ⟨_, rfl, law_post hW' rfl rfl (by kernel_rfl) rfl hB⟩

theorem holds : Rows.SeqsOnceSaid :=
  OpenClaim.holds_of_wide 7 Try.f7 rfl rfl rfl rfl rfl rfl rfl ⟨rfl, rfl, rfl, rfl, rfl⟩ rfl rfl rfl rfl rfl (by kernel_rfl) Try.func7 (by kernel_rfl)
    (of_decide_eq_true (by kernel_rfl)) (by unfold Func.isWrapper; first | (rw [if_pos (by decide +kernel)]; kernel_rfl) | (rw [if_neg (by decide +kernel)]; exact ⟨rfl, rfl⟩))
    (fun os started H enc _ => lifted os started H enc)
end Go.Proofs.Ytehndhkcmccpmaa.SeqsOnce
