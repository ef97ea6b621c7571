/-
  Proved here: for every row of numbers GcbCounts returns true (the runs' numbers of at most 100 numbers are from 1 on, and are together as many as there are; within a run all are of one kind, at its end another one begins), and the row stays. No condition.
-/
import Derived.Test.YtkghmochfohiiaaGcAwake
import Derived.Test.YtkghmochfohiiaaGcbRuns
import Derived.Test.YtkghmochfohiiaaLawInts
import Derived.Deep.RegionHeld3
import Derived.Test.YtkghmochfohiiaaLawKit
import Derived.Stop.Joined
set_option linter.unusedVariables false
namespace Go.Proofs.Ytkghmochfohiiaa.GcbCounts
open Go.ChangeShapes Go.WideShapes Go.ChangeAt Go.RowKit Go.Lib Go.Proofs.Ytkghmochfohiiaa.Gc Go.Proofs.Ytkghmochfohiiaa.Gu
open Go.Proofs.Ytkghmochfohiiaa.Cl (IntsAt)


open Go.Proofs.Ytkghmochfohiiaa.Arr
theorem same {zs : List Int} {i k : Nat} (hi : i < (runsT (kindsOf zs)).length) (hk : k < (runsT (kindsOf zs))[i]) (h1 : ((runsT (kindsOf zs)).take i).sum + k < zs.length) (h2 : ((runsT (kindsOf zs)).take i).sum < zs.length) :
    kindT zs[((runsT (kindsOf zs)).take i).sum + k] = kindT zs[((runsT (kindsOf zs)).take i).sum] := by
  have h := (counts (kindsOf_pos zs)).2.2.1 i hi k hk
  have e : ∀ j (hj : j < zs.length), (kindsOf zs)[j]? = some (kindT zs[j]) := fun j hj => by simp [kindsOf, hj]
  rw [e _ h1, e _ h2] at h
  exact Option.some.inj h
theorem other {zs : List Int} {i t : Nat} (h0 : 0 < i) (hi : i < (runsT (kindsOf zs)).length) (ht : ((runsT (kindsOf zs)).take i).sum = t + 1) (h1 : t < zs.length) (h2 : t + 1 < zs.length) :
    kindT zs[t] ≠ kindT zs[t + 1] := by
  have h := (counts (kindsOf_pos zs)).2.2.2 i h0 hi
  have e : ∀ j (hj : j < zs.length), (kindsOf zs)[j]? = some (kindT zs[j]) := fun j hj => by simp [kindsOf, hj]
  rw [ht, show t + 1 - 1 = t from rfl, e _ h1, e _ h2] at h
  exact fun he => h (by rw [he])
theorem sums {zs : List Int} {i : Nat} (hi : i < (runsT (kindsOf zs)).length) : 1 ≤ (runsT (kindsOf zs))[i] ∧ ((runsT (kindsOf zs)).take i).sum + (runsT (kindsOf zs))[i] ≤ zs.length ∧ ((runsT (kindsOf zs)).take (i + 1)).sum = ((runsT (kindsOf zs)).take i).sum + (runsT (kindsOf zs))[i] ∧ (0 < i → 1 ≤ ((runsT (kindsOf zs)).take i).sum) := by
  obtain ⟨h1, h2, -, -⟩ := counts (kindsOf_pos zs)
  have h3 := sum_next (runsT (kindsOf zs)) i hi
  have h4 := sum_le (runsT (kindsOf zs)) (i + 1)
  rw [show (kindsOf zs).length = zs.length from by simp [kindsOf]] at h1
  refine ⟨h2 i hi, by omega, h3, fun h0 => ?_⟩
  have h5 := sum_next (runsT (kindsOf zs)) (i - 1) (by omega)
  have h6 := h2 (i - 1) (by omega)
  rw [show i - 1 + 1 = i from by omega] at h5
  omega
theorem ints_cell {w : World} {b off : Nat} {spot : _} {zs : List Int} (h : IntsAt w (some ⟨b, off, spot⟩) zs) {j : Nat} (hj : j < zs.length) : w.cell? ⟨b, off + j, none⟩ = some (.int .i64 zs[j]) := by
  obtain ⟨b', off', e, hc⟩ := h.at_ hj
  injection e with e
  injection e with e1 e2 e3
  subst e1 e2
  exact hc
theorem step_below {wr V W : World} (h : Below wr.heap.size wr V) (hb : Below V.heap.size V W) : Below wr.heap.size wr W := h.trans (hb.mono h.size)

set_option maxHeartbeats 2000000 in
set_option maxRecDepth 100000 in
theorem walk (w : World) (A : Option Addr) (zs : List Int) (c : Nat) (hr : IntsAt w A zs) (hnil : A = none → zs = [] ∧ c = 0) (hs0 : zs.length ≤ 9223372036854775807) (hz : ∀ z ∈ zs, -9223372036854775808 ≤ z ∧ z ≤ 9223372036854775807) :
    Calls Try.prog 6 #[.slice A zs.length c] w fun e w' => e = .returned (.bool true) ∧ Below w.heap.size w w' := by
  clear hz hnil
  by_cases hbig : 100 < zs.length
  · go_enter Try.func6, Try.ntmps6
    go_wp2_with fail
    refine (awake_any _).mono ?_
    rintro e w3 ⟨rfl, hb3⟩
    go_wp2
    go_ret
    exact ⟨rfl, hb3⟩
  go_enter Try.func6, Try.ntmps6
  go_wp2_with fail
  refine (runs_any A zs c _ hr (by omega)).mono ?_
  rintro e w1 ⟨v, rfl, hown, hb1⟩
  obtain ⟨A1, c1, rfl, hl⟩ := GcbRuns.runs_at hown
  have HR := Lib.hid (hr.below hb1)
  have HL := Lib.hid hl
  have HB1 := Lib.hid hb1
  have hrl : (runsT (kindsOf zs)).length ≤ zs.length := by
    have := (runs_bound (kindsOf_pos zs)).1
    rwa [show (kindsOf zs).length = zs.length from by simp [kindsOf]] at this
  have HSAME := Lib.hid (fun i k hi hk h1 h2 => same (zs := zs) (i := i) (k := k) hi hk h1 h2)
  have HOTHER := Lib.hid (fun i t h0 hi ht h1 h2 => other (zs := zs) (i := i) (t := t) h0 hi ht h1 h2)
  have HSUMS := Lib.hid (fun i hi => sums (zs := zs) (i := i) hi)
  have HALL := Lib.hid (show ((runsT (kindsOf zs)).take (runsT (kindsOf zs)).length).sum = zs.length from by
    rw [List.take_length, (counts (kindsOf_pos zs)).1]
    simp [kindsOf])
  have CO := Lib.hid (fun x W => gOf_any x W)
  rw [GcbRuns.intsOf_len] at *
  clear hr hown hb1 hl
  generalize runsT (kindsOf zs) = R at *
  go_wp2_with fail
  go_loopw [4, 5] (fun s4 s5 wx => ∃ i : Nat, i ≤ R.length ∧ s5 = .int .i64 i ∧ s4 = .int .i64 ((R.take i).sum : Nat) ∧ Below w1.heap.size w1 wx) (fun _ s5 _ => R.length - (RowKit.intOf s5).toNat)
  case atStart => exact ⟨0, Nat.zero_le _, rfl, rfl, Below.refl _ _⟩
  case round =>
    obtain ⟨i, hi, rfl, rfl, hb⟩ := hrel
    by_cases hlt : i < R.length
    · obtain ⟨f1, f2, f3, f4⟩ := HSUMS.out i hlt
      have hlr := HL.out.below hb
      obtain ⟨b1, o1, rfl, hc1⟩ := hlr.at_ (k := i) (by rw [GcbRuns.intsOf_len]; exact hlt)
      rw [show (GcbRuns.intsOf R)[i]'(by rw [GcbRuns.intsOf_len]; exact hlt) = (R[i] : Int) from by simp [GcbRuns.intsOf]] at hc1
      have HNEXT := Lib.hid f3
      have HSM := Lib.hid (fun k hk h1 h2 => HSAME.out i k hlt hk h1 h2)
      have HOT := Lib.hid (fun t h0 ht h1 h2 => HOTHER.out i t h0 hlt ht h1 h2)
      clear f3 hlr
      generalize R[i] = r at *
      generalize (R.take i).sum = s at *
      have hsn : s < zs.length := by omega
      obtain ⟨b, off, rfl, hcs⟩ := (HR.out.below hb).at_ hsn
      have HCK := Lib.hid (fun k (hk : s + k < zs.length) => ints_cell (HR.out.below hb) hk)
      have HCJ := Lib.hid (fun j (hj : j < zs.length) => ints_cell (HR.out.below hb) hj)
      have HCL := Lib.hid (fun V (h : Below wr.heap.size wr V) => (⟨(h.cell (World.block_lt_of_cell? wr _ hc1)).trans hc1, (h.cell (World.block_lt_of_cell? wr _ hcs)).trans hcs, h⟩ : V.cell? ⟨b1, o1 + i, none⟩ = some (.int .i64 (r : Int)) ∧ V.cell? ⟨b, off + s, none⟩ = some (.int .i64 zs[s]) ∧ Below wr.heap.size wr V))
      have HBO := Lib.hid hb
      have HSM2 := Lib.hid (fun k hk h1 => HSM.out k hk h1 hsn)
      have CS := Lib.hid (fun W => CO.out zs[s] W)
      have hi1 : (i : Int) < R.length := by omega
      have hr1 : decide ((r : Int) < 1) = false := decide_eq_false (by omega)
      clear hb HSM
      generalize wr = wo at *
      rcases Nat.eq_zero_or_pos i with h0 | h0
      · have d3 : decide ((0 : Int) < (i : Int)) = false := decide_eq_false (by omega)
        have d4 : decide (0 < i) = false := decide_eq_false (by omega)
        have d2 : decide ((zs.length : Int) - (s : Int) < (r : Int)) = false := decide_eq_false (by omega)
        have hw2 : IntKind.i64.wrap ((zs.length : Int) - (s : Int)) = (zs.length : Int) - (s : Int) := IntWalk.i64_in _ (by omega)
        clear HOT h0
        generalize zs[s] = z at *
        generalize kindT z = y at *
        go_wp2_with fail
        go_quiet (fail)
        have HBI := Lib.hid (below_drewN (Below.refl wo.heap.size wo) nq)
        go_wp2_with fail
        go_loopw [6] (fun s6 wx => ∃ k : Nat, 1 ≤ k ∧ k ≤ r ∧ s6 = .int .i64 k ∧ Below wo.heap.size wo wx) (fun s6 _ => r - (RowKit.intOf s6).toNat)
        case atStart => exact ⟨1, Nat.le_refl _, f1, rfl, HBI.out⟩
        case round =>
          obtain ⟨k, hk1, hk2, rfl, hbk⟩ := hrel
          obtain ⟨g1, g2, g3⟩ := HCL.out wr hbk
          by_cases hkr : k < r
          · have hskn : s + k < zs.length := by omega
            have hck := HCK.out k hskn
            have HSK := Lib.hid (HSM2.out k hkr hskn)
            have CK := Lib.hid (fun W => CO.out ((zs[s + k]'hskn)) W)
            rw [HSK.out] at CK
            have HC2 := Lib.hid (fun V (h : Below wr.heap.size wr V) => (⟨((HCL.out wr hbk).2.2.trans (h.mono (HCL.out wr hbk).2.2.size) |> fun q => (q.cell (World.block_lt_of_cell? wo _ hck)).trans hck), (h.cell (World.block_lt_of_cell? wr _ g2)).trans g2, h⟩ : V.cell? ⟨b, off + (s + k), none⟩ = some (.int .i64 ((zs[s + k]'hskn))) ∧ V.cell? ⟨b, off + s, none⟩ = some (.int .i64 z) ∧ Below wr.heap.size wr V))
            have HBK := Lib.hid hbk
            have w1 : IntKind.i64.wrap ((s : Int) + (k : Int)) = (s : Int) + (k : Int) := IntWalk.i64_in _ (by omega)
            have j1 : (s : Int) + (k : Int) < zs.length := by omega
            have j2 : 0 ≤ (s : Int) + (k : Int) := by omega
            have j3 : (s : Int) < zs.length := by omega
            have j4 : 0 ≤ (s : Int) := by omega
            have j5 : ((s : Int) + (k : Int)).toNat = s + k := by omega
            clear hck HSK g2 g3 hbk
            generalize (zs[s + k]'hskn) = zk at *
            go_wp2_with fail
            go_region_held3 (fun V => V.cell? ⟨b, off + (s + k), none⟩ = some (.int .i64 zk) ∧ V.cell? ⟨b, off + s, none⟩ = some (.int .i64 z) ∧ Below wr.heap.size wr V) (first | exact HC2.out _ (Below.refl _ _) | exact HC2.out _ (below_drew (Below.refl _ _)) | exact HC2.out _ (by assumption))
              (first | (go_at_call 7; first | ((with_reducible refine (CK.out _).mono ?_); rintro e w7 ⟨rfl, hb7⟩; have hbx := step_below (wr := wr) (by first | assumption | exact below_drew (Below.refl _ _)) hb7; clear hb7) | ((with_reducible refine (CS.out _).mono ?_); rintro e w7 ⟨rfl, hb7⟩; have hbx := step_below (wr := wr) (by first | assumption | exact below_drew (Below.refl _ _)) hb7; clear hb7)))
            all_goals (rename_i hh8; have HB8 := Lib.hid hh8.2.2; clear hh8)
            all_goals go_wp2
            all_goals go_roundw
            case rel => exact ⟨k + 1, by omega, by omega, by go_num, HBK.out.trans (HB8.out.mono HBK.out.size)⟩
            case measure => simp [RowKit.intOf]; omega
          · obtain rfl : k = r := by omega
            clear g2 g3
            go_wp2
            go_roundw
            case rel => exact ⟨i + 1, by omega, by go_num, by rw [HNEXT.out]; go_num, HBO.out.trans (hbk.mono HBO.out.size)⟩
            case measure => simp [RowKit.intOf]; omega
      · obtain ⟨t, rfl⟩ : ∃ t, s = t + 1 := ⟨s - 1, by have := f4 h0; omega⟩
        have htn : t < zs.length := by omega
        have hct := HCJ.out t htn
        have hne := HOT.out t h0 rfl htn hsn
        have d3 : decide ((0 : Int) < (i : Int)) = true := decide_eq_true (by omega)
        have d4 : decide (0 < i) = true := decide_eq_true (by omega)
        have d2 : decide ((zs.length : Int) - ((t : Int) + 1) < (r : Int)) = false := decide_eq_false (by omega)
        have hw2 : IntKind.i64.wrap ((zs.length : Int) - ((t : Int) + 1)) = (zs.length : Int) - ((t : Int) + 1) := IntWalk.i64_in _ (by omega)
        have hw3 : IntKind.i64.wrap ((t : Int) + 1 - 1) = (t : Int) := by rw [show (t : Int) + 1 - 1 = t from by omega]; exact IntWalk.i64_in _ (by omega)
        have hw4 : IntKind.i64.wrap (t : Int) = (t : Int) := IntWalk.i64_in _ (by omega)
        have l0 : 0 ≤ (t : Int) := by omega
        have l1 : (t : Int) < zs.length := by omega
        have l2 : (t : Int) + 1 < zs.length := by omega
        have l3 : 0 ≤ (t : Int) + 1 := by omega
        have hdd : (kindT zs[t] == kindT zs[t + 1]) = false := by rw [beq_eq_false_iff_ne]; exact hne
        have HC8 := Lib.hid (fun V (h : Below wo.heap.size wo V) => (⟨(h.cell (World.block_lt_of_cell? wo _ hc1)).trans hc1, (h.cell (World.block_lt_of_cell? wo _ hct)).trans hct, (h.cell (World.block_lt_of_cell? wo _ hcs)).trans hcs, h⟩ : V.cell? ⟨b1, o1 + i, none⟩ = some (.int .i64 (r : Int)) ∧ V.cell? ⟨b, off + t, none⟩ = some (.int .i64 zs[t]) ∧ V.cell? ⟨b, off + (t + 1), none⟩ = some (.int .i64 zs[t + 1]) ∧ Below wo.heap.size wo V))
        have CT := Lib.hid (fun W => CO.out zs[t] W)
        clear HOT h0 hne hct hcs hc1
        generalize zs[t] = zt at *
        generalize kindT zt = yt at *
        generalize zs[t + 1] = z at *
        generalize kindT z = y at *
        go_wp2_with fail
        go_region_held3 (fun V => V.cell? ⟨b1, o1 + i, none⟩ = some (.int .i64 (r : Int)) ∧ V.cell? ⟨b, off + t, none⟩ = some (.int .i64 zt) ∧ V.cell? ⟨b, off + (t + 1), none⟩ = some (.int .i64 z) ∧ Below wo.heap.size wo V) (first | exact HC8.out _ (Below.refl _ _) | exact HC8.out _ (below_drew (Below.refl _ _)) | exact HC8.out _ (by assumption))
          (first | (go_at_call 7; first | ((with_reducible refine (CT.out _).mono ?_); rintro e w7 ⟨rfl, hb7⟩; have hbx := step_below (wr := wo) (by first | assumption | exact below_drew (Below.refl _ _)) hb7; clear hb7) | ((with_reducible refine (CS.out _).mono ?_); rintro e w7 ⟨rfl, hb7⟩; have hbx := step_below (wr := wo) (by first | assumption | exact below_drew (Below.refl _ _)) hb7; clear hb7)))
        rename_i hh8
        have HBI := Lib.hid hh8.2.2.2
        clear hh8
        go_wp2_with fail
        go_loopw [6] (fun s6 wx => ∃ k : Nat, 1 ≤ k ∧ k ≤ r ∧ s6 = .int .i64 k ∧ Below wo.heap.size wo wx) (fun s6 _ => r - (RowKit.intOf s6).toNat)
        case atStart => exact ⟨1, Nat.le_refl _, f1, rfl, HBI.out⟩
        case round =>
          obtain ⟨k, hk1, hk2, rfl, hbk⟩ := hrel
          obtain ⟨g1, g2, g3⟩ := HCL.out wr hbk
          by_cases hkr : k < r
          · have hskn : (t + 1) + k < zs.length := by omega
            have hck := HCK.out k hskn
            have HSK := Lib.hid (HSM2.out k hkr hskn)
            have CK := Lib.hid (fun W => CO.out ((zs[(t + 1) + k]'hskn)) W)
            rw [HSK.out] at CK
            have HC2 := Lib.hid (fun V (h : Below wr.heap.size wr V) => (⟨((HCL.out wr hbk).2.2.trans (h.mono (HCL.out wr hbk).2.2.size) |> fun q => (q.cell (World.block_lt_of_cell? wo _ hck)).trans hck), (h.cell (World.block_lt_of_cell? wr _ g2)).trans g2, h⟩ : V.cell? ⟨b, off + ((t + 1) + k), none⟩ = some (.int .i64 ((zs[(t + 1) + k]'hskn))) ∧ V.cell? ⟨b, off + (t + 1), none⟩ = some (.int .i64 z) ∧ Below wr.heap.size wr V))
            have HBK := Lib.hid hbk
            have w1 : IntKind.i64.wrap (((t : Int) + 1) + (k : Int)) = ((t : Int) + 1) + (k : Int) := IntWalk.i64_in _ (by omega)
            have j1 : ((t : Int) + 1) + (k : Int) < zs.length := by omega
            have j2 : 0 ≤ ((t : Int) + 1) + (k : Int) := by omega
            have j3 : ((t : Int) + 1) < zs.length := by omega
            have j4 : 0 ≤ ((t : Int) + 1) := by omega
            have j5 : (((t : Int) + 1) + (k : Int)).toNat = (t + 1) + k := by omega
            clear hck HSK g2 g3 hbk
            generalize (zs[(t + 1) + k]'hskn) = zk at *
            go_wp2_with fail
            go_region_held3 (fun V => V.cell? ⟨b, off + ((t + 1) + k), none⟩ = some (.int .i64 zk) ∧ V.cell? ⟨b, off + (t + 1), none⟩ = some (.int .i64 z) ∧ Below wr.heap.size wr V) (first | exact HC2.out _ (Below.refl _ _) | exact HC2.out _ (below_drew (Below.refl _ _)) | exact HC2.out _ (by assumption))
              (first | (go_at_call 7; first | ((with_reducible refine (CK.out _).mono ?_); rintro e w7 ⟨rfl, hb7⟩; have hbx := step_below (wr := wr) (by first | assumption | exact below_drew (Below.refl _ _)) hb7; clear hb7) | ((with_reducible refine (CS.out _).mono ?_); rintro e w7 ⟨rfl, hb7⟩; have hbx := step_below (wr := wr) (by first | assumption | exact below_drew (Below.refl _ _)) hb7; clear hb7)))
            all_goals (rename_i hh8; have HB8 := Lib.hid hh8.2.2; clear hh8)
            all_goals go_wp2
            all_goals go_roundw
            case rel => exact ⟨k + 1, by omega, by omega, by go_num, HBK.out.trans (HB8.out.mono HBK.out.size)⟩
            case measure => simp [RowKit.intOf]; omega
          · obtain rfl : k = r := by omega
            clear g2 g3
            go_wp2
            go_roundw
            case rel => exact ⟨i + 1, by omega, by go_num, by rw [HNEXT.out]; go_num, HBO.out.trans (hbk.mono HBO.out.size)⟩
            case measure => simp [RowKit.intOf]; omega
    · obtain rfl : i = R.length := by omega
      rw [HALL.out]
      go_wp2_with fail
      refine (awake_any _).mono ?_
      rintro e w9 ⟨rfl, hb9⟩
      go_wp2
      go_ret
      have h0 := HB1.out.trans (hb.mono HB1.out.size)
      exact ⟨rfl, h0.trans (hb9.mono h0.size)⟩

set_option maxRecDepth 100000 in
theorem lifted (os : Os) (started : os.Started) (H : Type) (enc : TypeId × Value → H) :
    ReturnsInHanded {} Try.checked os 6 .any (Rows.gcbCountsSpec.pre6 enc Try.prog Try.f6 Rows.gcbCountsRow.domain false) (Rows.gcbCountsSpec.post enc Try.prog Try.f6 false true false false) := by
  refine returnsInHanded_of_change (C := Try.checked) law_own started (by kernel_rfl) Try.func6
    (ChangeSpec.witness6 (enc := enc) (C := Try.checked) false ⟨#[], #[.slice none 0 0], []⟩ 8 (by kernel_rfl) (by kernel_rfl) (by kernel_rfl) (by kernel_rfl)) ?_
  intro W base args ds gs before hval0 hW _ _
  have hval : ∀ (j : Nat) t v, Try.f6.params[j]? = some t → args[j]? = some v → Value.okWide Try.prog W .any base t v := hval0
  have hW' := hW
  obtain ⟨p, q, hA0, hV, rfl, hfz, hnd⟩ := hW
  have hA : DataW.TrodAll enc Try.prog W 0 (fun _ => true) true Try.f6.params.toList args.toList ds p := hA0
  rw [Try.params6] at hA hval
  obtain ⟨v0, vs0, d0, ds0, p0, q0, hargs, rfl, rfl, h0, r0⟩ := ChangeShapes.trodAll_cons hA
  obtain ⟨rfl, rfl, rfl⟩ := ChangeShapes.trodAll_nil r0
  obtain rfl : args = #[v0] := by cases args; simp_all
  obtain ⟨rfl, rfl⟩ := ChangeShapes.trodVars_none hV
  obtain ⟨A0, zs0, c0, rfl, hr0, hnil0, hl0, hz0⟩ := open_introw (hval 0 25 v0 rfl rfl) h0
  refine (walk W A0 zs0 c0 hr0 hnil0 hl0 hz0).mono fun e W' ⟨he, hB⟩ => ?_
  subst he
  exact ⟨_, rfl, law_post hW' rfl rfl (by kernel_rfl) rfl hB⟩

theorem holds : Rows.GcbCountsSaid :=
  OpenClaim.holds_of_wide 6 Try.f6 rfl rfl rfl rfl rfl rfl rfl ⟨rfl, rfl, rfl, rfl, rfl⟩ rfl rfl rfl rfl rfl (by kernel_rfl) Try.func6 (by kernel_rfl)
    (of_decide_eq_true (by kernel_rfl)) (by unfold Func.isWrapper; first | (rw [if_pos (by decide +kernel)]; kernel_rfl) | (rw [if_neg (by decide +kernel)]; exact ⟨rfl, rfl⟩))
    (fun os started H enc _ => lifted os started H enc)
end Go.Proofs.Ytkghmochfohiiaa.GcbCounts
