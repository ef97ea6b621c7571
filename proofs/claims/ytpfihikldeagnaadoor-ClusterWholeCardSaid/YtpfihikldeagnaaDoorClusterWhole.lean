/-
  Proved here: for every text, ClusterWhole returns true (a text's clusters follow one another without a gap, from 0 to its end, each of one byte at least, 0 to 2 slots wide; each byte is found in its own; of at most 1000 bytes), and the text stays. Conditions: the package variable that the row lists holds what the program's text lays (the card ties it).
-/
import Derived.Test.YtpfihikldeagnaaDoorKuLaid
import Derived.Test.YtpfihikldeagnaaDoorTie
import Derived.Test.YtpfihikldeagnaaDoorCards
set_option linter.unusedVariables false
namespace Go.Proofs.YtpfihikldeagnaaDoor.ClusterWhole
open Go.ChangeShapes Go.WideShapes Go.ChangeAt Go.RowKit Go.Lib Go.Proofs.YtpfihikldeagnaaDoor.Ku Go.Proofs.YtpfihikldeagnaaDoor.Arr

theorem chain_ofS (s : ByteArray) (hs : s.size ≤ 1000000) : Chn 0 0 (ofS s) s.size := by
  have hch := Rn.chain_split s.data.toList.length s.data.toList 0 (Nat.le_refl _)
  rw [← Lib.size_eq, Nat.zero_add] at hch
  exact ofC_chain _ _ hch hs
theorem ok_chn {X : List C6} {e : Nat} (h : Chn 0 0 X e) (he : e ≤ 1000000) : ∀ x ∈ X, okN x.a ∧ okN x.z := by
  intro x hx
  obtain ⟨i, hi, rfl⟩ := List.getElem_of_mem hx
  obtain ⟨b, f, m, k, g1, g2, g3, g4, ga, gz, _⟩ := chn_at X 0 0 e h i hi
  unfold okN
  rw [ga, gz]
  omega
theorem find_yes {X : List C6} {p : Int} {i : Nat} (h : findN X p = i) (hi : i < X.length) : (if findN X p < X.length then (findN X p : Int) else 0) = i ∧ decide (findN X p < X.length) = true := by
  rw [h, if_pos hi]
  exact ⟨rfl, decide_eq_true hi⟩
theorem find_no {X : List C6} {p : Int} (h : findN X p = X.length) : (if findN X p < X.length then (findN X p : Int) else 0) = 0 ∧ decide (findN X p < X.length) = false := by
  rw [h, if_neg (Nat.lt_irrefl _)]
  exact ⟨rfl, decide_eq_false (Nat.lt_irrefl _)⟩
theorem chn_next {X : List C6} {e : Nat} (h : Chn 0 0 X e) (i : Nat) (hi : i < X.length) (b m : Nat) (ha : X[i].a = b) (hz : X[i].z = m) : (∀ h : i + 1 < X.length, X[i + 1].a = (b + m : Nat)) ∧ (i + 1 = X.length → b + m = e) := by
  obtain ⟨b0, f0, m0, k0, g1, g2, g3, g4, ga, gz, gf, gt, gj, g0, gs, gr⟩ := chn_at X 0 0 e h i hi
  refine ⟨fun h1 => ?_, fun h1 => ?_⟩
  · obtain ⟨b', f', m', k', g1', g2', g3', g4', ga', gz', gf', gt', gj', g0', gs', gr'⟩ := chn_at X 0 0 e h (i + 1) h1
    have := (gs' (Nat.succ_pos _)).2
    simp only [Nat.add_sub_cancel] at this
    rw [ga']
    omega
  · rw [List.drop_of_length_le (by omega)] at gr
    have : b0 + m0 = e := gr
    omega

set_option maxHeartbeats 4000000 in
set_option maxRecDepth 100000 in
theorem walk (w : World) (hH : Held w) (s : ByteArray) (hs0 : s.size ≤ maxLen) :
    Calls Tryd.prog 6 #[.string s] w fun e w' => e = .returned (.bool true) ∧ Below w.heap.size w w' := by
  unfold maxLen at hs0
  have HH := Lib.hid hH
  clear hH
  by_cases hbig : 1000 < s.size
  · go_enter Tryd.func6, Tryd.ntmps6
    go_wp2_with (go_at_call 8; refine (awake_any _ HH.out).mono ?_; rintro e w' ⟨rfl, hb⟩)
    go_ret
    exact ⟨rfl, hb⟩
  · have HCH := Lib.hid (chain_ofS s (by omega))
    have HSP := Lib.hid (fun W h => split_any s W (by omega) h)
    have hXl := ofS_len s
    have HWD := Lib.hid (show ∀ y ∈ ofS s, 0 ≤ y.w ∧ y.w ≤ 2 from ofC_wide _)
    have hs1 : s.size ≤ 1000 := by omega
    generalize ofS s = X at *
    have HOK := Lib.hid (ok_chn HCH.out (by omega))
    go_enter Tryd.func6, Tryd.ntmps6
    go_wp2_with fail
    refine (HSP.out _ HH.out).mono ?_
    rintro e w1 ⟨v, rfl, hown, hb1⟩
    obtain ⟨A, c, rfl, hC⟩ := cuAt_own hown
    have HC := Lib.hid hC
    have HB1 := Lib.hid hb1
    have HFI := Lib.hid (fun (W : World) (hb : Below w1.heap.size w1 W) (p : Int) (hp : okN p) => find_any A X c p W (hC.below hb) (by omega) HOK.out hp)
    clear hown hC hb1 HSP
    go_wp2_with fail
    go_loopw [4, 5] (fun s4 s5 wx => ∃ i b : Nat, i ≤ X.length ∧ b ≤ s.size ∧ s5 = .int .i64 i ∧ s4 = .int .i64 b ∧ (∀ h : i < X.length, X[i].a = (b : Int)) ∧ (i = X.length → b = s.size) ∧ Below w1.heap.size w1 wx) (fun _ s5 _ => X.length - (RowKit.intOf s5).toNat)
    case atStart =>
      refine ⟨0, 0, Nat.zero_le _, Nat.zero_le _, rfl, rfl, fun h => ?_, fun h => ?_, Below.refl _ _⟩
      · obtain ⟨b, f, m, k, g1, g2, g3, g4, ga, gz, gf, gt, gj, g0, gs, gr⟩ := chn_at X 0 0 _ HCH.out 0 h
        rw [ga, (g0 rfl).1]
      · have h0 := HCH.out
        rw [List.eq_nil_of_length_eq_zero h.symm] at h0
        exact h0
    case round =>
      obtain ⟨i, b, hi, hbs, rfl, rfl, hia, hie, hbw⟩ := hrel
      by_cases hlt : i < X.length
      · have hxa := hia hlt
        obtain ⟨b0, f, m, k, g1, g2, g3, g4, ga, gz, gf, gt, gj, g0, gs, gr⟩ := chn_at X 0 0 _ HCH.out i hlt
        obtain rfl : b0 = b := by omega
        have hwd := HWD.out X[i] (List.getElem_mem hlt)
        obtain ⟨bA, off, rfl, hbl, q0, q1, q2, q3, q4, q5⟩ := (HC.out.below hbw).at_ hlt
        have HNX := Lib.hid (chn_next HCH.out i hlt b0 m ga gz)
        have HFD := Lib.hid (show ∀ j : Nat, j < m → findN X ((b0 : Int) + j) = i from fun j hj => chn_find HCH.out i hlt _ (by omega) (by omega))
        rw [ga] at q0
        rw [gz] at q1
        rw [gf] at q2
        rw [gt] at q3
        obtain ⟨T, hT⟩ : ∃ T, f + k = T := ⟨_, rfl⟩
        rw [hT] at q3
        have hfT : f < T := by omega
        have d1 : decide ((m : Int) < 1) = false := decide_eq_false (by omega)
        have d2 : decide (X[i].w < 0) = false := decide_eq_false (by omega)
        have d3 : decide (2 < X[i].w) = false := decide_eq_false (by omega)
        have d4 : decide ((T : Int) ≤ (f : Int)) = false := decide_eq_false (by omega)
        have d8 : decide (T ≤ f) = false := decide_eq_false (by omega)
        have d9 : ¬ T ≤ f := by omega
        have HPREV := Lib.hid (show ∀ h : 0 < i, ∃ j, i = j + 1 ∧ j < X.length ∧ wr.cell? ⟨bA, off + j * 6 + 3, none⟩ = some (.int .i64 f) from fun h => by
          obtain ⟨j, rfl⟩ : ∃ j, i = j + 1 := ⟨i - 1, by omega⟩
          obtain ⟨b2, o2, hA2, _, _, _, _, p3, _⟩ := (HC.out.below hbw).at_ (show j < X.length by omega)
          injection hA2 with hA2
          injection hA2 with e1 e2
          subst e1 e2
          have hg := (gs h).1
          simp only [Nat.add_sub_cancel] at hg
          rw [hg] at p3
          exact ⟨j, rfl, by omega, p3⟩)
        have HG0 := Lib.hid (show i = 0 → f = 0 from fun h => (g0 h).2)
        have HBW := Lib.hid hbw
        have hmb : b0 + m ≤ 1000 := by omega
        clear hia hie hxa ga gz gf gt gj g0 gs gr hT hbw g1 g3
        generalize X[i].w = xw at *
        generalize X[i].c = xc at *
        rcases Nat.eq_zero_or_pos i with rfl | hpos
        · skip
          obtain rfl : f = 0 := HG0.out rfl
          have d6 : ¬ T = 0 := by omega
          have d7 : decide (T = 0) = false := decide_eq_false d6
          have d5 : decide ((T : Int) ≤ 0) = false := decide_eq_false (by omega)
          simp only [Nat.zero_mul, Nat.add_zero] at q0 q1 q2 q3 q4 q5
          go_wp2_with fail
          go_quiet (fail)
          go_wp2_with fail
          have hV : ((wr.alloc (.cells #[.int .i64 b0, .int .i64 m, .int .i64 0, .int .i64 T, .int .i64 xw, .int .i64 xc] 32)).drewN nq).heap[wr.heap.size]? = some (.cells #[.int .i64 b0, .int .i64 m, .int .i64 0, .int .i64 T, .int .i64 xw, .int .i64 xc] 32) := heap_alloc_last wr _
          have hbV : Below wr.heap.size wr ((wr.alloc (.cells #[.int .i64 b0, .int .i64 m, .int .i64 0, .int .i64 T, .int .i64 xw, .int .i64 xc] 32)).drewN nq) := below_drewN ((Below.refl _ _).alloc (Nat.le_refl _) _) _
          have HBV := Lib.hid (HBW.out.trans (hbV.mono HBW.out.size))
          clear hbV HPREV HBW
          generalize (wr.alloc (.cells #[.int .i64 b0, .int .i64 m, .int .i64 0, .int .i64 T, .int .i64 xw, .int .i64 xc] 32)).drewN nq = V at *
          obtain ⟨⟨-, u1, -⟩, -⟩ := six hV
          have hl6 : wr.heap.size < V.heap.size := (Array.getElem?_eq_some_iff.1 hV).1
          clear hV q0 q1 q2 q3 q4 q5 hbl d5 d6 d7
          generalize wr.heap.size = b6 at *
          go_loopw [7] (fun s7 wy => ∃ j : Nat, j ≤ m ∧ s7 = .int .i64 j ∧ Below V.heap.size V wy) (fun s7 _ => m - (RowKit.intOf s7).toNat)
          case atStart => exact ⟨0, Nat.zero_le _, rfl, Below.refl _ _⟩
          case round =>
            obtain ⟨j, hj, rfl, hby⟩ := hrel
            have u1' := (hby.cell (p := ⟨b6, 1, none⟩) hl6).trans u1
            have HBY := Lib.hid (HBV.out.trans (hby.mono HBV.out.size))
            by_cases hjm : j < m
            · have HF := Lib.hid (by
                have h := HFI.out wr HBY.out ((b0 : Int) + j) (by unfold okN; omega)
                rw [(find_yes (HFD.out j hjm) hlt).1, (find_yes (HFD.out j hjm) hlt).2] at h
                exact h : Calls Tryd.prog 16 #[.slice (some ⟨bA, off, none⟩) X.length c, .int .i64 ((b0 : Int) + j)] wr fun e w' => e = .returned (.tuple #[.int .i64 0, .bool true]) ∧ Below wr.heap.size wr w')
              have HBI := Lib.hid hby
              clear hby
              go_wp2_with fail
              refine HF.out.mono ?_
              rintro e w5 ⟨rfl, hb5⟩
              go_wp2
              go_roundw
              case rel => exact ⟨j + 1, by omega, by go_num, HBI.out.trans (hb5.mono HBI.out.size)⟩
              case measure => simp [RowKit.intOf]; omega
            · obtain rfl : j = m := by omega
              clear hby
              go_wp2
              go_roundw
              case rel => exact ⟨1, b0 + j, by omega, by omega, by go_num, by go_num, HNX.out.1, HNX.out.2, HBY.out⟩
              case measure => simp [RowKit.intOf]; omega
        · obtain ⟨j', hj', hjl, hpc⟩ := HPREV.out hpos
          have hx1 : IntKind.i64.wrap ((i : Int) - 1) = j' := by rw [IntWalk.i64_in _ (by omega)]; omega
          have hx2 : IntKind.i64.wrap (j' : Int) = j' := IntWalk.i64_in _ (by omega)
          have hx3 : ((i : Int) == 0) = false := by simp; omega
          have hx4 : decide ((0 : Int) < (i : Int)) = true := decide_eq_true (by omega)
          have hx5 : (j' : Int) < X.length := by omega
          have hx6 : (0 : Int) ≤ (j' : Int) := by omega
          have hx7 : decide (0 < i) = true := decide_eq_true hpos
          have hx8 : (i == 0) = false := by simp; omega
          clear hj' HPREV
          have HPREV := Lib.hid hjl
          go_wp2_with fail
          go_quiet (fail)
          go_wp2_with fail
          have hV : ((wr.alloc (.cells #[.int .i64 b0, .int .i64 m, .int .i64 f, .int .i64 T, .int .i64 xw, .int .i64 xc] 32)).drewN nq).heap[wr.heap.size]? = some (.cells #[.int .i64 b0, .int .i64 m, .int .i64 f, .int .i64 T, .int .i64 xw, .int .i64 xc] 32) := heap_alloc_last wr _
          have hbV : Below wr.heap.size wr ((wr.alloc (.cells #[.int .i64 b0, .int .i64 m, .int .i64 f, .int .i64 T, .int .i64 xw, .int .i64 xc] 32)).drewN nq) := below_drewN ((Below.refl _ _).alloc (Nat.le_refl _) _) _
          have HBV := Lib.hid (HBW.out.trans (hbV.mono HBW.out.size))
          clear hbV HPREV HBW
          generalize (wr.alloc (.cells #[.int .i64 b0, .int .i64 m, .int .i64 f, .int .i64 T, .int .i64 xw, .int .i64 xc] 32)).drewN nq = V at *
          obtain ⟨⟨-, u1, -⟩, -⟩ := six hV
          have hl6 : wr.heap.size < V.heap.size := (Array.getElem?_eq_some_iff.1 hV).1
          clear hV q0 q1 q2 q3 q4 q5 hbl hpc hx1 hx2
          generalize wr.heap.size = b6 at *
          go_loopw [7] (fun s7 wy => ∃ j : Nat, j ≤ m ∧ s7 = .int .i64 j ∧ Below V.heap.size V wy) (fun s7 _ => m - (RowKit.intOf s7).toNat)
          case atStart => exact ⟨0, Nat.zero_le _, rfl, Below.refl _ _⟩
          case round =>
            obtain ⟨j, hj, rfl, hby⟩ := hrel
            have u1' := (hby.cell (p := ⟨b6, 1, none⟩) hl6).trans u1
            have HBY := Lib.hid (HBV.out.trans (hby.mono HBV.out.size))
            by_cases hjm : j < m
            · have HF := Lib.hid (by
                have h := HFI.out wr HBY.out ((b0 : Int) + j) (by unfold okN; omega)
                rw [(find_yes (HFD.out j hjm) hlt).1, (find_yes (HFD.out j hjm) hlt).2] at h
                exact h : Calls Tryd.prog 16 #[.slice (some ⟨bA, off, none⟩) X.length c, .int .i64 ((b0 : Int) + j)] wr fun e w' => e = .returned (.tuple #[.int .i64 (i : Int), .bool true]) ∧ Below wr.heap.size wr w')
              have HBI := Lib.hid hby
              clear hby
              go_wp2_with fail
              refine HF.out.mono ?_
              rintro e w5 ⟨rfl, hb5⟩
              go_wp2
              go_roundw
              case rel => exact ⟨j + 1, by omega, by go_num, HBI.out.trans (hb5.mono HBI.out.size)⟩
              case measure => simp [RowKit.intOf]; omega
            · obtain rfl : j = m := by omega
              clear hby
              go_wp2
              go_roundw
              case rel => exact ⟨i + 1, b0 + j, by omega, by omega, by go_num, by go_num, HNX.out.1, HNX.out.2, HBY.out⟩
              case measure => simp [RowKit.intOf]; omega
      · obtain rfl : i = X.length := by omega
        obtain rfl : b = s.size := hie rfl
        have HF1 := Lib.hid (fun W hb => (by
          have h := HFI.out W hb (s.size : Int) (by unfold okN; omega)
          have hn := chn_none HCH.out (s.size : Int) (.inr (Int.le_refl _))
          rw [(find_no hn).1, (find_no hn).2] at h
          exact h : Calls Tryd.prog 16 #[.slice A X.length c, .int .i64 s.size] W fun e w' => e = .returned (.tuple #[.int .i64 0, .bool false]) ∧ Below W.heap.size W w'))
        have HF2 := Lib.hid (fun W hb => (by
          have h := HFI.out W hb (-1) (by unfold okN; omega)
          have hn := chn_none HCH.out (-1) (.inl (by omega))
          rw [(find_no hn).1, (find_no hn).2] at h
          exact h : Calls Tryd.prog 16 #[.slice A X.length c, .int .i64 (-1)] W fun e w' => e = .returned (.tuple #[.int .i64 0, .bool false]) ∧ Below W.heap.size W w'))
        have HBW := Lib.hid hbw
        clear hia hie hbw
        go_wp2_with fail
        refine (HF1.out _ HBW.out).mono ?_
        rintro e w5 ⟨rfl, hb5⟩
        have HB5 := Lib.hid (HBW.out.trans (hb5.mono HBW.out.size))
        clear hb5 HBW
        go_wp2_with fail
        refine (HF2.out _ HB5.out).mono ?_
        rintro e w6 ⟨rfl, hb6⟩
        have HB6 := Lib.hid (HB1.out.trans ((HB5.out.trans (hb6.mono HB5.out.size)).mono HB1.out.size))
        clear hb6 HB5
        go_wp2_with fail
        refine (awake_any _ (HH.out.below HB6.out)).mono ?_
        rintro e w7 ⟨rfl, hb7⟩
        go_wp2
        go_ret
        exact ⟨rfl, HB6.out.trans (hb7.mono HB6.out.size)⟩

set_option maxRecDepth 100000 in
theorem lifted (os : Os) (started : os.Started) (H : Type) (enc : TypeId × Value → H) :
    ReturnsInHanded {} Tryd.checked os 6 .any (fun w args => (Rows.clusterWholeSpec.pre enc Tryd.prog Tryd.f6 [] false w args ∧ laidMetH Tryd.prog laidL w) ∧ sizedMet enc Tryd.prog Tryd.f6 (OpenSpec.ofChange Rows.clusterWholeSpec) false w args) (Rows.clusterWholeSpec.post enc Tryd.prog Tryd.f6 false true false false) := by
  refine returns_laid started (by kernel_rfl) Tryd.func6 #[.string ⟨#[]⟩] (by kernel_rfl) (World.shaped_of_ZipB (by kernel_rfl) (by kernel_rfl)) (by rw [MakeChecks.laidMetH_plain _ _ _ (by kernel_rfl)]; exact laidMet_laidAll _ (by kernel_rfl) (by kernel_rfl)) (by kernel_rfl) (by kernel_rfl) rfl rfl (by kernel_rfl) ?_ ?_
  · intro ds hds
    rw [show Tryd.f6.params.toList.length = 1 from by kernel_rfl] at hds
    match ds, hds with
    | [d0], _ => rfl
  intro W base args ds p hval hA hH
  rw [Tryd.params6] at hA hval
  obtain ⟨v0, vs0, d0, ds0, p0, q0, hargs, rfl, rfl, h0, r0⟩ := ChangeShapes.trodAll_cons hA
  obtain ⟨rfl, rfl, rfl⟩ := ChangeShapes.trodAll_nil r0
  obtain rfl : args = #[v0] := by cases args; simp_all
  obtain ⟨s0, rfl, rfl, rfl, hs0⟩ := Go.ChangeMaps.open_string Tryd.underlying9 (hval 0 9 v0 rfl rfl) h0
  exact walk W hH s0 hs0

theorem holds : Rows.ClusterWholeSaid :=
  OpenClaim.holds_of_wide 6 Tryd.f6 rfl rfl rfl rfl rfl rfl rfl ⟨rfl, rfl, rfl, rfl, rfl⟩ rfl rfl rfl rfl rfl (by kernel_rfl) Tryd.func6 (by kernel_rfl)
    (of_decide_eq_true (by kernel_rfl)) (by unfold Func.isWrapper; first | (rw [if_pos (by decide +kernel)]; kernel_rfl) | (rw [if_neg (by decide +kernel)]; exact ⟨rfl, rfl⟩))
    (fun os started H enc _ => lifted os started H enc)

theorem card : Rows.ClusterWholeCardSaid :=
  Claim7.holds_tied_plain_at .later [] [.data] true (true, "6266be65454116c20761097c10453cce90d7e1924b2052746f8030f8566e73d3") false
    holds (fun _ h => by cases h) (by kernel_rfl) (fun _ h => by cases h) clusterWhole_row_tie rfl ⟨rfl, rfl⟩ (by kernel_rfl) rfl
    (fun f fn hf hfn => by
      obtain rfl : f = 6 := Option.some.inj ((show Tryd.prog.funcNamed "parquetry/parquetrylaw06.ClusterWhole" = some 6 by kernel_rfl).symm.trans hf) |>.symm
      obtain rfl : fn = Tryd.f6 := (Option.some.inj (Tryd.func6.symm.trans hfn)).symm
      exact ⟨by kernel_rfl, fun j t ht => by
        rw [Tryd.params6] at ht
        have hm : t ∈ [9] := by simpa using Array.mem_of_getElem? ht
        have hall : ([9].all fun u => !Tryd.prog.wantsStandIn u) = true := by kernel_rfl
        exact (show Tryd.prog.wantsStandIn t = false by simpa using List.all_eq_true.1 hall t hm)⟩)
    (by kernel_rfl)
end Go.Proofs.YtpfihikldeagnaaDoor.ClusterWhole
