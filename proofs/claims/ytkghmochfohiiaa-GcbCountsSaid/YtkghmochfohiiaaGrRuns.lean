/-
  Proved here: what parquetryref05.Runs returns, for every row of numbers of at most a million: a new row of the runs' numbers; it leaves what was in memory.
-/
import Derived.Test.YtkghmochfohiiaaGcRuns
import Derived.Test.YtkghmochfohiiaaGrFns
import Derived.Deep.RegionHeld3
set_option linter.unusedVariables false
namespace Go.Proofs.Ytkghmochfohiiaa.Gr
open Go.RowKit Go.Lib Go.Proofs.Ytkghmochfohiiaa.Co Go.Proofs.Ytkghmochfohiiaa.Tab Go.Proofs.Ytkghmochfohiiaa.Gc Go.Proofs.Ytkghmochfohiiaa.Gu Go.Proofs.Ytkghmochfohiiaa.Arr
open Go.Proofs.Ytkghmochfohiiaa.Cl (IntsAt)

/-- What the reference has told so far: the runs that are closed, how many stand in the open one. -/
def Open (K : List Int) (k : Nat) (R : List Nat) (m : Nat) : Prop :=
  (runsS (K.take k)).1 = (if m = 0 then R else R ++ [m]) ∧ (m = 0 → ∀ h : k < K.length, K[k] ≠ (runsS (K.take k)).2) ∧ (m ≠ 0 → ∃ h : k < K.length, K[k] = (runsS (K.take k)).2)
theorem open_next {K : List Int} {k : Nat} {R : List Nat} {m : Nat} (h : Open K k R m) (hk : k < K.length) : (runsS (K.take (k + 1))).1 = R ++ [m + 1] := by
  obtain ⟨h1, h2, h3⟩ := h
  rw [runsS_next K k hk]
  unfold runStep opened
  simp only
  by_cases hm : m = 0
  · subst hm
    rw [if_neg (h2 rfl hk), h1, if_pos rfl, bump_snoc]
  · obtain ⟨_, h4⟩ := h3 hm
    rw [if_pos h4, h1, if_neg hm, bump_snoc]
theorem open_shut {K : List Int} {k : Nat} {R : List Nat} {m : Nat} (h : Open K k R m) (hk : k < K.length) (hd : ∀ h : k + 1 < K.length, K[k + 1] ≠ K[k]) : Open K (k + 1) (R ++ [m + 1]) 0 := by
  refine ⟨by rw [open_next h hk, if_pos rfl], fun _ h1 => ?_, fun h1 => absurd rfl h1⟩
  rw [runsS_snd K k hk]
  exact hd h1
theorem open_on {K : List Int} {k : Nat} {R : List Nat} {m : Nat} (h : Open K k R m) (hk : k < K.length) (hk1 : k + 1 < K.length) (hd : K[k + 1] = K[k]) : Open K (k + 1) R (m + 1) := by
  refine ⟨by rw [open_next h hk, if_neg (Nat.succ_ne_zero m)], fun h1 => absurd h1 (Nat.succ_ne_zero m), fun _ => ⟨hk1, ?_⟩⟩
  rw [runsS_snd K k hk]
  exact hd
theorem open_small {K : List Int} {k : Nat} {R : List Nat} {m : Nat} (hp : ∀ x ∈ K.take k, 0 ≤ x) (h : Open K k R m) : R.length ≤ k ∧ m ≤ k := by
  obtain ⟨h1, h2⟩ := runs_bound hp
  have hl : (K.take k).length ≤ k := List.length_take_le _ _
  unfold runsT at h1 h2
  rw [h.1] at h1 h2
  by_cases hm : m = 0
  · rw [if_pos hm] at h1
    omega
  · rw [if_neg hm] at h1 h2
    have := h2 m (by simp)
    simp at h1
    omega
theorem step_below {wr V W : World} (h : Below wr.heap.size wr V) (hb : Below V.heap.size V W) : Below wr.heap.size wr W := h.trans (hb.mono h.size)
theorem refOf_kind (c : Int) (w : World) : Calls Try.prog 8 #[.int .i64 c] w fun e w' => e = .returned (.int .i64 (kindT c)) ∧ Below w.heap.size w w' := ref_kind c ▸ refOf_any c w

set_option maxHeartbeats 1000000 in
set_option maxRecDepth 100000 in
theorem refRuns_any (A : Option Addr) (zs : List Int) (c : Nat) (w : World) (hR : IntsAt w A zs) (hn : zs.length ≤ 1000000) :
    Calls Try.prog 13 #[.slice A zs.length c] w fun e w' => ∃ v, e = .returned v ∧ w'.ownsRow w.heap.size 3 1 v (runsT (kindsOf zs)).length (natC (runsT (kindsOf zs))) ∧ Below w.heap.size w w' := by
  obtain ⟨i0, hi0, hz0, hzs, hzb⟩ := Cl.info_parts Cl.infoInt
  have HR := Lib.hid hR
  have HKS := Lib.hid (kindsOf_take zs)
  have hKL : (kindsOf zs).length = zs.length := by simp [kindsOf]
  have HKL := Lib.hid hKL
  clear hR hKL
  go_enter Try.func13, Try.ntmps13
  go_wp2_with fail
  go_loopw [3, 4, 5] (fun s3 s4 s5 wx => ∃ (k m : Nat) (R : List Nat), k ≤ zs.length ∧ s5 = .int .i64 k ∧ s4 = .int .i64 m ∧ Open (kindsOf zs) k R m ∧ wx.ownsRow w.heap.size 3 1 s3 R.length (natC R) ∧ Below w.heap.size w wx) (fun _ _ s5 _ => zs.length - (RowKit.intOf s5).toNat)
  case atStart =>
    refine ⟨0, 0, [], Nat.zero_le _, rfl, rfl, ⟨rfl, fun _ h => ?_, fun h => absurd rfl h⟩, World.ownsRow_nil _ _ _ _, Below.refl _ _⟩
    have := kindsOf_pos zs _ (List.getElem_mem h)
    have e : (runsS ((kindsOf zs).take 0)).2 = -1 := rfl
    rw [e]
    omega
  case round =>
    obtain ⟨k, m, R, hk, rfl, rfl, hopen, hown, hb⟩ := hrel
    obtain ⟨hRl, hml⟩ := open_small (HKS.out k) hopen
    by_cases hlt : k < zs.length
    · have hkl : k < (kindsOf zs).length := by rw [HKL.out]; exact hlt
      have hkz : (kindsOf zs)[k] = kindT zs[k] := by simp [kindsOf]
      obtain ⟨g, off, rfl, hc⟩ := (HR.out.below hb).at_ hlt
      have HOWN := Lib.hid (fun (V : World) (e : V.heap = wr.heap) => (show V.ownsRow w.heap.size 3 1 u3 R.length (natC R) from by
        have h0 := hown
        unfold World.ownsRow at h0 ⊢
        rw [e]
        exact h0))
      have hbs := hb.size
      by_cases hend : k + 1 = zs.length
      · have HO := Lib.hid (open_shut hopen hkl (fun h => by rw [HKL.out] at h; omega))
        have HC := Lib.hid (fun V (h : Below wr.heap.size wr V) => (⟨(h.cell (World.block_lt_of_cell? wr _ hc)).trans hc, h⟩ : V.cell? ⟨g, off + k, none⟩ = some (.int .i64 zs[k]) ∧ Below wr.heap.size wr V))
        have CZ := Lib.hid (fun W => refOf_kind zs[k] W)
        have HB := Lib.hid hb
        clear hopen hkz hkl hc hown hb
        generalize kindT zs[k] = y at *
        generalize zs[k] = z at *
        have he2 : ((k : Int) + 1 == (zs.length : Int)) = true := by rw [beq_iff_eq]; omega
        have hw : IntKind.i64.wrap ((k : Int) + 1) = (k : Int) + 1 := IntWalk.i64_in _ (by omega)
        generalize zs.length = n at *
        go_wp2_with fail
        go_quiet (fail)
        go_wp2_with (at_builtin; refine wpList_append_own _ rfl _ _ 25 rfl w.heap.size 3 i0 (.int .i64 0) 1 8 Try.underlying25 hi0 hz0 hzs hzb rfl (by decide) _ _ _ rfl ((HOWN.out _ (by rfl)).alloc _) ⟨wr.heap.size, 0, none⟩ 1 1 [.int .i64 ((m : Int) + 1)] rfl rfl ?c1 ?c2 ?c3 ?c4 ?c5 ?_)
        case c1 => exact cell_one_new _ _ _
        case c2 => intro u hu; simp only [List.mem_singleton] at hu; subst hu; rfl
        case c3 => unfold maxLen; omega
        case c4 => omega
        case c5 => simp; omega
        intro v' w7 hown7 hgrow _
        have hlt6 := (HOWN.out wr rfl).lt
        have hb7 := ((below_drewN HB.out nq).alloc (by exact hbs) (.cells #[.int .i64 ((m : Int) + 1)] 3)).grown hgrow (by simp; omega) (fun q hq => (hlt6 q hq).1)
        have HOWN7 := Lib.hid (show w7.ownsRow w.heap.size 3 1 v' (R ++ [m + 1]).length (natC (R ++ [m + 1])) from by
          have h := hown7
          have hlen : (R ++ [m + 1]).length = R.length + 1 := by simp
          rw [show natC (R ++ [m + 1]) = natC R ++ [.int .i64 ((m : Int) + 1)] from by simp [natC], hlen]
          exact h)
        have HB7 := Lib.hid hb7
        clear hown7 hgrow hb7 hlt6 HOWN
        go_wp2
        go_roundw
        case rel => exact ⟨k + 1, 0, R ++ [m + 1], by omega, by go_num, rfl, HO.out, HOWN7.out, HB7.out⟩
        case measure => simp [RowKit.intOf]; omega
      · have hk1 : k + 1 < zs.length := by omega
        have hkl1 : k + 1 < (kindsOf zs).length := by rw [HKL.out]; exact hk1
        have hkz1 : (kindsOf zs)[k + 1] = kindT zs[k + 1] := by simp [kindsOf]
        obtain ⟨g', off', e', hc1⟩ := (HR.out.below hb).at_ hk1
        injection e' with e'
        injection e' with e1 e2 e3
        subst e1 e2
        have HOP := Lib.hid hopen
        have HKZ := Lib.hid (And.intro hkz hkz1)
        have HC := Lib.hid (fun V (h : Below wr.heap.size wr V) => (⟨(h.cell (World.block_lt_of_cell? wr _ hc)).trans hc, (h.cell (World.block_lt_of_cell? wr _ hc1)).trans hc1, h⟩ : V.cell? ⟨g, off + k, none⟩ = some (.int .i64 zs[k]) ∧ V.cell? ⟨g, off + (k + 1), none⟩ = some (.int .i64 zs[k + 1]) ∧ Below wr.heap.size wr V))
        have CZ := Lib.hid (fun W => refOf_kind zs[k] W)
        have CZ1 := Lib.hid (fun W => refOf_kind zs[k + 1] W)
        have HB := Lib.hid hb
        have HOWN8 := Lib.hid (fun (V : World) (h : Below wr.heap.size wr V) => Cl.ownsRow_below hown h)
        have hw : IntKind.i64.wrap ((k : Int) + 1) = (k : Int) + 1 := IntWalk.i64_in _ (by omega)
        have he2 : ((k : Int) + 1 == (zs.length : Int)) = false := by rw [beq_eq_false_iff_ne]; omega
        have i1 : (k : Int) + 1 < zs.length := by omega
        have i2 : 0 ≤ (k : Int) + 1 := by omega
        have i3 : (k : Int) < zs.length := by omega
        clear hopen hc hc1 hown hb hkz hkz1 HOWN
        by_cases hy : kindT zs[k + 1] = kindT zs[k]
        · have HO := Lib.hid (open_on HOP.out hkl hkl1 (by rw [HKZ.out.1, HKZ.out.2]; exact hy))
          rw [hy] at CZ1
          clear hy HKZ HOP hkl hkl1
          generalize kindT zs[k] = y at *
          generalize zs[k] = z at *
          generalize zs[k + 1] = z1 at *
          generalize zs.length = n at *
          go_wp2_with fail
          go_region_held3 (fun V => V.cell? ⟨g, off + k, none⟩ = some (.int .i64 z) ∧ V.cell? ⟨g, off + (k + 1), none⟩ = some (.int .i64 z1) ∧ Below wr.heap.size wr V) (first | exact HC.out _ (Below.refl _ _) | exact HC.out _ (below_drew (Below.refl _ _)) | exact HC.out _ (by assumption))
            (first | (go_at_call 8; first | ((with_reducible refine (CZ.out _).mono ?_); rintro e w7 ⟨rfl, hb7⟩; have hbx := step_below (wr := wr) (by first | assumption | exact below_drew (Below.refl _ _)) hb7; clear hb7) | ((with_reducible refine (CZ1.out _).mono ?_); rintro e w7 ⟨rfl, hb7⟩; have hbx := step_below (wr := wr) (by first | assumption | exact below_drew (Below.refl _ _)) hb7; clear hb7)))
          all_goals (rename_i w8 hh8; have HB8 := Lib.hid hh8.2.2; clear hh8)
          all_goals go_wp2
          all_goals go_roundw
          case rel => exact ⟨k + 1, m + 1, R, by omega, by go_num, by go_num, HO.out, HOWN8.out _ HB8.out, HB.out.trans (HB8.out.mono HB.out.size)⟩
          case measure => simp [RowKit.intOf]; omega
        · have HO := Lib.hid (open_shut HOP.out hkl (fun h => by rw [HKZ.out.1, HKZ.out.2]; exact hy))
          clear HKZ HOP hkl hkl1
          have hy1 : (kindT zs[k + 1] == kindT zs[k]) = false := by rw [beq_eq_false_iff_ne]; exact hy
          have hy2 : (kindT zs[k + 1] != kindT zs[k]) = true := by rw [bne, hy1]; rfl
          generalize kindT zs[k + 1] = y1 at *
          generalize kindT zs[k] = y at *
          generalize zs[k] = z at *
          generalize zs[k + 1] = z1 at *
          generalize zs.length = n at *
          go_wp2_with fail
          go_region_held3 (fun V => V.cell? ⟨g, off + k, none⟩ = some (.int .i64 z) ∧ V.cell? ⟨g, off + (k + 1), none⟩ = some (.int .i64 z1) ∧ Below wr.heap.size wr V) (first | exact HC.out _ (Below.refl _ _) | exact HC.out _ (below_drew (Below.refl _ _)) | exact HC.out _ (by assumption))
            (first | (go_at_call 8; first | ((with_reducible refine (CZ.out _).mono ?_); rintro e w7 ⟨rfl, hb7⟩; have hbx := step_below (wr := wr) (by first | assumption | exact below_drew (Below.refl _ _)) hb7; clear hb7) | ((with_reducible refine (CZ1.out _).mono ?_); rintro e w7 ⟨rfl, hb7⟩; have hbx := step_below (wr := wr) (by first | assumption | exact below_drew (Below.refl _ _)) hb7; clear hb7)))
          rename_i hh8
          have HB8 := Lib.hid (HB.out.trans (hh8.2.2.mono HB.out.size))
          have hown8 := HOWN8.out _ hh8.2.2
          clear hh8 HOWN8
          go_wp2_with (at_builtin; refine wpList_append_own _ rfl _ _ 25 rfl w.heap.size 3 i0 (.int .i64 0) 1 8 Try.underlying25 hi0 hz0 hzs hzb rfl (by decide) _ _ _ rfl (hown8.alloc _) ⟨w7.heap.size, 0, none⟩ 1 1 [.int .i64 ((m : Int) + 1)] rfl rfl ?c1 ?c2 ?c3 ?c4 ?c5 ?_)
          case c1 => exact cell_one_new _ _ _
          case c2 => intro u hu; simp only [List.mem_singleton] at hu; subst hu; rfl
          case c3 => unfold maxLen; omega
          case c4 => omega
          case c5 => have := HB8.out.size; simp; omega
          intro v' w9 hown7 hgrow _
          have hlt6 := hown8.lt
          have hb7 := (HB8.out.alloc HB8.out.size (.cells #[.int .i64 ((m : Int) + 1)] 3)).grown hgrow (by have := HB8.out.size; simp; omega) (fun q hq => (hlt6 q hq).1)
          have HOWN7 := Lib.hid (show w9.ownsRow w.heap.size 3 1 v' (R ++ [m + 1]).length (natC (R ++ [m + 1])) from by
            have h := hown7
            have hlen : (R ++ [m + 1]).length = R.length + 1 := by simp
            rw [show natC (R ++ [m + 1]) = natC R ++ [.int .i64 ((m : Int) + 1)] from by simp [natC], hlen]
            exact h)
          have HB7 := Lib.hid hb7
          clear hown7 hgrow hb7 hlt6
          go_wp2
          go_roundw
          case rel => exact ⟨k + 1, 0, R ++ [m + 1], by omega, by go_num, rfl, HO.out, HOWN7.out, HB7.out⟩
          case measure => simp [RowKit.intOf]; omega
    · obtain rfl : k = zs.length := by omega
      have e : (kindsOf zs).take zs.length = kindsOf zs := by rw [List.take_of_length_le (by simp [kindsOf])]
      have HE := Lib.hid (show runsT (kindsOf zs) = R from by
        obtain ⟨h1, _, h3⟩ := hopen
        rw [e] at h1
        unfold runsT
        rw [h1]
        by_cases hm : m = 0
        · rw [if_pos hm]
        · obtain ⟨h, _⟩ := h3 hm
          rw [HKL.out] at h
          omega)
      clear hopen e
      go_wp2
      go_ret
      exact ⟨_, rfl, by rw [HE.out]; exact hown, hb⟩
end Go.Proofs.Ytkghmochfohiiaa.Gr
