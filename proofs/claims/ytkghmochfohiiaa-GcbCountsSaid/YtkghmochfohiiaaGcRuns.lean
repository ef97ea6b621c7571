/-
  Proved here: what gcb.Runs returns, for every row of numbers of at most a million: a new row of the runs' numbers; it leaves what was in memory.
-/
import Derived.Test.YtkghmochfohiiaaGcOf
import Derived.Test.YtkghmochfohiiaaGuPlain
import Derived.Test.YtkghmochfohiiaaClInts
set_option linter.unusedVariables false
namespace Go.Proofs.Ytkghmochfohiiaa.Gc
open Go.RowKit Go.Lib Go.Proofs.Ytkghmochfohiiaa.Arr Go.Proofs.Ytkghmochfohiiaa.Gu
open Go.Proofs.Ytkghmochfohiiaa.Cl (IntsAt)

def natC (R : List Nat) : List Value := R.map fun (n : Nat) => Value.int .i64 (n : Int)
def kindsOf (zs : List Int) : List Int := zs.map kindT
theorem kindsOf_pos (zs : List Int) : ∀ x ∈ kindsOf zs, 0 ≤ x := by
  intro x hx
  obtain ⟨z, _, rfl⟩ := List.mem_map.1 hx
  exact (kind_bounds z).1
theorem kindsOf_take (zs : List Int) (k : Nat) : ∀ x ∈ (kindsOf zs).take k, 0 ≤ x := fun x hx => kindsOf_pos zs x (List.mem_of_mem_take hx)
theorem runs_ne {L : List Int} (h : ∀ x ∈ L, 0 ≤ x) (h2 : 0 ≤ (runsS L).2) : 1 ≤ (runsS L).1.length := by
  obtain ⟨P, h1, h3, h4, h5⟩ := told_of L.length L rfl h
  rw [h3] at h2 ⊢
  rcases List.eq_nil_or_concat P with rfl | ⟨Q, p, rfl⟩
  · simp [lastK] at h2
  · simp [numsOf]
theorem opened_small {L : List Int} (h : ∀ x ∈ L, 0 ≤ x) (k : Int) : ∀ n ∈ opened (runsS L) k, n ≤ L.length := by
  obtain ⟨-, h2⟩ := runs_bound h
  intro n hn
  unfold opened at hn
  split at hn
  · exact h2 n hn
  · rcases List.mem_append.1 hn with hn | hn
    · exact h2 n hn
    · rw [List.mem_singleton] at hn
      omega
theorem opened_ne {L : List Int} (h : ∀ x ∈ L, 0 ≤ x) {k : Int} (hk : 0 ≤ k) : 1 ≤ (opened (runsS L) k).length := by
  unfold opened
  split
  · rename_i e
    exact runs_ne h (by omega)
  · simp
theorem own_shape {w : World} {B : Nat} {t : TypeId} {v : Value} {n : Nat} {xs : List Value} (h : w.ownsRow B t 1 v n xs) (hn : 1 ≤ n) : ∃ g cap, v = .slice (some ⟨g, 0, none⟩) n cap ∧ B ≤ g ∧ g < w.heap.size := by
  rcases h.2 with ⟨_, h0⟩ | ⟨g, cap, cur, e1, e2, e3, _⟩
  · omega
  · exact ⟨g, cap, e1, e2, (Array.getElem?_eq_some_iff.1 e3).1⟩
/-- The last number of a row, and the row with one more there. -/
theorem last_at {w : World} {B g cap : Nat} {R : List Nat} (h : w.ownsRow B 3 1 (.slice (some ⟨g, 0, none⟩) R.length cap) R.length (natC R)) (hn : 1 ≤ R.length) :
    w.cell? ⟨g, R.length - 1, none⟩ = some (.int .i64 (R.getD (R.length - 1) 0 : Nat)) ∧ w.frozen? ⟨g, R.length - 1, none⟩ = false ∧
    (w.setCell ⟨g, R.length - 1, none⟩ (.int .i64 ((R.getD (R.length - 1) 0 + 1 : Nat) : Int))).ownsRow B 3 1 (.slice (some ⟨g, 0, none⟩) R.length cap) R.length (natC (bump R)) := by
  refine ⟨?_, h.frozenAt _, ?_⟩
  · rw [h.cellAt _ (by omega)]
    unfold natC
    simp [List.getElem?_eq_getElem (show R.length - 1 < R.length by omega)]
  · have := (h.stored (R.length - 1) (.int .i64 ((R.getD (R.length - 1) 0 + 1 : Nat) : Int))).1
    rw [show natC (bump R) = (natC R).set (R.length - 1) (.int .i64 ((R.getD (R.length - 1) 0 + 1 : Nat) : Int)) from by unfold natC bump; rw [List.map_set]]
    exact this

set_option maxHeartbeats 1000000 in
set_option maxRecDepth 100000 in
theorem runs_any (A : Option Addr) (zs : List Int) (c : Nat) (w : World) (hR : IntsAt w A zs) (hn : zs.length ≤ 1000000) :
    Calls Try.prog 12 #[.slice A zs.length c] w fun e w' => ∃ v, e = .returned v ∧ w'.ownsRow w.heap.size 3 1 v (runsT (kindsOf zs)).length (natC (runsT (kindsOf zs))) ∧ Below w.heap.size w w' := by
  obtain ⟨i0, hi0, hz0, hzs, hzb⟩ := Cl.info_parts Cl.infoInt
  have HK := Lib.hid (fun W => kinds_any W)
  have HS := Lib.hid (fun c b W (h : BegAt W b bgs) => last_any bgs c b 130 W bgs_len.symm h (by rw [bgs_len]; decide) bgs_rises bgs_small)
  have HO := Lib.hid (fun c W => (show Calls Try.prog 16 #[.int .u8 (lastB bgs (0, 0) c).2, .int .i64 c] W fun e w' => e = .returned (.int .i64 (kindT c)) ∧ Below W.heap.size W w' from
    have hok := okB_is (lastB_ok (l := bgs) (d := (0, 0)) (c := c) bgs_small (by decide))
    of_any (lastB bgs (0, 0) c).2 c hok.2.2.1 hok.2.2.2 (fun h => kind_syl h) W))
  obtain ⟨hz, hi⟩ := zero_of_info infoK
  have HZ := Lib.hid hz
  rw [← k_size] at hi
  have HI := Lib.hid hi
  have HN := Lib.hid k_size
  have HC := Lib.hid k_one
  have HL := Lib.hid (fun W => begAt_made bgs 32 W)
  have HR := Lib.hid hR
  have hf := field_kind
  have HKS := Lib.hid (kindsOf_take zs)
  clear hz hi hR
  generalize (begC bgs).toArray = cs at *
  go_enter Try.func12, Try.ntmps12
  go_wp2_with fail
  rename_i Q0 K1 hK1 K2 hK2
  refine (HK.out _).mono ?_
  rintro e w1 ⟨rfl, hb1⟩
  refine hK2 _ _ ?_
  refine wpList_allocVar rfl _ rfl (some 3) rfl _ HZ.out ?_
  refine wpList_store_rowTo rfl _ _ _ rfl rfl w1.heap.size cs rfl rfl 32 _ (heap_alloc_last _ _) HI.out (by rw [HN.out]; rfl) HC.out ?_
  rw [World.setRow_alloc_new]
  refine wpList_nil (hK1 _ _ ?_)
  have hL := HL.out w1
  have hb2 := hb1.alloc hb1.size (.cells cs 32)
  have HB := Lib.hid hb2
  have HR2 := Lib.hid (HR.out.below hb2)
  clear hb1 hb2 HI HZ HC HN HK HL HR
  have HX := Lib.hid hL
  clear hL
  generalize w1.alloc (.cells cs 32) = w2 at *
  generalize w1.heap.size = b at *
  go_wp2_with fail
  go_loopw [4, 5, 12] (fun s4 s5 s12 wx => ∃ k : Nat, k ≤ zs.length ∧ s12 = .int .i64 k ∧ s5 = .int .i64 (runsS ((kindsOf zs).take k)).2 ∧ wx.ownsRow w2.heap.size 3 1 s4 (runsS ((kindsOf zs).take k)).1.length (natC (runsS ((kindsOf zs).take k)).1) ∧ Below w2.heap.size w2 wx) (fun _ _ s12 _ => zs.length - (RowKit.intOf s12).toNat)
  case atStart => exact ⟨0, Nat.zero_le _, rfl, rfl, World.ownsRow_nil _ _ _ _, Below.refl _ _⟩
  case round =>
    obtain ⟨k, hk, rfl, rfl, hown, hb⟩ := hrel
    by_cases hlt : k < zs.length
    · obtain ⟨g, off, rfl, hc⟩ := (HR2.out.below hb).at_ hlt
      have hX := HX.out.below hb
      have hkl : k < (kindsOf zs).length := by simpa [kindsOf] using hlt
      have hkz : (kindsOf zs)[k] = kindT zs[k] := by simp [kindsOf]
      have HNX := Lib.hid (runsS_next (kindsOf zs) k hkl)
      rw [hkz] at HNX
      have hkb := kind_bounds zs[k]
      have hne := opened_ne (HKS.out k) hkb.1
      have hsm := opened_small (HKS.out k) (kindT zs[k])
      have htl : ((kindsOf zs).take k).length ≤ k := List.length_take_le _ _
      have hs2 : (runsS ((kindsOf zs).take k)).1.length ≤ ((kindsOf zs).take k).length := (runs_bound (HKS.out k)).1
      have HS1 := Lib.hid (fun W h => HS.out zs[k] b W h)
      have HO1 := Lib.hid (fun W => HO.out zs[k] W)
      have HX1 := Lib.hid hX
      generalize zs[k] = z at *
      clear hkl hkz hX
      generalize kindT z = y at *
      generalize lastB bgs (0, 0) z = q at *
      obtain ⟨q0, q1⟩ := q
      simp only at HS1 HO1
      generalize runsS ((kindsOf zs).take k) = S at *
      obtain ⟨R, a⟩ := S
      simp only at hs2 hown ⊢
      have HOWN := Lib.hid hown
      have HB2 := Lib.hid hb
      have HSM := Lib.hid hsm
      have HNE := Lib.hid hne
      clear hown hb hsm hne
      by_cases hya : y = a
      · subst hya
        go_wp2_with fail
        refine (HS1.out _ HX1.out).mono ?_
        rintro e w5 ⟨rfl, hb5⟩
        go_wp2_with fail
        refine (HO1.out _).mono ?_
        rintro e w6 ⟨rfl, hb6⟩
        have hb56 := hb5.trans (hb6.mono hb5.size)
        have hown6 := Cl.ownsRow_below HOWN.out hb56
        have hne : 1 ≤ R.length := by have := HNE.out; simpa [opened] using this
        have hsm : R.getD (R.length - 1) 0 ≤ zs.length := by
          have := HSM.out (R.getD (R.length - 1) 0) (by simp [opened, List.getElem?_eq_getElem (show R.length - 1 < R.length by omega)])
          omega
        obtain ⟨g', cap, rfl, hg1, hg2⟩ := own_shape hown6 hne
        obtain ⟨hcl, hfz, hst⟩ := last_at hown6 hne
        have HBX := Lib.hid (HB2.out.trans (hb56.mono HB2.out.size))
        clear hown6 HOWN hb5 hb6 hb56 HSM HNE
        obtain ⟨m, hm⟩ : ∃ m, R.length = m + 1 := ⟨R.length - 1, by omega⟩
        rw [hm] at hcl hfz hst
        rw [show m + 1 - 1 = m from rfl] at hcl hfz hst
        have HNB := Lib.hid (show runsS ((kindsOf zs).take (k + 1)) = (bump R, y) from by rw [HNX.out]; exact (by simp only [runStep, opened, if_true]))
        have HLEN := Lib.hid (show (bump R).length = m + 1 from by rw [bump_len, hm])
        have hmz : m ≤ zs.length := (by have := (show R.length ≤ zs.length by omega); omega)
        rw [show R.length - 1 = m from by omega] at hsm
        generalize R.getD m 0 = x at *
        have HST := Lib.hid hst
        clear hst HNX
        rw [hm] at *
        clear hm hne
        go_wp2
        go_roundw
        case measure => simp [RowKit.intOf]; omega
        case rel =>
          refine ⟨k + 1, by omega, by go_num, ?_, ?_, HBX.out.setCell (p := ⟨g', m, none⟩) hg1 _⟩
          · rw [HNB.out]
          · rw [HNB.out]
            simp only
            rw [HLEN.out]
            exact HST.out
      · go_wp2_with fail
        refine (HS1.out _ HX1.out).mono ?_
        rintro e w5 ⟨rfl, hb5⟩
        go_wp2_with fail
        refine (HO1.out _).mono ?_
        rintro e w6 ⟨rfl, hb6⟩
        have hb56 := hb5.trans (hb6.mono hb5.size)
        have hown6 := Cl.ownsRow_below HOWN.out hb56
        have hsz6 := hb56.size
        have HBX6 := Lib.hid (HB2.out.trans (hb56.mono HB2.out.size))
        have hsz2 := HBX6.out.size
        clear hb5 hb6 hb56
        go_wp2_with (at_builtin; refine wpList_append_own _ rfl _ _ 25 rfl w2.heap.size 3 i0 (.int .i64 0) 1 8 Try.underlying25 hi0 hz0 hzs hzb rfl (by decide) _ _ _ rfl (hown6.alloc _) ⟨w6.heap.size, 0, none⟩ 1 1 [.int .i64 0] rfl rfl ?c1 ?c2 ?c3 ?c4 ?c5 ?_)
        case c1 => exact cell_one_new _ _ _
        case c2 => intro u hu; simp only [List.mem_singleton] at hu; subst hu; rfl
        case c3 => unfold maxLen; omega
        case c4 => omega
        case c5 => simp; omega
        intro v' w7 hown7 hgrow _
        have hlt6 := hown6.lt
        have hb7 := (HBX6.out.alloc hsz2 (.cells #[.int .i64 0] 3)).grown hgrow (by simp; omega) (fun q hq => (hlt6 q hq).1)
        have hlen : (R ++ [0]).length = R.length + 1 := by simp
        have hown7' : w7.ownsRow w2.heap.size 3 1 v' (R ++ [0]).length (natC (R ++ [0])) := by
          have h := hown7
          rw [show natC (R ++ [0]) = natC R ++ [.int .i64 0] from by simp [natC], hlen]
          exact h
        have hne : 1 ≤ (R ++ [0]).length := by simp
        have hsm : (R ++ [0]).getD ((R ++ [0]).length - 1) 0 ≤ zs.length := by simp
        obtain ⟨g', cap, rfl, hg1, hg2⟩ := own_shape hown7' hne
        obtain ⟨hcl, hfz, hst⟩ := last_at hown7' hne
        have HBX := Lib.hid hb7
        clear hown6 hown7 hown7' hgrow hlt6 hb7 HOWN HSM HNE HBX6 hsz6 hsz2
        obtain ⟨m, hm⟩ : ∃ m, (R ++ [0]).length = m + 1 := ⟨(R ++ [0]).length - 1, by omega⟩
        rw [hm] at hcl hfz hst
        rw [show m + 1 - 1 = m from rfl] at hcl hfz hst
        have HNB := Lib.hid (show runsS ((kindsOf zs).take (k + 1)) = (bump (R ++ [0]), y) from by rw [HNX.out]; exact (by simp only [runStep, opened, if_neg hya]))
        have HLEN := Lib.hid (show (bump (R ++ [0])).length = m + 1 from by rw [bump_len, hm])
        have hmz : m ≤ zs.length := by omega
        have hm1 : (R ++ [0]).length - 1 = m := by omega
        rw [hm1] at hsm
        generalize (R ++ [0]).getD m 0 = x at *
        have HST := Lib.hid hst
        clear hst HNX hm1 hlen
        rw [hm] at *
        clear hm hne
        go_wp2
        go_roundw
        case measure => simp [RowKit.intOf]; omega
        case rel =>
          refine ⟨k + 1, by omega, by go_num, ?_, ?_, HBX.out.setCell (p := ⟨g', m, none⟩) hg1 _⟩
          · rw [HNB.out]
          · rw [HNB.out]
            simp only
            rw [HLEN.out]
            exact HST.out
    · obtain rfl : k = zs.length := by omega
      have e : (kindsOf zs).take zs.length = kindsOf zs := by rw [List.take_of_length_le (by simp [kindsOf])]
      rw [e] at hown
      go_wp2
      go_ret
      exact ⟨_, rfl, Cl.ownsRow_mono hown HB.out.size, HB.out.trans (hb.mono HB.out.size)⟩
end Go.Proofs.Ytkghmochfohiiaa.Gc
