/-
  Proved here: for every number GcbSyllables returns true (of 28 syllables that follow one another just one is LV, the others are LVT; what stands ahead of the first one, and behind the last one, is neither), and it stays. No condition.
-/
import Derived.Test.YtkghmochfohiiaaGcAwake
import Derived.Test.YtkghmochfohiiaaLawKit
import Derived.Stop.Joined
set_option linter.unusedVariables false
namespace Go.Proofs.Ytkghmochfohiiaa.GcbSyllables
open Go.ChangeShapes Go.WideShapes Go.ChangeAt Go.RowKit Go.Lib Go.Proofs.Ytkghmochfohiiaa.Gc Go.Proofs.Ytkghmochfohiiaa.Gu
open Go.Proofs.Ytkghmochfohiiaa.Cl (IntsAt)


theorem and_16383 (x : Int) : ∃ q : Nat, q ≤ 16383 ∧ bits BinOp.and IntKind.i64 x 16383 = (q : Int) := by
  refine ⟨((BitVec.ofInt 64 x) &&& (BitVec.ofInt 64 16383)).toNat, ?_, ?_⟩
  · rw [BitVec.toNat_and]
    exact Nat.le_trans Nat.and_le_right (by decide)
  · have h : ((BitVec.ofInt 64 x) &&& (BitVec.ofInt 64 16383)).toNat ≤ 16383 := by
      rw [BitVec.toNat_and]
      exact Nat.le_trans Nat.and_le_right (by decide)
    show IntKind.i64.wrap ((((BitVec.ofInt 64 x) &&& (BitVec.ofInt 64 16383)).toNat : Nat) : Int) = _
    exact IntWalk.i64_in _ ⟨by omega, by omega⟩
theorem and_255 (x : Int) : ∃ q : Nat, q ≤ 255 ∧ bits BinOp.and IntKind.i64 x 255 = (q : Int) := by
  refine ⟨((BitVec.ofInt 64 x) &&& (BitVec.ofInt 64 255)).toNat, ?_, ?_⟩
  · rw [BitVec.toNat_and]
    exact Nat.le_trans Nat.and_le_right (by decide)
  · have h : ((BitVec.ofInt 64 x) &&& (BitVec.ofInt 64 255)).toNat ≤ 255 := by
      rw [BitVec.toNat_and]
      exact Nat.le_trans Nat.and_le_right (by decide)
    show IntKind.i64.wrap ((((BitVec.ofInt 64 x) &&& (BitVec.ofInt 64 255)).toNat : Nat) : Int) = _
    exact IntWalk.i64_in _ ⟨by omega, by omega⟩
theorem syl_lv {x : Int} (h1 : 44032 ≤ x) (h2 : x ≤ 55203) (h : (x - 44032) % 28 = 0) : kindT x = 12 := by
  rw [← ref_kind, refT, if_pos ⟨h1, h2⟩, if_pos h]
theorem syl_lvt {x : Int} (h1 : 44032 ≤ x) (h2 : x ≤ 55203) (h : ¬ (x - 44032) % 28 = 0) : kindT x = 13 := by
  rw [← ref_kind, refT, if_pos ⟨h1, h2⟩, if_neg h]
theorem first_le : ∀ (l : List (Int × List Co.CSpan)) (c : Int), (∀ r ∈ l, r.1 ≤ 11) → firstIn l c ≤ 11
  | [], c, _ => by unfold firstIn; omega
  | r :: l, c, h => by
    unfold firstIn
    split
    · exact h r (by simp)
    · exact first_le l c fun x hx => h x (by simp [hx])
theorem other_le {x : Int} (h : ¬ (44032 ≤ x ∧ x ≤ 55203)) : kindT x ≤ 11 := by
  rw [← ref_kind, refT, if_neg h]
  exact first_le rowS x (by decide +kernel)
/-- How many of the first i numbers from f on are LV, of 28 at most. -/
def lvs (f : Int) (i : Nat) : Int := if (28 - (f - 44032) % 28) % 28 < i then 1 else 0
theorem lvs_bounds (f : Int) (i : Nat) : 0 ≤ lvs f i ∧ lvs f i ≤ 1 := by unfold lvs; split <;> omega
theorem lvs_none (f : Int) : lvs f 0 = 0 := by
  unfold lvs
  rw [if_neg (by omega)]
theorem lvs_all (f : Int) : lvs f 28 = 1 := by
  unfold lvs
  rw [if_pos (by omega)]
theorem lvs_yes {f : Int} {i : Nat} (h0 : 44032 ≤ f) (hi : i < 28) (h : (f + i - 44032) % 28 = 0) : lvs f (i + 1) = lvs f i + 1 := by
  unfold lvs
  rw [if_pos (by omega), if_neg (by omega)]
  rfl
theorem lvs_no {f : Int} {i : Nat} (h0 : 44032 ≤ f) (hi : i < 28) (h : ¬ (f + i - 44032) % 28 = 0) : lvs f (i + 1) = lvs f i := by
  unfold lvs
  by_cases h1 : (28 - (f - 44032) % 28) % 28 < (i : Int)
  · rw [if_pos (by omega), if_pos h1]
  · rw [if_neg (by omega), if_neg h1]

set_option maxHeartbeats 2000000 in
set_option maxRecDepth 100000 in
theorem walk (w : World) (n : Int) :
    Calls Try.prog 5 #[.int .i64 n] w fun e w' => e = .returned (.bool true) ∧ Below w.heap.size w w' := by
  obtain ⟨q, hq1, hq⟩ := and_16383 n
  obtain ⟨p, hp1, hp⟩ := and_255 n
  have ha := other_le (x := 44031 - (p : Int)) (by omega)
  have hb0 := other_le (x := 55204 + (p : Int)) (by omega)
  have CA := Lib.hid (fun W => gOf_any (44031 - (p : Int)) W)
  have CB := Lib.hid (fun W => gOf_any (55204 + (p : Int)) W)
  generalize kindT (44031 - (p : Int)) = ka at *
  generalize kindT (55204 + (p : Int)) = kb at *
  have d1 : (ka != 12) = true := by simp; omega
  have d2 : (ka != 13) = true := by simp; omega
  have d3 : (kb != 12) = true := by simp; omega
  have d4 : (kb != 13) = true := by simp; omega
  by_cases hbig : 55203 < 44032 + (q : Int) + 27
  · go_enter Try.func5, Try.ntmps5
    go_wp2_with fail
    generalize hf : (55176 : Int) = f
    have hf1 : 44032 ≤ f := by omega
    have hf2 : f ≤ 55176 := by omega
    clear hf hbig hq hq1
    go_loopw [4, 5] (fun s4 s5 wx => ∃ i : Nat, i ≤ 28 ∧ s5 = .int .i64 i ∧ s4 = .int .i64 (lvs f i) ∧ Below w.heap.size w wx) (fun _ s5 _ => 28 - (RowKit.intOf s5).toNat)
    case atStart => exact ⟨0, Nat.zero_le _, rfl, by rw [lvs_none], Below.refl _ _⟩
    case round =>
      obtain ⟨i, hi, rfl, rfl, hb⟩ := hrel
      have hlb := lvs_bounds f i
      by_cases hlt : i < 28
      · by_cases hk : (f + i - 44032) % 28 = 0
        · have CO := Lib.hid (of_as (f + i) 12 (syl_lv (by omega) (by omega) hk))
          have HN := Lib.hid (lvs_yes (f := f) (by omega) hlt hk)
          clear hk
          generalize lvs f i = s at *
          go_wp2_with fail
          refine (CO.out _).mono ?_
          rintro e w1 ⟨rfl, hb1⟩
          go_wp2
          go_roundw
          case rel => exact ⟨i + 1, by omega, by go_num, by rw [HN.out], hb.trans (hb1.mono hb.size)⟩
          case measure => simp [RowKit.intOf]; omega
        · have CO := Lib.hid (of_as (f + i) 13 (syl_lvt (by omega) (by omega) hk))
          have HN := Lib.hid (lvs_no (f := f) (by omega) hlt hk)
          clear hk
          generalize lvs f i = s at *
          go_wp2_with fail
          refine (CO.out _).mono ?_
          rintro e w1 ⟨rfl, hb1⟩
          go_wp2
          go_roundw
          case rel => exact ⟨i + 1, by omega, by go_num, by rw [HN.out], hb.trans (hb1.mono hb.size)⟩
          case measure => simp [RowKit.intOf]; omega
      · obtain rfl : i = 28 := by omega
        have hl1 : lvs f 28 = 1 := lvs_all _
        rw [hl1] at *
        clear hl1 hlb
        go_wp2_with fail
        refine (CA.out _).mono ?_
        rintro e w1 ⟨rfl, hb1⟩
        go_wp2_with fail
        refine (CB.out _).mono ?_
        rintro e w2 ⟨rfl, hb2⟩
        have h2 := hb.trans ((hb1.trans (hb2.mono hb1.size)).mono hb.size)
        clear hb hb1 hb2
        go_wp2_with fail
        refine (awake_any _).mono ?_
        rintro e w5 ⟨rfl, hb5⟩
        go_wp2
        go_ret
        exact ⟨rfl, h2.trans (hb5.mono h2.size)⟩
  · go_enter Try.func5, Try.ntmps5
    go_wp2_with fail
    generalize hf : (44032 + (q : Int) : Int) = f
    have hf1 : 44032 ≤ f := by omega
    have hf2 : f ≤ 55176 := by omega
    clear hf hbig hq hq1
    go_loopw [4, 5] (fun s4 s5 wx => ∃ i : Nat, i ≤ 28 ∧ s5 = .int .i64 i ∧ s4 = .int .i64 (lvs f i) ∧ Below w.heap.size w wx) (fun _ s5 _ => 28 - (RowKit.intOf s5).toNat)
    case atStart => exact ⟨0, Nat.zero_le _, rfl, by rw [lvs_none], Below.refl _ _⟩
    case round =>
      obtain ⟨i, hi, rfl, rfl, hb⟩ := hrel
      have hlb := lvs_bounds f i
      by_cases hlt : i < 28
      · by_cases hk : (f + i - 44032) % 28 = 0
        · have CO := Lib.hid (of_as (f + i) 12 (syl_lv (by omega) (by omega) hk))
          have HN := Lib.hid (lvs_yes (f := f) (by omega) hlt hk)
          clear hk
          generalize lvs f i = s at *
          go_wp2_with fail
          refine (CO.out _).mono ?_
          rintro e w1 ⟨rfl, hb1⟩
          go_wp2
          go_roundw
          case rel => exact ⟨i + 1, by omega, by go_num, by rw [HN.out], hb.trans (hb1.mono hb.size)⟩
          case measure => simp [RowKit.intOf]; omega
        · have CO := Lib.hid (of_as (f + i) 13 (syl_lvt (by omega) (by omega) hk))
          have HN := Lib.hid (lvs_no (f := f) (by omega) hlt hk)
          clear hk
          generalize lvs f i = s at *
          go_wp2_with fail
          refine (CO.out _).mono ?_
          rintro e w1 ⟨rfl, hb1⟩
          go_wp2
          go_roundw
          case rel => exact ⟨i + 1, by omega, by go_num, by rw [HN.out], hb.trans (hb1.mono hb.size)⟩
          case measure => simp [RowKit.intOf]; omega
      · obtain rfl : i = 28 := by omega
        have hl1 : lvs f 28 = 1 := lvs_all _
        rw [hl1] at *
        clear hl1 hlb
        go_wp2_with fail
        refine (CA.out _).mono ?_
        rintro e w1 ⟨rfl, hb1⟩
        go_wp2_with fail
        refine (CB.out _).mono ?_
        rintro e w2 ⟨rfl, hb2⟩
        have h2 := hb.trans ((hb1.trans (hb2.mono hb1.size)).mono hb.size)
        clear hb hb1 hb2
        go_wp2_with fail
        refine (awake_any _).mono ?_
        rintro e w5 ⟨rfl, hb5⟩
        go_wp2
        go_ret
        exact ⟨rfl, h2.trans (hb5.mono h2.size)⟩

set_option maxRecDepth 100000 in
theorem lifted (os : Os) (started : os.Started) (H : Type) (enc : TypeId × Value → H) :
    ReturnsInHanded {} Try.checked os 5 .any (Rows.gcbSyllablesSpec.pre6 enc Try.prog Try.f5 Rows.gcbSyllablesRow.domain false) (Rows.gcbSyllablesSpec.post enc Try.prog Try.f5 false true false false) := by
  refine returnsInHanded_of_change (C := Try.checked) law_own started (by kernel_rfl) Try.func5
    (ChangeSpec.witness6 (enc := enc) (C := Try.checked) false ⟨#[], #[.int .i64 0], []⟩ 8 (by kernel_rfl) (by kernel_rfl) (by kernel_rfl) (by kernel_rfl)) ?_
  intro W base args ds gs before hval0 hW _ _
  have hval : ∀ (j : Nat) t v, Try.f5.params[j]? = some t → args[j]? = some v → Value.okWide Try.prog W .any base t v := hval0
  have hW' := hW
  obtain ⟨p, q, hA0, hV, rfl, hfz, hnd⟩ := hW
  have hA : DataW.TrodAll enc Try.prog W 0 (fun _ => true) true Try.f5.params.toList args.toList ds p := hA0
  rw [Try.params5] at hA hval
  obtain ⟨v0, vs0, d0, ds0, p0, q0, hargs, rfl, rfl, h0, r0⟩ := ChangeShapes.trodAll_cons hA
  obtain ⟨rfl, rfl, rfl⟩ := ChangeShapes.trodAll_nil r0
  obtain rfl : args = #[v0] := by cases args; simp_all
  obtain ⟨rfl, rfl⟩ := ChangeShapes.trodVars_none hV
  obtain ⟨x0, rfl, rfl, rfl, wx0⟩ := open_int Try.underlying3 (hval 0 3 v0 rfl rfl) h0
  refine (walk W x0).mono fun e W' ⟨he, hB⟩ => ?_
  subst he
  exact ⟨_, rfl, law_post hW' rfl rfl (by kernel_rfl) rfl hB⟩

theorem holds : Rows.GcbSyllablesSaid :=
  OpenClaim.holds_of_wide 5 Try.f5 rfl rfl rfl rfl rfl rfl rfl ⟨rfl, rfl, rfl, rfl, rfl⟩ rfl rfl rfl rfl rfl (by kernel_rfl) Try.func5 (by kernel_rfl)
    (of_decide_eq_true (by kernel_rfl)) (by unfold Func.isWrapper; first | (rw [if_pos (by decide +kernel)]; kernel_rfl) | (rw [if_neg (by decide +kernel)]; exact ⟨rfl, rfl⟩))
    (fun os started H enc _ => lifted os started H enc)
end Go.Proofs.Ytkghmochfohiiaa.GcbSyllables
