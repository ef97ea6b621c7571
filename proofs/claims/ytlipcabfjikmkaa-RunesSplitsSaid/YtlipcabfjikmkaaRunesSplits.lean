/-
  Proved here: for every text, RunesSplits returns true (which runes a text of at most 4000 bytes has, and whether it is valid, is the document's; what is answered is new memory), and the text stays. No condition.
-/
import Derived.Test.YtlipcabfjikmkaaRnAwake
import Derived.Test.YtlipcabfjikmkaaRfSame
import Derived.Test.YtlipcabfjikmkaaLawKit
set_option linter.unusedVariables false
namespace Go.Proofs.Ytlipcabfjikmkaa.Rn
open Go.RowKit Go.Lib

theorem grown_setRow (w : World) (g : Nat) (cs : Array Value) : w.grownBy (w.setRow g cs) (some g) := by
  refine ⟨rfl, rfl, rfl, by simp [World.setRow], fun k _ hne => ?_⟩
  simp only [World.setRow, Array.getElem?_modify]
  rw [if_neg (fun e => hne (by rw [e]))]

theorem zero_cells_one (n : Nat) : ∀ v ∈ (Builtin.zeroCells (Value.agg #[.int .i64 0, .int .i64 0, .int .i64 0]).cells n).toList, v.oneCell' = true := by
  intro v hv
  simp [Builtin.zeroCells, Value.cells] at hv
  obtain ⟨a, _, rfl⟩ := hv
  have : a % 3 = 0 ∨ a % 3 = 1 ∨ a % 3 = 2 := by omega
  rcases this with h | h | h <;> rw [h] <;> rfl
theorem zero_cells_len (n : Nat) : (Builtin.zeroCells (Value.agg #[.int .i64 0, .int .i64 0, .int .i64 0]).cells n).toList.length = n * 3 := by
  simp [Builtin.zeroCells, Value.cells]

/-- clear of a row of runes of the call's own: no other block changes. -/
theorem clear_own {w : World} {B : Nat} {v : Value} {n : Nat} {xs : List Value} (h : w.ownsRow B 27 3 v n xs) :
    ∃ w', (∀ ty, (Builtin.clear_ #[23] ty #[v]).run Try.prog w = .ok (.tuple #[]) w') ∧ w.grownBy w' v.ownBlock := by
  rcases h.2 with ⟨rfl, hn⟩ | ⟨g, cap, cur, rfl, _, hg, hnc, _, hsz, _⟩
  · exact ⟨w, fun ty => by simp [Builtin.clear_, run_underlying Try.underlying23], World.grownBy.refl w _⟩
  · rcases Nat.eq_zero_or_pos n with h0 | h0
    · subst h0
      exact ⟨w, fun ty => by simp [Builtin.clear_, run_underlying Try.underlying23], World.grownBy.refl w _⟩
    · obtain ⟨CS, hst⟩ : ∃ CS, (storeCells ⟨g, 0, none⟩ (Builtin.zeroCells (Value.agg #[.int .i64 0, .int .i64 0, .int .i64 0]).cells n).toList 0).run Try.prog w = .ok () (w.setRow g CS) :=
        ⟨_, run_storeCells_at Try.prog g 0 27 _ 0 cur w hg (by rw [zero_cells_len, hsz]; have := Nat.mul_le_mul_right 3 hnc; omega) (zero_cells_one n)⟩
      have hzv : ∀ w, (zeroValue 27).run Try.prog w = .ok (.agg #[.int .i64 0, .int .i64 0, .int .i64 0]) w := fun _ => by kernel_rfl
      refine ⟨w.setRow g CS, fun ty => ?_, grown_setRow w g CS⟩
      obtain ⟨m, rfl⟩ : ∃ m, n = m + 1 := ⟨n - 1, by omega⟩
      simp [Builtin.clear_, run_underlying Try.underlying23, hzv, hst]
end Go.Proofs.Ytlipcabfjikmkaa.Rn

namespace Go.Proofs.Ytlipcabfjikmkaa.RunesSplits
open Go.RowKit Go.Lib Go.Proofs.Ytlipcabfjikmkaa.Rn

def allB (rs : List (Nat × Nat × Nat)) (k : Nat) : Bool := (rs.take k).all fun r => !oddR r
theorem allB_next (rs : List (Nat × Nat × Nat)) (k : Nat) (hk : k < rs.length) : allB rs (k + 1) = (allB rs k && !oddR rs[k]) := by
  unfold allB
  rw [List.take_succ_eq_append_getElem hk, List.all_append]
  simp

set_option maxHeartbeats 1000000 in
set_option maxRecDepth 1000000 in
theorem walk (s : ByteArray) (w : World) (hs0 : s.size ≤ 9223372036854775807) :
    Calls Try.prog 3 #[.string s] w fun e w' => e = .returned (.bool true) ∧ Below w.heap.size w w' := by
  by_cases hbig : 4000 < s.size
  · go_enter Try.func3, Try.ntmps3
    go_wp2_with (go_at_call 9; refine (awake_any _).mono ?_; rintro e w' ⟨rfl, hb⟩)
    go_ret
    exact ⟨rfl, hb⟩
  · have hsp : ∀ W : World, _ := fun W => split_any s W (by omega)
    have hva : ∀ W : World, _ := fun W => valid_any s W (by omega)
    have hall : allB (splitA s.data.toList 0) (splitA s.data.toList 0).length = validA s.data.toList := by unfold allB validA; rw [List.take_length]
    have hln := splitA_len s.data.toList.length s.data.toList 0 (Nat.le_refl _)
    rw [← Lib.size_eq] at hln
    go_enter Try.func3, Try.ntmps3
    go_wp2_with fail
    refine (refsplit_reads s _ (by omega)).mono ?_
    rintro e w1 ⟨A, c, rfl, hr, hb1⟩
    obtain ⟨rs, hrs⟩ : ∃ rs, splitA s.data.toList 0 = rs := ⟨_, rfl⟩
    obtain ⟨vv, hvv⟩ : ∃ vv, validA s.data.toList = vv := ⟨_, rfl⟩
    rw [hrs] at hr hln hall hsp ⊢
    rw [hvv] at hall hva
    clear hrs hvv
    have HR := Lib.hid hr
    have HA := Lib.hid hall
    have HS := Lib.hid hsp
    have HV := Lib.hid hva
    clear hr hall hsp hva
    go_wp2_with fail
    go_loopw [4, 5] (fun s4 s5 wx => ∃ k : Nat, k ≤ rs.length ∧ s5 = .int .i64 k ∧ s4 = .bool (allB rs k) ∧ Below w1.heap.size w1 wx) (fun _ s5 _ => rs.length - (RowKit.intOf s5).toNat)
    case atStart => exact ⟨0, Nat.zero_le _, rfl, rfl, Below.refl _ _⟩
    case round =>
      obtain ⟨k, hk, rfl, rfl, hbw⟩ := hrel
      by_cases hlt : k < rs.length
      · obtain ⟨g, rfl, hg, c0, c1, c2⟩ := (HR.out.below hbw) k hlt
        have hnx := allB_next rs k hlt
        obtain ⟨r, hr⟩ : ∃ r, rs[k] = r := ⟨_, rfl⟩
        rw [hr] at c0 c1 c2 hnx
        have HN := Lib.hid hnx
        clear hr hnx HR HA HS HV
        cases hb : allB rs k
        · rw [hb] at HN
          go_wp2_with fail
          go_roundw
          case rel => exact ⟨k + 1, by omega, by go_num, by rw [HN.out]; rfl, hbw⟩
          case measure => simp [RowKit.intOf]; omega
        · rw [hb] at HN
          go_wp2_with (go_at_call 11; refine (refodd_any r _).mono ?_; rintro e W ⟨rfl, hbo⟩)
          go_roundw
          case rel => exact ⟨k + 1, by omega, by go_num, by rw [HN.out]; simp, hbw.trans (hbo.mono hbw.size)⟩
          case measure => simp [RowKit.intOf]; omega
      · obtain rfl : k = rs.length := by omega
        rw [HA.out]
        have hR2 := HR.out.below hbw
        have HR2 := Lib.hid hR2
        clear hR2 HR HA
        have hbx := hb1.trans (hbw.mono hb1.size)
        clear hb1 hbw
        cases vv
        all_goals
          go_wp2_with fail
          refine (HS.out wr).mono ?_
          rintro e w3 ⟨v, rfl, hown, hb3⟩
          obtain ⟨A2, c2, hv2, hr2⟩ := runesAt_own hown
          subst hv2
          have hwant := HR2.out.below hb3
          go_wp2_with fail
          refine (same_yes _ _ rs _ _ _ hr2 hwant (by omega)).mono ?_
          rintro e w4 ⟨rfl, hb4⟩
          go_wp2_with fail
          refine (HV.out w4).mono ?_
          rintro e w5 ⟨rfl, hb5⟩
          have hown5 := own_below (own_below hown hb4) hb5
          have hlow := fun g hg => (hown5.lt g hg).1
          obtain ⟨w6, hcl, hgr⟩ := clear_own hown5
          have hb35 := (hb3.trans (hb4.mono hb3.size)).trans (hb5.mono (Nat.le_trans hb3.size hb4.size))
          have hb36 : Below wr.heap.size wr w6 := hb35.grown hgr hb35.size hlow
          clear hgr hown hown5 hr2 hwant hb35 hlow hb3 hb4 hb5
          go_wp2_with fail
          refine (HS.out w6).mono ?_
          rintro e w7 ⟨v7, rfl, hown7, hb7⟩
          obtain ⟨A7, c7, hv7, hr7⟩ := runesAt_own hown7
          subst hv7
          have hb37 := hb36.trans (hb7.mono hb36.size)
          have hwant := HR2.out.below hb37
          clear hown7 hcl
          go_wp2_with fail
          refine (same_yes _ _ rs _ _ _ hr7 hwant (by omega)).mono ?_
          rintro e w8 ⟨rfl, hb8⟩
          go_wp2_with fail
          refine (awake_any _).mono ?_
          rintro e w9 ⟨rfl, hb9⟩
          go_wp2_with fail
          go_ret
          have hb38 := hb37.trans (hb8.mono hb37.size)
          have hb39 := hb38.trans (hb9.mono hb38.size)
          exact ⟨rfl, hbx.trans (hb39.mono hbx.size)⟩

set_option maxRecDepth 100000 in
theorem lifted (os : Os) (started : os.Started) (H : Type) (enc : TypeId × Value → H) :
    ReturnsInHanded {} Try.checked os 3 .any (Rows.runesSplitsSpec.pre6 enc Try.prog Try.f3 Rows.runesSplitsRow.domain false) (Rows.runesSplitsSpec.post enc Try.prog Try.f3 false true false false) := by
  refine returnsInHanded_of_change (C := Try.checked) law_own started (by kernel_rfl) Try.func3
    (ChangeSpec.witness6 (enc := enc) (C := Try.checked) false ⟨#[], #[.string ⟨#[]⟩], []⟩ 8 (by kernel_rfl) (by kernel_rfl) (by kernel_rfl) (by kernel_rfl)) ?_
  intro W base args ds gs before hval0 hW _ _
  have hval : ∀ (j : Nat) t v, Try.f3.params[j]? = some t → args[j]? = some v → Value.okWide Try.prog W .any base t v := hval0
  have hW' := hW
  obtain ⟨p, q, hA0, hV, rfl, hfz, hnd⟩ := hW
  have hA : DataW.TrodAll enc Try.prog W 0 (fun _ => true) true Try.f3.params.toList args.toList ds p := hA0
  rw [Try.params3] at hA hval
  obtain ⟨v0, vs0, d0, ds0, p0, q0, hargs, rfl, rfl, h0, r0⟩ := ChangeShapes.trodAll_cons hA
  obtain ⟨rfl, rfl, rfl⟩ := ChangeShapes.trodAll_nil r0
  obtain rfl : args = #[v0] := by cases args; simp_all
  obtain ⟨rfl, rfl⟩ := ChangeShapes.trodVars_none hV
  obtain ⟨s, rfl, rfl, rfl, ws⟩ := ChangeMaps.open_string Try.underlying9 (hval 0 9 v0 rfl rfl) h0
  unfold maxLen at ws
  refine (walk s W (by omega)).mono fun e W' ⟨he, hB⟩ => ?_
  subst he
  exact ⟨_, rfl, law_post hW' rfl rfl (by kernel_rfl) rfl hB⟩

theorem holds : Rows.RunesSplitsSaid :=
  OpenClaim.holds_of_wide 3 Try.f3 rfl rfl rfl rfl rfl rfl rfl ⟨rfl, rfl, rfl, rfl, rfl⟩ rfl rfl rfl rfl rfl (by kernel_rfl) Try.func3 (by kernel_rfl)
    (of_decide_eq_true (by kernel_rfl)) (by unfold Func.isWrapper; first | (rw [if_pos (by decide +kernel)]; kernel_rfl) | (rw [if_neg (by decide +kernel)]; exact ⟨rfl, rfl⟩))
    (fun os started H enc _ => lifted os started H enc)
end Go.Proofs.Ytlipcabfjikmkaa.RunesSplits
