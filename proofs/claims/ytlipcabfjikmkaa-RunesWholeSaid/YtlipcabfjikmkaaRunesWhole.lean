/-
  Proved here: for every text, RunesWhole returns true (the runes of a text of at most 4000 bytes follow one another without a gap, from 0 to its end, each of one to four bytes), and the text stays. No condition.
-/
import Derived.Test.YtlipcabfjikmkaaRnAwake
import Derived.Test.YtlipcabfjikmkaaLawKit
set_option linter.unusedVariables false
namespace Go.Proofs.Ytlipcabfjikmkaa.RunesWhole
open Go.RowKit Go.Lib Go.Proofs.Ytlipcabfjikmkaa.Rn

set_option maxHeartbeats 1000000 in
set_option maxRecDepth 100000 in
theorem walk (s : ByteArray) (w : World) (hs0 : s.size ≤ 9223372036854775807) :
    Calls Try.prog 6 #[.string s] w fun e w' => e = .returned (.bool true) ∧ Below w.heap.size w w' := by
  by_cases hbig : 4000 < s.size
  · go_enter Try.func6, Try.ntmps6
    go_wp2_with (go_at_call 9; refine (awake_any _).mono ?_; rintro e w' ⟨rfl, hb⟩)
    go_ret
    exact ⟨rfl, hb⟩
  · go_enter Try.func6, Try.ntmps6
    go_wp2_with fail
    refine (split_reads s _ (by omega)).mono ?_
    rintro e w1 ⟨A, c, rfl, hr, hb1⟩
    have hch := chain_split s.data.toList.length s.data.toList 0 (Nat.le_refl _)
    have hln := splitA_len s.data.toList.length s.data.toList 0 (Nat.le_refl _)
    rw [← Lib.size_eq] at hch hln
    rw [Nat.zero_add] at hch
    obtain ⟨rs, hrs⟩ : ∃ rs, splitA s.data.toList 0 = rs := ⟨_, rfl⟩
    rw [hrs] at hr hch hln ⊢
    clear hrs
    have HR := Lib.hid hr
    clear hr
    go_wp2_with fail
    go_loop [3, 5] (fun s3 s5 => ∃ k a : Nat, k ≤ rs.length ∧ a ≤ s.size ∧ s3 = .int .i64 a ∧ s5 = .int .i64 k ∧ Chain (rs.drop k) a s.size) (fun _ s5 => rs.length - (RowKit.intOf s5).toNat)
    case atStart => exact ⟨0, 0, Nat.zero_le _, Nat.zero_le _, rfl, rfl, hch⟩
    case round =>
      obtain ⟨k, a, hk, ha, rfl, rfl, hc⟩ := hrel
      by_cases hlt : k < rs.length
      · obtain ⟨g, rfl, hg, c0, c1, c2⟩ := HR.out k hlt
        obtain ⟨e0, l1, l4, lc, hc'⟩ := chain_at hc hlt
        have hle := chain_le _ _ _ hc'
        rw [e0] at c0
        obtain ⟨z, hz⟩ : ∃ z, rs[k].2.1 = z := ⟨_, rfl⟩
        obtain ⟨y, hy⟩ : ∃ y, rs[k].2.2 = y := ⟨_, rfl⟩
        rw [hz] at c1 l1 l4 hc' hle
        rw [hy] at c2 lc
        have HC := Lib.hid hc'
        clear hc hc' e0 hz hy HR hch
        go_wp2_with fail
        go_round
        case rel => exact ⟨k + 1, a + z, by omega, by omega, by go_num, by go_num, HC.out⟩
        case measure => simp [RowKit.intOf]; omega
      · have he := chain_end hc (by omega)
        obtain rfl : k = rs.length := by omega
        subst he
        clear hc hch HR
        go_wp2_with (go_at_call 9; refine (awake_any _).mono ?_; rintro e w' ⟨rfl, hb⟩)
        go_ret
        exact ⟨rfl, hb1.trans (hb.mono hb1.size)⟩

set_option maxRecDepth 100000 in
theorem lifted (os : Os) (started : os.Started) (H : Type) (enc : TypeId × Value → H) :
    ReturnsInHanded {} Try.checked os 6 .any (Rows.runesWholeSpec.pre6 enc Try.prog Try.f6 Rows.runesWholeRow.domain false) (Rows.runesWholeSpec.post enc Try.prog Try.f6 false true false false) := by
  refine returnsInHanded_of_change (C := Try.checked) law_own started (by kernel_rfl) Try.func6
    (ChangeSpec.witness6 (enc := enc) (C := Try.checked) false ⟨#[], #[.string ⟨#[]⟩], []⟩ 8 (by kernel_rfl) (by kernel_rfl) (by kernel_rfl) (by kernel_rfl)) ?_
  intro W base args ds gs before hval0 hW _ _
  have hval : ∀ (j : Nat) t v, Try.f6.params[j]? = some t → args[j]? = some v → Value.okWide Try.prog W .any base t v := hval0
  have hW' := hW
  obtain ⟨p, q, hA0, hV, rfl, hfz, hnd⟩ := hW
  have hA : DataW.TrodAll enc Try.prog W 0 (fun _ => true) true Try.f6.params.toList args.toList ds p := hA0
  rw [Try.params6] at hA hval
  obtain ⟨v0, vs0, d0, ds0, p0, q0, hargs, rfl, rfl, h0, r0⟩ := ChangeShapes.trodAll_cons hA
  obtain ⟨rfl, rfl, rfl⟩ := ChangeShapes.trodAll_nil r0
  obtain rfl : args = #[v0] := by cases args; simp_all
  obtain ⟨rfl, rfl⟩ := ChangeShapes.trodVars_none hV
  obtain ⟨s, rfl, rfl, rfl, ws⟩ := ChangeMaps.open_string Try.underlying9 (hval 0 9 v0 rfl rfl) h0
  unfold maxLen at ws
  refine (walk s W (by omega)).mono fun e W' ⟨he, hB⟩ => ?_
  subst he
  exact ⟨_, rfl, law_post hW' rfl rfl (by kernel_rfl) rfl hB⟩

theorem holds : Rows.RunesWholeSaid :=
  OpenClaim.holds_of_wide 6 Try.f6 rfl rfl rfl rfl rfl rfl rfl ⟨rfl, rfl, rfl, rfl, rfl⟩ rfl rfl rfl rfl rfl (by kernel_rfl) Try.func6 (by kernel_rfl)
    (of_decide_eq_true (by kernel_rfl)) (by unfold Func.isWrapper; first | (rw [if_pos (by decide +kernel)]; kernel_rfl) | (rw [if_neg (by decide +kernel)]; exact ⟨rfl, rfl⟩))
    (fun os started H enc _ => lifted os started H enc)
end Go.Proofs.Ytlipcabfjikmkaa.RunesWhole
