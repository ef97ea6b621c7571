/-
  Proved here: for every text and every number, RunesPlaces returns true (in a text of at most 1000 bytes the place of the rune that begins at any byte is the document's, or none does), and the text stays. No condition.
-/
import Derived.Test.YtlipcabfjikmkaaRnAwake
import Derived.Test.YtlipcabfjikmkaaRfSplit
import Derived.Test.YtlipcabfjikmkaaLawKit
set_option linter.unusedVariables false
namespace Go.Proofs.Ytlipcabfjikmkaa.RunesPlaces
open Go.RowKit Go.Lib Go.Proofs.Ytlipcabfjikmkaa.Rn

theorem chain_ge : ∀ (rs : List (Nat × Nat × Nat)) (a b j : Nat) (r : Nat × Nat × Nat), Chain rs a b → rs[j]? = some r → a ≤ r.1
  | [], _, _, _, _, _, h => by simp at h
  | r0 :: rs, a, b, 0, r, hc, h => by
    simp at h
    subst h
    exact Nat.le_of_eq hc.1.symm
  | r0 :: rs, a, b, j + 1, r, hc, h => by
    have := chain_ge rs _ b j r hc.2.2.2.2 (by simpa using h)
    omega
theorem place_some : ∀ (rs : List (Nat × Nat × Nat)) (a b j n : Nat) (r : Nat × Nat × Nat), Chain rs a b → rs[j]? = some r → placeF rs (r.1 : Int) n = (n + j, true)
  | [], _, _, _, _, _, _, h => by simp at h
  | r0 :: rs, a, b, 0, n, r, hc, h => by
    simp at h
    subst h
    simp [placeF]
  | r0 :: rs, a, b, j + 1, n, r, hc, h => by
    have h' : rs[j]? = some r := by simpa using h
    have h1 := chain_ge rs _ b j r hc.2.2.2.2 h'
    have h2 := hc.1
    have h3 := hc.2.1
    have := place_some rs _ b j (n + 1) r hc.2.2.2.2 h'
    rw [placeF, if_neg (by omega), this, show n + 1 + j = n + (j + 1) from by omega]
theorem place_none : ∀ (rs : List (Nat × Nat × Nat)) (x : Int) (n : Nat), (∀ (j : Nat) (r : Nat × Nat × Nat), rs[j]? = some r → (r.1 : Int) ≠ x) → placeF rs x n = (0, false)
  | [], _, _, _ => rfl
  | r0 :: rs, x, n, h => by
    rw [placeF, if_neg (h 0 r0 rfl), place_none rs x (n + 1) (fun j r hj => h (j + 1) r (by simpa using hj))]

/-- What the statement's variable 'want' holds behind k rounds. -/
def Want (rs : List (Nat × Nat × Nat)) (x : Int) (k : Nat) (v : Int) : Prop :=
  (v = -1 ∧ ∀ (j : Nat) (r : Nat × Nat × Nat), j < k → rs[j]? = some r → (r.1 : Int) ≠ x) ∨ ∃ (j : Nat) (r : Nat × Nat × Nat), v = j ∧ j < k ∧ rs[j]? = some r ∧ (r.1 : Int) = x
theorem want_no {rs : List (Nat × Nat × Nat)} {x : Int} {k : Nat} {v : Int} {r : Nat × Nat × Nat} (h : Want rs x k v) (hk : rs[k]? = some r) (hx : (r.1 : Int) ≠ x) : Want rs x (k + 1) v := by
  rcases h with ⟨hv, h⟩ | ⟨j, r', hv, hj, hr, he⟩
  · refine .inl ⟨hv, fun j r' hj hr => ?_⟩
    by_cases e : j = k
    · subst e
      rw [hk] at hr
      injection hr with hr
      exact hr ▸ hx
    · exact h j r' (by omega) hr
  · exact .inr ⟨j, r', hv, by omega, hr, he⟩
theorem want_yes {rs : List (Nat × Nat × Nat)} {x : Int} {k : Nat} {r : Nat × Nat × Nat} (hk : rs[k]? = some r) (hx : (r.1 : Int) = x) : Want rs x (k + 1) k :=
  .inr ⟨k, r, rfl, by omega, hk, hx⟩
theorem want_range {rs : List (Nat × Nat × Nat)} {x : Int} {k : Nat} {v : Int} (h : Want rs x k v) : -1 ≤ v ∧ v < k := by
  rcases h with ⟨hv, _⟩ | ⟨j, r', hv, hj, _⟩ <;> omega

set_option maxHeartbeats 1000000 in
set_option maxRecDepth 1000000 in
theorem walk (s : ByteArray) (x : Int) (w : World) (hs0 : s.size ≤ 9223372036854775807) :
    Calls Try.prog 5 #[.string s, .int .i64 x] w fun e w' => e = .returned (.bool true) ∧ Below w.heap.size w w' := by
  by_cases hbig : 1000 < s.size
  · go_enter Try.func5, Try.ntmps5
    go_wp2_with (go_at_call 9; refine (awake_any _).mono ?_; rintro e w' ⟨rfl, hb⟩)
    go_ret
    exact ⟨rfl, hb⟩
  · go_enter Try.func5, Try.ntmps5
    go_wp2_with fail
    refine (refsplit_reads s _ (by omega)).mono ?_
    rintro e w1 ⟨A, c, rfl, hr, hb1⟩
    have hch := chain_split s.data.toList.length s.data.toList 0 (Nat.le_refl _)
    have hln := splitA_len s.data.toList.length s.data.toList 0 (Nat.le_refl _)
    rw [← Lib.size_eq] at hch hln
    rw [Nat.zero_add] at hch
    have hpl : ∀ (y : Int), placeA s.data.toList y = placeF (splitA s.data.toList 0) y 0 := fun _ => rfl
    have hps : ∀ (y : Int) (W : World), Calls Try.prog 17 #[.string s, .int .i64 y] W fun e w' => e = .returned (.tuple #[.int .i64 (placeA s.data.toList y).1, .bool (placeA s.data.toList y).2]) ∧ Below W.heap.size W w' := fun y W => place_any s y W (by omega)
    obtain ⟨rs, hrs⟩ : ∃ rs, splitA s.data.toList 0 = rs := ⟨_, rfl⟩
    rw [hrs] at hr hch hln hpl ⊢
    clear hrs
    have hpl2 : ∀ (y : Int) (W : World), Calls Try.prog 17 #[.string s, .int .i64 y] W fun e w' => e = .returned (.tuple #[.int .i64 (placeF rs y 0).1, .bool (placeF rs y 0).2]) ∧ Below W.heap.size W w' := fun y W => by
      have := hps y W
      rw [hpl y] at this
      exact this
    have HP := Lib.hid hpl2
    have HR := Lib.hid hr
    have HCH := Lib.hid hch
    clear hr hch hpl hps hpl2
    go_wp2_with fail
    go_loopw [6, 7] (fun s6 s7 wx => ∃ (k : Nat) (v : Int), k ≤ rs.length ∧ s7 = .int .i64 k ∧ s6 = .int .i64 v ∧ Want rs x k v ∧ Below w1.heap.size w1 wx) (fun _ s7 _ => rs.length - (RowKit.intOf s7).toNat)
    case atStart => exact ⟨0, -1, Nat.zero_le _, rfl, rfl, .inl ⟨rfl, fun j r hj => by omega⟩, Below.refl _ _⟩
    case round =>
      obtain ⟨k, v, hk, rfl, rfl, hw, hbw⟩ := hrel
      have hwr := want_range hw
      by_cases hlt : k < rs.length
      · obtain ⟨g, rfl, hg, c0, c1, c2⟩ := (HR.out.below hbw) k hlt
        have hkk : rs[k]? = some rs[k] := List.getElem?_eq_getElem hlt
        have hpk := place_some rs 0 s.size k 0 rs[k] HCH.out hkk
        have cP := HP.out (rs[k].1 : Int) wr
        rw [hpk, Nat.zero_add] at cP
        obtain ⟨r, hr⟩ : ∃ r, rs[k] = r := ⟨_, rfl⟩
        rw [hr] at c0 c1 c2 hkk cP
        have HK := Lib.hid hkk
        have HC := Lib.hid cP
        have HW := Lib.hid hw
        clear hpk cP hr hkk hw c1 c2
        cases hx : ((r.1 : Int) == x)
        · go_wp2_with (go_at_call 17; refine HC.out.mono ?_; rintro e W ⟨rfl, hb⟩)
          go_roundw
          case rel => exact ⟨k + 1, v, by omega, by go_num, rfl, want_no HW.out HK.out (by simpa using hx), hbw.trans (hb.mono hbw.size)⟩
          case measure => simp [RowKit.intOf]; omega
        · go_wp2_with (go_at_call 17; refine HC.out.mono ?_; rintro e W ⟨rfl, hb⟩)
          go_roundw
          case rel => exact ⟨k + 1, k, by omega, by go_num, rfl, want_yes HK.out (by simpa using hx), hbw.trans (hb.mono hbw.size)⟩
          case measure => simp [RowKit.intOf]; omega
      · have hbx := hb1.trans (hbw.mono hb1.size)
        rcases hw with ⟨rfl, hw⟩ | ⟨j, r, rfl, hj, hr, he⟩
        · have hpx := place_none rs x 0 (fun j r hj => hw j r (by have := (List.getElem?_eq_some_iff.1 hj).1; omega) hj)
          have cP := HP.out x wr
          rw [hpx] at cP
          have HC := Lib.hid cP
          clear hpx cP hw HP HR HCH
          have hj0 : ((0 : Int) == max (-1) 0) = true := by decide
          go_wp2_with (first
            | (go_at_call 17; refine HC.out.mono ?_; rintro e W ⟨rfl, hb⟩)
            | (go_at_call 9; refine (awake_any _).mono ?_; rintro e w' ⟨rfl, hb'⟩))
          go_ret
          exact ⟨rfl, (hbx.trans (hb.mono hbx.size)).trans (hb'.mono (Nat.le_trans hbx.size hb.size))⟩
        · have hpx := place_some rs 0 s.size j 0 r HCH.out hr
          rw [he, Nat.zero_add] at hpx
          have cP := HP.out x wr
          rw [hpx] at cP
          have HC := Lib.hid cP
          clear hpx cP HP HR HCH hr he
          have hj0 : decide ((0 : Int) ≤ (j : Int)) = true := by simp
          go_wp2_with (first
            | (go_at_call 17; refine HC.out.mono ?_; rintro e W ⟨rfl, hb⟩)
            | (go_at_call 9; refine (awake_any _).mono ?_; rintro e w' ⟨rfl, hb'⟩))
          go_ret
          exact ⟨rfl, (hbx.trans (hb.mono hbx.size)).trans (hb'.mono (Nat.le_trans hbx.size hb.size))⟩

set_option maxRecDepth 100000 in
theorem lifted (os : Os) (started : os.Started) (H : Type) (enc : TypeId × Value → H) :
    ReturnsInHanded {} Try.checked os 5 .any (Rows.runesPlacesSpec.pre6 enc Try.prog Try.f5 Rows.runesPlacesRow.domain false) (Rows.runesPlacesSpec.post enc Try.prog Try.f5 false true false false) := by
  refine returnsInHanded_of_change (C := Try.checked) law_own started (by kernel_rfl) Try.func5
    (ChangeSpec.witness6 (enc := enc) (C := Try.checked) false ⟨#[], #[.string ⟨#[]⟩, .int .i64 0], []⟩ 8 (by kernel_rfl) (by kernel_rfl) (by kernel_rfl) (by kernel_rfl)) ?_
  intro W base args ds gs before hval0 hW _ _
  have hval : ∀ (j : Nat) t v, Try.f5.params[j]? = some t → args[j]? = some v → Value.okWide Try.prog W .any base t v := hval0
  have hW' := hW
  obtain ⟨p, q, hA0, hV, rfl, hfz, hnd⟩ := hW
  have hA : DataW.TrodAll enc Try.prog W 0 (fun _ => true) true Try.f5.params.toList args.toList ds p := hA0
  rw [Try.params5] at hA hval
  obtain ⟨v0, vs0, d0, ds0, p0, q0, hargs, rfl, rfl, h0, r0⟩ := ChangeShapes.trodAll_cons hA
  obtain ⟨v1, vs1, d1, ds1, p1, q1, rfl, rfl, rfl, h1, r1⟩ := ChangeShapes.trodAll_cons r0
  obtain ⟨rfl, rfl, rfl⟩ := ChangeShapes.trodAll_nil r1
  obtain rfl : args = #[v0, v1] := by cases args; simp_all
  obtain ⟨rfl, rfl⟩ := ChangeShapes.trodVars_none hV
  obtain ⟨s, rfl, rfl, rfl, ws⟩ := ChangeMaps.open_string Try.underlying9 (hval 0 9 v0 rfl rfl) h0
  obtain ⟨x, rfl, rfl, rfl, wx⟩ := ChangeShapes.open_int Try.underlying3 (hval 1 3 v1 rfl rfl) h1
  unfold maxLen at ws
  refine (walk s x W (by omega)).mono fun e W' ⟨he, hB⟩ => ?_
  subst he
  exact ⟨_, rfl, law_post hW' rfl rfl (by kernel_rfl) rfl hB⟩

theorem holds : Rows.RunesPlacesSaid :=
  OpenClaim.holds_of_wide 5 Try.f5 rfl rfl rfl rfl rfl rfl rfl ⟨rfl, rfl, rfl, rfl, rfl⟩ rfl rfl rfl rfl rfl (by kernel_rfl) Try.func5 (by kernel_rfl)
    (of_decide_eq_true (by kernel_rfl)) (by unfold Func.isWrapper; first | (rw [if_pos (by decide +kernel)]; kernel_rfl) | (rw [if_neg (by decide +kernel)]; exact ⟨rfl, rfl⟩))
    (fun os started H enc _ => lifted os started H enc)
end Go.Proofs.Ytlipcabfjikmkaa.RunesPlaces
