/-
  Proved here: for every row of numbers and every level LevelExplicit returns true (the levels, and as what is told, of any numbers as classes, in a paragraph of any level, are what the document says, where they are at most 400; they stay), and the row stays. No condition.
-/
import Derived.Test.YtkeialfnmdicoaaLvAwake
import Derived.Test.YtkeialfnmdicoaaLvRefN
import Derived.Test.YtkeialfnmdicoaaAppSrc
import Derived.Test.YtkeialfnmdicoaaClearInts
import Derived.Test.YtkeialfnmdicoaaLawKit
import Derived.Test.YtkeialfnmdicoaaLawInts
import Derived.Stop.Joined
set_option linter.unusedVariables false
namespace Go.Proofs.Ytkeialfnmdicoaa.LevelExplicit
open Go.ChangeShapes Go.WideShapes Go.ChangeAt Go.RowKit Go.Lib Go.Proofs.Ytkeialfnmdicoaa.Lv Go.Proofs.Ytkeialfnmdicoaa.Cl Go.Proofs.Ytkeialfnmdicoaa.Rc

theorem own_cap {w : World} {base n : Nat} {e : TypeId} {A : Option Addr} {c : Nat} {xs : List Value} (h : w.ownsRow base e 1 (.slice A n c) n xs) : n ≤ c := by
  rcases h.2 with ⟨h1, h2⟩ | ⟨g1, c1, cur, hv, _, _, hle, _⟩
  · omega
  · cases hv; exact hle

theorem clear_nil (w : World) (ty : TypeId) : (Builtin.clear_ #[22] ty #[.slice none 0 0]).run Try.prog w = .ok (.tuple #[]) w := by
  simp [Builtin.clear_, run_underlying Try.underlying22]

set_option maxHeartbeats 1000000 in
set_option maxRecDepth 100000 in
theorem nexplicit_none (A : Option Addr) (x : Int) (n m : Nat) (w : World) (h0 : x ≠ 0) (h1 : x ≠ 1) :
    Calls Try.prog 10 #[.slice A n m, .int .i64 x] w fun e w' => e = .returned (.tuple #[.slice none 0 0, .slice none 0 0]) ∧ w = w' := by
  by_cases hx : x < 0
  · have kA : decide (x < 0) = true := decide_eq_true hx
    go_enter Try.func10, Try.ntmps10
    go_wp2
    go_ret2
    exact ⟨rfl, rfl⟩
  · have kA : decide (x < 0) = false := decide_eq_false hx
    have kB : decide (1 < x) = true := decide_eq_true (by omega)
    go_enter Try.func10, Try.ntmps10
    go_wp2
    go_ret2
    exact ⟨rfl, rfl⟩

set_option maxHeartbeats 4000000 in
set_option maxRecDepth 100000 in
theorem walk (w : World) (A : Option Addr) (zs : List Int) (c : Nat) (hr : IntsAt w A zs) (hnil : A = none → zs = [] ∧ c = 0) (hlz : zs.length ≤ 9223372036854775807) (hcap : zs.length ≤ c) (x : Int) :
    Calls Try.prog 3 #[.slice A zs.length c, .int .i64 x] w fun e w' => e = .returned (.bool true) ∧ Below w.heap.size w w' := by
  by_cases hbig : 400 < zs.length
  · go_enter Try.func3, Try.ntmps3
    go_wp2_with (go_at_call 8; refine (awake_any _).mono ?_; rintro e w' ⟨rfl, hb⟩)
    go_ret
    exact ⟨rfl, hb⟩
  · obtain ⟨i0, hi, hz0, hz1, hz2⟩ := info_parts infoInt
    have hmade : (w.alloc (.cells #[] 3)).ownsRow w.heap.size 3 1 (.slice (some ⟨w.heap.size, 0, none⟩) 0 0) 0 [] := World.ownsRow_made w #[] 0 (Nat.le_refl _) (Nat.zero_le _) rfl
    have hr1 := hr.below ((Below.refl w.heap.size w).alloc (Nat.le_refl _) (.cells #[] 3))
    have HM := Lib.hid hmade
    have HR1 := Lib.hid hr1
    have HR := Lib.hid hr
    have HA := Lib.hid (fun h => (by rw [(hnil h).1]; rfl : zs.length = 0))
    clear hmade hr1 hnil hr
    obtain ⟨n, hn⟩ : ∃ n, zs.length = n := ⟨_, rfl⟩
    rw [hn] at HA hbig hcap ⊢
    have HN := Lib.hid hn
    have hicl : (icl zs).length = n * 1 := by rw [Nat.mul_one, ← hn]; simp [icl]
    have HSELF := Lib.hid (fun A B c d W h1 h2 => same_ints A B zs c d W h1 h2 (by omega))
    rw [hn] at HSELF
    clear hn
    go_enter Try.func3, Try.ntmps3
    go_wp2_with (at_builtin; refine wpList_append_src _ rfl _ _ 22 rfl w.heap.size 3 i0 (.int .i64 0) 1 8 Try.underlying22 hi hz0 hz1 hz2 rfl (by decide) _ _ _ rfl HM.out A n c (icl zs) rfl hicl HA.out (fun ad had => (had ▸ HR1.out : IntsAt _ (some ad) zs).news) (ints_one _) (by unfold maxLen; omega) (by omega) (by simp) ?_)
    intro v' w2 hown' hgrow
    have hown2 : w2.ownsRow w.heap.size 3 1 v' n (icl zs) := by simpa [icl] using hown'
    have hb2 : Below w.heap.size w w2 := ((Below.refl w.heap.size w).alloc (Nat.le_refl _) _).grown hgrow (by simp) (fun g hg => by simp [Value.ownBlock] at hg; omega)
    obtain ⟨A', c', rfl, hr'⟩ := intsAt_icl hown2 HN.out
    have hcap2 := own_cap hown2
    have HO2 := Lib.hid hr'
    have HC2 := Lib.hid (HR.out.below hb2)
    have HB2 := Lib.hid hb2
    clear hgrow hown' hown2 hr' hb2 HM HR HR1 HA hi hz0 hz1 hz2 hicl
    by_cases hx : x = 0 ∨ x = 1
    · obtain ⟨b, hb, rfl⟩ : ∃ b : Nat, b ≤ 1 ∧ x = (b : Int) := by
        rcases hx with rfl | rfl
        · exact ⟨0, by decide, rfl⟩
        · exact ⟨1, by decide, rfl⟩
      clear hx
      have HEX := Lib.hid (explicit_reads A' zs b n c' w2 hb HN.out HO2.out (by omega) hcap2)
      have HNX := Lib.hid (fun W (h : IntsAt W A zs) => nexplicit_any A zs b n c W hb HN.out h (by omega) hcap)
      have e1 : ((explL zs b).map (·.1)).length = n := by rw [List.length_map, explL_len, HN.out]
      have e2 : ((explL zs b).map (·.2)).length = n := by rw [List.length_map, explL_len, HN.out]
      obtain ⟨X, hX⟩ : ∃ X, (explL zs b).map (·.1) = X := ⟨_, rfl⟩
      obtain ⟨Y, hY⟩ : ∃ Y, (explL zs b).map (·.2) = Y := ⟨_, rfl⟩
      rw [hX, hY] at HEX HNX
      rw [hX] at e1
      rw [hY] at e2
      have HSX := Lib.hid (fun A B c d W h1 h2 => same_ints A B X c d W h1 h2 (by omega))
      have HSY := Lib.hid (fun A B c d W h1 h2 => same_ints A B Y c d W h1 h2 (by omega))
      rw [e1] at HSX
      rw [e2] at HSY
      clear hX hY e1 e2
      go_wp2_with fail
      refine HEX.out.mono ?_
      rintro e w3 ⟨g1, g2, rfl, hne, hg1, hg2, ho1, ho2, i1, i2, hb3⟩
      have HC3 := Lib.hid (HC2.out.below hb3)
      have HI1 := Lib.hid i1
      have HI2 := Lib.hid i2
      have HW1 := Lib.hid ho1
      have HW2 := Lib.hid ho2
      have HB3 := Lib.hid hb3
      clear i1 i2 ho1 ho2 hb3
      go_wp2_with fail
      refine (HNX.out _ HC3.out).mono ?_
      rintro e w4 ⟨A1, c1, A2, c2, rfl, i3, i4, hb4⟩
      have HI3 := Lib.hid i3
      have HI4 := Lib.hid i4
      have HB4 := Lib.hid hb4
      clear i3 i4 hb4
      go_wp2_with fail
      refine (HSX.out _ _ _ _ _ (HI1.out.below HB4.out) HI3.out).mono ?_
      rintro e w5 ⟨rfl, hb5⟩
      have HB5 := Lib.hid hb5
      clear hb5
      go_wp2_with fail
      refine (HSY.out _ _ _ _ _ ((HI2.out.below HB4.out).below HB5.out) (HI4.out.below HB5.out)).mono ?_
      rintro e w6 ⟨rfl, hb6⟩
      have hb36 := HB4.out.trans ((HB5.out.trans (hb6.mono HB5.out.size)).mono HB4.out.size)
      have ho16 := ownsRow_below HW1.out hb36
      have ho26 := ownsRow_below HW2.out hb36
      obtain ⟨w7, hcl7, hgr7⟩ := clear_ints ho16
      have ho27 := ho26.kept hgr7 (Or.inr (fun e => hne (by have e2 : some g2 = some g1 := e; injection e2 with e2; exact e2.symm)))
      obtain ⟨w8, hcl8, hgr8⟩ := clear_ints ho27
      have hb26 : Below w2.heap.size w2 w6 := HB3.out.trans (hb36.mono HB3.out.size)
      have hb27 : Below w2.heap.size w2 w7 := hb26.grown hgr7 hb26.size (fun q hq => by have e2 : some g1 = some q := hq; injection e2 with e2; omega)
      have hb28 : Below w2.heap.size w2 w8 := hb27.grown hgr8 hb27.size (fun q hq => by have e2 : some g2 = some q := hq; injection e2 with e2; omega)
      have HO8 := Lib.hid (HO2.out.below hb28)
      have HC8 := Lib.hid (HC2.out.below hb28)
      have HB8 := Lib.hid (HB2.out.trans (hb28.mono HB2.out.size))
      clear hb6 hb36 ho16 ho26 ho27 hgr7 hgr8 hb26 hb27 hb28 HI1 HI2 HI3 HI4 HW1 HW2 HB3 HB4 HB5 HC3
      go_wp2_with fail
      refine (HSELF.out _ _ _ _ _ HO8.out HC8.out).mono ?_
      rintro e w9 ⟨rfl, hb9⟩
      have HB9 := Lib.hid (HB8.out.trans (hb9.mono HB8.out.size))
      clear hb9
      go_wp2_with fail
      refine (awake_any _).mono ?_
      rintro e w10 ⟨rfl, hb10⟩
      go_wp2
      go_ret
      exact ⟨rfl, HB9.out.trans (hb10.mono HB9.out.size)⟩
    · have HEX := Lib.hid (fun W => explicit_none A' x n c' W (fun e => hx (.inl e)) (fun e => hx (.inr e)))
      have HNX := Lib.hid (fun W => nexplicit_none A x n c W (fun e => hx (.inl e)) (fun e => hx (.inr e)))
      have HSE := Lib.hid (fun W => same_ints none none [] 0 0 W (.inl rfl) (.inl rfl) (by simp))
      simp only [List.length_nil] at HSE
      have hcl := fun W ty => clear_nil W ty
      clear hx
      go_wp2_with fail
      refine (HEX.out _).mono ?_
      rintro e w3 ⟨rfl, rfl⟩
      go_wp2_with fail
      refine (HNX.out _).mono ?_
      rintro e w4 ⟨rfl, rfl⟩
      go_wp2_with fail
      refine (HSE.out _).mono ?_
      rintro e w5 ⟨rfl, hb5⟩
      have HB5 := Lib.hid hb5
      clear hb5
      go_wp2_with fail
      refine (HSE.out _).mono ?_
      rintro e w6 ⟨rfl, hb6⟩
      have hb26 := HB5.out.trans (hb6.mono HB5.out.size)
      have HO8 := Lib.hid (HO2.out.below hb26)
      have HC8 := Lib.hid (HC2.out.below hb26)
      have HB8 := Lib.hid (HB2.out.trans (hb26.mono HB2.out.size))
      clear hb6 hb26 HB5
      go_wp2_with fail
      refine (HSELF.out _ _ _ _ _ HO8.out HC8.out).mono ?_
      rintro e w9 ⟨rfl, hb9⟩
      have HB9 := Lib.hid (HB8.out.trans (hb9.mono HB8.out.size))
      clear hb9
      go_wp2_with fail
      refine (awake_any _).mono ?_
      rintro e w10 ⟨rfl, hb10⟩
      go_wp2
      go_ret
      exact ⟨rfl, HB9.out.trans (hb10.mono HB9.out.size)⟩

set_option maxRecDepth 100000 in
theorem lifted (os : Os) (started : os.Started) (H : Type) (enc : TypeId × Value → H) :
    ReturnsInHanded {} Try.checked os 3 .any (Rows.levelExplicitSpec.pre6 enc Try.prog Try.f3 Rows.levelExplicitRow.domain false) (Rows.levelExplicitSpec.post enc Try.prog Try.f3 false true false false) := by
  refine returnsInHanded_of_change (C := Try.checked) law_own started (by kernel_rfl) Try.func3
    (ChangeSpec.witness6 (enc := enc) (C := Try.checked) false ⟨#[], #[.slice none 0 0, .int .i64 0], []⟩ 8 (by kernel_rfl) (by kernel_rfl) (by kernel_rfl) (by kernel_rfl)) ?_
  intro W base args ds gs before hval0 hW _ _
  have hval : ∀ (j : Nat) t v, Try.f3.params[j]? = some t → args[j]? = some v → Value.okWide Try.prog W .any base t v := hval0
  have hW' := hW
  obtain ⟨p, q, hA0, hV, rfl, hfz, hnd⟩ := hW
  have hA : DataW.TrodAll enc Try.prog W 0 (fun _ => true) true Try.f3.params.toList args.toList ds p := hA0
  rw [Try.params3] at hA hval
  obtain ⟨v0, vs0, d0, ds0, p0, q0, hargs, rfl, rfl, h0, r0⟩ := ChangeShapes.trodAll_cons hA
  obtain ⟨v1, vs1, d1, ds1, p1, q1, rfl, rfl, rfl, h1, r1⟩ := ChangeShapes.trodAll_cons r0
  obtain ⟨rfl, rfl, rfl⟩ := ChangeShapes.trodAll_nil r1
  obtain rfl : args = #[v0, v1] := by cases args; simp_all
  obtain ⟨rfl, rfl⟩ := ChangeShapes.trodVars_none hV
  obtain ⟨A0, zs0, c0, rfl, hr0, hnil0, hl0, hz0, hc0⟩ := open_introwc (hval 0 22 v0 rfl rfl) h0
  obtain ⟨x1, rfl, rfl, rfl, wx1⟩ := open_int Try.underlying3 (hval 1 3 v1 rfl rfl) h1
  refine (walk W A0 zs0 c0 hr0 hnil0 hl0 hc0 x1).mono fun e W' ⟨he, hB⟩ => ?_
  subst he
  exact ⟨_, rfl, law_post hW' rfl rfl (by kernel_rfl) rfl hB⟩

theorem holds : Rows.LevelExplicitSaid :=
  OpenClaim.holds_of_wide 3 Try.f3 rfl rfl rfl rfl rfl rfl rfl ⟨rfl, rfl, rfl, rfl, rfl⟩ rfl rfl rfl rfl rfl (by kernel_rfl) Try.func3 (by kernel_rfl)
    (of_decide_eq_true (by kernel_rfl)) (by unfold Func.isWrapper; first | (rw [if_pos (by decide +kernel)]; kernel_rfl) | (rw [if_neg (by decide +kernel)]; exact ⟨rfl, rfl⟩))
    (fun os started H enc _ => lifted os started H enc)
end Go.Proofs.Ytkeialfnmdicoaa.LevelExplicit
