/-
  Proved here: for all rows of numbers and every number LevelAhead returns true (what comes behind changes nothing of what stands ahead, as long as there is no FSI there, of at most 500 numbers, each), and they stay. No condition.
-/
import Derived.Test.YtehndhkcmccpmaaLvAwake
import Derived.Test.YtehndhkcmccpmaaLvLaws
import Derived.Test.YtehndhkcmccpmaaAddInts
import Derived.Test.YtehndhkcmccpmaaLawKit
import Derived.Test.YtehndhkcmccpmaaLawInts
import Derived.Stop.Joined
import Derived.Deep.QuietTactic
import Derived.BigQuiet
set_option linter.unusedVariables false
namespace Go.Proofs.Ytehndhkcmccpmaa.LevelAhead
open Go.ChangeShapes Go.WideShapes Go.ChangeAt Go.RowKit Go.Lib Go.Proofs.Ytehndhkcmccpmaa.Lv Go.Proofs.Ytehndhkcmccpmaa.Cl Go.Proofs.Ytehndhkcmccpmaa.Rc

theorem own_cap {w : World} {base n : Nat} {e : TypeId} {A : Option Addr} {c : Nat} {xs : List Value} (h : w.ownsRow base e 1 (.slice A n c) n xs) : n ≤ c := by
  rcases h.2 with ⟨h1, h2⟩ | ⟨g1, c1, cur, hv, _, _, hle, _⟩
  · omega
  · cases hv; exact hle
theorem ahead_at {a r : List Int} {b : Nat} (h : ∀ c ∈ a, c ≠ 21) {k : Nat} (hk : k < (explL a b).length) (hk2 : k < (explL (a ++ r) b).length) : (explL (a ++ r) b)[k] = (explL a b)[k] := by
  have h1 := expl_ahead a r b h
  have h2 : k < a.length := by rw [explL_len] at hk; exact hk
  have h3 : ((explL (a ++ r) b).take a.length)[k]? = (explL a b)[k]? := by rw [h1]
  rw [List.getElem?_take, if_pos h2, List.getElem?_eq_getElem hk, List.getElem?_eq_getElem hk2] at h3
  injection h3

set_option maxHeartbeats 4000000 in
set_option maxRecDepth 100000 in
theorem walk (w : World) (A0 : Option Addr) (za : List Int) (c0 : Nat) (hr0 : IntsAt w A0 za) (hnil0 : A0 = none → za = [] ∧ c0 = 0) (hl0 : za.length ≤ 9223372036854775807) (hcap0 : za.length ≤ c0)
    (A1 : Option Addr) (zb : List Int) (c1 : Nat) (hr1 : IntsAt w A1 zb) (hnil1 : A1 = none → zb = [] ∧ c1 = 0) (hl1 : zb.length ≤ 9223372036854775807) (hzz1 : ∀ z ∈ zb, -9223372036854775808 ≤ z ∧ z ≤ 9223372036854775807) (x : Int) :
    Calls Try.prog 5 #[.slice A0 za.length c0, .slice A1 zb.length c1, .int .i64 x] w fun e w' => e = .returned (.bool true) ∧ Below w.heap.size w w' := by
  clear hzz1 hnil0 hnil1
  obtain ⟨na, hna⟩ : ∃ n, za.length = n := ⟨_, rfl⟩
  obtain ⟨nb, hnb⟩ : ∃ n, zb.length = n := ⟨_, rfl⟩
  rw [hna] at hl0 hcap0 ⊢
  rw [hnb] at hl1 ⊢
  have HN0 := Lib.hid hna
  have HN1 := Lib.hid hnb
  have HR0 := Lib.hid hr0
  have HR1 := Lib.hid hr1
  clear hna hnb hr0 hr1
  have awk : ∀ W, Calls Try.prog 10 #[] W fun e w' => e = .returned (.bool true) ∧ Below W.heap.size W w' := awake_any
  have HAW := Lib.hid awk
  clear awk
  by_cases hb0 : 500 < na
  · have d0 : decide ((500 : Int) < (na : Int)) = true := decide_eq_true (by omega)
    go_enter Try.func5, Try.ntmps5
    go_wp2_with (go_at_call 10; refine (HAW.out _).mono ?_; rintro e w' ⟨rfl, hb⟩)
    go_ret
    exact ⟨rfl, hb⟩
  have d0 : decide ((500 : Int) < (na : Int)) = false := decide_eq_false (by omega)
  by_cases hb1 : 500 < nb
  · have d1 : decide ((500 : Int) < (nb : Int)) = true := decide_eq_true (by omega)
    go_enter Try.func5, Try.ntmps5
    go_wp2_with (go_at_call 10; refine (HAW.out _).mono ?_; rintro e w' ⟨rfl, hb⟩)
    go_ret
    exact ⟨rfl, hb⟩
  have d1 : decide ((500 : Int) < (nb : Int)) = false := decide_eq_false (by omega)
  obtain ⟨b, hb, hbx⟩ := low_bit x
  have HS0 := Lib.hid (show ∀ c ∈ za.take 0, c ≠ 21 from fun c h => by simp at h)
  go_enter Try.func5, Try.ntmps5
  go_wp2_with fail
  go_loop [7] (fun s7 => ∃ k : Nat, s7 = .int .i64 k ∧ k ≤ na ∧ ∀ c ∈ za.take k, c ≠ 21) (fun s7 => na - (RowKit.intOf s7).toNat)
  case atStart => exact ⟨0, rfl, Nat.zero_le _, HS0.out⟩
  case round =>
    obtain ⟨k, rfl, hk, hno⟩ := hrel
    clear HS0
    by_cases hlt : k < na
    · have hkl : k < za.length := by rw [HN0.out]; exact hlt
      obtain ⟨ab, off, rfl, hc0⟩ := HR0.out.at_ hkl
      have HNO := Lib.hid (show za[k] ≠ 21 → ∀ c ∈ za.take (k + 1), c ≠ 21 from fun h c hc => by
        rw [List.take_add_one, List.mem_append] at hc
        rcases hc with hc | hc
        · exact hno c hc
        · rw [List.getElem?_eq_getElem hkl] at hc
          simp at hc
          rw [hc]; exact h)
      clear hno
      generalize za[k] = c at *
      by_cases h21 : c = 21
      · have e21 : (c == 21) = true := by simpa using h21
        clear h21
        go_wp2_with fail
        refine (HAW.out _).mono ?_
        rintro e w' ⟨rfl, hb'⟩
        go_wp2
        go_ret
        exact ⟨rfl, hb'⟩
      · have e21 : (c == 21) = false := by simpa using h21
        have HNX := Lib.hid (HNO.out h21)
        clear h21 HNO
        go_wp2_with fail
        go_round
        case measure => simp [RowKit.intOf]; omega
        case rel => exact ⟨k + 1, by go_num, by omega, HNX.out⟩
    · obtain rfl : k = na := by omega
      have HNO := Lib.hid (show ∀ c ∈ za, c ≠ 21 from by
        have h := hno
        rw [← HN0.out, List.take_length] at h
        exact h)
      clear hno
      have HEX := Lib.hid (explicit_reads A0 za b k c0 w hb HN0.out HR0.out (by omega) hcap0)
      have own0 : ∀ (W : World), (W.alloc (.cells #[] 3)).ownsRow W.heap.size 3 1 (.slice (some ⟨W.heap.size, 0, none⟩) 0 0) 0 (icl []) := fun W => World.ownsRow_made W #[] 0 (Nat.le_refl _) (Nat.zero_le _) rfl
      have HO0 := Lib.hid own0
      clear own0
      go_wp2_with fail
      refine HEX.out.mono ?_
      rintro e w1 ⟨g1, g2, rfl, hne, hg1, hg2, ho1, ho2, i1, i2, hb1⟩
      have HI1 := Lib.hid i1
      have HI2 := Lib.hid i2
      have HB1 := Lib.hid hb1
      clear i1 i2 ho1 ho2 hb1 HEX hne hg1 hg2
      have hba := below_made w1 (.cells #[] 3)
      have HBa := Lib.hid (HB1.out.trans (hba.mono HB1.out.size))
      have HRa := Lib.hid (HR0.out.below HBa.out)
      have HRB := Lib.hid hba
      have hsa : w1.heap.size ≤ (w1.alloc (.cells #[] 3)).heap.size := hba.size
      clear hba
      go_wp2_with (at_builtin; refine wpList_add rfl _ _ rfl w1.heap.size _ 0 [] rfl (HO0.out w1) A0 k c0 za rfl HRa.out HN0.out (by omega) hsa ?_)
      intro v2 w2 hown2 hb2'
      have hb2 : Below w1.heap.size w1 w2 := HRB.out.trans hb2'
      have HB2 := Lib.hid hb2
      have HOW2 := Lib.hid hown2
      have HRb := Lib.hid (HR1.out.below (HB1.out.trans (hb2.mono HB1.out.size)))
      have hs2 := hb2.size
      clear hb2 hb2' hown2 HRa HBa hsa HRB
      go_wp2_with (at_builtin; refine wpList_add rfl _ _ rfl w1.heap.size _ k za rfl HOW2.out A1 nb c1 zb rfl HRb.out HN1.out (by omega) hs2 ?_)
      intro v3 w3 hown3 hb3'
      obtain ⟨n3, hn3⟩ : ∃ n3, k + nb = n3 := ⟨_, rfl⟩
      obtain ⟨L3, hL3⟩ : ∃ L3, za ++ zb = L3 := ⟨_, rfl⟩
      have hl3 : L3.length = n3 := by rw [← hL3, List.length_append, HN0.out, HN1.out, hn3]
      rw [hn3, hL3] at hown3
      obtain ⟨D3, k3, rfl, hi3⟩ := intsAt_icl hown3 hl3
      have hc3 := own_cap hown3
      have hn3' : n3 ≤ 1000 := by omega
      have HB3 := Lib.hid (HB2.out.trans hb3')
      have HEY := Lib.hid (explicit_reads D3 L3 b n3 k3 w3 hb hl3 hi3 (by omega) hc3)
      have HI1c := Lib.hid (HI1.out.below HB3.out)
      have HI2c := Lib.hid (HI2.out.below HB3.out)
      have HEQ := Lib.hid (show ∀ (i : Nat) (h1 : i < (explL za b).length) (h2 : i < (explL L3 b).length), (explL L3 b)[i] = (explL za b)[i] from fun i h1 h2 => by
        subst hL3
        exact ahead_at HNO.out h1 h2)
      have HEL := Lib.hid (show (explL za b).length = k by rw [explL_len, HN0.out])
      have HEM := Lib.hid (show (explL L3 b).length = n3 by rw [explL_len, hl3])
      have hadd : ((k : Int) + (nb : Int)) = (n3 : Int) := by omega
      have hk3 : k ≤ n3 := by omega
      have HN3 := Lib.hid hn3
      clear hown3 hb3' hi3 hL3 hl3 hc3 HB2 HOW2 HRb hs2 HI1 HI2 HNO hn3
      generalize explL za b = E at *
      generalize explL L3 b = F at *
      go_wp2_with fail
      refine HEY.out.mono ?_
      rintro e w4 ⟨g3, g4, rfl, hne, hg3, hg4, ho3, ho4, i3, i4, hb4⟩
      have HI1 := Lib.hid (HI1c.out.below hb4)
      have HI2 := Lib.hid (HI2c.out.below hb4)
      have HI3 := Lib.hid i3
      have HI4 := Lib.hid i4
      have HB4 := Lib.hid (HB1.out.trans ((HB3.out.trans (hb4.mono HB3.out.size)).mono HB1.out.size))
      clear i3 i4 ho3 ho4 hb4 HEY hne hg3 hg4 HI1c HI2c HB1 HB3
      go_wp2_with fail
      go_loopw [12] (fun s12 wx => ∃ i : Nat, i ≤ k ∧ s12 = .int .i64 i ∧ Below w4.heap.size w4 wx) (fun s12 _ => k - (RowKit.intOf s12).toNat)
      case atStart => exact ⟨0, Nat.zero_le _, rfl, Below.refl _ _⟩
      case round =>
        obtain ⟨i, hi, rfl, hbz⟩ := hrel
        by_cases hlt2 : i < k
        · have hiE : i < E.length := by rw [HEL.out]; exact hlt2
          have hiF : i < F.length := by rw [HEM.out]; omega
          have HBZ := Lib.hid hbz
          obtain ⟨x1, y1, hv1, q1⟩ := (HI1.out.below hbz).at_ (k := i) (by rw [List.length_map]; exact hiE)
          obtain ⟨x2, y2, hv2, q2⟩ := (HI2.out.below hbz).at_ (k := i) (by rw [List.length_map]; exact hiE)
          obtain ⟨x3, y3, hv3, q3⟩ := (HI3.out.below hbz).at_ (k := i) (by rw [List.length_map]; exact hiF)
          obtain ⟨x4, y4, hv4, q4⟩ := (HI4.out.below hbz).at_ (k := i) (by rw [List.length_map]; exact hiF)
          injection hv1 with hv1
          injection hv1 with e1 e2
          subst e1 e2
          injection hv2 with hv2
          injection hv2 with e1 e2
          subst e1 e2
          injection hv3 with hv3
          injection hv3 with e1 e2
          subst e1 e2
          injection hv4 with hv4
          injection hv4 with e1 e2
          subst e1 e2
          rw [List.getElem_map] at q1 q2 q3 q4
          rw [HEQ.out i hiE hiF] at q3 q4
          generalize E[i] = p at *
          obtain ⟨p1, p2⟩ := p
          simp only [Nat.zero_add] at q1 q2 q3 q4
          clear hbz
          have t1 : (p1 != p1) = false := by simp
          have t2 : (p2 != p2) = false := by simp
          have i0 : (0 : Int) ≤ (i : Int) := by omega
          have i1 : (i : Int) < (k : Int) := by omega
          have i2 : (i : Int) < (n3 : Int) := by omega
          go_wp2_with fail
          go_quiet (fail)
          go_wp2_with fail
          have hdr := Arr.below_drewN (Below.refl wr.heap.size wr) nq
          go_roundw
          case measure => simp [RowKit.intOf]; omega
          case rel => exact ⟨i + 1, by omega, by go_num, HBZ.out.trans (hdr.mono HBZ.out.size)⟩
        · obtain rfl : i = k := by omega
          have HBZ := Lib.hid (HB4.out.trans (hbz.mono HB4.out.size))
          clear hbz
          go_wp2_with fail
          refine (HAW.out _).mono ?_
          rintro e wa ⟨rfl, hba⟩
          go_wp2
          go_ret
          exact ⟨rfl, HBZ.out.trans (hba.mono HBZ.out.size)⟩

set_option maxRecDepth 100000 in
theorem lifted (os : Os) (started : os.Started) (H : Type) (enc : TypeId × Value → H) :
    ReturnsInHanded {} Try.checked os 5 .any (Rows.levelAheadSpec.pre6 enc Try.prog Try.f5 Rows.levelAheadRow.domain false) (Rows.levelAheadSpec.post enc Try.prog Try.f5 false true false false) := by
  refine returnsInHanded_of_change (C := Try.checked) law_own started (by kernel_rfl) Try.func5
    (ChangeSpec.witness6 (enc := enc) (C := Try.checked) false ⟨#[], #[.slice none 0 0, .slice none 0 0, .int .i64 0], []⟩ 8 (by kernel_rfl) (by kernel_rfl) (by kernel_rfl) (by kernel_rfl)) ?_
  intro W base args ds gs before hval0 hW _ _
  have hval : ∀ (j : Nat) t v, Try.f5.params[j]? = some t → args[j]? = some v → Value.okWide Try.prog W .any base t v := hval0
  have hW' := hW
  obtain ⟨p, q, hA0, hV, rfl, hfz, hnd⟩ := hW
  have hA : DataW.TrodAll enc Try.prog W 0 (fun _ => true) true Try.f5.params.toList args.toList ds p := hA0
  rw [Try.params5] at hA hval
  obtain ⟨v0, vs0, d0, ds0, p0, q0, hargs, rfl, rfl, h0, r0⟩ := ChangeShapes.trodAll_cons hA
  obtain ⟨v1, vs1, d1, ds1, p1, q1, rfl, rfl, rfl, h1, r1⟩ := ChangeShapes.trodAll_cons r0
  obtain ⟨v2, vs2, d2, ds2, p2, q2, rfl, rfl, rfl, h2, r2⟩ := ChangeShapes.trodAll_cons r1
  obtain ⟨rfl, rfl, rfl⟩ := ChangeShapes.trodAll_nil r2
  obtain rfl : args = #[v0, v1, v2] := by cases args; simp_all
  obtain ⟨rfl, rfl⟩ := ChangeShapes.trodVars_none hV
  obtain ⟨A0, zs0, c0, rfl, hr0, hnil0, hl0, hz0, hc0⟩ := open_introwc (hval 0 22 v0 rfl rfl) h0
  obtain ⟨A1, zs1, c1, rfl, hr1, hnil1, hl1, hz1⟩ := open_introw (hval 1 22 v1 rfl rfl) h1
  obtain ⟨x2, rfl, rfl, rfl, wx2⟩ := open_int Try.underlying3 (hval 2 3 v2 rfl rfl) h2
  refine (walk W A0 zs0 c0 hr0 hnil0 hl0 hc0 A1 zs1 c1 hr1 hnil1 hl1 hz1 x2).mono fun e W' ⟨he, hB⟩ => ?_
  subst he
  exact ⟨_, rfl, law_post hW' rfl rfl (by kernel_rfl) rfl hB⟩

theorem holds : Rows.LevelAheadSaid :=
  OpenClaim.holds_of_wide 5 Try.f5 rfl rfl rfl rfl rfl rfl rfl ⟨rfl, rfl, rfl, rfl, rfl⟩ rfl rfl rfl rfl rfl (by kernel_rfl) Try.func5 (by kernel_rfl)
    (of_decide_eq_true (by kernel_rfl)) (by unfold Func.isWrapper; first | (rw [if_pos (by decide +kernel)]; kernel_rfl) | (rw [if_neg (by decide +kernel)]; exact ⟨rfl, rfl⟩))
    (fun os started H enc _ => lifted os started H enc)
end Go.Proofs.Ytehndhkcmccpmaa.LevelAhead
