/-
  Proved here: for all rows of numbers and every number BaseSkips returns true (what stands between an initiator and a PDI, where each one there has its own there, changes nothing of the level around, of at most 300 numbers, each), and they stay. No condition.
-/
import Derived.Test.YtifaimoaaiikpaaBaAwake
import Derived.Test.YtifaimoaaiikpaaBaClosed
import Derived.Test.YtifaimoaaiikpaaAddInts
import Derived.Test.YtifaimoaaiikpaaLawKit
import Derived.Test.YtifaimoaaiikpaaLawInts
import Derived.Stop.Joined
set_option linter.unusedVariables false
namespace Go.Proofs.Ytifaimoaaiikpaa.BaseSkips
open Go.ChangeShapes Go.WideShapes Go.ChangeAt Go.RowKit Go.Lib Go.Proofs.Ytifaimoaaiikpaa.Ba Go.Proofs.Ytifaimoaaiikpaa.Cl Go.Proofs.Ytifaimoaaiikpaa.Rc
open Go.Proofs.Ytifaimoaaiikpaa.Ku (R3 RuAt cellsR cellsR_len cellsR_one ruAt_own infoR)

theorem pick255 (x : Int) : ∃ r : Nat, r < 3 ∧ (bits BinOp.and IntKind.i64 x 255).tmod 3 = (r : Int) := by
  obtain ⟨q, hq⟩ : ∃ q : Nat, bits BinOp.and IntKind.i64 x 255 = (q : Int) := by
    refine ⟨((BitVec.ofInt 64 x) &&& (BitVec.ofInt 64 255)).toNat, ?_⟩
    have h : ((BitVec.ofInt 64 x) &&& (BitVec.ofInt 64 255)).toNat ≤ 255 := by
      rw [BitVec.toNat_and]
      exact Nat.le_trans Nat.and_le_right (by decide)
    show IntKind.i64.wrap ((((BitVec.ofInt 64 x) &&& (BitVec.ofInt 64 255)).toNat : Nat) : Int) = _
    exact IntWalk.i64_in _ ⟨by omega, by omega⟩
  rw [hq]
  exact ⟨q % 3, Nat.mod_lt _ (by decide), rfl⟩
theorem isI_pick (r : Nat) (h : r < 3) : isI (19 + (r : Int)) = true := by
  simp only [isI, Bool.or_eq_true, beq_iff_eq]
  omega

set_option maxHeartbeats 4000000 in
set_option maxRecDepth 100000 in
theorem walk (w : World) (A0 : Option Addr) (za : List Int) (c0 : Nat) (hr0 : IntsAt w A0 za) (hnil0 : A0 = none → za = [] ∧ c0 = 0) (hl0 : za.length ≤ 9223372036854775807) (hzz0 : ∀ z ∈ za, -9223372036854775808 ≤ z ∧ z ≤ 9223372036854775807)
    (A1 : Option Addr) (zi : List Int) (c1 : Nat) (hr1 : IntsAt w A1 zi) (hnil1 : A1 = none → zi = [] ∧ c1 = 0) (hl1 : zi.length ≤ 9223372036854775807) (hzz1 : ∀ z ∈ zi, -9223372036854775808 ≤ z ∧ z ≤ 9223372036854775807)
    (A2 : Option Addr) (zb : List Int) (c2 : Nat) (hr2 : IntsAt w A2 zb) (hnil2 : A2 = none → zb = [] ∧ c2 = 0) (hl2 : zb.length ≤ 9223372036854775807) (hzz2 : ∀ z ∈ zb, -9223372036854775808 ≤ z ∧ z ≤ 9223372036854775807) (x : Int) :
    Calls Try.prog 7 #[.slice A0 za.length c0, .slice A1 zi.length c1, .slice A2 zb.length c2, .int .i64 x] w fun e w' => e = .returned (.bool true) ∧ Below w.heap.size w w' := by
  clear hzz0 hzz1 hzz2 hnil0 hnil1 hnil2
  obtain ⟨na, hna⟩ : ∃ n, za.length = n := ⟨_, rfl⟩
  obtain ⟨ni, hni⟩ : ∃ n, zi.length = n := ⟨_, rfl⟩
  obtain ⟨nb, hnb⟩ : ∃ n, zb.length = n := ⟨_, rfl⟩
  rw [hna] at hl0 ⊢
  rw [hni] at hl1 ⊢
  rw [hnb] at hl2 ⊢
  have HN0 := Lib.hid hna
  have HN1 := Lib.hid hni
  have HN2 := Lib.hid hnb
  have HR0 := Lib.hid hr0
  have HR1 := Lib.hid hr1
  have HR2 := Lib.hid hr2
  clear hna hni hnb hr0 hr1 hr2
  have awk : ∀ W, Calls Try.prog 9 #[] W fun e w' => e = .returned (.bool true) ∧ Below W.heap.size W w' := awake_any
  have HAW := Lib.hid awk
  clear awk
  by_cases hb0 : 300 < na
  · have d0 : decide ((300 : Int) < (na : Int)) = true := decide_eq_true (by omega)
    go_enter Try.func7, Try.ntmps7
    go_wp2_with (go_at_call 9; refine (HAW.out _).mono ?_; rintro e w' ⟨rfl, hb⟩)
    go_ret
    exact ⟨rfl, hb⟩
  have d0 : decide ((300 : Int) < (na : Int)) = false := decide_eq_false (by omega)
  by_cases hb1 : 300 < ni
  · have d1 : decide ((300 : Int) < (ni : Int)) = true := decide_eq_true (by omega)
    go_enter Try.func7, Try.ntmps7
    go_wp2_with (go_at_call 9; refine (HAW.out _).mono ?_; rintro e w' ⟨rfl, hb⟩)
    go_ret
    exact ⟨rfl, hb⟩
  have d1 : decide ((300 : Int) < (ni : Int)) = false := decide_eq_false (by omega)
  by_cases hb2 : 300 < nb
  · have d2 : decide ((300 : Int) < (nb : Int)) = true := decide_eq_true (by omega)
    go_enter Try.func7, Try.ntmps7
    go_wp2_with (go_at_call 9; refine (HAW.out _).mono ?_; rintro e w' ⟨rfl, hb⟩)
    go_ret
    exact ⟨rfl, hb⟩
  have d2 : decide ((300 : Int) < (nb : Int)) = false := decide_eq_false (by omega)
  have HCL := Lib.hid (closed_any A1 zi ni c1 w HN1.out HR1.out (by omega))
  cases hcl : closedL zi 0 with
  | false =>
    rw [hcl] at HCL
    go_enter Try.func7, Try.ntmps7
    go_wp2_with fail
    refine HCL.out.mono ?_
    rintro e w1 ⟨rfl, rfl⟩
    go_wp2_with (go_at_call 9; refine (HAW.out _).mono ?_; rintro e w' ⟨rfl, hb⟩)
    go_ret
    exact ⟨rfl, hb⟩
  | true =>
    rw [hcl] at HCL
    obtain ⟨r, hr3, hrq⟩ := pick255 x
    have HSK := Lib.hid (levL_skips za zi zb (19 + (r : Int)) (isI_pick r hr3) hcl)
    clear hcl hl0 hl1 hl2
    have hz19 : IntKind.i64.wrap (19 + (r : Int)) = 19 + (r : Int) := IntWalk.i64_in _ (by omega)
    have own0 : ∀ (W : World), (W.alloc (.cells #[] 3)).ownsRow W.heap.size 3 1 (.slice (some ⟨W.heap.size, 0, none⟩) 0 0) 0 (icl []) := fun W => World.ownsRow_made W #[] 0 (Nat.le_refl _) (Nat.zero_le _) rfl
    have HO0 := Lib.hid own0
    clear own0
    go_enter Try.func7, Try.ntmps7
    go_wp2_with fail
    refine HCL.out.mono ?_
    rintro e w1 ⟨rfl, rfl⟩
    have hba := below_made w (.cells #[] 3)
    have HRa := Lib.hid (HR0.out.below hba)
    have HBa := Lib.hid hba
    clear hba
    go_wp2_with (at_builtin; refine wpList_add rfl _ _ rfl w.heap.size _ 0 [] rfl (HO0.out w) A0 na c0 za rfl HRa.out HN0.out (by omega) (by simp) ?_)
    intro v2 w2 hown2 hb2'
    have hb2 : Below w.heap.size w w2 := HBa.out.trans hb2'
    have HB2 := Lib.hid hb2
    have HOW2 := Lib.hid hown2
    have HRb := Lib.hid (HR2.out.below hb2)
    have hs2 := hb2.size
    clear hb2 hb2' hown2 HRa HBa
    go_wp2_with (at_builtin; refine wpList_add rfl _ _ rfl w.heap.size _ na za rfl HOW2.out A2 nb c2 zb rfl HRb.out HN2.out (by omega) hs2 ?_)
    intro v3 w3 hown3 hb3'
    obtain ⟨n3, hn3⟩ : ∃ n3, na + nb = n3 := ⟨_, rfl⟩
    obtain ⟨L3, hL3⟩ : ∃ L3, za ++ zb = L3 := ⟨_, rfl⟩
    have hl3 : L3.length = n3 := by rw [← hL3, List.length_append, HN0.out, HN2.out, hn3]
    rw [hn3, hL3] at hown3
    obtain ⟨D3, k3, rfl, hi3⟩ := intsAt_icl hown3 hl3
    have HB3 := Lib.hid (HB2.out.trans hb3')
    have HI3 := Lib.hid hi3
    have HLL3 := Lib.hid hL3
    have HLN3 := Lib.hid hl3
    have hs3 := HB3.out.size
    have hn3' : n3 ≤ 1000 := by omega
    clear hb3' hown3 hi3 hL3 hl3 hn3 HRb HOW2 HB2 hs2
    have hbc := below_made w3 (.cells #[] 3)
    have HBc := Lib.hid (HB3.out.trans (hbc.mono hs3))
    have HRc := Lib.hid (HR0.out.below HBc.out)
    have HI3c := Lib.hid (HI3.out.below hbc)
    have HO3 := Lib.hid (Cl.ownsRow_mono (HO0.out w3) (Nat.le_refl _))
    have hs3c : w3.heap.size ≤ (w3.alloc (.cells #[] 3)).heap.size := hbc.size
    have HBC := Lib.hid hbc
    clear hbc
    go_wp2_with (at_builtin; refine wpList_add rfl _ _ rfl w3.heap.size _ 0 [] rfl HO3.out A0 na c0 za rfl HRc.out HN0.out (by omega) hs3c ?_)
    intro v4 w4 hown4 hb4'
    have HB4 := Lib.hid (HBC.out.trans hb4')
    have HOW4 := Lib.hid hown4
    have hs4 := HB4.out.size
    clear hb4' hown4 HRc HBc HI3c HO3 hs3c HBC HO0
    go_wp2_with (at_builtin; refine wpList_add rfl _ _ rfl w3.heap.size _ na za rfl (HOW4.out.alloc _) (some ⟨w4.heap.size, 0, none⟩) 1 1 [19 + (r : Int)] rfl (made_ints _ _ _ _ rfl) rfl (by omega) (by simp; omega) ?_)
    intro v5 w5 hown5 hb5'
    obtain ⟨L5, hL5⟩ : ∃ L5, za ++ [19 + (r : Int)] = L5 := ⟨_, rfl⟩
    rw [hL5] at hown5
    have HLL5 := Lib.hid hL5
    have HB5 := Lib.hid ((HB4.out.alloc hs4 _).trans hb5')
    have HOW5 := Lib.hid hown5
    have HRd := Lib.hid (HR1.out.below (HB3.out.trans (HB5.out.mono hs3)))
    have hs5 := HB5.out.size
    clear hb5' hown5 hL5 HOW4 HB4
    go_wp2_with (at_builtin; refine wpList_add rfl _ _ rfl w3.heap.size _ (na + 1) L5 rfl HOW5.out A1 ni c1 zi rfl HRd.out HN1.out (by omega) hs5 ?_)
    intro v6 w6 hown6 hb6'
    obtain ⟨L6, hL6⟩ : ∃ L6, L5 ++ zi = L6 := ⟨_, rfl⟩
    rw [hL6] at hown6
    have HLL6 := Lib.hid hL6
    obtain ⟨n6, hn6⟩ : ∃ n6, na + 1 + ni = n6 := ⟨_, rfl⟩
    rw [hn6] at hown6
    have hn6' : n6 ≤ 1000 := by omega
    have HN6 := Lib.hid hn6
    have HB6 := Lib.hid (HB5.out.trans hb6')
    have HOW6 := Lib.hid hown6
    have hs6 := HB6.out.size
    clear hb6' hown6 hL6 HOW5 HB5 HRd hn6
    go_wp2_with (at_builtin; refine wpList_add rfl _ _ rfl w3.heap.size _ n6 L6 rfl (HOW6.out.alloc _) (some ⟨w6.heap.size, 0, none⟩) 1 1 [22] rfl (made_ints _ _ _ _ rfl) rfl (by omega) (by simp; omega) ?_)
    intro v7 w7 hown7 hb7'
    obtain ⟨L7, hL7⟩ : ∃ L7, L6 ++ [22] = L7 := ⟨_, rfl⟩
    rw [hL7] at hown7
    have HLL7 := Lib.hid hL7
    have HB7 := Lib.hid ((HB6.out.alloc hs6 _).trans hb7')
    have HOW7 := Lib.hid hown7
    have HRe := Lib.hid (HR2.out.below (HB3.out.trans (HB7.out.mono hs3)))
    have hs7 := HB7.out.size
    clear hb7' hown7 hL7 HOW6 HB6
    go_wp2_with (at_builtin; refine wpList_add rfl _ _ rfl w3.heap.size _ (n6 + 1) L7 rfl HOW7.out A2 nb c2 zb rfl HRe.out HN2.out (by omega) hs7 ?_)
    intro v8 w8 hown8 hb8'
    obtain ⟨L8, hL8⟩ : ∃ L8, L7 ++ zb = L8 := ⟨_, rfl⟩
    rw [hL8] at hown8
    obtain ⟨n8, hn8⟩ : ∃ n8, n6 + 1 + nb = n8 := ⟨_, rfl⟩
    rw [hn8] at hown8
    have hl8 : L8.length = n8 := by
      rw [← hL8, ← HLL7.out, ← HLL6.out, ← HLL5.out]
      simp only [List.length_append, List.length_singleton, HN0.out, HN1.out, HN2.out]
      have := HN6.out
      omega
    have hn8' : n8 ≤ 2000 := by omega
    obtain ⟨D8, k8, rfl, hi8⟩ := intsAt_icl hown8 hl8
    have HB8 := Lib.hid (HB7.out.trans hb8')
    have HLV := Lib.hid (show levL L8 0 = levL L3 0 by
      rw [← hL8, ← HLL7.out, ← HLL6.out, ← HLL5.out, ← HLL3.out]
      exact HSK.out)
    have HLA := Lib.hid (level_any D3 L3 n3 k3 w8 HLN3.out (HI3.out.below HB8.out) (by omega))
    have HLB := Lib.hid (level_any D8 L8 n8 k8 w8 hl8 hi8 (by omega))
    rw [HLV.out] at HLB
    clear hb8' hown8 hL8 HOW7 HB7 hl8 hi8 HRe HLV HSK HLL3 HLL5 HLL6 HLL7 HN6 hn8
    generalize levL L3 0 = X at *
    obtain ⟨X1, X2⟩ := X
    go_wp2_with fail
    refine HLA.out.mono ?_
    rintro e w9 ⟨rfl, rfl⟩
    go_wp2_with fail
    refine HLB.out.mono ?_
    rintro e w9 ⟨rfl, rfl⟩
    have HB9 := Lib.hid (HB3.out.trans (HB8.out.mono hs3))
    go_wp2_with fail
    refine (HAW.out _).mono ?_
    rintro e wa ⟨rfl, hba⟩
    go_wp2
    go_ret
    exact ⟨rfl, HB9.out.trans (hba.mono HB9.out.size)⟩

set_option maxRecDepth 100000 in
theorem lifted (os : Os) (started : os.Started) (H : Type) (enc : TypeId × Value → H) :
    ReturnsInHanded {} Try.checked os 7 .any (Rows.baseSkipsSpec.pre6 enc Try.prog Try.f7 Rows.baseSkipsRow.domain false) (Rows.baseSkipsSpec.post enc Try.prog Try.f7 false true false false) := by
  refine returnsInHanded_of_change (C := Try.checked) law_own started (by kernel_rfl) Try.func7
    (ChangeSpec.witness6 (enc := enc) (C := Try.checked) false ⟨#[], #[.slice none 0 0, .slice none 0 0, .slice none 0 0, .int .i64 0], []⟩ 8 (by kernel_rfl) (by kernel_rfl) (by kernel_rfl) (by kernel_rfl)) ?_
  intro W base args ds gs before hval0 hW _ _
  have hval : ∀ (j : Nat) t v, Try.f7.params[j]? = some t → args[j]? = some v → Value.okWide Try.prog W .any base t v := hval0
  have hW' := hW
  obtain ⟨p, q, hA0, hV, rfl, hfz, hnd⟩ := hW
  have hA : DataW.TrodAll enc Try.prog W 0 (fun _ => true) true Try.f7.params.toList args.toList ds p := hA0
  rw [Try.params7] at hA hval
  obtain ⟨v0, vs0, d0, ds0, p0, q0, hargs, rfl, rfl, h0, r0⟩ := ChangeShapes.trodAll_cons hA
  obtain ⟨v1, vs1, d1, ds1, p1, q1, rfl, rfl, rfl, h1, r1⟩ := ChangeShapes.trodAll_cons r0
  obtain ⟨v2, vs2, d2, ds2, p2, q2, rfl, rfl, rfl, h2, r2⟩ := ChangeShapes.trodAll_cons r1
  obtain ⟨v3, vs3, d3, ds3, p3, q3, rfl, rfl, rfl, h3, r3⟩ := ChangeShapes.trodAll_cons r2
  obtain ⟨rfl, rfl, rfl⟩ := ChangeShapes.trodAll_nil r3
  obtain rfl : args = #[v0, v1, v2, v3] := by cases args; simp_all
  obtain ⟨rfl, rfl⟩ := ChangeShapes.trodVars_none hV
  obtain ⟨A0, zs0, c0, rfl, hr0, hnil0, hl0, hz0⟩ := open_introw (hval 0 25 v0 rfl rfl) h0
  obtain ⟨A1, zs1, c1, rfl, hr1, hnil1, hl1, hz1⟩ := open_introw (hval 1 25 v1 rfl rfl) h1
  obtain ⟨A2, zs2, c2, rfl, hr2, hnil2, hl2, hz2⟩ := open_introw (hval 2 25 v2 rfl rfl) h2
  obtain ⟨x3, rfl, rfl, rfl, wx3⟩ := open_int Try.underlying3 (hval 3 3 v3 rfl rfl) h3
  refine (walk W A0 zs0 c0 hr0 hnil0 hl0 hz0 A1 zs1 c1 hr1 hnil1 hl1 hz1 A2 zs2 c2 hr2 hnil2 hl2 hz2 x3).mono fun e W' ⟨he, hB⟩ => ?_
  subst he
  exact ⟨_, rfl, law_post hW' rfl rfl (by kernel_rfl) rfl hB⟩

theorem holds : Rows.BaseSkipsSaid :=
  OpenClaim.holds_of_wide 7 Try.f7 rfl rfl rfl rfl rfl rfl rfl ⟨rfl, rfl, rfl, rfl, rfl⟩ rfl rfl rfl rfl rfl (by kernel_rfl) Try.func7 (by kernel_rfl)
    (of_decide_eq_true (by kernel_rfl)) (by unfold Func.isWrapper; first | (rw [if_pos (by decide +kernel)]; kernel_rfl) | (rw [if_neg (by decide +kernel)]; exact ⟨rfl, rfl⟩))
    (fun os started H enc _ => lifted os started H enc)
end Go.Proofs.Ytifaimoaaiikpaa.BaseSkips
