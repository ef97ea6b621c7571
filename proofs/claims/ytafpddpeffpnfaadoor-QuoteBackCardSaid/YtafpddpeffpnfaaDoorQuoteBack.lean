/-
  Proved here: for every two records, QuoteBack returns true (records of at most 100 records, fields, and 3000 bytes that were printed are parsed as they were; two of them have one text just if they are the same), and both stay. Conditions: the package variables that the row lists hold what the program's text lays (the card ties them).
-/
import Derived.Test.YtafpddpeffpnfaaDoorQuAwake
import Derived.Test.YtafpddpeffpnfaaDoorCvLike
import Derived.Test.YtafpddpeffpnfaaDoorCvMore
import Derived.Test.YtafpddpeffpnfaaDoorOpRecs
import Derived.Test.YtafpddpeffpnfaaDoorTie
import Derived.Test.YtafpddpeffpnfaaDoorCards
set_option linter.unusedVariables false
namespace Go.Proofs.YtafpddpeffpnfaaDoor.QuoteBack
open Go.ChangeShapes Go.WideShapes Go.ChangeAt Go.RowKit Go.Lib Go.Proofs.YtafpddpeffpnfaaDoor.Cv Go.Proofs.YtafpddpeffpnfaaDoor.Qu

theorem small_no {R : List (List Bs)} (hb : bad R = true) : prT R = [] ∧ prE R = 1 := by
  unfold prT prE
  rw [hb, if_pos rfl, if_pos rfl]
  exact ⟨rfl, rfl⟩
theorem small_yes {R : List (List Bs)} (hs : Small R) (hb : bad R = false) : prT R = textW R ∧ prE R = 0 := by
  have := hs.len
  unfold prT prE
  rw [hb, if_neg (by simp), if_neg (by omega), if_neg (by simp), if_neg (by omega)]
  exact ⟨rfl, rfl⟩
theorem print_no {A : Option Addr} {R : List (List Bs)} {c : Nat} (hs : Small R) (hb : bad R = true) (w : World) (hH : Held w) (hA : RecsAt w A R) :
    Calls Tryd.prog 14 #[.slice A R.length c] w fun e w' => e = .returned (.tuple #[.string ⟨#[]⟩, .int .i64 1]) ∧ Below w.heap.size w w' := by
  have h := print_any A R R.length c rfl w hH hA hs.ok
  unfold PrintPost at h
  rw [(small_no hb).1, (small_no hb).2] at h
  exact h
theorem print_yes {A : Option Addr} {R : List (List Bs)} {c : Nat} (hs : Small R) (hb : bad R = false) {T : ByteArray} (hT : (⟨(textW R).toArray⟩ : ByteArray) = T) (w : World) (hH : Held w) (hA : RecsAt w A R) :
    Calls Tryd.prog 14 #[.slice A R.length c] w fun e w' => e = .returned (.tuple #[.string T, .int .i64 0]) ∧ Below w.heap.size w w' := by
  have h := print_any A R R.length c rfl w hH hA hs.ok
  unfold PrintPost at h
  rw [(small_yes hs hb).1, (small_yes hs hb).2, hT] at h
  exact h
theorem parse_good {s : ByteArray} {R : List (List Bs)} {at_ er : Int} (hR : recsP s = R) (ha : atP s = at_) (he : erP s = er) (w : World) (hH : Held w) :
    Calls Tryd.prog 19 #[.string s] w fun e w' => ∃ A c, e = .returned (.tuple #[.slice A R.length c, .int .i64 at_, .int .i64 er]) ∧ RecsAt w' A R ∧ Below w.heap.size w w' := by
  have h := parse_any s w hH
  unfold ParsePost at h
  rw [hR, ha, he] at h
  exact h

set_option maxHeartbeats 4000000 in
set_option maxRecDepth 1000000 in
theorem walk (w : World) (hH : Held w) (A : Option Addr) (R : List (List Bs)) (c : Nat) (hA : RecsAt w A R) (hl : R.length ≤ 140737488355328) (hr : ∀ r ∈ R, r.length ≤ 140737488355328) (hx : ∀ r ∈ R, ∀ x ∈ r, x.length ≤ 140737488355328)
    (B : Option Addr) (Q : List (List Bs)) (d : Nat) (hB : RecsAt w B Q) (hl2 : Q.length ≤ 140737488355328) (hr2 : ∀ r ∈ Q, r.length ≤ 140737488355328) (hx2 : ∀ r ∈ Q, ∀ x ∈ r, x.length ≤ 140737488355328) :
    Calls Tryd.prog 7 #[.slice A R.length c, .slice B Q.length d] w fun e w' => e = .returned (.bool true) ∧ Below w.heap.size w w' := by
  have HH := Lib.hid hH
  have HA := Lib.hid hA
  have HB := Lib.hid hB
  have HW := Lib.hid (wide_any A R R.length c rfl w hA hl hr hx)
  have HW2 := Lib.hid (wide_any B Q Q.length d rfl w hB hl2 hr2 hx2)
  clear hH hA hl hr hx hB hl2 hr2 hx2
  go_enter Tryd.func7, Tryd.ntmps7
  go_wp2_with fail
  refine HW.out.mono ?_
  rintro e w0 ⟨⟨b, rfl, hsm⟩, hw0⟩
  subst hw0
  cases b with
  | true =>
    go_wp2_with fail
    refine (awake_any _ HH.out).mono ?_
    rintro e w1 ⟨rfl, hb1⟩
    go_wp2
    go_ret
    exact ⟨rfl, hb1⟩
  | false =>
  have HS := Lib.hid (hsm rfl)
  clear hsm
  go_wp2_with fail
  refine HW2.out.mono ?_
  rintro e w1 ⟨⟨b, rfl, hsm⟩, hw1⟩
  subst hw1
  cases b with
  | true =>
    go_wp2_with fail
    refine (awake_any _ HH.out).mono ?_
    rintro e w1 ⟨rfl, hb1⟩
    go_wp2
    go_ret
    exact ⟨rfl, hb1⟩
  | false =>
  have HS2 := Lib.hid (hsm rfl)
  clear hsm HW HW2
  cases hbR : bad R with
  | true =>
    have HP := Lib.hid (print_no (c := c) HS.out hbR w1 HH.out HA.out)
    have hq := fun W hH hB => print_any B Q Q.length d rfl W hH hB HS2.out.ok
    unfold PrintPost at hq
    generalize (⟨(prT Q).toArray⟩ : ByteArray) = T2 at hq
    generalize prE Q = E2 at hq
    have HP2 := Lib.hid hq
    clear hq
    go_wp2_with fail
    refine HP.out.mono ?_
    rintro e w2 ⟨rfl, hb2⟩
    have K2 := Lib.hid (HH.out.below HH.out.1 hb2)
    have B2 := Lib.hid hb2
    have Q2 := Lib.hid (HB.out.below hb2)
    clear hb2
    go_wp2_with fail
    refine (HP2.out w2 K2.out Q2.out).mono ?_
    rintro e w3 ⟨rfl, hb3⟩
    have K3 := Lib.hid (K2.out.below K2.out.1 hb3)
    have B3 := Lib.hid (B2.out.trans (hb3.mono B2.out.size))
    clear hb3
    go_wp2_with fail
    refine (awake_any _ K3.out).mono ?_
    rintro e w4 ⟨rfl, hb4⟩
    go_wp2
    go_ret
    exact ⟨rfl, B3.out.trans (hb4.mono B3.out.size)⟩
  | false =>
  have hlen := HS.out.len
  have hlen2 := HS2.out.len
  obtain ⟨T, hT⟩ : ∃ T, (⟨(textW R).toArray⟩ : ByteArray) = T := ⟨_, rfl⟩
  have htx : tx T = textW R := by rw [← hT]
  obtain ⟨b1, b2, b3⟩ := back hbR hlen T htx
  have hnum := HS.out.num
  have hnum2 := HS2.out.num
  have HP := Lib.hid (print_yes (c := c) HS.out hbR hT w1 HH.out HA.out)
  have HPA := Lib.hid (fun W h => parse_good b3 b2 b1 W h)
  have HSM := Lib.hid (fun A' B' c' d' W ha hb => same_of A' B' R R.length R.length c' d' W rfl rfl ha hb (by omega) HS.out.rows)
  cases hbQ : bad Q with
  | true =>
    have HP2 := Lib.hid (fun W hH hB => print_no (A := B) (c := d) HS2.out hbQ W hH hB)
    clear hlen hlen2 hT htx b1 b2 b3 hnum hnum2 hbR hbQ
    go_wp2_with fail
    refine HP.out.mono ?_
    rintro e w2 ⟨rfl, hb2⟩
    have K2 := Lib.hid (HH.out.below HH.out.1 hb2)
    have B2 := Lib.hid hb2
    have R2 := Lib.hid (HA.out.below hb2)
    have Q2 := Lib.hid (HB.out.below hb2)
    clear hb2
    go_wp2_with fail
    refine (HP2.out w2 K2.out Q2.out).mono ?_
    rintro e w3 ⟨rfl, hb3⟩
    have K3 := Lib.hid (K2.out.below K2.out.1 hb3)
    have B3 := Lib.hid (B2.out.trans (hb3.mono B2.out.size))
    have R3 := Lib.hid (R2.out.below hb3)
    clear hb3
    go_wp2_with fail
    refine (HPA.out w3 K3.out).mono ?_
    rintro e w4 ⟨A4, c4, rfl, hX4, hb4⟩
    have B4 := Lib.hid (B3.out.trans (hb4.mono B3.out.size))
    have R4 := Lib.hid (R3.out.below hb4)
    have X4 := Lib.hid hX4
    clear hb4 hX4
    go_wp2_with fail
    refine (HSM.out A4 A c4 c w4 X4.out R4.out).mono ?_
    rintro e w5 ⟨rfl, hb5⟩
    have B5 := Lib.hid (B4.out.trans (hb5.mono B4.out.size))
    have K5 := Lib.hid (HH.out.below HH.out.1 B5.out)
    clear hb5
    go_wp2_with fail
    refine (awake_any _ K5.out).mono ?_
    rintro e w6 ⟨rfl, hb6⟩
    go_wp2
    go_ret
    exact ⟨rfl, B5.out.trans (hb6.mono B5.out.size)⟩
  | false =>
    obtain ⟨T2, hT2⟩ : ∃ T2, (⟨(textW Q).toArray⟩ : ByteArray) = T2 := ⟨_, rfl⟩
    have htx2 : tx T2 = textW Q := by rw [← hT2]
    obtain ⟨c1, c2, c3⟩ := back hbQ hlen2 T2 htx2
    have heq : (T.toList == T2.toList) = decide (R = Q) := by
      by_cases h : R = Q
      · subst h
        rw [decide_eq_true rfl, ← hT, ← hT2, beq_yes]
      · rw [decide_eq_false h]
        exact beq_no fun e => h (by rw [← b3, e, c3])
    have HP2 := Lib.hid (fun W hH hB => print_yes (A := B) (c := d) HS2.out hbQ hT2 W hH hB)
    have HL := Lib.hid (fun W ha hb => same_any A B R Q c d W ha hb (by omega) (by omega) HS.out.rows HS2.out.rows)
    unfold LikePost at HL
    generalize decide (R = Q) = q0 at heq HL
    clear hlen hlen2 hT htx b1 b2 b3 hnum hnum2 hbR hbQ hT2 htx2 c1 c2 c3
    go_wp2_with fail
    refine HP.out.mono ?_
    rintro e w2 ⟨rfl, hb2⟩
    have K2 := Lib.hid (HH.out.below HH.out.1 hb2)
    have B2 := Lib.hid hb2
    have R2 := Lib.hid (HA.out.below hb2)
    have Q2 := Lib.hid (HB.out.below hb2)
    clear hb2
    go_wp2_with fail
    refine (HP2.out w2 K2.out Q2.out).mono ?_
    rintro e w3 ⟨rfl, hb3⟩
    have K3 := Lib.hid (K2.out.below K2.out.1 hb3)
    have B3 := Lib.hid (B2.out.trans (hb3.mono B2.out.size))
    have R3 := Lib.hid (R2.out.below hb3)
    have Q3 := Lib.hid (Q2.out.below hb3)
    clear hb3
    go_wp2_with fail
    refine (HPA.out w3 K3.out).mono ?_
    rintro e w4 ⟨A4, c4, rfl, hX4, hb4⟩
    have B4 := Lib.hid (B3.out.trans (hb4.mono B3.out.size))
    have R4 := Lib.hid (R3.out.below hb4)
    have Q4 := Lib.hid (Q3.out.below hb4)
    have X4 := Lib.hid hX4
    clear hb4 hX4
    go_wp2_with fail
    refine (HSM.out A4 A c4 c w4 X4.out R4.out).mono ?_
    rintro e w5 ⟨rfl, hb5⟩
    have B5 := Lib.hid (B4.out.trans (hb5.mono B4.out.size))
    have R5 := Lib.hid (R4.out.below hb5)
    have Q5 := Lib.hid (Q4.out.below hb5)
    clear hb5
    go_wp2_with fail
    refine (HL.out w5 R5.out Q5.out).mono ?_
    rintro e w6 ⟨rfl, hb6⟩
    have B6 := Lib.hid (B5.out.trans (hb6.mono B5.out.size))
    have K6 := Lib.hid (HH.out.below HH.out.1 B6.out)
    clear hb6
    go_wp2_with fail
    refine (awake_any _ K6.out).mono ?_
    rintro e w7 ⟨rfl, hb7⟩
    go_wp2
    go_ret
    exact ⟨rfl, B6.out.trans (hb7.mono B6.out.size)⟩

set_option maxRecDepth 100000 in
theorem lifted (os : Os) (started : os.Started) (H : Type) (enc : TypeId × Value → H) :
    ReturnsInHanded {} Tryd.checked os 7 .any (fun w args => (Rows.quoteBackSpec.pre enc Tryd.prog Tryd.f7 [] false w args ∧ laidMetH Tryd.prog laidL w) ∧ sizedMet enc Tryd.prog Tryd.f7 (OpenSpec.ofChange Rows.quoteBackSpec) false w args) (Rows.quoteBackSpec.post enc Tryd.prog Tryd.f7 false true false false) := by
  refine returns_laidw started (by kernel_rfl) Tryd.func7 #[.slice none 0 0, .slice none 0 0] (by kernel_rfl) (World.shaped_of_ZipB (by kernel_rfl) (by kernel_rfl)) (by rw [MakeChecks.laidMetH_plain _ _ _ (by kernel_rfl)]; exact laidMet_laidAll _ (by kernel_rfl) (by kernel_rfl)) (by kernel_rfl) (by kernel_rfl) rfl rfl (by kernel_rfl) ?_ ?_
  · intro ds hds
    rw [show Tryd.f7.params.toList.length = 2 from by kernel_rfl] at hds
    match ds, hds with
    | [d0, d1], _ => rfl
  intro W base args ds p hval hA hwe hH
  rw [Tryd.params7] at hA hval hwe
  obtain ⟨v0, vs0, d0, ds0, p0, q0, hargs, rfl, rfl, h0, r0⟩ := ChangeShapes.trodAll_cons hA
  obtain ⟨v1, vs1, d1, ds1, p1, q1, rfl, rfl, rfl, h1, r1⟩ := ChangeShapes.trodAll_cons r0
  obtain ⟨rfl, rfl, rfl⟩ := ChangeShapes.trodAll_nil r1
  obtain rfl : args = #[v0, v1] := by cases args; simp_all
  obtain ⟨A0, R0, c0, rfl, hr0, -, hl0, hrl0, hxl0⟩ := open_recs (hval 0 25 v0 rfl rfl) h0 (hwe 0 _ _ rfl rfl)
  obtain ⟨A1, R1, c1, rfl, hr1, -, hl1, hrl1, hxl1⟩ := open_recs (hval 1 25 v1 rfl rfl) h1 (hwe 1 _ _ rfl rfl)
  exact walk W hH A0 R0 c0 hr0 hl0 hrl0 hxl0 A1 R1 c1 hr1 hl1 hrl1 hxl1

theorem holds : Rows.QuoteBackSaid :=
  OpenClaim.holds_of_wide 7 Tryd.f7 rfl rfl rfl rfl rfl rfl rfl ⟨rfl, rfl, rfl, rfl, rfl⟩ rfl rfl rfl rfl rfl (by kernel_rfl) Tryd.func7 (by kernel_rfl)
    (of_decide_eq_true (by kernel_rfl)) (by unfold Func.isWrapper; first | (rw [if_pos (by decide +kernel)]; kernel_rfl) | (rw [if_neg (by decide +kernel)]; exact ⟨rfl, rfl⟩))
    (fun os started H enc _ => lifted os started H enc)

theorem card : Rows.QuoteBackCardSaid :=
  Claim7.holds_tied_plain_at .later [] [.data, .pinned] true (true, "8b0ddd4391f593d9a8c81f0b604a71bf6594b19938d785f115202ba4ac532180") false
    holds (fun _ h => by cases h) (by kernel_rfl) (fun _ h => by cases h) quoteBack_row_tie rfl ⟨rfl, rfl⟩ (by kernel_rfl) rfl
    (fun f fn hf hfn => by
      obtain rfl : f = 7 := Option.some.inj ((show Tryd.prog.funcNamed "parquetry/parquetrylaw08.QuoteBack" = some 7 by kernel_rfl).symm.trans hf) |>.symm
      obtain rfl : fn = Tryd.f7 := (Option.some.inj (Tryd.func7.symm.trans hfn)).symm
      exact ⟨by kernel_rfl, fun j t ht => by
        rw [Tryd.params7] at ht
        have hm : t ∈ [25] := by simpa using Array.mem_of_getElem? ht
        have hall : ([25].all fun u => !Tryd.prog.wantsStandIn u) = true := by kernel_rfl
        exact (show Tryd.prog.wantsStandIn t = false by simpa using List.all_eq_true.1 hall t hm)⟩)
    (by kernel_rfl)
end Go.Proofs.YtafpddpeffpnfaaDoor.QuoteBack
