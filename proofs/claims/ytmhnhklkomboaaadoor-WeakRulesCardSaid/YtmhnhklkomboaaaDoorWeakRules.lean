/-
  Proved here: for every row of numbers and each number as direction ahead WeakRules returns true (what any numbers as classes become is what the document's rules say, where they are at most 300; they stay), and the row stays. Conditions: the package variables that the row lists hold what the program's text lays (the card ties them).
-/
import Derived.Test.YtmhnhklkomboaaaDoorWkAwake
import Derived.Test.YtmhnhklkomboaaaDoorWkRefW
import Derived.Test.YtmhnhklkomboaaaDoorRcSame
import Derived.Test.YtmhnhklkomboaaaDoorClearInts
import Derived.Test.YtmhnhklkomboaaaDoorLawInts
import Derived.Test.YtmhnhklkomboaaaDoorClLaid
import Derived.Test.YtmhnhklkomboaaaDoorTie
import Derived.Test.YtmhnhklkomboaaaDoorCards
set_option linter.unusedVariables false
namespace Go.Proofs.YtmhnhklkomboaaaDoor.WeakRules
open Go Go.ChangeShapes Go.WideShapes Go.ChangeAt Go.RowKit Go.Lib Go.Proofs.YtmhnhklkomboaaaDoor.Cl Go.Proofs.YtmhnhklkomboaaaDoor.Wk

theorem same_n (A B : Option Addr) (zs : List Int) (n c d : Nat) (w : World) (hl : zs.length = n) (ha : IntsAt w A zs) (hb : IntsAt w B zs) (hn : n ≤ 1099511627776) :
    Calls Tryd.prog 8 #[.slice A n c, .slice B n d] w fun e w' => e = .returned (.bool true) ∧ Below w.heap.size w w' := by
  subst hl
  exact Rc.same_ints A B zs c d w ha hb hn
theorem ints_of {w : World} {B n c : Nat} {A : Option Addr} {zs : List Int} (h : w.ownsRow B 3 1 (.slice A n c) n (icl zs)) (hn : zs.length = n) : IntsAt w A zs := by
  obtain ⟨A2, c2, e2, hat⟩ := intsAt_icl h hn
  injection e2 with e3 e4 e5
  subst e3
  exact hat
theorem bt {w a b : World} (h : Below w.heap.size w a) (k : Below a.heap.size a b) : Below w.heap.size w b := h.trans (k.mono h.size)

set_option maxHeartbeats 4000000 in
set_option maxRecDepth 100000 in
theorem walk (w : World) (hH : Held w) (A : Option Addr) (zs : List Int) (c : Nat) (hr : IntsAt w A zs) (hnil : A = none → zs = [] ∧ c = 0) (hlz : zs.length ≤ 9223372036854775807) (hzz : ∀ z ∈ zs, -9223372036854775808 ≤ z ∧ z ≤ 9223372036854775807) (s : Int) :
    Calls Tryd.prog 3 #[.slice A zs.length c, .int .i64 s] w fun e w' => e = .returned (.bool true) ∧ Below w.heap.size w w' := by
  by_cases hbig : 300 < zs.length
  · go_enter Tryd.func3, Tryd.ntmps3
    go_wp2_with (go_at_call 6; refine (awake_any _ hH).mono ?_; rintro e w' ⟨rfl, hb⟩)
    go_ret
    exact ⟨rfl, hb⟩
  · obtain ⟨n, hn⟩ : ∃ n, zs.length = n := ⟨_, rfl⟩
    have HL := Lib.hid hn
    rw [hn] at hbig ⊢
    have HM := Lib.hid (show (w.alloc (.cells #[] 3)).ownsRow w.heap.size 3 1 (.slice (some ⟨w.heap.size, 0, none⟩) 0 0) 0 (icl []) from World.ownsRow_made w #[] 0 (Nat.le_refl _) (Nat.zero_le _) rfl)
    have HD := Lib.hid (below_made w (.cells #[] 3))
    have HR1 := Lib.hid (hr.below HD.out)
    have HR := Lib.hid hr
    have HH := Lib.hid hH
    have HWL := Lib.hid (show (weak s zs).length = n from by rw [weak_len, hn])
    clear hr hH hn hnil hlz hzz
    go_enter Tryd.func3, Tryd.ntmps3
    go_wp2_with (at_builtin; refine wpList_add rfl _ _ rfl w.heap.size _ 0 [] rfl HM.out A n c zs rfl HR1.out HL.out (by omega) (by simp) ?_)
    intro v1 w1 hown hb
    try simp only [List.nil_append, Nat.zero_add] at hown
    obtain ⟨A1, c1, rfl, hat⟩ := intsAt_icl hown HL.out
    have HB1 := Lib.hid (HD.out.trans hb)
    have HO1 := Lib.hid hat
    have HWK := Lib.hid (weak_any A1 zs n c1 s w1 hat HL.out (by omega))
    clear hown hb hat HM HD HR1
    go_wp2_with fail
    refine HWK.out.mono ?_
    rintro e w2 ⟨A2, c2, rfl, hown, hb⟩
    have HOW2 := Lib.hid hown
    have HBB2 := Lib.hid hb
    have HB2 := Lib.hid (bt HB1.out hb)
    have HRW := Lib.hid (refweak_any A zs n c s w2 (HR.out.below HB2.out) HL.out (by omega))
    clear hown hb HWK
    go_wp2_with fail
    refine HRW.out.mono ?_
    rintro e w3 ⟨A3, c3, rfl, hown, hb⟩
    have HOW3 := Lib.hid (ownsRow_below HOW2.out hb)
    have HBB3 := Lib.hid (bt HBB2.out hb)
    have HB3 := Lib.hid (bt HB2.out hb)
    have HS := Lib.hid (same_n A2 A3 (weak s zs) n c2 c3 w3 HWL.out (ints_of HOW3.out HWL.out) (ints_of hown HWL.out) (by omega))
    clear hown hb HRW HOW2
    go_wp2_with fail
    refine HS.out.mono ?_
    rintro e w4 ⟨rfl, hb⟩
    have HOW4 := Lib.hid (ownsRow_below HOW3.out hb)
    have HBB4 := Lib.hid (bt HBB3.out hb)
    have HB4 := Lib.hid (bt HB3.out hb)
    clear hb HS HOW3
    obtain ⟨w5, hcl, hgr⟩ := clear_ints HOW4.out
    have HBB5 := Lib.hid (HBB4.out.grown hgr HBB4.out.size (fun q hq => (HOW4.out.lt q hq).1))
    have HB5 := Lib.hid (bt HB1.out HBB5.out)
    have HS2 := Lib.hid (same_n A1 A zs n c1 c w5 HL.out (HO1.out.below HBB5.out) (HR.out.below HB5.out) (by omega))
    have HH5 := Lib.hid (HH.out.below HB5.out)
    clear hgr
    go_wp2_with fail
    refine HS2.out.mono ?_
    rintro e w6 ⟨rfl, hb⟩
    have HB6 := Lib.hid (bt HB5.out hb)
    have HH6 := Lib.hid (HH5.out.below hb)
    clear hb HS2 hcl
    go_wp2_with fail
    refine (awake_any w6 HH6.out).mono ?_
    rintro e w7 ⟨rfl, hb⟩
    have HB7 := Lib.hid (bt HB6.out hb)
    clear hb
    go_wp2
    go_ret
    exact ⟨rfl, HB7.out⟩

set_option maxRecDepth 100000 in
theorem lifted (os : Os) (started : os.Started) (H : Type) (enc : TypeId × Value → H) :
    ReturnsInHanded {} Tryd.checked os 3 .any (fun w args => (Rows.weakRulesSpec.pre enc Tryd.prog Tryd.f3 [] false w args ∧ laidMetH Tryd.prog laidL w) ∧ sizedMet enc Tryd.prog Tryd.f3 (OpenSpec.ofChange Rows.weakRulesSpec) false w args) (Rows.weakRulesSpec.post enc Tryd.prog Tryd.f3 false true false false) := by
  refine returns_laid started (by kernel_rfl) Tryd.func3 #[.slice none 0 0, .int .i64 0] (by kernel_rfl) (World.shaped_of_ZipB (by kernel_rfl) (by kernel_rfl)) (by rw [MakeChecks.laidMetH_plain _ _ _ (by kernel_rfl)]; exact laidMet_laidAll _ (by kernel_rfl) (by kernel_rfl)) (by kernel_rfl) (by kernel_rfl) rfl rfl (by kernel_rfl) ?_ ?_
  · intro ds hds
    rw [show Tryd.f3.params.toList.length = 2 from by kernel_rfl] at hds
    match ds, hds with
    | [d0, d1], _ => rfl
  intro W base args ds p hval hA hH
  rw [Tryd.params3] at hA hval
  obtain ⟨v0, vs0, d0, ds0, p0, q0, hargs, rfl, rfl, h0, r0⟩ := ChangeShapes.trodAll_cons hA
  obtain ⟨v1, vs1, d1, ds1, p1, q1, rfl, rfl, rfl, h1, r1⟩ := ChangeShapes.trodAll_cons r0
  obtain ⟨rfl, rfl, rfl⟩ := ChangeShapes.trodAll_nil r1
  obtain rfl : args = #[v0, v1] := by cases args; simp_all
  obtain ⟨A0, zs0, c0, rfl, hr0, hnil0, hl0, hz0⟩ := open_introw (hval 0 22 v0 rfl rfl) h0
  obtain ⟨x1, rfl, rfl, rfl, wx1⟩ := open_int Tryd.underlying3 (hval 1 3 v1 rfl rfl) h1
  exact walk W hH A0 zs0 c0 hr0 hnil0 hl0 hz0 x1

theorem holds : Rows.WeakRulesSaid :=
  OpenClaim.holds_of_wide 3 Tryd.f3 rfl rfl rfl rfl rfl rfl rfl ⟨rfl, rfl, rfl, rfl, rfl⟩ rfl rfl rfl rfl rfl (by kernel_rfl) Tryd.func3 (by kernel_rfl)
    (of_decide_eq_true (by kernel_rfl)) (by unfold Func.isWrapper; first | (rw [if_pos (by decide +kernel)]; kernel_rfl) | (rw [if_neg (by decide +kernel)]; exact ⟨rfl, rfl⟩))
    (fun os started H enc _ => lifted os started H enc)

theorem card : Rows.WeakRulesCardSaid :=
  Claim7.holds_tied_plain_at .later [] [.data, .data, .pinned] true (true, "14469f2c6873348fd6e08c65ca0a8d63d0a72390e6af6706efc1bcb04c7fa5ff") false
    holds (fun _ h => by cases h) (by kernel_rfl) (fun _ h => by cases h) weakRules_row_tie rfl ⟨rfl, rfl⟩ (by kernel_rfl) rfl
    (fun f fn hf hfn => by
      obtain rfl : f = 3 := Option.some.inj ((show Tryd.prog.funcNamed "parquetry/parquetrylaw13.WeakRules" = some 3 by kernel_rfl).symm.trans hf) |>.symm
      obtain rfl : fn = Tryd.f3 := (Option.some.inj (Tryd.func3.symm.trans hfn)).symm
      exact ⟨by kernel_rfl, fun j t ht => by
        rw [Tryd.params3] at ht
        have hm : t ∈ [22, 3] := by simpa using Array.mem_of_getElem? ht
        have hall : ([22, 3].all fun u => !Tryd.prog.wantsStandIn u) = true := by kernel_rfl
        exact (show Tryd.prog.wantsStandIn t = false by simpa using List.all_eq_true.1 hall t hm)⟩)
    (by kernel_rfl)
end Go.Proofs.YtmhnhklkomboaaaDoor.WeakRules
