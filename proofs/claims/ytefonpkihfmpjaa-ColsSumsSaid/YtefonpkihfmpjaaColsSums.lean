/-
  Proved here: for every row of numbers and every cut ColsSums returns true (each of at most 200 takes 0, 1 or 2; wherever they are cut, both parts take as many together as all), and they stay. No condition.
-/
import Derived.Test.YtefonpkihfmpjaaCoAwake
import Derived.Test.YtefonpkihfmpjaaLawInts
import Derived.Deep.RegionHeld3
import Derived.Test.YtefonpkihfmpjaaLawKit
import Derived.Stop.Joined
set_option linter.unusedVariables false
namespace Go.Proofs.Ytefonpkihfmpjaa.ColsSums
open Go.ChangeShapes Go.WideShapes Go.ChangeAt Go.RowKit Go.Lib Go.Proofs.Ytefonpkihfmpjaa.Co
open Go.Proofs.Ytefonpkihfmpjaa.Cl (IntsAt)


open Go.Proofs.Ytefonpkihfmpjaa.Arr
theorem and_range (x : Int) : ∃ q : Nat, q ≤ 65535 ∧ bits BinOp.and IntKind.i64 x 65535 = (q : Int) := by
  refine ⟨((BitVec.ofInt 64 x) &&& (BitVec.ofInt 64 65535)).toNat, ?_, ?_⟩
  · rw [BitVec.toNat_and]
    exact Nat.le_trans Nat.and_le_right (by decide)
  · have h : ((BitVec.ofInt 64 x) &&& (BitVec.ofInt 64 65535)).toNat ≤ 65535 := by
      rw [BitVec.toNat_and]
      exact Nat.le_trans Nat.and_le_right (by decide)
    show IntKind.i64.wrap ((((BitVec.ofInt 64 x) &&& (BitVec.ofInt 64 65535)).toNat : Nat) : Int) = _
    exact IntWalk.i64_in _ ⟨by omega, by omega⟩
theorem pick_range (x : Int) (n : Nat) (hn : 0 < n) : ∃ k : Nat, k < n ∧ (bits BinOp.and IntKind.i64 x 65535).tmod (n : Int) = (k : Int) := by
  obtain ⟨q, _, hq⟩ := and_range x
  rw [hq]
  exact ⟨q % n, Nat.mod_lt _ hn, rfl⟩

theorem step_below {wr V W : World} (h : Below wr.heap.size wr V) (hb : Below V.heap.size V W) : Below wr.heap.size wr W := h.trans (hb.mono h.size)
theorem ints_take {w : World} {A : Option Addr} {zs : List Int} (h : IntsAt w A zs) (p : Nat) : IntsAt w A (zs.take p) := by
  rcases h with rfl | ⟨b, off, rfl, hlt, hc⟩
  · exact .inl (by simp)
  · refine .inr ⟨b, off, rfl, hlt, fun j z hz => ?_⟩
    rw [List.getElem?_take] at hz
    split at hz
    · exact hc j z hz
    · cases hz
theorem ints_drop {w : World} {b off : Nat} {spot : _} {zs : List Int} (h : IntsAt w (some ⟨b, off, spot⟩) zs) (p : Nat) : IntsAt w (some ((⟨b, off, spot⟩ : Addr).add p)) (zs.drop p) := by
  rcases h with rfl | ⟨b', off', he, hlt, hc⟩
  · exact .inl (by simp)
  · injection he with he
    injection he with e1 e2 e3
    subst e1 e2 e3
    have hadd : (⟨b, off, none⟩ : Addr).add p = ⟨b, off + p, none⟩ := by unfold Addr.add; split <;> simp_all
    refine .inr ⟨b, off + p, by rw [hadd], hlt, fun j z hz => ?_⟩
    rw [List.getElem?_drop] at hz
    rw [Nat.add_assoc]
    exact hc (p + j) z hz

set_option maxHeartbeats 2000000 in
set_option maxRecDepth 100000 in
theorem walk (w : World) (A : Option Addr) (zs : List Int) (c : Nat) (hr : IntsAt w A zs) (hnil : A = none → zs = [] ∧ c = 0) (hs0 : zs.length ≤ 9223372036854775807) (hcap : zs.length ≤ c) (cut : Int) :
    Calls Try.prog 5 #[.slice A zs.length c, .int .i64 cut] w fun e w' => e = .returned (.bool true) ∧ Below w.heap.size w w' := by
  by_cases hbig : 200 < zs.length
  · go_enter Try.func5, Try.ntmps5
    go_wp2_with fail
    refine (awake_any _).mono ?_
    rintro e w3 ⟨rfl, hb3⟩
    go_wp2
    go_ret
    exact ⟨rfl, hb3⟩
  obtain ⟨p, hp, hcut⟩ := pick_range cut (zs.length + 1) (by omega)
  have HR := Lib.hid hr
  rw [Int.natCast_add, Int.cast_ofNat_Int] at hcut
  clear hr
  go_enter Try.func5, Try.ntmps5
  go_wp2_with fail
  clear hcut
  go_loopw [6, 7, 8] (fun s6 s7 s8 wx => ∃ k : Nat, k ≤ zs.length ∧ s7 = .int .i64 k ∧ s6 = .int .i64 (sumT (zs.take k)) ∧ Below w.heap.size w wx) (fun _ s7 _ _ => zs.length - (RowKit.intOf s7).toNat)
  case atStart => exact ⟨0, Nat.zero_le _, rfl, rfl, Below.refl _ _⟩
  case round =>
    obtain ⟨k, hk, rfl, rfl, hb⟩ := hrel
    have hsb := sumT_bounds (zs.take k)
    have hlt' : (zs.take k).length ≤ k := List.length_take_le _ _
    by_cases hlt : k < zs.length
    · obtain ⟨g, off, rfl, hc⟩ := (HR.out.below hb).at_ hlt
      have HX := Lib.hid (sumT_next zs k hlt)
      have hvb := slotsT_bounds zs[k]
      have CO := Lib.hid (fun W => cOf_any zs[k] W)
      generalize zs[k] = z at *
      have HB := Lib.hid hb
      clear hb
      generalize slotsT z = v at *
      generalize sumT (zs.take k) = s at *
      go_wp2_with fail
      refine (CO.out _).mono ?_
      rintro e w4 ⟨rfl, hb4⟩
      go_wp2
      go_roundw
      case rel => exact ⟨k + 1, by omega, by go_num, by rw [HX.out], HB.out.trans (hb4.mono HB.out.size)⟩
      case measure => simp [RowKit.intOf]; omega
    · obtain rfl : k = zs.length := by omega
      rw [List.take_length] at *
      clear hk hlt hlt'
      by_cases hA : A = none
      · obtain ⟨rfl, rfl⟩ := hnil hA
        subst hA
        obtain rfl : p = 0 := by simp only [List.length_nil] at hp; omega
        have C0 := Lib.hid (fun V => sum_any none [] 0 V (.inl rfl) (by decide))
        rw [show sumT [] = 0 from rfl] at *
        have HB := Lib.hid hb
        have CA := Lib.hid (fun V => awake_any V)
        clear hb HR hsb hnil
        simp only [List.length_nil] at *
        go_wp2_with fail
        go_region_held3 (fun V => Below wr.heap.size wr V) (first | exact Below.refl _ _ | exact below_drew (Below.refl _ _) | assumption)
          ((first
            | (go_at_call 11; refine (C0.out _).mono ?_; rintro e w7 ⟨rfl, hb7⟩; have hbx := step_below (wr := wr) (by assumption) hb7; clear hb7)
            | (go_at_call 9; refine (CA.out _).mono ?_; rintro e w7 ⟨rfl, hb7⟩; have hbx := step_below (wr := wr) (by assumption) hb7; clear hb7)))
        all_goals go_wp2
        all_goals go_ret
        all_goals (refine ⟨rfl, HB.out.trans (Below.mono (?_ : Below wr.heap.size wr _) HB.out.size)⟩; assumption)
      clear hnil
      have hsum : sumT zs = sumT (zs.take p) + sumT (zs.drop p) := by rw [← sumT_append, List.take_append_drop]
      have l1 : (zs.take p).length = p := by rw [List.length_take]; omega
      have l2 : (zs.drop p).length = zs.length - p := List.length_drop
      have b1 := sumT_bounds (zs.take p)
      have b2 := sumT_bounds (zs.drop p)
      rw [l1] at b1
      rw [l2] at b2
      have C1 := Lib.hid (fun V (h : Below wr.heap.size wr V) => hsum ▸ sum_any A zs c V ((HR.out.below hb).below h) (by omega))
      have C2 := Lib.hid (fun V (h : Below wr.heap.size wr V) => l1 ▸ sum_any A (zs.take p) c V ((ints_take (HR.out.below hb) p).below h) (by omega))
      have C3 := Lib.hid (fun A' (ha : IntsAt wr A' (zs.drop p)) V (h : Below wr.heap.size wr V) => l2 ▸ sum_any A' (zs.drop p) (c - p) V (ha.below h) (by omega))
      have HB := Lib.hid hb
      have HRX := Lib.hid (HR.out.below hb)
      have CA := Lib.hid (fun V => awake_any V)
      clear hb HR
      rw [hsum]
      have HE := Lib.hid (fun (h : zs.length ≤ p) => (show IntsAt wr A (zs.drop p) ∧ sumT (zs.drop p) = 0 from by rw [List.drop_eq_nil_of_le h]; exact ⟨.inl rfl, rfl⟩))
      generalize sumT (zs.take p) = s1 at *
      generalize sumT (zs.drop p) = s2 at *
      generalize zs.length = n at *
      have hw : IntKind.i64.wrap (s1 + s2) = s1 + s2 := IntWalk.i64_in _ (by omega)
      clear hsum l1 l2 hsb
      have hpn : p ≤ n := by omega
      have hpc : p ≤ c := by omega
      have i0 : (0 : Int) ≤ p := by omega
      have i1 : (p : Int) ≤ n := by omega
      have i2 : (p : Int) ≤ c := by omega
      have i3 : (n : Int) ≤ c := by omega
      rcases A with _ | ⟨b, off, spot⟩
      · exact absurd rfl hA
      · clear hA
        by_cases hcp : c = p
        · obtain rfl : n = p := by omega
          subst hcp
          obtain ⟨h3, h4⟩ := HE.out (Nat.le_refl _)
          subst h4
          rw [Int.add_zero] at *
          have c3 := C3.out _ h3
          rw [Nat.sub_self] at c3
          have C3' := Lib.hid c3
          clear c3
          clear C3 C2 HE h3
          go_wp2_with fail
          go_region_held3 (fun V => Below wr.heap.size wr V) (first | exact Below.refl _ _ | exact below_drew (Below.refl _ _) | assumption)
            ((first
              | (go_at_call 11
                 first
                 | ((with_reducible refine (C1.out _ (by assumption)).mono ?_); rintro e w7 ⟨rfl, hb7⟩; have hbx := step_below (wr := wr) (by assumption) hb7; clear hb7)
                 | ((with_reducible refine (C2.out _ (by assumption)).mono ?_); rintro e w7 ⟨rfl, hb7⟩; have hbx := step_below (wr := wr) (by assumption) hb7; clear hb7)
                 | ((with_reducible refine (C3'.out _ (by assumption)).mono ?_); rintro e w7 ⟨rfl, hb7⟩; have hbx := step_below (wr := wr) (by assumption) hb7; clear hb7))
              | (go_at_call 9; refine (CA.out _).mono ?_; rintro e w7 ⟨rfl, hb7⟩; have hbx := step_below (wr := wr) (by assumption) hb7; clear hb7)))
          all_goals go_wp2
          all_goals go_ret
          all_goals (refine ⟨rfl, HB.out.trans (Below.mono (?_ : Below wr.heap.size wr _) HB.out.size)⟩; assumption)
        · have C3' := Lib.hid (C3.out (some ((⟨b, off, spot⟩ : Addr).add p)) (ints_drop HRX.out p))
          clear C3
          go_wp2_with fail
          go_region_held3 (fun V => Below wr.heap.size wr V) (first | exact Below.refl _ _ | exact below_drew (Below.refl _ _) | assumption)
            ((first
              | (go_at_call 11
                 first
                 | ((with_reducible refine (C1.out _ (by assumption)).mono ?_); rintro e w7 ⟨rfl, hb7⟩; have hbx := step_below (wr := wr) (by assumption) hb7; clear hb7)
                 | ((with_reducible refine (C2.out _ (by assumption)).mono ?_); rintro e w7 ⟨rfl, hb7⟩; have hbx := step_below (wr := wr) (by assumption) hb7; clear hb7)
                 | ((with_reducible refine (C3'.out _ (by assumption)).mono ?_); rintro e w7 ⟨rfl, hb7⟩; have hbx := step_below (wr := wr) (by assumption) hb7; clear hb7))
              | (go_at_call 9; refine (CA.out _).mono ?_; rintro e w7 ⟨rfl, hb7⟩; have hbx := step_below (wr := wr) (by assumption) hb7; clear hb7)))
          all_goals go_wp2
          all_goals go_ret
          all_goals (refine ⟨rfl, HB.out.trans (Below.mono (?_ : Below wr.heap.size wr _) HB.out.size)⟩; assumption)

set_option maxRecDepth 100000 in
theorem lifted (os : Os) (started : os.Started) (H : Type) (enc : TypeId × Value → H) :
    ReturnsInHanded {} Try.checked os 5 .any (Rows.colsSumsSpec.pre6 enc Try.prog Try.f5 Rows.colsSumsRow.domain false) (Rows.colsSumsSpec.post enc Try.prog Try.f5 false true false false) := by
  refine returnsInHanded_of_change (C := Try.checked) law_own started (by kernel_rfl) Try.func5
    (ChangeSpec.witness6 (enc := enc) (C := Try.checked) false ⟨#[], #[.slice none 0 0, .int .i64 0], []⟩ 8 (by kernel_rfl) (by kernel_rfl) (by kernel_rfl) (by kernel_rfl)) ?_
  intro W base args ds gs before hval0 hW _ _
  have hval : ∀ (j : Nat) t v, Try.f5.params[j]? = some t → args[j]? = some v → Value.okWide Try.prog W .any base t v := hval0
  have hW' := hW
  obtain ⟨p, q, hA0, hV, rfl, hfz, hnd⟩ := hW
  have hA : DataW.TrodAll enc Try.prog W 0 (fun _ => true) true Try.f5.params.toList args.toList ds p := hA0
  rw [Try.params5] at hA hval
  obtain ⟨v0, vs0, d0, ds0, p0, q0, hargs, rfl, rfl, h0, r0⟩ := ChangeShapes.trodAll_cons hA
  obtain ⟨v1, vs1, d1, ds1, p1, q1, rfl, rfl, rfl, h1, r1⟩ := ChangeShapes.trodAll_cons r0
  obtain ⟨rfl, rfl, rfl⟩ := ChangeShapes.trodAll_nil r1
  obtain rfl : args = #[v0, v1] := by cases args; simp_all
  obtain ⟨rfl, rfl⟩ := ChangeShapes.trodVars_none hV
  obtain ⟨A0, zs0, c0, rfl, hr0, hnil0, hl0, hz0, hc0⟩ := open_introwc (hval 0 25 v0 rfl rfl) h0
  obtain ⟨x1, rfl, rfl, rfl, wx1⟩ := open_int Try.underlying3 (hval 1 3 v1 rfl rfl) h1
  refine (walk W A0 zs0 c0 hr0 hnil0 hl0 hc0 x1).mono fun e W' ⟨he, hB⟩ => ?_
  subst he
  exact ⟨_, rfl, law_post hW' rfl rfl (by kernel_rfl) rfl hB⟩

theorem holds : Rows.ColsSumsSaid :=
  OpenClaim.holds_of_wide 5 Try.f5 rfl rfl rfl rfl rfl rfl rfl ⟨rfl, rfl, rfl, rfl, rfl⟩ rfl rfl rfl rfl rfl (by kernel_rfl) Try.func5 (by kernel_rfl)
    (of_decide_eq_true (by kernel_rfl)) (by unfold Func.isWrapper; first | (rw [if_pos (by decide +kernel)]; kernel_rfl) | (rw [if_neg (by decide +kernel)]; exact ⟨rfl, rfl⟩))
    (fun os started H enc _ => lifted os started H enc)
end Go.Proofs.Ytefonpkihfmpjaa.ColsSums
