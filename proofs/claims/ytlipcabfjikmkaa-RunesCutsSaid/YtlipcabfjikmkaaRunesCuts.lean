/-
  Proved here: for every text and every number, RunesCuts returns true (a text of at most 4000 bytes that is cut ahead of one of its runes has, in two parts, the runes ahead of the cut and those behind it), and the text stays. No condition.
-/
import Derived.Test.YtlipcabfjikmkaaRnAwake
import Derived.Test.YtlipcabfjikmkaaRnCut
import Derived.Test.YtlipcabfjikmkaaLawKit
import Derived.IntWalk
import Derived.Deep.QuietTactic
import Derived.BigQuiet
import Derived.Deep.RegionWith
set_option linter.unusedVariables false
namespace Go.Proofs.Ytlipcabfjikmkaa.RunesCuts
open Go.RowKit Go.Lib Go.Proofs.Ytlipcabfjikmkaa.Rn

theorem below_draws (w : World) : ∀ n, Below w.heap.size w (w.drewN n)
  | 0 => Below.refl _ _
  | n + 1 => (below_draws w n).drew

theorem below_drewN' {B : Nat} {a w : World} (h : Below B a w) : ∀ n, Below B a (w.drewN n)
  | 0 => h
  | n + 1 => (below_drewN' h n).drew
theorem below_round (w : World) (o : Obj) (n m : Nat) (v : Value) (q : Nat) : Below w.heap.size w ((((w.alloc o).drewN n).setCell ⟨w.heap.size, q, none⟩ v).drewN m) :=
  below_drewN' ((below_drewN' ((Below.refl _ _).alloc (Nat.le_refl _) o) n).setCell (p := ⟨w.heap.size, q, none⟩) (Nat.le_refl _) v) m

theorem and_range (x : Int) : ∃ q : Nat, q ≤ 65535 ∧ bits BinOp.and IntKind.i64 x 65535 = (q : Int) := by
  refine ⟨((BitVec.ofInt 64 x) &&& (BitVec.ofInt 64 65535)).toNat, ?_, ?_⟩
  · rw [BitVec.toNat_and]
    exact Nat.le_trans Nat.and_le_right (by decide)
  · have h : ((BitVec.ofInt 64 x) &&& (BitVec.ofInt 64 65535)).toNat ≤ 65535 := by
      rw [BitVec.toNat_and]
      exact Nat.le_trans Nat.and_le_right (by decide)
    show IntKind.i64.wrap ((((BitVec.ofInt 64 x) &&& (BitVec.ofInt 64 65535)).toNat : Nat) : Int) = _
    exact IntWalk.i64_in _ ⟨by omega, by omega⟩
theorem pick_range (x : Int) (n : Nat) (hn : 0 < n) : ∃ k : Nat, k < n ∧ (bits BinOp.and IntKind.i64 x 65535).tmod (n : Int) = (k : Int) := by
  obtain ⟨q, _, hq⟩ := and_range x
  rw [hq]
  exact ⟨q % n, Nat.mod_lt _ hn, rfl⟩
theorem ext_take (s : ByteArray) (p : Nat) : (s.extract 0 p).data.toList = s.data.toList.take p := by
  rw [Lib.extract_data]; rfl
theorem ext_drop (s : ByteArray) (p : Nat) : (s.extract p s.size).data.toList = s.data.toList.drop p := by
  rw [Lib.extract_data, List.take_of_length_le (by rw [List.length_drop, ← Lib.size_eq]; omega)]
theorem ext_size (s : ByteArray) (a b : Nat) : (s.extract a b).size ≤ s.size := by
  rw [Lib.size_eq, Lib.extract_data, List.length_take, List.length_drop, ← Lib.size_eq]
  omega

set_option maxHeartbeats 2000000 in
set_option maxRecDepth 1000000 in
theorem walk (s : ByteArray) (x : Int) (w : World) (hx1 : -9223372036854775808 ≤ x) (hx2 : x ≤ 9223372036854775807) (hs0 : s.size ≤ 9223372036854775807) :
    Calls Try.prog 8 #[.string s, .int .i64 x] w fun e w' => e = .returned (.bool true) ∧ Below w.heap.size w w' := by
  by_cases hbig : 4000 < s.size
  · go_enter Try.func8, Try.ntmps8
    go_wp2_with (go_at_call 9; refine (awake_any _).mono ?_; rintro e w' ⟨rfl, hb⟩)
    go_ret
    exact ⟨rfl, hb⟩
  · have tb : decide ((4000 : Int) < (s.size : Int)) = false := by simp; omega
    by_cases hempty : s.size = 0
    · have te : ((s.size : Int) == 0) = true := by simp [hempty]
      have H0 := Lib.hid hempty
      clear hempty
      go_enter Try.func8, Try.ntmps8
      go_wp2_with (go_at_call 9; refine (awake_any _).mono ?_; rintro e w' ⟨rfl, hb⟩)
      go_ret
      exact ⟨rfl, hb⟩
    · have te : ((s.size : Int) == 0) = false := by rw [beq_eq_false_iff_ne]; omega
      have cS := fun W => split_reads s W (by omega)
      have hne : splitA s.data.toList 0 ≠ [] := by
        have h0 : s.data.toList ≠ [] := drop_ne s 0 (by omega)
        rw [splitA_step h0]
        simp
      have hln := splitA_len s.data.toList.length s.data.toList 0 (Nat.le_refl _)
      rw [← Lib.size_eq] at hln
      have hcut := split_cut0 s.data.toList
      rw [← Lib.size_eq] at hcut
      obtain ⟨rs, hrs⟩ : ∃ rs, splitA s.data.toList 0 = rs := ⟨_, rfl⟩
      rw [hrs] at cS hne hln hcut
      have hpos : 0 < rs.length := List.length_pos_iff.2 hne
      have HS := Lib.hid cS
      have HC := Lib.hid hcut
      clear hrs cS hcut hne
      go_enter Try.func8, Try.ntmps8
      go_wp2_with fail
      refine (HS.out w).mono ?_
      rintro e w1 ⟨A, c, rfl, hr, hb1⟩
      have tl : ((rs.length : Int) == 0) = false := by rw [beq_eq_false_iff_ne]; omega
      obtain ⟨k, hk, hkk⟩ := pick_range x rs.length hpos
      obtain ⟨g, hA, hg, c0, c1, c2⟩ := hr k hk
      obtain ⟨hp, hfront, hback⟩ := HC.out k rs[k] (List.getElem?_eq_getElem hk)
      have cF := fun W => split_reads (s.extract 0 rs[k].1) W (by have := ext_size s 0 rs[k].1; omega)
      have cB := fun W => split_reads (s.extract rs[k].1 s.size) W (by have := ext_size s rs[k].1 s.size; omega)
      rw [ext_take, hfront] at cF
      rw [ext_drop] at cB
      have hlb : (splitA (s.data.toList.drop rs[k].1) 0).length = rs.length - k := by
        have := congrArg List.length hback
        simpa using this
      have hlf : (rs.take k).length = k := by rw [List.length_take]; omega
      rw [hlf] at cF
      rw [hlb] at cB
      obtain ⟨bs, hbs⟩ : ∃ bs, splitA (s.data.toList.drop rs[k].1) 0 = bs := ⟨_, rfl⟩
      rw [hbs] at cB hback hlb
      obtain ⟨p, hpe⟩ : ∃ p, rs[k].1 = p := ⟨_, rfl⟩
      rw [hpe] at c0 hp cF cB hback
      have HR := Lib.hid hr
      have HA := Lib.hid hA
      have HF := Lib.hid cF
      have HB := Lib.hid cB
      have HBK := Lib.hid hback
      clear hr HS c1 c2 hpe hbs hfront hback cF cB hlb hlf
      subst hA
      have tp0 : decide ((p : Int) < 0) = false := by simp
      have tp1 : decide (s.size < p) = false := by simp; omega
      go_wp2_with fail
      go_region_with (first | (go_at_call_of 12 (s.extract 0 p); refine (HF.out _).mono ?_; rintro e w2 ⟨A2, cc2, rfl, hr2, hb2⟩) | (go_at_call_of 12 (s.extract p s.size); refine (HB.out _).mono ?_; rintro e w3 ⟨A3, cc3, rfl, hr3, hb3⟩))
      have hb13 : Below w1.heap.size w1 w3 := ((Below.refl w1.heap.size w1).drew.trans hb2).trans (hb3.mono hb2.size)
      have HR3 := Lib.hid (HR.out.below hb13)
      have HF3 := Lib.hid (hr2.below hb3)
      have HB3 := Lib.hid hr3
      have hlb : bs.length = rs.length - k := by
        have := congrArg List.length HBK.out
        simpa using this
      have HLB := Lib.hid hlb
      have hb03 := hb1.trans (hb13.mono hb1.size)
      have tn2 : (((rs.length - k : Nat) : Int) != (rs.length : Int) - (k : Int)) = false := by
        rw [bne_eq_false_iff_eq]
        omega
      clear hb13 HR hr2 hr3 HF HB hb1 hb2 hb3 hlb tp0 tp1 tl te tb hkk c0
      go_wp2_with fail
      go_loopw [10] (fun s10 wx => ∃ i : Nat, i ≤ rs.length ∧ s10 = .int .i64 i ∧ Below w3.heap.size w3 wx) (fun s10 _ => rs.length - (RowKit.intOf s10).toNat)
      case atStart => exact ⟨0, Nat.zero_le _, rfl, Below.refl _ _⟩
      case round =>
        obtain ⟨i, hi, rfl, hbw⟩ := hrel
        by_cases hlt : i < rs.length
        · obtain ⟨g', hA', hg', c0, c1, c2⟩ := (HR3.out.below hbw) i hlt
          injection hA' with hA'
          injection hA' with hA'
          subst hA'
          by_cases hik : i < k
          · have hif : i < (rs.take k).length := by rw [List.length_take]; omega
            obtain ⟨gf, rfl, hgf, f0, f1, f2⟩ := (HF3.out.below hbw) i hif
            rw [List.getElem_take] at f0 f1 f2
            obtain ⟨⟨ra, rz, rc⟩, hr⟩ : ∃ r, rs[i] = r := ⟨_, rfl⟩
            rw [hr] at c0 c1 c2 f0 f1 f2
            dsimp only at c0 c1 c2 f0 f1 f2
            clear hr hif HR3 HF3 HB3 HBK HLB HC
            have tg : decide (i < k) = true := by simpa using hik
            have tg2 : decide (k ≤ i) = false := by simp; omega
            go_wp2_with fail
            go_quiet (fail)
            go_wp2_with fail
            go_quiet (fail)
            go_wp2_with fail
            go_roundw
            case rel =>
              exact ⟨i + 1, by omega, by go_num, hbw.trans ((below_round wr _ _ _ _ _).mono hbw.size)⟩
            case measure => simp [RowKit.intOf]; omega
          · have hib : i - k < bs.length := by have := HLB.out; omega
            obtain ⟨gb, rfl, hgb, f0, f1, f2⟩ := (HB3.out.below hbw) (i - k) hib
            have hrb : rs[i] = (bs[i - k].1 + p, bs[i - k].2) := by
              have h1 : (rs.drop k)[i - k]? = some rs[i] := by
                rw [List.getElem?_drop, show k + (i - k) = i from by omega]
                exact List.getElem?_eq_getElem hlt
              rw [← HBK.out, List.getElem?_map, List.getElem?_eq_getElem hib] at h1
              simpa using h1.symm
            obtain ⟨⟨ra, rz, rc⟩, hr⟩ : ∃ r, bs[i - k] = r := ⟨_, rfl⟩
            rw [hr] at hrb f0 f1 f2
            have hpi := (HC.out i rs[i] (List.getElem?_eq_getElem hlt)).1
            rw [hrb] at c0 c1 c2 hpi
            dsimp only at c0 c1 c2 f0 f1 f2 hpi
            obtain ⟨P1, hP1⟩ : ∃ P1 : Int, ((ra + p : Nat) : Int) = P1 := ⟨_, rfl⟩
            rw [hP1] at c0
            have hP2 : 0 ≤ P1 := by omega
            have hP3 : P1 ≤ 4000 := by omega
            have hsub : P1 - (p : Int) = (ra : Int) := by omega
            clear hr hrb hib HR3 HF3 HB3 HBK HC hP1 hpi
            have tg : decide (i < k) = false := by simp; omega
            have tg2 : decide (k ≤ i) = true := by simp; omega
            go_wp2_with fail
            go_quiet (fail)
            go_wp2_with fail
            go_quiet (fail)
            go_wp2_with fail
            go_roundw
            case rel =>
              exact ⟨i + 1, by omega, by go_num, hbw.trans ((below_round wr _ _ _ _ _).mono hbw.size)⟩
            case measure => simp [RowKit.intOf]; omega
        · go_wp2_with (go_at_call 9; refine (awake_any _).mono ?_; rintro e w' ⟨rfl, hb⟩)
          go_ret
          have hb0r := hb03.trans (hbw.mono hb03.size)
          exact ⟨rfl, hb0r.trans (hb.mono hb0r.size)⟩

set_option maxRecDepth 100000 in
theorem lifted (os : Os) (started : os.Started) (H : Type) (enc : TypeId × Value → H) :
    ReturnsInHanded {} Try.checked os 8 .any (Rows.runesCutsSpec.pre6 enc Try.prog Try.f8 Rows.runesCutsRow.domain false) (Rows.runesCutsSpec.post enc Try.prog Try.f8 false true false false) := by
  refine returnsInHanded_of_change (C := Try.checked) law_own started (by kernel_rfl) Try.func8
    (ChangeSpec.witness6 (enc := enc) (C := Try.checked) false ⟨#[], #[.string ⟨#[]⟩, .int .i64 0], []⟩ 8 (by kernel_rfl) (by kernel_rfl) (by kernel_rfl) (by kernel_rfl)) ?_
  intro W base args ds gs before hval0 hW _ _
  have hval : ∀ (j : Nat) t v, Try.f8.params[j]? = some t → args[j]? = some v → Value.okWide Try.prog W .any base t v := hval0
  have hW' := hW
  obtain ⟨p, q, hA0, hV, rfl, hfz, hnd⟩ := hW
  have hA : DataW.TrodAll enc Try.prog W 0 (fun _ => true) true Try.f8.params.toList args.toList ds p := hA0
  rw [Try.params8] at hA hval
  obtain ⟨v0, vs0, d0, ds0, p0, q0, hargs, rfl, rfl, h0, r0⟩ := ChangeShapes.trodAll_cons hA
  obtain ⟨v1, vs1, d1, ds1, p1, q1, rfl, rfl, rfl, h1, r1⟩ := ChangeShapes.trodAll_cons r0
  obtain ⟨rfl, rfl, rfl⟩ := ChangeShapes.trodAll_nil r1
  obtain rfl : args = #[v0, v1] := by cases args; simp_all
  obtain ⟨rfl, rfl⟩ := ChangeShapes.trodVars_none hV
  obtain ⟨s, rfl, rfl, rfl, ws⟩ := ChangeMaps.open_string Try.underlying9 (hval 0 9 v0 rfl rfl) h0
  obtain ⟨x, rfl, rfl, rfl, wx⟩ := ChangeShapes.open_int Try.underlying3 (hval 1 3 v1 rfl rfl) h1
  unfold maxLen at ws
  have h1 : IntKind.i64.min = -9223372036854775808 := rfl
  have h2 : IntKind.i64.max = 9223372036854775807 := rfl
  simp only [Lit.wf, Bool.and_eq_true, decide_eq_true_eq] at wx
  refine (walk s x W (by omega) (by omega) (by omega)).mono fun e W' ⟨he, hB⟩ => ?_
  subst he
  exact ⟨_, rfl, law_post hW' rfl rfl (by kernel_rfl) rfl hB⟩

theorem holds : Rows.RunesCutsSaid :=
  OpenClaim.holds_of_wide 8 Try.f8 rfl rfl rfl rfl rfl rfl rfl ⟨rfl, rfl, rfl, rfl, rfl⟩ rfl rfl rfl rfl rfl (by kernel_rfl) Try.func8 (by kernel_rfl)
    (of_decide_eq_true (by kernel_rfl)) (by unfold Func.isWrapper; first | (rw [if_pos (by decide +kernel)]; kernel_rfl) | (rw [if_neg (by decide +kernel)]; exact ⟨rfl, rfl⟩))
    (fun os started H enc _ => lifted os started H enc)
end Go.Proofs.Ytlipcabfjikmkaa.RunesCuts
