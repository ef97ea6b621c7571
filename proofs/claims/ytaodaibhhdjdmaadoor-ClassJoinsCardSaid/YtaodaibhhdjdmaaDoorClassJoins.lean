/-
  Proved here: for every two texts, ClassJoins returns true (two texts of at most 1000 bytes, the first of them valid, have, one behind the other, the classes of the first one's runes and of the second one's; each class is one of the 23), and both stay. Conditions: the package variables that the row lists hold what the program's text lays (the card ties them).
-/
import Derived.Test.YtaodaibhhdjdmaaDoorClLike
import Derived.Test.YtaodaibhhdjdmaaDoorClAll
import Derived.Test.YtaodaibhhdjdmaaDoorRnJoin
import Derived.Test.YtaodaibhhdjdmaaDoorAppSrc
import Derived.Test.YtaodaibhhdjdmaaDoorClAwake
import Derived.Test.YtaodaibhhdjdmaaDoorClLaid
import Derived.Test.YtaodaibhhdjdmaaDoorTie
import Derived.Test.YtaodaibhhdjdmaaDoorCards
set_option linter.unusedVariables false
namespace Go.Proofs.YtaodaibhhdjdmaaDoor.ClassJoins
open Go.ChangeShapes Go.WideShapes Go.ChangeAt Go.RowKit Go.Lib Go.Proofs.YtaodaibhhdjdmaaDoor.Cl


open Go.Proofs.YtaodaibhhdjdmaaDoor.Rn (splitA validA RunesAt split_reads valid_any splitA_len split_join0)

/-- class.All, as its callers read it: nil where there are none. -/
theorem all_reads (A : Option Addr) (l : List (Nat × Nat × Nat)) (c : Nat) (w : World) (hR : RunesAt w A l) (hn : l.length ≤ 1099511627776) :
    Calls Tryd.prog 14 #[.slice A l.length c] w fun e w' => ∃ B d, e = .returned (.slice B (clsL l).length d) ∧ IntsAt w' B (clsL l) ∧ Below w.heap.size w w' ∧ (B = none → clsL l = [] ∧ d = 0) := by
  refine (all_any A l c w hR hn).mono ?_
  rintro e w' ⟨v, rfl, hown, hb⟩
  rw [← clsL_len] at hown
  have h2 := hown.2
  obtain ⟨B, d, rfl, hi⟩ := intsAt_own hown
  refine ⟨B, d, rfl, hi, hb, fun hB => ?_⟩
  subst hB
  rcases h2 with ⟨e1, e2⟩ | ⟨g, cap, cur, e1, _⟩
  · injection e1 with _ _ e3
    exact ⟨List.eq_nil_of_length_eq_zero e2, e3⟩
  · cases e1
theorem cls_range (c : Int) : 0 ≤ cls c ∧ cls c ≤ 22 := by
  have h : ∀ s ∈ spansL, 0 ≤ s.2.2 ∧ s.2.2 ≤ 22 := by decide +kernel
  exact ofT_range h c
theorem clsL_join (a b : ByteArray) (hv : validA a.data.toList = true) : clsL (splitA (a ++ b).data.toList 0) = clsL (splitA a.data.toList 0) ++ clsL (splitA b.data.toList 0) := by
  have h := congrArg (List.map fun c : Nat => cls (c : Int)) (split_join0 a.data.toList b.data.toList hv)
  rw [List.map_append, List.map_map, List.map_map, List.map_map] at h
  rw [ByteArray.data_append, Array.toList_append]
  exact h

set_option maxHeartbeats 1000000 in
set_option maxRecDepth 100000 in
theorem walk (w : World) (hH : Held w) (a : ByteArray) (ha : a.size ≤ maxLen) (b : ByteArray) (hb : b.size ≤ maxLen) :
    Calls Tryd.prog 8 #[.string a, .string b] w fun e w' => e = .returned (.bool true) ∧ Below w.heap.size w w' := by
  have HH := Lib.hid hH
  clear hH
  by_cases hbig1 : 1000 < a.size
  · go_enter Tryd.func8, Tryd.ntmps8
    go_wp2_with fail
    refine (awake_any _ HH.out).mono ?_
    rintro e w3 ⟨rfl, hb3⟩
    go_wp2
    go_ret
    exact ⟨rfl, hb3⟩
  by_cases hbig2 : 1000 < b.size
  · go_enter Tryd.func8, Tryd.ntmps8
    go_wp2_with fail
    refine (awake_any _ HH.out).mono ?_
    rintro e w3 ⟨rfl, hb3⟩
    go_wp2
    go_ret
    exact ⟨rfl, hb3⟩
  have cV := valid_any a w (by omega)
  cases hv : validA a.data.toList with
  | false =>
    rw [hv] at cV
    have CV := Lib.hid cV
    clear cV hv
    go_enter Tryd.func8, Tryd.ntmps8
    go_wp2_with fail
    refine CV.out.mono ?_
    rintro e w1 ⟨rfl, hb1⟩
    have H1 := Lib.hid (HH.out.below hb1)
    go_wp2_with fail
    refine (awake_any _ H1.out).mono ?_
    rintro e w3 ⟨rfl, hb3⟩
    go_wp2
    go_ret
    exact ⟨rfl, hb1.trans (hb3.mono hb1.size)⟩
  | true =>
    rw [hv] at cV
    have CV := Lib.hid cV
    obtain ⟨i0, hi, hz0, hz1, hz2⟩ := info_parts infoInt
    have hjoin := clsL_join a b hv
    have la := splitA_len a.data.toList.length a.data.toList 0 (Nat.le_refl _)
    have lb := splitA_len b.data.toList.length b.data.toList 0 (Nat.le_refl _)
    have lc := splitA_len (a ++ b).data.toList.length (a ++ b).data.toList 0 (Nat.le_refl _)
    rw [← Lib.size_eq] at la lb lc
    rw [ByteArray.size_append] at lc
    have sa := fun w => split_reads a w (by omega)
    have sb := fun w => split_reads b w (by omega)
    have sc := fun w => split_reads (a ++ b) w (by rw [ByteArray.size_append]; omega)
    generalize splitA a.data.toList 0 = xa at *
    generalize splitA b.data.toList 0 = xb at *
    generalize splitA (a ++ b).data.toList 0 = xc at *
    have cA := fun A c w hR => all_reads A xa c w hR (by omega)
    have cB := fun A c w hR => all_reads A xb c w hR (by omega)
    have cC := fun A c w hR => all_reads A xc c w hR (by omega)
    rw [hjoin] at cC
    have hlx : (((clsL xa).length : Int) == (xa.length : Int)) = true := by rw [clsL_len]; simp
    have hzx : (clsL xa).length = xa.length := clsL_len xa
    have hzy : (clsL xb).length = xb.length := clsL_len xb
    have hrx : ∀ z ∈ clsL xa ++ clsL xb, 0 ≤ z ∧ z ≤ 22 := by
      intro z hz
      rcases List.mem_append.1 hz with h | h
      · obtain ⟨r, _, rfl⟩ := List.mem_map.1 h; exact cls_range _
      · obtain ⟨r, _, rfl⟩ := List.mem_map.1 h; exact cls_range _
    generalize clsL xa = zx at *
    generalize clsL xb = zy at *
    obtain ⟨zz, hzz⟩ : ∃ zz, zx ++ zy = zz := ⟨_, rfl⟩
    rw [hzz] at cC hrx
    have hzl : zz.length ≤ 2000 := by rw [← hzz, List.length_append]; omega
    have ZZ := Lib.hid hzz
    clear hzz
    have hlenx : zx.length ≤ 1000 := by omega
    have hleny : zy.length ≤ 1000 := by omega
    have SP := Lib.hid sa
    have SB := Lib.hid sb
    have SC := Lib.hid sc
    have CA := Lib.hid cA
    have CB := Lib.hid cB
    have CC := Lib.hid cC
    have RX := Lib.hid hrx
    clear cV hv hjoin la lb lc sa sb sc cA cB cC hrx hzx hzy
    go_enter Tryd.func8, Tryd.ntmps8
    go_wp2_with fail
    refine CV.out.mono ?_
    rintro e w0 ⟨rfl, hb0⟩
    go_wp2_with fail
    refine (SP.out _).mono ?_
    rintro e w1 ⟨B1, e1, rfl, hR1, hb1⟩
    have hB1 := hb0.trans (hb1.mono hb0.size)
    go_wp2_with fail
    refine (CA.out _ _ _ hR1).mono ?_
    rintro e w2 ⟨Ax, dx, rfl, hIx, hb2, hNx⟩
    have hB2 := hB1.trans (hb2.mono hB1.size)
    have Ix := Lib.hid hIx
    have Nx := Lib.hid hNx
    clear hIx hNx hR1
    go_wp2_with fail
    refine (SB.out _).mono ?_
    rintro e w3 ⟨B3, e3, rfl, hR3, hb3⟩
    have hB3 := hB2.trans (hb3.mono hB2.size)
    have Ix := Lib.hid (Ix.out.below hb3)
    go_wp2_with fail
    refine (CB.out _ _ _ hR3).mono ?_
    rintro e w4 ⟨Ay, dy, rfl, hIy, hb4, hNy⟩
    have hB4 := hB3.trans (hb4.mono hB3.size)
    have Ix := Lib.hid (Ix.out.below hb4)
    have Iy := Lib.hid hIy
    have Ny := Lib.hid hNy
    clear hIy hNy hR3
    go_wp2_with fail
    refine (SC.out _).mono ?_
    rintro e w5 ⟨B5, e5, rfl, hR5, hb5⟩
    have hB5 := hB4.trans (hb5.mono hB4.size)
    have Ix := Lib.hid (Ix.out.below hb5)
    have Iy := Lib.hid (Iy.out.below hb5)
    go_wp2_with fail
    refine (CC.out _ _ _ hR5).mono ?_
    rintro e w6 ⟨Az, dz, rfl, hIz, hb6, _⟩
    have hB6 := hB5.trans (hb6.mono hB5.size)
    have Ix := Lib.hid (Ix.out.below hb6)
    have Iy := Lib.hid (Iy.out.below hb6)
    have Iz := Lib.hid hIz
    clear hIz hR5 hb0 hb1 hb2 hb3 hb4 hb5 hb6 hB1 hB2 hB3 hB4 hB5
    go_wp2_with fail
    go_loopw [8] (fun s8 wx => ∃ k : Nat, k ≤ zz.length ∧ s8 = .int .i64 k ∧ Below w6.heap.size w6 wx) (fun s8 _ => zz.length - (RowKit.intOf s8).toNat)
    case atStart => exact ⟨0, Nat.zero_le _, rfl, Below.refl _ _⟩
    case round =>
      obtain ⟨k, hk, rfl, hbw⟩ := hrel
      have Ix := Lib.hid (Ix.out.below hbw)
      have Iy := Lib.hid (Iy.out.below hbw)
      have Iy0 := Iy
      have Iz := Lib.hid (Iz.out.below hbw)
      have hBq := hB6.trans (hbw.mono hB6.size)
      by_cases hlt : k < zz.length
      · obtain ⟨g, o, rfl, c0⟩ := Iz.out.at_ hlt
        obtain ⟨h0, h22⟩ := RX.out _ (List.getElem_mem hlt)
        generalize zz[k] = z at *
        have hd0 : decide (z < 0) = false := decide_eq_false (by omega)
        have hd1 : decide (22 < z) = false := decide_eq_false (by omega)
        go_wp2
        go_roundw
        case rel => exact ⟨k + 1, by omega, by go_num, hbw⟩
        case measure => simp [RowKit.intOf]; omega
      · clear RX SB SC CA CB CC hB6 hbw
        generalize wr = wq at *
        have hbm : Below wq.heap.size wq (wq.alloc (.cells #[] 3)) := (Below.refl _ _).alloc (Nat.le_refl _) _
        have HM : Hid ((wq.alloc (.cells #[] 3)).ownsRow wq.heap.size 3 1 (.slice (some ⟨wq.heap.size, 0, none⟩) 0 0) 0 []) := Lib.hid (World.ownsRow_made wq #[] 0 (Nat.le_refl _) (Nat.zero_le _) rfl)
        have Ix1 := Lib.hid (Ix.out.below hbm)
        go_wp2_with (at_builtin; refine wpList_append_src _ rfl _ _ 28 rfl wq.heap.size 3 i0 (.int .i64 0) 1 8 Tryd.underlying28 hi hz0 hz1 hz2 rfl (by decide) _ _ _ rfl HM.out Ax zx.length dx (zx.map (Value.int .i64)) rfl (by simp) ?c0 ?c1 (ints_one _) ?c3 ?c4 ?c5 ?_)
        case c0 => exact Ix1.out.nil_len
        case c1 => exact fun ad h => by subst h; exact Ix1.out.news
        case c3 => unfold maxLen; omega
        case c4 => omega
        try case c5 => (simp; done)
        intro v' w2 hown' hgrow
        have hown2 : w2.ownsRow wq.heap.size 3 1 v' zx.length (zx.map (Value.int .i64)) := by simpa using hown'
        have hb2 : Below wq.heap.size wq w2 := hbm.grown hgrow (by simp) (fun g hg => by simp [Value.ownBlock] at hg; omega)
        have Iy2 := Lib.hid (Iy.out.below hb2)
        have hlt2 := Lib.hid hown2.lt
        have hs2 := hb2.size
        have O2 := Lib.hid hown2
        clear hgrow hown' hown2 HM hbm
        go_wp2_with (at_builtin; refine wpList_append_src _ rfl _ _ 28 rfl wq.heap.size 3 i0 (.int .i64 0) 1 8 Tryd.underlying28 hi hz0 hz1 hz2 rfl (by decide) _ _ _ rfl O2.out Ay zy.length dy (zy.map (Value.int .i64)) rfl (by simp) ?c0 ?c1 (ints_one _) ?c3 ?c4 ?c5 ?_)
        case c0 => exact Iy2.out.nil_len
        case c1 => exact fun ad h => by subst h; exact Iy2.out.news
        case c3 => unfold maxLen; omega
        case c4 => omega
        try case c5 => omega
        intro v'' wj hown' hgrow
        have hown3 : wj.ownsRow wq.heap.size 3 1 v'' (zx ++ zy).length ((zx ++ zy).map (Value.int .i64)) := by rw [List.length_append, List.map_append]; exact hown'
        rw [ZZ.out] at hown3
        have hbj : Below wq.heap.size wq wj := hb2.grown hgrow (by omega) (fun g hg => (hlt2.out g hg).1)
        obtain ⟨Aj, cj, rfl, hj⟩ := intsAt_own hown3
        have Izj := Lib.hid (Iz.out.below hbj)
        have hBj := hBq.trans (hbj.mono hBq.size)
        clear hgrow hown' hown3
        go_wp2_with fail
        refine (like_ints Az Aj zz dz cj _ Izj.out hj (by omega)).mono ?_
        rintro e w5 ⟨rfl, hb5⟩
        have hB5 := hBj.trans (hb5.mono hBj.size)
        go_wp2_with fail
        refine (SP.out _).mono ?_
        rintro e w6 ⟨A6, c6, rfl, _, hb6⟩
        have hB6 := hB5.trans (hb6.mono hB5.size)
        have H6 := Lib.hid (HH.out.below hB6)
        go_wp2_with fail
        refine (awake_any _ H6.out).mono ?_
        rintro e w7 ⟨rfl, hb7⟩
        go_wp2
        go_ret
        exact ⟨rfl, hB6.trans (hb7.mono hB6.size)⟩

set_option maxRecDepth 100000 in
theorem lifted (os : Os) (started : os.Started) (H : Type) (enc : TypeId × Value → H) :
    ReturnsInHanded {} Tryd.checked os 8 .any (fun w args => (Rows.classJoinsSpec.pre enc Tryd.prog Tryd.f8 [] false w args ∧ laidMetH Tryd.prog laidL w) ∧ sizedMet enc Tryd.prog Tryd.f8 (OpenSpec.ofChange Rows.classJoinsSpec) false w args) (Rows.classJoinsSpec.post enc Tryd.prog Tryd.f8 false true false false) := by
  refine returns_laid started (by kernel_rfl) Tryd.func8 #[.string ⟨#[]⟩, .string ⟨#[]⟩] (by kernel_rfl) (World.shaped_of_ZipB (by kernel_rfl) (by kernel_rfl)) (by rw [MakeChecks.laidMetH_plain _ _ _ (by kernel_rfl)]; exact laidMet_laidAll _ (by kernel_rfl) (by kernel_rfl)) (by kernel_rfl) (by kernel_rfl) rfl rfl (by kernel_rfl) ?_ ?_
  · intro ds hds
    rw [show Tryd.f8.params.toList.length = 2 from by kernel_rfl] at hds
    match ds, hds with
    | [d0, d1], _ => rfl
  intro W base args ds p hval hA hH
  rw [Tryd.params8] at hA hval
  obtain ⟨v0, vs0, d0, ds0, p0, q0, hargs, rfl, rfl, h0, r0⟩ := ChangeShapes.trodAll_cons hA
  obtain ⟨v1, vs1, d1, ds1, p1, q1, rfl, rfl, rfl, h1, r1⟩ := ChangeShapes.trodAll_cons r0
  obtain ⟨rfl, rfl, rfl⟩ := ChangeShapes.trodAll_nil r1
  obtain rfl : args = #[v0, v1] := by cases args; simp_all
  obtain ⟨s0, rfl, rfl, rfl, hs0⟩ := Go.ChangeMaps.open_string Tryd.underlying9 (hval 0 9 v0 rfl rfl) h0
  obtain ⟨s1, rfl, rfl, rfl, hs1⟩ := Go.ChangeMaps.open_string Tryd.underlying9 (hval 1 9 v1 rfl rfl) h1
  exact walk W hH s0 hs0 s1 hs1

theorem holds : Rows.ClassJoinsSaid :=
  OpenClaim.holds_of_wide 8 Tryd.f8 rfl rfl rfl rfl rfl rfl rfl ⟨rfl, rfl, rfl, rfl, rfl⟩ rfl rfl rfl rfl rfl (by kernel_rfl) Tryd.func8 (by kernel_rfl)
    (of_decide_eq_true (by kernel_rfl)) (by unfold Func.isWrapper; first | (rw [if_pos (by decide +kernel)]; kernel_rfl) | (rw [if_neg (by decide +kernel)]; exact ⟨rfl, rfl⟩))
    (fun os started H enc _ => lifted os started H enc)

theorem card : Rows.ClassJoinsCardSaid :=
  Claim7.holds_tied_plain_at .later [] [.data, .data, .pinned] true (true, "a1140fc0831c133a07e12b67bd1474e5056586aa66a5fa6a6cdd2235dd1ce2cf") false
    holds (fun _ h => by cases h) (by kernel_rfl) (fun _ h => by cases h) classJoins_row_tie rfl ⟨rfl, rfl⟩ (by kernel_rfl) rfl
    (fun f fn hf hfn => by
      obtain rfl : f = 8 := Option.some.inj ((show Tryd.prog.funcNamed "parquetry/parquetrylaw02.ClassJoins" = some 8 by kernel_rfl).symm.trans hf) |>.symm
      obtain rfl : fn = Tryd.f8 := (Option.some.inj (Tryd.func8.symm.trans hfn)).symm
      exact ⟨by kernel_rfl, fun j t ht => by
        rw [Tryd.params8] at ht
        have hm : t ∈ [9] := by simpa using Array.mem_of_getElem? ht
        have hall : ([9].all fun u => !Tryd.prog.wantsStandIn u) = true := by kernel_rfl
        exact (show Tryd.prog.wantsStandIn t = false by simpa using List.all_eq_true.1 hall t hm)⟩)
    (by kernel_rfl)
end Go.Proofs.YtaodaibhhdjdmaaDoor.ClassJoins
