/-
  Proved here: for every row of numbers and every number LevelDeep returns true (in a paragraph of the level 0 or 1 levels are from the paragraph's to 125, or -1 just for what is removed; a B stands at the paragraph's; as long as nothing embeds, overrides or isolates all does, and is told as itself, where they are at most 1000), and the row stays. No condition.
-/
import Derived.Test.YtehndhkcmccpmaaLvAwake
import Derived.Test.YtehndhkcmccpmaaLvLaws
import Derived.Test.YtehndhkcmccpmaaLawKit
import Derived.Test.YtehndhkcmccpmaaLawInts
import Derived.Stop.Joined
import Derived.Deep.Cut
set_option linter.unusedVariables false
namespace Go.Proofs.Ytehndhkcmccpmaa.LevelDeep
open Go.ChangeShapes Go.WideShapes Go.ChangeAt Go.RowKit Go.Lib Go.Proofs.Ytehndhkcmccpmaa.Lv Go.Proofs.Ytehndhkcmccpmaa.Cl Go.Proofs.Ytehndhkcmccpmaa.Rc

set_option maxHeartbeats 1000000 in
theorem plain_any (c : Int) (w : World) :
    Calls Try.prog 13 #[.int .i64 c] w fun e w' => e = .returned (.bool (plainB c)) ∧ w = w' := by
  unfold plainB
  cases h1 : decide (c < 14) <;> cases h2 : decide (22 < c)
  all_goals
    go_enter Try.func13, Try.ntmps13
    go_wp2
    go_ret
    exact ⟨rfl, rfl⟩
theorem walk_on {b : Nat} {l : List Int} {s : St} {E : List (Int × Int)} {k : Nat} (h : walkL b (l.drop k) s = E.drop k) (hk : k < l.length) (hE : k < E.length) : outS b (closeS l[k] s) l[k] = E[k] ∧ walkL b (l.drop (k + 1)) (openS l[k] (l.drop (k + 1)) (closeS l[k] s)) = E.drop (k + 1) := by
  rw [List.drop_eq_getElem_cons hk, List.drop_eq_getElem_cons hE] at h
  simp only [walkL] at h
  injection h with h1 h2
  exact ⟨h1, h2⟩
/-- How far the walk over the levels has come. -/
def At (b : Nat) (l : List Int) (E : List (Int × Int)) (k : Nat) (ahead : Bool) : Prop := ∃ s, walkL b (l.drop k) s = E.drop k ∧ Ok b s ∧ (ahead = true → s = startS b)

/-- What a round sees, and where it comes to. -/
theorem At.next {b : Nat} (hb : b ≤ 1) {l : List Int} {E : List (Int × Int)} {k : Nat} {ahead : Bool} (h : At b l E k ahead) (hk : k < l.length) (hE : k < E.length) :
    (∃ s, Ok b s ∧ outS b s l[k] = (E[k].1, E[k].2)) ∧ At b l E (k + 1) false ∧ (ahead = true → plainB l[k] = true → At b l E (k + 1) true ∧ (remB l[k] = false → E[k].1 = b ∧ E[k].2 = l[k])) := by
  obtain ⟨s, hw, hok, ha⟩ := h
  obtain ⟨h1, h2⟩ := walk_on hw hk hE
  refine ⟨⟨_, hok.close l[k], h1⟩, ⟨_, h2, (hok.close _).open_ _ _, fun e => by cases e⟩, fun hah hp => ?_⟩
  obtain rfl := ha hah
  obtain ⟨e1, e2⟩ := plain_same (b := b) hp (l.drop (k + 1))
  rw [e1] at h1 h2
  rw [e2] at h2
  exact ⟨⟨_, h2, Ok.start b, fun _ => rfl⟩, fun hr => plain_out hr h1⟩

set_option maxHeartbeats 8000000 in
set_option maxRecDepth 1000000 in
theorem walk (w : World) (A : Option Addr) (zs : List Int) (c : Nat) (hr : IntsAt w A zs) (hnil : A = none → zs = [] ∧ c = 0) (hlz : zs.length ≤ 9223372036854775807) (hcap : zs.length ≤ c) (x : Int) :
    Calls Try.prog 3 #[.slice A zs.length c, .int .i64 x] w fun e w' => e = .returned (.bool true) ∧ Below w.heap.size w w' := by
  by_cases hbig : 1000 < zs.length
  · go_enter Try.func3, Try.ntmps3
    go_wp2_with (go_at_call 10; refine (awake_any _).mono ?_; rintro e w' ⟨rfl, hb⟩)
    go_ret
    exact ⟨rfl, hb⟩
  · obtain ⟨b, hb, hbx⟩ := low_bit x
    obtain ⟨n, hn⟩ : ∃ n, zs.length = n := ⟨_, rfl⟩
    rw [hn] at hbig hcap ⊢
    have HN := Lib.hid hn
    have HR := Lib.hid hr
    have HEX := Lib.hid (explicit_reads A zs b n c w hb hn hr (by omega) hcap)
    have e0 := explL_len zs b
    have e1 : ((explL zs b).map (·.1)).length = n := by rw [List.length_map, e0, hn]
    have e2 : ((explL zs b).map (·.2)).length = n := by rw [List.length_map, e0, hn]
    have HAT := Lib.hid (show At b zs (explL zs b) 0 true from ⟨startS b, rfl, Ok.start b, fun _ => rfl⟩)
    generalize explL zs b = E at *
    have HEL := Lib.hid e0
    clear hn hr hnil e0 e1 e2
    go_enter Try.func3, Try.ntmps3
    go_wp2_with fail
    refine HEX.out.mono ?_
    rintro e w1 ⟨g1, g2, rfl, hne, hg1, hg2, ho1, ho2, i1, i2, hb1⟩
    have HI1 := Lib.hid i1
    have HI2 := Lib.hid i2
    have HR1 := Lib.hid (HR.out.below hb1)
    have HB1 := Lib.hid hb1
    clear i1 i2 ho1 ho2 hb1 HEX HR
    go_wp2_with fail
    go_loop [8, 9] (fun s8 s9 => ∃ (k : Nat) (ah : Bool), s8 = .bool ah ∧ s9 = .int .i64 k ∧ k ≤ n ∧ At b zs E k ah) (fun _ s9 => n - (RowKit.intOf s9).toNat)
    case atStart => exact ⟨0, true, rfl, rfl, Nat.zero_le _, HAT.out⟩
    case round =>
      obtain ⟨k, ah, rfl, rfl, hk, hat⟩ := hrel
      clear HAT
      by_cases hlt : k < n
      · have hkl : k < zs.length := by rw [HN.out]; exact hlt
        have hkE : k < E.length := by rw [HEL.out]; exact hkl
        obtain ⟨⟨s, hok, hout⟩, hnx, hpl⟩ := hat.next hb hkl hkE
        have hcs := deep_cases hb hok hout
        obtain ⟨ab, off, rfl, hc0⟩ := HR1.out.at_ hkl
        obtain ⟨gx, ox, hgx, d1⟩ := HI1.out.at_ (k := k) (by rw [List.length_map]; exact hkE)
        obtain ⟨gy, oy, hgy, d2⟩ := HI2.out.at_ (k := k) (by rw [List.length_map]; exact hkE)
        injection hgx with hgx
        injection hgx with e1 e2
        subst e1 e2
        injection hgy with hgy
        injection hgy with e1 e2
        subst e1 e2
        rw [List.getElem_map] at d1 d2
        simp only [Nat.zero_add] at d1 d2
        have HNX := Lib.hid hnx
        have HPL := Lib.hid hpl
        have HRM := Lib.hid (fun W => removed_any zs[k] W)
        have HPN := Lib.hid (fun W => plain_any zs[k] W)
        clear hok hout hnx hpl hat
        generalize zs[k] = cc at *
        generalize E[k] = ek at *
        obtain ⟨z1, z2⟩ := ek
        simp only at *
        have HFIN : Hid (∀ q : Bool, (q = false ∨ (ah = true ∧ plainB cc = true)) → At b zs E (k + 1) q) := Lib.hid (fun q hq => by
          cases q with
          | false => exact HNX.out
          | true =>
            rcases hq with h | h
            · cases h
            · exact (HPL.out h.1 h.2).1)
        have HPV := Lib.hid (fun (h1 : ah = true) (h2 : plainB cc = true) (h3 : remB cc = false) => (HPL.out h1 h2).2 h3)
        clear HNX HPL
        have kb1 : ((b : Int) == -1) = false := by first | (simp; done) | (simp; omega)
        have kb2 : decide ((125 : Int) < (b : Int)) = false := by simp; omega
        rcases hcs with ⟨hrm, h10, rfl, rfl⟩ | ⟨hrm, rfl, rfl, rfl⟩ | ⟨hrm, h10, hlo, hhi, rfl⟩ | ⟨hrm, h10, hlo, hhi, hne2, hbit⟩
        · rw [hrm] at HRM
          have k10 : (z2 == 10) = false := by simpa using h10
          cases ah with
          | true =>
            go_wp2_with fail
            refine (HRM.out _).mono ?_
            rintro e w2 ⟨rfl, rfl⟩
            go_upto_region 13 with (fail)
            refine wp_region_lit ?_
            dsimp only [List.append]
            cases hp : plainB z2 with
            | false =>
              rw [hp] at HPN
              clear hp
              go_wp2_with fail
              refine (HPN.out _).mono ?_
              rintro e w3 ⟨rfl, rfl⟩
              go_wp2
              go_round
              case measure => simp [RowKit.intOf]; omega
              case rel => exact ⟨k + 1, false, by first | rfl | trivial, by go_num, by omega, HFIN.out false (.inl rfl)⟩
            | true =>
              have HF1 := Lib.hid (HFIN.out true (.inr ⟨by first | rfl | trivial, hp⟩))
              rw [hp] at HPN
              clear hp
              go_wp2_with fail
              refine (HPN.out _).mono ?_
              rintro e w3 ⟨rfl, rfl⟩
              go_wp2
              go_round
              case measure => simp [RowKit.intOf]; omega
              case rel => exact ⟨k + 1, true, by first | rfl | trivial, by go_num, by omega, HF1.out⟩
          | false =>
            go_wp2_with fail
            refine (HRM.out _).mono ?_
            rintro e w2 ⟨rfl, rfl⟩
            go_upto_region 13 with (fail)
            refine wp_region_lit ?_
            dsimp only [List.append]
            go_wp2
            go_round
            case measure => simp [RowKit.intOf]; omega
            case rel => exact ⟨k + 1, false, by first | rfl | trivial, by go_num, by omega, HFIN.out false (.inl rfl)⟩
        · rw [hrm] at HRM
          cases ah with
          | true =>
            go_wp2_with fail
            refine (HRM.out _).mono ?_
            rintro e w2 ⟨rfl, rfl⟩
            go_upto_region 13 with (fail)
            refine wp_region_lit ?_
            dsimp only [List.append]
            cases hp : plainB 10 with
            | false =>
              rw [hp] at HPN
              clear hp
              go_wp2_with fail
              refine (HPN.out _).mono ?_
              rintro e w3 ⟨rfl, rfl⟩
              go_wp2
              go_round
              case measure => simp [RowKit.intOf]; omega
              case rel => exact ⟨k + 1, false, by first | rfl | trivial, by go_num, by omega, HFIN.out false (.inl rfl)⟩
            | true =>
              have HF1 := Lib.hid (HFIN.out true (.inr ⟨by first | rfl | trivial, hp⟩))
              obtain ⟨e1, e2⟩ := HPV.out (by first | rfl | trivial) hp hrm
              clear e1 e2
              rw [hp] at HPN
              clear hp
              go_wp2_with fail
              refine (HPN.out _).mono ?_
              rintro e w3 ⟨rfl, rfl⟩
              go_wp2
              go_round
              case measure => simp [RowKit.intOf]; omega
              case rel => exact ⟨k + 1, true, by first | rfl | trivial, by go_num, by omega, HF1.out⟩
          | false =>
            go_wp2_with fail
            refine (HRM.out _).mono ?_
            rintro e w2 ⟨rfl, rfl⟩
            go_upto_region 13 with (fail)
            refine wp_region_lit ?_
            dsimp only [List.append]
            go_wp2
            go_round
            case measure => simp [RowKit.intOf]; omega
            case rel => exact ⟨k + 1, false, by first | rfl | trivial, by go_num, by omega, HFIN.out false (.inl rfl)⟩
        · rw [hrm] at HRM
          have k10 : (z2 == 10) = false := by simpa using h10
          have kx1 : (z1 == -1) = false := by simp; omega
          have kx2 : decide (z1 < (b : Int)) = false := decide_eq_false (by omega)
          have kx3 : decide ((125 : Int) < z1) = false := decide_eq_false (by omega)
          cases ah with
          | true =>
            go_wp2_with fail
            refine (HRM.out _).mono ?_
            rintro e w2 ⟨rfl, rfl⟩
            go_upto_region 13 with (fail)
            refine wp_region_lit ?_
            dsimp only [List.append]
            cases hp : plainB z2 with
            | false =>
              rw [hp] at HPN
              clear hp
              go_wp2_with fail
              refine (HPN.out _).mono ?_
              rintro e w3 ⟨rfl, rfl⟩
              go_wp2
              go_round
              case measure => simp [RowKit.intOf]; omega
              case rel => exact ⟨k + 1, false, by first | rfl | trivial, by go_num, by omega, HFIN.out false (.inl rfl)⟩
            | true =>
              have HF1 := Lib.hid (HFIN.out true (.inr ⟨by first | rfl | trivial, hp⟩))
              obtain ⟨e1, e2⟩ := HPV.out (by first | rfl | trivial) hp hrm
              subst e1
              clear e2
              rw [hp] at HPN
              clear hp
              go_wp2_with fail
              refine (HPN.out _).mono ?_
              rintro e w3 ⟨rfl, rfl⟩
              go_wp2
              go_round
              case measure => simp [RowKit.intOf]; omega
              case rel => exact ⟨k + 1, true, by first | rfl | trivial, by go_num, by omega, HF1.out⟩
          | false =>
            go_wp2_with fail
            refine (HRM.out _).mono ?_
            rintro e w2 ⟨rfl, rfl⟩
            go_upto_region 13 with (fail)
            refine wp_region_lit ?_
            dsimp only [List.append]
            go_wp2
            go_round
            case measure => simp [RowKit.intOf]; omega
            case rel => exact ⟨k + 1, false, by first | rfl | trivial, by go_num, by omega, HFIN.out false (.inl rfl)⟩
        · rw [hrm] at HRM
          have k10 : (cc == 10) = false := by simpa using h10
          have kx1 : (z1 == -1) = false := by simp; omega
          have kx2 : decide (z1 < (b : Int)) = false := decide_eq_false (by omega)
          have kx3 : decide ((125 : Int) < z1) = false := decide_eq_false (by omega)
          have kne : (z2 != cc) = true := by simpa using hne2
          rcases hbit with rfl | rfl
          all_goals
            cases ah with
            | true =>
              cases hp : plainB cc with
              | false =>
                rw [hp] at HPN
                clear hp
                go_wp2_with fail
                refine (HRM.out _).mono ?_
                rintro e w2 ⟨rfl, rfl⟩
                go_upto_region 13 with (fail)
                refine wp_region_lit ?_
                dsimp only [List.append]
                go_wp2_with fail
                refine (HPN.out _).mono ?_
                rintro e w3 ⟨rfl, rfl⟩
                go_wp2
                go_round
                case measure => simp [RowKit.intOf]; omega
                case rel => exact ⟨k + 1, false, by first | rfl | trivial, by go_num, by omega, HFIN.out false (.inl rfl)⟩
              | true =>
                obtain ⟨e1, e2⟩ := HPV.out (by first | rfl | trivial) hp hrm
                exact absurd e2 hne2
            | false =>
              go_wp2_with fail
              refine (HRM.out _).mono ?_
              rintro e w2 ⟨rfl, rfl⟩
              go_upto_region 13 with (fail)
              refine wp_region_lit ?_
              dsimp only [List.append]
              go_wp2
              go_round
              case measure => simp [RowKit.intOf]; omega
              case rel => exact ⟨k + 1, false, by first | rfl | trivial, by go_num, by omega, HFIN.out false (.inl rfl)⟩
      · obtain rfl : k = n := by omega
        go_wp2_with fail
        refine (awake_any _).mono ?_
        rintro e w2 ⟨rfl, hb2⟩
        go_wp2
        go_ret
        exact ⟨rfl, HB1.out.trans (hb2.mono HB1.out.size)⟩

set_option maxRecDepth 100000 in
theorem lifted (os : Os) (started : os.Started) (H : Type) (enc : TypeId × Value → H) :
    ReturnsInHanded {} Try.checked os 3 .any (Rows.levelDeepSpec.pre6 enc Try.prog Try.f3 Rows.levelDeepRow.domain false) (Rows.levelDeepSpec.post enc Try.prog Try.f3 false true false false) := by
  refine returnsInHanded_of_change (C := Try.checked) law_own started (by kernel_rfl) Try.func3
    (ChangeSpec.witness6 (enc := enc) (C := Try.checked) false ⟨#[], #[.slice none 0 0, .int .i64 0], []⟩ 8 (by kernel_rfl) (by kernel_rfl) (by kernel_rfl) (by kernel_rfl)) ?_
  intro W base args ds gs before hval0 hW _ _
  have hval : ∀ (j : Nat) t v, Try.f3.params[j]? = some t → args[j]? = some v → Value.okWide Try.prog W .any base t v := hval0
  have hW' := hW
  obtain ⟨p, q, hA0, hV, rfl, hfz, hnd⟩ := hW
  have hA : DataW.TrodAll enc Try.prog W 0 (fun _ => true) true Try.f3.params.toList args.toList ds p := hA0
  rw [Try.params3] at hA hval
  obtain ⟨v0, vs0, d0, ds0, p0, q0, hargs, rfl, rfl, h0, r0⟩ := ChangeShapes.trodAll_cons hA
  obtain ⟨v1, vs1, d1, ds1, p1, q1, rfl, rfl, rfl, h1, r1⟩ := ChangeShapes.trodAll_cons r0
  obtain ⟨rfl, rfl, rfl⟩ := ChangeShapes.trodAll_nil r1
  obtain rfl : args = #[v0, v1] := by cases args; simp_all
  obtain ⟨rfl, rfl⟩ := ChangeShapes.trodVars_none hV
  obtain ⟨A0, zs0, c0, rfl, hr0, hnil0, hl0, hz0, hc0⟩ := open_introwc (hval 0 22 v0 rfl rfl) h0
  obtain ⟨x1, rfl, rfl, rfl, wx1⟩ := open_int Try.underlying3 (hval 1 3 v1 rfl rfl) h1
  refine (walk W A0 zs0 c0 hr0 hnil0 hl0 hc0 x1).mono fun e W' ⟨he, hB⟩ => ?_
  subst he
  exact ⟨_, rfl, law_post hW' rfl rfl (by kernel_rfl) rfl hB⟩

theorem holds : Rows.LevelDeepSaid :=
  OpenClaim.holds_of_wide 3 Try.f3 rfl rfl rfl rfl rfl rfl rfl ⟨rfl, rfl, rfl, rfl, rfl⟩ rfl rfl rfl rfl rfl (by kernel_rfl) Try.func3 (by kernel_rfl)
    (of_decide_eq_true (by kernel_rfl)) (by unfold Func.isWrapper; first | (rw [if_pos (by decide +kernel)]; kernel_rfl) | (rw [if_neg (by decide +kernel)]; exact ⟨rfl, rfl⟩))
    (fun os started H enc _ => lifted os started H enc)
end Go.Proofs.Ytehndhkcmccpmaa.LevelDeep
