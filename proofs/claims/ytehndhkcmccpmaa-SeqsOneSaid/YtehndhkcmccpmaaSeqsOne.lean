/-
  Proved here: for every row of numbers and every number SeqsOne returns true (where nothing embeds, overrides or isolates there is one sequence, of all that is kept, between the paragraph's directions, where the row is of at most 500), and the row stays. No condition.
-/
import Derived.Test.YtehndhkcmccpmaaSqLawKit
import Derived.Test.YtehndhkcmccpmaaLvOpen
import Derived.Test.YtehndhkcmccpmaaLawKit
import Derived.Test.YtehndhkcmccpmaaLawInts
import Derived.Stop.Joined
set_option linter.unusedVariables false
namespace Go.Proofs.Ytehndhkcmccpmaa.SeqsOne
open Go.ChangeShapes Go.WideShapes Go.ChangeAt Go.RowKit Go.Lib Go.Proofs.Ytehndhkcmccpmaa.Lv Go.Proofs.Ytehndhkcmccpmaa.Cl Go.Proofs.Ytehndhkcmccpmaa.Sq Go.Proofs.Ytehndhkcmccpmaa.Ba

/-- How many are kept, so far. -/
def cnt (zs : List Int) (k : Nat) : Nat := ((zs.take k).filter fun x => !remB x).length
theorem cnt_step {zs : List Int} {k : Nat} (h : k < zs.length) : cnt zs (k + 1) = if remB zs[k] = true then cnt zs k else cnt zs k + 1 := by
  unfold cnt
  rw [List.take_succ_eq_append_getElem h, List.filter_append, List.length_append]
  by_cases hr : remB zs[k] = true
  · rw [if_pos hr]; simp [hr]
  · rw [if_neg hr]; simp [hr]
theorem cnt_le (zs : List Int) (k : Nat) : cnt zs k ≤ k := by
  unfold cnt
  refine Nat.le_trans (List.length_filter_le _ _) ?_
  simp
  omega

set_option maxHeartbeats 8000000 in
set_option maxRecDepth 1000000 in
theorem walk (w : World) (A : Option Addr) (zs : List Int) (c : Nat) (hr : IntsAt w A zs) (hnil : A = none → zs = [] ∧ c = 0) (hlz : zs.length ≤ 9223372036854775807) (hcap : zs.length ≤ c) (x : Int) :
    Calls Try.prog 8 #[.slice A zs.length c, .int .i64 x] w fun e w' => e = .returned (.bool true) ∧ Below w.heap.size w w' := by
  by_cases hbig : 500 < zs.length
  · go_enter Try.func8, Try.ntmps8
    go_wp2_with (go_at_call 15; refine (awake_any _).mono ?_; rintro e w' ⟨rfl, hb⟩)
    go_ret
    exact ⟨rfl, hb⟩
  · obtain ⟨b, hb, hbx⟩ := low_bit x
    obtain ⟨n, hn⟩ : ∃ n, zs.length = n := ⟨_, rfl⟩
    rw [hn] at hbig hcap ⊢
    have HN := Lib.hid hn
    have HR := Lib.hid hr
    have HSQ := Lib.hid (fun V (h : Below w.heap.size w V) => seqs_reads A zs (b : Int) n c V hn (hr.below h) (by omega) hcap)
    rw [zOf_B zs hb] at HSQ
    have HKC := Lib.hid (show (kept (zB zs b)).length = cnt zs n from by
      have h := kept_count zs b zs.length (Nat.le_refl _)
      unfold kept
      rw [zB_len, h, hn]
      rfl)
    clear hr hnil hn hlz
    go_enter Try.func8, Try.ntmps8
    go_wp2_with fail
    go_loopw [5, 6] (fun s5 s6 wr => ∃ k : Nat, s6 = .int .i64 k ∧ k ≤ n ∧ s5 = .int .i64 (cnt zs k) ∧ (∀ y ∈ zs.take k, plainB y = true) ∧ Below w.heap.size w wr) (fun _ s6 _ => n - (RowKit.intOf s6).toNat)
    case atStart => exact ⟨0, rfl, Nat.zero_le _, rfl, fun y hy => by simp at hy, Below.refl _ _⟩
    case round =>
      obtain ⟨k, rfl, hk, rfl, hno, hbb⟩ := hrel
      have HNO := Lib.hid hno
      have HB := Lib.hid hbb
      have hcl := cnt_le zs k
      clear hno hbb
      by_cases hlt : k < n
      · have hkl : k < zs.length := by rw [HN.out]; exact hlt
        obtain ⟨bz, oz, rfl, hc⟩ := (HR.out.below HB.out).at_ hkl
        have HT := Lib.hid (show zs.take (k + 1) = zs.take k ++ [zs[k]] from List.take_succ_eq_append_getElem hkl)
        have HCS := Lib.hid (cnt_step hkl)
        generalize zs[k] = q at *
        have hki : (0 : Int) ≤ (k : Int) := by omega
        have hki2 : (k : Int) < (n : Int) := by omega
        by_cases hp : plainB q = true
        · have hp2 : q < 14 ∨ 22 < q := by simpa [plainB] using hp
          have HNO2 := Lib.hid (show ∀ y ∈ zs.take (k + 1), plainB y = true from fun y hy => by
            rw [HT.out] at hy
            rcases List.mem_append.1 hy with hy | hy
            · exact HNO.out y hy
            · simp at hy; rw [hy]; exact hp)
          have hgo : ∀ {P : Prop}, (∀ (k1 k2 : Bool), decide ((14 : Int) ≤ q) = k1 → decide (q ≤ 22) = k2 → (k1 && k2) = false → P) → P := fun h => h _ _ rfl rfl (by
            rcases hp2 with h2 | h2
            · rw [decide_eq_false (by omega)]; rfl
            · rw [decide_eq_false (p := q ≤ 22) (by omega), Bool.and_false])
          clear HT hp hp2
          refine hgo fun k1 k2 hk1 hk2 hk3 => ?_
          clear hgo
          cases hr : remB q with
          | true =>
            have HC2 := Lib.hid (show cnt zs (k + 1) = cnt zs k from by rw [HCS.out, if_pos hr])
            cases k1 <;> cases k2
            case true.true => cases hk3
            all_goals
              clear hk3
              go_wp2_with fail
              refine (removed_any _ _).mono ?_
              rintro e w1 ⟨rfl, rfl⟩
              rw [hr]
              go_wp2_with fail
              go_roundw
              case rel => exact ⟨k + 1, by simp, by omega, by rw [HC2.out], HNO2.out, HB.out⟩
              case measure => simp [RowKit.intOf]; omega
          | false =>
            have HC2 := Lib.hid (show cnt zs (k + 1) = cnt zs k + 1 from by rw [HCS.out, if_neg (by rw [hr]; decide)])
            cases k1 <;> cases k2
            case true.true => cases hk3
            all_goals
              clear hk3
              go_wp2_with fail
              refine (removed_any _ _).mono ?_
              rintro e w1 ⟨rfl, rfl⟩
              rw [hr]
              go_wp2_with fail
              go_roundw
              case rel => exact ⟨k + 1, by simp, by omega, by rw [HC2.out]; go_num, HNO2.out, HB.out⟩
              case measure => simp [RowKit.intOf]; omega
        · have hp2 : 14 ≤ q ∧ q ≤ 22 := by
            have : ¬ (q < 14 ∨ 22 < q) := by simpa [plainB] using hp
            omega
          have k1 : decide ((14 : Int) ≤ q) = true := decide_eq_true hp2.1
          have k2 : decide (q ≤ 22) = true := decide_eq_true hp2.2
          clear HT hp hp2 HCS
          go_wp2_with (go_at_call 15; refine (awake_any _).mono ?_; rintro e w1 ⟨rfl, hb1⟩)
          go_ret
          exact ⟨rfl, HB.out.trans (hb1.mono HB.out.size)⟩
      · obtain rfl : k = n := by omega
        have HNB := Lib.hid (show ∀ y ∈ zs, plainB y = true from fun y hy => HNO.out y (by rw [← HN.out, List.take_length]; exact hy))
        clear HNO
        go_wp2_with fail
        refine (HSQ.out _ HB.out).mono ?_
        rintro e w2 ⟨A1, c1, T, rfl, hT, hall, hb2⟩
        have HB2 := Lib.hid (HB.out.trans (hb2.mono HB.out.size))
        rcases one_seq hall HNB.out with ⟨h1, rfl⟩ | ⟨h1, rfl⟩
        · have hc0 : cnt zs k = 0 := by rw [← HKC.out, h1]; rfl
          rw [hc0]
          clear hT hall hb2 h1
          go_wp2_with fail
          refine (awake_any _).mono ?_
          rintro e w5 ⟨rfl, hb5⟩
          have HE := Lib.hid (HB2.out.trans (hb5.mono HB2.out.size))
          clear hb5
          go_wp2_with fail
          go_ret
          exact ⟨rfl, HE.out⟩
        · have hcp : 0 < cnt zs k := by rw [← HKC.out]; exact List.length_pos_iff.2 h1
          have hkl2 := HKC.out
          obtain ⟨b1, o1, A', c', rfl, p0, p1, p2, p3, -⟩ := hT.at_ (k := 0) (by simp)
          have p0 : w2.cell? ⟨b1, o1, none⟩ = some (.int .i64 (b : Int)) := p0
          have p1 : w2.cell? ⟨b1, o1 + 1, none⟩ = some (.int .i64 (way b b)) := p1
          have p2 : w2.cell? ⟨b1, o1 + 2, none⟩ = some (.int .i64 (way b b)) := p2
          have p3 : w2.cell? ⟨b1, o1 + 3, none⟩ = some (.slice A' (kept (zB zs b)).length c') := p3
          rw [hkl2] at p3
          have hl1 : List.length [(⟨(b : Int), way b b, way b b, kept (zB zs b)⟩ : S4)] = 1 := rfl
          rw [hl1]
          have hb01 : b = 0 ∨ b = 1 := by omega
          have hc0 : ((cnt zs k : Int) == 0) = false := by simp; omega
          generalize cnt zs k = kc at *
          clear hT hall hb2 h1 hkl2 hl1 hcp
          rcases hb01 with rfl | rfl
          · have hw0 : way ((0 : Nat) : Int) ((0 : Nat) : Int) = 0 := by decide
            rw [hw0] at p1 p2
            go_wp2_with fail
            refine (awake_any _).mono ?_
            rintro e w5 ⟨rfl, hb5⟩
            have HE := Lib.hid (HB2.out.trans (hb5.mono HB2.out.size))
            clear hb5
            go_wp2_with fail
            go_ret
            exact ⟨rfl, HE.out⟩
          · have hw0 : way ((1 : Nat) : Int) ((1 : Nat) : Int) = 1 := by decide
            rw [hw0] at p1 p2
            go_wp2_with fail
            refine (awake_any _).mono ?_
            rintro e w5 ⟨rfl, hb5⟩
            have HE := Lib.hid (HB2.out.trans (hb5.mono HB2.out.size))
            clear hb5
            go_wp2_with fail
            go_ret
            exact ⟨rfl, HE.out⟩

set_option maxRecDepth 100000 in
theorem lifted (os : Os) (started : os.Started) (H : Type) (enc : TypeId × Value → H) :
    ReturnsInHanded {} Try.checked os 8 .any (Rows.seqsOneSpec.pre6 enc Try.prog Try.f8 Rows.seqsOneRow.domain false) (Rows.seqsOneSpec.post enc Try.prog Try.f8 false true false false) := by
  refine returnsInHanded_of_change (C := Try.checked) law_own started (by kernel_rfl) Try.func8
    (ChangeSpec.witness6 (enc := enc) (C := Try.checked) false ⟨#[], #[.slice none 0 0, .int .i64 0], []⟩ 8 (by kernel_rfl) (by kernel_rfl) (by kernel_rfl) (by kernel_rfl)) ?_
  intro W base args ds gs before hval0 hW _ _
  have hval : ∀ (j : Nat) t v, Try.f8.params[j]? = some t → args[j]? = some v → Value.okWide Try.prog W .any base t v := hval0
  have hW' := hW
  obtain ⟨p, q, hA0, hV, rfl, hfz, hnd⟩ := hW
  have hA : DataW.TrodAll enc Try.prog W 0 (fun _ => true) true Try.f8.params.toList args.toList ds p := hA0
  rw [Try.params8] at hA hval
  obtain ⟨v0, vs0, d0, ds0, p0, q0, hargs, rfl, rfl, h0, r0⟩ := ChangeShapes.trodAll_cons hA
  obtain ⟨v1, vs1, d1, ds1, p1, q1, rfl, rfl, rfl, h1, r1⟩ := ChangeShapes.trodAll_cons r0
  obtain ⟨rfl, rfl, rfl⟩ := ChangeShapes.trodAll_nil r1
  obtain rfl : args = #[v0, v1] := by cases args; simp_all
  obtain ⟨rfl, rfl⟩ := ChangeShapes.trodVars_none hV
  obtain ⟨A0, zs0, c0, rfl, hr0, hnil0, hl0, hz0, hc0⟩ := open_introwc (hval 0 22 v0 rfl rfl) h0
  obtain ⟨x1, rfl, rfl, rfl, wx1⟩ := open_int Try.underlying3 (hval 1 3 v1 rfl rfl) h1
  refine (walk W A0 zs0 c0 hr0 hnil0 hl0 hc0 x1).mono fun e W' ⟨he, hB⟩ => ?_
  subst he
  exact ⟨_, rfl, law_post hW' rfl rfl (by kernel_rfl) rfl hB⟩

theorem holds : Rows.SeqsOneSaid :=
  OpenClaim.holds_of_wide 8 Try.f8 rfl rfl rfl rfl rfl rfl rfl ⟨rfl, rfl, rfl, rfl, rfl⟩ rfl rfl rfl rfl rfl (by kernel_rfl) Try.func8 (by kernel_rfl)
    (of_decide_eq_true (by kernel_rfl)) (by unfold Func.isWrapper; first | (rw [if_pos (by decide +kernel)]; kernel_rfl) | (rw [if_neg (by decide +kernel)]; exact ⟨rfl, rfl⟩))
    (fun os started H enc _ => lifted os started H enc)
end Go.Proofs.Ytehndhkcmccpmaa.SeqsOne
