/-
  Proved here: for all rows of numbers and all numbers LevelIsolates returns true (what stands in an isolate, where each initiator and PDI there has its own there, changes no level around it, and as what nothing around it is told, of at most 300 numbers, each), and they stay. No condition.
-/
import Derived.Test.YtehndhkcmccpmaaLvAwake
import Derived.Test.YtehndhkcmccpmaaLvLaws
import Derived.Test.YtehndhkcmccpmaaLvClosed
import Derived.Test.YtehndhkcmccpmaaAddAt
import Derived.Test.YtehndhkcmccpmaaLawKit
import Derived.Test.YtehndhkcmccpmaaLawInts
import Derived.Stop.Joined
import Derived.Deep.QuietTactic
import Derived.BigQuiet
set_option linter.unusedVariables false
namespace Go.Proofs.Ytehndhkcmccpmaa.LevelIsolates
open Go.ChangeShapes Go.WideShapes Go.ChangeAt Go.RowKit Go.Lib Go.Proofs.Ytehndhkcmccpmaa.Lv Go.Proofs.Ytehndhkcmccpmaa.Cl Go.Proofs.Ytehndhkcmccpmaa.Rc Go.Proofs.Ytehndhkcmccpmaa.Ba

theorem own_cap {w : World} {base n : Nat} {e : TypeId} {A : Option Addr} {c : Nat} {xs : List Value} (h : w.ownsRow base e 1 (.slice A n c) n xs) : n ≤ c := by
  rcases h.2 with ⟨h1, h2⟩ | ⟨g1, c1, cur, hv, _, _, hle, _⟩
  · omega
  · cases hv; exact hle
theorem pick255 (x : Int) : ∃ r : Nat, r < 3 ∧ (bits BinOp.and IntKind.i64 x 255).tmod 3 = (r : Int) := by
  rw [i64_and255, Int.tmod_eq_emod_of_nonneg (by omega)]
  exact ⟨((x % 256) % 3).toNat, by omega, by omega⟩
theorem isI_pick (r : Nat) (h : r < 3) : isI (19 + (r : Int)) = true := by
  simp only [isI, Bool.or_eq_true, beq_iff_eq]
  omega

/-- Where the places of the shorter row stand in the longer one. -/
theorem iso_at (b : Nat) (a zs r : List Int) (z : Int) (hz : isI z = true) (hc : closedL zs 0 = true) (i : Nat) :
    (i ≤ a.length → (explL (((a ++ [z]) ++ zs) ++ [22] ++ r) b)[i]? = (explL ((a ++ [z]) ++ [22] ++ r) b)[i]?) ∧ (a.length < i → (explL (((a ++ [z]) ++ zs) ++ [22] ++ r) b)[i + zs.length]? = (explL ((a ++ [z]) ++ [22] ++ r) b)[i]?) := by
  obtain ⟨P, Z, Q, h1, h2, h3, h4⟩ := expl_isolate b a zs r z hz hc
  have e1 : (a ++ [z]) ++ [22] ++ r = a ++ (z :: (22 :: r)) := by simp
  have e2 : ((a ++ [z]) ++ zs) ++ [22] ++ r = a ++ (z :: (zs ++ 22 :: r)) := by simp
  rw [e1, e2, h3, h4]
  refine ⟨fun h => ?_, fun h => ?_⟩
  · rw [List.getElem?_append_left (by omega), List.getElem?_append_left (by omega)]
  · rw [List.getElem?_append_right (by omega), List.getElem?_append_right (by omega), List.getElem?_append_right (by omega)]
    congr 1
    omega

set_option maxHeartbeats 8000000 in
set_option maxRecDepth 100000 in
theorem walk (w : World) (A0 : Option Addr) (za : List Int) (c0 : Nat) (hr0 : IntsAt w A0 za) (hnil0 : A0 = none → za = [] ∧ c0 = 0) (hl0 : za.length ≤ 9223372036854775807) (hzz0 : ∀ z ∈ za, -9223372036854775808 ≤ z ∧ z ≤ 9223372036854775807)
    (A1 : Option Addr) (zi : List Int) (c1 : Nat) (hr1 : IntsAt w A1 zi) (hnil1 : A1 = none → zi = [] ∧ c1 = 0) (hl1 : zi.length ≤ 9223372036854775807) (hzz1 : ∀ z ∈ zi, -9223372036854775808 ≤ z ∧ z ≤ 9223372036854775807)
    (A2 : Option Addr) (zb : List Int) (c2 : Nat) (hr2 : IntsAt w A2 zb) (hnil2 : A2 = none → zb = [] ∧ c2 = 0) (hl2 : zb.length ≤ 9223372036854775807) (hzz2 : ∀ z ∈ zb, -9223372036854775808 ≤ z ∧ z ≤ 9223372036854775807) (x y : Int) :
    Calls Try.prog 4 #[.slice A0 za.length c0, .slice A1 zi.length c1, .slice A2 zb.length c2, .int .i64 x, .int .i64 y] w fun e w' => e = .returned (.bool true) ∧ Below w.heap.size w w' := by
  clear hzz0 hzz1 hzz2 hnil0 hnil1 hnil2
  obtain ⟨na, hna⟩ : ∃ n, za.length = n := ⟨_, rfl⟩
  obtain ⟨ni, hni⟩ : ∃ n, zi.length = n := ⟨_, rfl⟩
  obtain ⟨nb, hnb⟩ : ∃ n, zb.length = n := ⟨_, rfl⟩
  rw [hna] at hl0 ⊢
  rw [hni] at hl1 ⊢
  rw [hnb] at hl2 ⊢
  have HN0 := Lib.hid hna
  have HN1 := Lib.hid hni
  have HN2 := Lib.hid hnb
  have HR0 := Lib.hid hr0
  have HR1 := Lib.hid hr1
  have HR2 := Lib.hid hr2
  clear hna hni hnb hr0 hr1 hr2
  have awk : ∀ W, Calls Try.prog 10 #[] W fun e w' => e = .returned (.bool true) ∧ Below W.heap.size W w' := awake_any
  have HAW := Lib.hid awk
  clear awk
  by_cases hb0 : 300 < na
  · have d0 : decide ((300 : Int) < (na : Int)) = true := decide_eq_true (by omega)
    go_enter Try.func4, Try.ntmps4
    go_wp2_with (go_at_call 10; refine (HAW.out _).mono ?_; rintro e w' ⟨rfl, hb⟩)
    go_ret
    exact ⟨rfl, hb⟩
  have d0 : decide ((300 : Int) < (na : Int)) = false := decide_eq_false (by omega)
  by_cases hb1 : 300 < ni
  · have d1 : decide ((300 : Int) < (ni : Int)) = true := decide_eq_true (by omega)
    go_enter Try.func4, Try.ntmps4
    go_wp2_with (go_at_call 10; refine (HAW.out _).mono ?_; rintro e w' ⟨rfl, hb⟩)
    go_ret
    exact ⟨rfl, hb⟩
  have d1 : decide ((300 : Int) < (ni : Int)) = false := decide_eq_false (by omega)
  by_cases hb2 : 300 < nb
  · have d2 : decide ((300 : Int) < (nb : Int)) = true := decide_eq_true (by omega)
    go_enter Try.func4, Try.ntmps4
    go_wp2_with (go_at_call 10; refine (HAW.out _).mono ?_; rintro e w' ⟨rfl, hb⟩)
    go_ret
    exact ⟨rfl, hb⟩
  have d2 : decide ((300 : Int) < (nb : Int)) = false := decide_eq_false (by omega)
  have HCL := Lib.hid (closed_any A1 zi ni c1 w HN1.out HR1.out (by omega))
  cases hcl : closedL zi 0 with
  | false =>
    rw [hcl] at HCL
    go_enter Try.func4, Try.ntmps4
    go_wp2_with fail
    refine HCL.out.mono ?_
    rintro e w1 ⟨rfl, rfl⟩
    go_wp2_with (go_at_call 10; refine (HAW.out _).mono ?_; rintro e w' ⟨rfl, hb⟩)
    go_ret
    exact ⟨rfl, hb⟩
  | true =>
    rw [hcl] at HCL
    obtain ⟨r, hr3, hrq⟩ := pick255 x
    obtain ⟨b, hb, hbx⟩ := low_bit y
    have HSK := Lib.hid (iso_at b za zi zb (19 + (r : Int)) (isI_pick r hr3) hcl)
    clear hcl hl0 hl1 hl2
    have hz19 : IntKind.i64.wrap (19 + (r : Int)) = 19 + (r : Int) := IntWalk.i64_in _ (by omega)
    have own0 : ∀ (W : World), (W.alloc (.cells #[] 3)).ownsRow W.heap.size 3 1 (.slice (some ⟨W.heap.size, 0, none⟩) 0 0) 0 (icl []) := fun W => World.ownsRow_made W #[] 0 (Nat.le_refl _) (Nat.zero_le _) rfl
    have HO0 := Lib.hid own0
    clear own0
    go_enter Try.func4, Try.ntmps4
    go_wp2_with fail
    refine HCL.out.mono ?_
    rintro e w1 ⟨rfl, rfl⟩
    have hba := below_made w (.cells #[] 3)
    have HRa := Lib.hid (HR0.out.below hba)
    have HBa := Lib.hid hba
    clear hba
    go_wp2_with (at_builtin; refine wpList_add rfl _ _ rfl w.heap.size _ 0 [] rfl (HO0.out w) A0 na c0 za rfl HRa.out HN0.out (by omega) (by simp) ?_)
    intro v2 w2 hown2 hb2'
    have HB2 := Lib.hid (HBa.out.trans hb2')
    have HOW2 := Lib.hid hown2
    have hs2 := HB2.out.size
    clear hb2' hown2 HRa HBa
    go_wp2_with (at_builtin; refine wpList_add rfl _ _ rfl w.heap.size _ na za rfl (HOW2.out.alloc _) (some ⟨w2.heap.size, 0, none⟩) 1 1 [19 + (r : Int)] rfl (made_ints _ _ _ _ rfl) rfl (by omega) (by simp; omega) ?_)
    intro v3 w3 hown3 hb3'
    obtain ⟨L3, hL3⟩ : ∃ L3, za ++ [19 + (r : Int)] = L3 := ⟨_, rfl⟩
    rw [hL3] at hown3 HSK
    have hl3 : L3.length = na + 1 := by rw [← hL3, List.length_append, HN0.out]; rfl
    obtain ⟨D3, k3, rfl, hi3⟩ := intsAt_icl hown3 hl3
    have HLN3 := Lib.hid hl3
    have HB3 := Lib.hid ((HB2.out.alloc hs2 _).trans hb3')
    have HOW3 := Lib.hid hown3
    have HI3 := Lib.hid hi3
    have hs3 := HB3.out.size
    clear hb3' hown3 hL3 HOW2 HB2 hs2 hi3 hl3
    -- the second row begins
    have hbc := below_made w3 (.cells #[] 3)
    have HBc := Lib.hid hbc
    have HRc := Lib.hid (HI3.out.below hbc)
    have HOc := Lib.hid (ownsRow_below HOW3.out hbc)
    have hsc : w3.heap.size ≤ (w3.alloc (.cells #[] 3)).heap.size := hbc.size
    clear hbc HI3
    go_wp2_with (at_builtin; refine wpList_add rfl _ _ rfl w3.heap.size _ 0 [] rfl (HO0.out w3) D3 (na + 1) k3 L3 rfl HRc.out HLN3.out (by omega) hsc ?_)
    intro v4 w4 hown4 hb4'
    have HB4 := Lib.hid (HBc.out.trans hb4')
    have HOW4 := Lib.hid hown4
    have HR4 := Lib.hid (HR1.out.below (HB3.out.trans (HB4.out.mono hs3)))
    have hs4 := HB4.out.size
    clear hb4' hown4 HRc HBc HOc hsc HO0
    go_wp2_with (at_builtin; refine wpList_add rfl _ _ rfl w3.heap.size _ (na + 1) L3 rfl HOW4.out A1 ni c1 zi rfl HR4.out HN1.out (by omega) hs4 ?_)
    intro v5 w5 hown5 hb5'
    obtain ⟨L5, hL5⟩ : ∃ L5, L3 ++ zi = L5 := ⟨_, rfl⟩
    obtain ⟨n5, hn5⟩ : ∃ n5, na + 1 + ni = n5 := ⟨_, rfl⟩
    rw [hL5] at hown5 HSK
    rw [hn5] at hown5
    have hl5 : L5.length = n5 := by rw [← hL5, List.length_append, HLN3.out, HN1.out, hn5]
    have hn5' : n5 ≤ 1000 := by omega
    have HLN5 := Lib.hid hl5
    have HN5 := Lib.hid hn5
    have HB5 := Lib.hid (HB4.out.trans hb5')
    have HOW5 := Lib.hid hown5
    have HOL5 := Lib.hid (ownsRow_below HOW3.out HB5.out)
    have HTW := Lib.hid (show Two (.slice D3 (na + 1) k3) v5 from by
      cases hk : Value.ownBlock (.slice D3 (na + 1) k3) with
      | none => exact .inl hk
      | some g =>
        refine .inr ?_
        rw [hk]
        intro e
        have h1 := (HOW3.out.lt g hk).2
        have h2 := (HOW5.out.lt g e.symm).1
        omega)
    have HB5a := Lib.hid (HB3.out.trans (HB5.out.mono hs3))
    have hs5 := HB5a.out.size
    have hs35 := HB5.out.size
    clear hb5' hown5 hL5 hl5 hn5 HOW4 HB4 HR4 HOW3 HB5
    -- the first row grows
    have hbd := below_made w5 (.cells #[.int .i64 22] 3)
    have HOL6 := Lib.hid (ownsRow_below HOL5.out hbd)
    have HOM6 := Lib.hid (ownsRow_below HOW5.out hbd)
    have HB6 := Lib.hid (HB5a.out.trans (hbd.mono hs5))
    have hs6 := HB6.out.size
    have hs36 : w3.heap.size ≤ (w5.alloc (.cells #[.int .i64 22] 3)).heap.size := Nat.le_trans hs35 hbd.size
    clear hbd HOL5 HOW5 HB5a
    go_wp2_with (at_builtin; refine wpList_addAt rfl _ _ rfl w.heap.size _ (na + 1) L3 rfl HOL6.out (some ⟨w5.heap.size, 0, none⟩) 1 1 [22] rfl (made_ints _ _ _ _ rfl) rfl (by omega) hs6 ?_)
    intro v7 w7 hown7 hg7 hw7 hb7'
    obtain ⟨L7, hL7⟩ : ∃ L7, L3 ++ [22] = L7 := ⟨_, rfl⟩
    rw [hL7] at hown7 HSK
    have hl7 : L7.length = na + 1 + 1 := by rw [← hL7, List.length_append, HLN3.out]; rfl
    have HLN7 := Lib.hid hl7
    have HOL7 := Lib.hid hown7
    have HOM7 := Lib.hid (HTW.out.kept HOM6.out hg7)
    have HTW7 := Lib.hid (HTW.out.grow HOM6.out (hw7.imp_right fun ⟨k, e, h⟩ => ⟨k, e, by simpa using h⟩))
    have HB7 := Lib.hid (HB6.out.trans hb7')
    have HR7 := Lib.hid (HR2.out.below HB7.out)
    have hs7 := HB7.out.size
    have hs37 := Nat.le_trans hs36 hb7'.size
    clear hl7 hown7 hg7 hw7 hb7' hL7 HOL6 HOM6 HTW HB6 hs6 hs36 hs35 hs5
    go_wp2_with (at_builtin; refine wpList_addAt rfl _ _ rfl w.heap.size _ (na + 1 + 1) L7 rfl HOL7.out A2 nb c2 zb rfl HR7.out HN2.out (by omega) hs7 ?_)
    intro v8 w8 hown8 hg8 hw8 hb8'
    obtain ⟨L8, hL8⟩ : ∃ L8, L7 ++ zb = L8 := ⟨_, rfl⟩
    obtain ⟨n8, hn8⟩ : ∃ n8, na + 1 + 1 + nb = n8 := ⟨_, rfl⟩
    rw [hL8] at hown8 HSK
    rw [hn8] at hown8
    have hl8 : L8.length = n8 := by rw [← hL8, List.length_append, HLN7.out, HN2.out, hn8]
    have HLN8 := Lib.hid hl8
    have hn8' : n8 ≤ 1000 := by omega
    have HN8 := Lib.hid hn8
    have HOL8 := Lib.hid hown8
    have HOM8 := Lib.hid (HTW7.out.kept HOM7.out hg8)
    have HTW8 := Lib.hid (HTW7.out.grow HOM7.out hw8)
    have HB8 := Lib.hid (HB7.out.trans hb8')
    have hs8 := HB8.out.size
    have hs38 := Nat.le_trans hs37 hb8'.size
    clear hl8 hown8 hg8 hw8 hb8' hL8 hn8 HOL7 HOM7 HTW7 HB7 hs7 hs37 HR7
    -- the second row grows
    have hbe := below_made w8 (.cells #[.int .i64 22] 3)
    have HOL9 := Lib.hid (ownsRow_below HOL8.out hbe)
    have HOM9 := Lib.hid (ownsRow_below HOM8.out hbe)
    have HB9 := Lib.hid (HB8.out.trans (hbe.mono hs8))
    have hs9 := HB9.out.size
    have hs39 : w3.heap.size ≤ (w8.alloc (.cells #[.int .i64 22] 3)).heap.size := Nat.le_trans hs38 hbe.size
    clear hbe HOL8 HOM8 HB8
    go_wp2_with (at_builtin; refine wpList_addAt rfl _ _ rfl w3.heap.size _ n5 L5 rfl HOM9.out (some ⟨w8.heap.size, 0, none⟩) 1 1 [22] rfl (made_ints _ _ _ _ rfl) rfl (by omega) hs39 ?_)
    intro va wa hown1 hg1 hw1 hb1'
    obtain ⟨La, hLa⟩ : ∃ La, L5 ++ [22] = La := ⟨_, rfl⟩
    rw [hLa] at hown1 HSK
    have hla : La.length = n5 + 1 := by rw [← hLa, List.length_append, HLN5.out]; rfl
    have HLNa := Lib.hid hla
    have HOMa := Lib.hid hown1
    have HOLa := Lib.hid (HTW8.out.swap.kept HOL9.out hg1)
    have HTWa := Lib.hid (HTW8.out.swap.grow HOL9.out (hw1.imp_right fun ⟨k, e, h⟩ => ⟨k, e, by simpa using h⟩))
    have HBa := Lib.hid (HB9.out.trans (hb1'.mono hs3))
    have HRa := Lib.hid (HR2.out.below HBa.out)
    have hsa := HBa.out.size
    have hs3a := Nat.le_trans hs39 hb1'.size
    clear hla hown1 hg1 hw1 hb1' hLa HOL9 HOM9 HTW8 HB9 hs9 hs39 hs38 hs8
    go_wp2_with (at_builtin; refine wpList_addAt rfl _ _ rfl w3.heap.size _ (n5 + 1) La rfl HOMa.out A2 nb c2 zb rfl HRa.out HN2.out (by omega) hs3a ?_)
    intro vb wb hownb hgb hwb hbb'
    obtain ⟨Lb, hLb⟩ : ∃ Lb, La ++ zb = Lb := ⟨_, rfl⟩
    obtain ⟨nm, hnm⟩ : ∃ nm, n5 + 1 + nb = nm := ⟨_, rfl⟩
    rw [hLb] at hownb HSK
    rw [hnm] at hownb
    have hlb : Lb.length = nm := by rw [← hLb, List.length_append, HLNa.out, HN2.out, hnm]
    have hnm' : nm ≤ 2000 := by omega
    have HBb := Lib.hid (HBa.out.trans (hbb'.mono hs3))
    have HOLb := HTWa.out.kept HOLa.out hgb
    obtain ⟨D8, k8, rfl, hi8⟩ := intsAt_icl HOLb HLN8.out
    obtain ⟨Db, kb, rfl, hib⟩ := intsAt_icl hownb hlb
    have hc8 := own_cap HOLb
    have hcb := own_cap hownb
    have HEX := Lib.hid (explicit_reads D8 L8 b n8 k8 wb hb HLN8.out hi8 (by omega) hc8)
    have HIM := Lib.hid hib
    have HEM := Lib.hid (fun W (h : IntsAt W Db Lb) => explicit_reads Db Lb b nm kb W hb hlb h (by omega) hcb)
    have HE8 := Lib.hid (show (explL L8 b).length = n8 by rw [explL_len, HLN8.out])
    have HEb := Lib.hid (show (explL Lb b).length = nm by rw [explL_len, hlb])
    have HSI := Lib.hid (show ∀ i : Nat, (i ≤ na → (explL Lb b)[i]? = (explL L8 b)[i]?) ∧ (na < i → (explL Lb b)[i + ni]? = (explL L8 b)[i]?) from fun i => by
      have h := HSK.out i
      rw [HN0.out, HN1.out] at h
      exact h)
    have HNN := Lib.hid (show nm = n8 + ni by
      have h1 := HN5.out
      have h2 := HN8.out
      omega)
    have hna8 : na < n8 := by
      have h2 := HN8.out
      omega
    clear hownb hgb hwb hbb' hLb hlb hnm HOLb hi8 hib hc8 hcb HSK HOMa HOLa HTWa HBa HRa hsa hs3a HLNa HLN8 HLN7 HLN5 HLN3 HN5 HN8
    generalize explL L8 b = E at *
    generalize explL Lb b = F at *
    go_wp2_with fail
    refine HEX.out.mono ?_
    rintro e we ⟨g1, g2, rfl, hne1, hg1, hg2, ho1, ho2, i1, i2, hbe⟩
    have HEN := Lib.hid (HEM.out _ (HIM.out.below hbe))
    have HI1 := Lib.hid i1
    have HI2 := Lib.hid i2
    have HBe := Lib.hid (HBb.out.trans (hbe.mono HBb.out.size))
    clear i1 i2 ho1 ho2 hbe HEX HEM HIM hne1 hg1 hg2 HBb
    go_wp2_with fail
    refine HEN.out.mono ?_
    rintro e w4 ⟨g3, g4, rfl, hne2, hg3, hg4, ho3, ho4, i3, i4, hbf⟩
    have HJ1 := Lib.hid (HI1.out.below hbf)
    have HJ2 := Lib.hid (HI2.out.below hbf)
    have HI3 := Lib.hid i3
    have HI4 := Lib.hid i4
    have HB4 := Lib.hid (HBe.out.trans (hbf.mono HBe.out.size))
    clear i3 i4 ho3 ho4 hbf HEN hne2 hg3 hg4 HI1 HI2 HBe
    go_wp2_with fail
    go_loopw [17] (fun s17 wx => ∃ i : Nat, i ≤ n8 ∧ s17 = .int .i64 i ∧ Below w4.heap.size w4 wx) (fun s17 _ => n8 - (RowKit.intOf s17).toNat)
    case atStart => exact ⟨0, Nat.zero_le _, rfl, Below.refl _ _⟩
    case round =>
      obtain ⟨i, hi, rfl, hbz⟩ := hrel
      by_cases hlt2 : i < n8
      · have hiE : i < E.length := by rw [HE8.out]; exact hlt2
        have HBZ := Lib.hid hbz
        obtain ⟨k, hkq⟩ : ∃ k : Nat, k = if na < i then i + ni else i := ⟨_, rfl⟩
        have hkm : k < nm := by
          have hnn := HNN.out
          rw [hkq]
          split <;> omega
        have hiF : k < F.length := by rw [HEb.out]; exact hkm
        have hEF : F[k] = E[i] := by
          have h : F[k]? = E[i]? := by
            rw [hkq]
            split
            · rename_i h; exact (HSI.out i).2 h
            · rename_i h; exact (HSI.out i).1 (by omega)
          rw [List.getElem?_eq_getElem hiF, List.getElem?_eq_getElem hiE] at h
          injection h
        obtain ⟨x1, y1, hv1, q1⟩ := (HJ1.out.below hbz).at_ (k := i) (by rw [List.length_map]; exact hiE)
        obtain ⟨x2, y2, hv2, q2⟩ := (HJ2.out.below hbz).at_ (k := i) (by rw [List.length_map]; exact hiE)
        obtain ⟨x3, y3, hv3, q3⟩ := (HI3.out.below hbz).at_ (k := k) (by rw [List.length_map]; exact hiF)
        obtain ⟨x4, y4, hv4, q4⟩ := (HI4.out.below hbz).at_ (k := k) (by rw [List.length_map]; exact hiF)
        injection hv1 with hv1
        injection hv1 with e1 e2
        subst e1 e2
        injection hv2 with hv2
        injection hv2 with e1 e2
        subst e1 e2
        injection hv3 with hv3
        injection hv3 with e1 e2
        subst e1 e2
        injection hv4 with hv4
        injection hv4 with e1 e2
        subst e1 e2
        rw [List.getElem_map] at q1 q2 q3 q4
        rw [hEF] at q3 q4
        clear hEF
        generalize E[i] = p at *
        obtain ⟨p1, p2⟩ := p
        simp only [Nat.zero_add] at q1 q2 q3 q4
        clear hbz
        have t1 : (p1 != p1) = false := by simp
        have t2 : (p2 != p2) = false := by simp
        have i0 : (0 : Int) ≤ (i : Int) := by omega
        have i1 : (i : Int) < (n8 : Int) := by omega
        have k0 : (0 : Int) ≤ (k : Int) := by omega
        have k1 : (k : Int) < (nm : Int) := by omega
        by_cases hin : na < i
        · have hki : (i : Int) + (ni : Int) = (k : Int) := by rw [hkq, if_pos hin]; omega
          have hd : decide ((na : Int) < (i : Int)) = true := decide_eq_true (by omega)
          have hwk : IntKind.i64.wrap ((i : Int) + (ni : Int)) = (k : Int) := by rw [hki]; exact IntWalk.i64_in _ (by omega)
          clear hkq
          go_wp2_with fail
          go_quiet (fail)
          go_wp2_with fail
          have hdr := Arr.below_drewN (Below.refl wr.heap.size wr) nq
          go_roundw
          case measure => simp [RowKit.intOf]; omega
          case rel => exact ⟨i + 1, by omega, by go_num, HBZ.out.trans (hdr.mono HBZ.out.size)⟩
        · have hki : k = i := by rw [hkq, if_neg hin]
          subst hki
          have hd : decide ((na : Int) < (k : Int)) = false := decide_eq_false (by omega)
          clear hkq
          go_wp2_with fail
          go_quiet (fail)
          go_wp2_with fail
          have hdr := Arr.below_drewN (Below.refl wr.heap.size wr) nq
          go_roundw
          case measure => simp [RowKit.intOf]; omega
          case rel => exact ⟨k + 1, by omega, by go_num, HBZ.out.trans (hdr.mono HBZ.out.size)⟩
      · obtain rfl : i = n8 := by omega
        have HBZ := Lib.hid (HB4.out.trans (hbz.mono HB4.out.size))
        clear hbz
        go_wp2_with fail
        refine (HAW.out _).mono ?_
        rintro e wa ⟨rfl, hba⟩
        go_wp2
        go_ret
        exact ⟨rfl, HBZ.out.trans (hba.mono HBZ.out.size)⟩

set_option maxRecDepth 100000 in
theorem lifted (os : Os) (started : os.Started) (H : Type) (enc : TypeId × Value → H) :
    ReturnsInHanded {} Try.checked os 4 .any (Rows.levelIsolatesSpec.pre6 enc Try.prog Try.f4 Rows.levelIsolatesRow.domain false) (Rows.levelIsolatesSpec.post enc Try.prog Try.f4 false true false false) := by
  refine returnsInHanded_of_change (C := Try.checked) law_own started (by kernel_rfl) Try.func4
    (ChangeSpec.witness6 (enc := enc) (C := Try.checked) false ⟨#[], #[.slice none 0 0, .slice none 0 0, .slice none 0 0, .int .i64 0, .int .i64 0], []⟩ 8 (by kernel_rfl) (by kernel_rfl) (by kernel_rfl) (by kernel_rfl)) ?_
  intro W base args ds gs before hval0 hW _ _
  have hval : ∀ (j : Nat) t v, Try.f4.params[j]? = some t → args[j]? = some v → Value.okWide Try.prog W .any base t v := hval0
  have hW' := hW
  obtain ⟨p, q, hA0, hV, rfl, hfz, hnd⟩ := hW
  have hA : DataW.TrodAll enc Try.prog W 0 (fun _ => true) true Try.f4.params.toList args.toList ds p := hA0
  rw [Try.params4] at hA hval
  obtain ⟨v0, vs0, d0, ds0, p0, q0, hargs, rfl, rfl, h0, r0⟩ := ChangeShapes.trodAll_cons hA
  obtain ⟨v1, vs1, d1, ds1, p1, q1, rfl, rfl, rfl, h1, r1⟩ := ChangeShapes.trodAll_cons r0
  obtain ⟨v2, vs2, d2, ds2, p2, q2, rfl, rfl, rfl, h2, r2⟩ := ChangeShapes.trodAll_cons r1
  obtain ⟨v3, vs3, d3, ds3, p3, q3, rfl, rfl, rfl, h3, r3⟩ := ChangeShapes.trodAll_cons r2
  obtain ⟨v4, vs4, d4, ds4, p4, q4, rfl, rfl, rfl, h4, r4⟩ := ChangeShapes.trodAll_cons r3
  obtain ⟨rfl, rfl, rfl⟩ := ChangeShapes.trodAll_nil r4
  obtain rfl : args = #[v0, v1, v2, v3, v4] := by cases args; simp_all
  obtain ⟨rfl, rfl⟩ := ChangeShapes.trodVars_none hV
  obtain ⟨A0, zs0, c0, rfl, hr0, hnil0, hl0, hz0⟩ := open_introw (hval 0 22 v0 rfl rfl) h0
  obtain ⟨A1, zs1, c1, rfl, hr1, hnil1, hl1, hz1⟩ := open_introw (hval 1 22 v1 rfl rfl) h1
  obtain ⟨A2, zs2, c2, rfl, hr2, hnil2, hl2, hz2⟩ := open_introw (hval 2 22 v2 rfl rfl) h2
  obtain ⟨x3, rfl, rfl, rfl, wx3⟩ := open_int Try.underlying3 (hval 3 3 v3 rfl rfl) h3
  obtain ⟨x4, rfl, rfl, rfl, wx4⟩ := open_int Try.underlying3 (hval 4 3 v4 rfl rfl) h4
  refine (walk W A0 zs0 c0 hr0 hnil0 hl0 hz0 A1 zs1 c1 hr1 hnil1 hl1 hz1 A2 zs2 c2 hr2 hnil2 hl2 hz2 x3 x4).mono fun e W' ⟨he, hB⟩ => ?_
  subst he
  exact ⟨_, rfl, law_post hW' rfl rfl (by kernel_rfl) rfl hB⟩

theorem holds : Rows.LevelIsolatesSaid :=
  OpenClaim.holds_of_wide 4 Try.f4 rfl rfl rfl rfl rfl rfl rfl ⟨rfl, rfl, rfl, rfl, rfl⟩ rfl rfl rfl rfl rfl (by kernel_rfl) Try.func4 (by kernel_rfl)
    (of_decide_eq_true (by kernel_rfl)) (by unfold Func.isWrapper; first | (rw [if_pos (by decide +kernel)]; kernel_rfl) | (rw [if_neg (by decide +kernel)]; exact ⟨rfl, rfl⟩))
    (fun os started H enc _ => lifted os started H enc)
end Go.Proofs.Ytehndhkcmccpmaa.LevelIsolates
