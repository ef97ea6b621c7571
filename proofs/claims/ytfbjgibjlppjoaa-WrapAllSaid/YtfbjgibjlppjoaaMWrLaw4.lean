/-
  Proved here: what parquetrylaw17.WrapAll returns for every row of clusters: true; for any program of wrapping that keeps to the plain one (BreakOk, BlankOk, LinesOk). It leaves what was in memory.
-/
import Derived.Test.YtfbjgibjlppjoaaM14
import Derived.Test.YtfbjgibjlppjoaaM16
set_option linter.unusedVariables false
namespace Go.Proofs.Ytfbjgibjlppjoaa.Wr
open Go Go.RowKit Go.Lib Go.Proofs.Ytfbjgibjlppjoaa.Ku Go.Proofs.Ytfbjgibjlppjoaa.Arr

set_option maxHeartbeats 4000000 in
set_option maxRecDepth 100000 in
theorem all_law (HBR : BreakOk) (HBL : BlankOk) (HLN : LinesOk) (A : Option Addr) (l : List C6) (n c : Nat) (s how : Int) (w : World) (hR : CuAt w A l) (hl : l.length = n) (hc : n ≤ c) (hs : s ≤ 9223372036854775807) :
    Calls Try.prog 6 #[.slice A n c, .int .i64 s, .int .i64 how] w fun e w' => e = .returned (.bool true) ∧ Below w.heap.size w w' := by
  have HA := Lib.hid (fun V => awake_of HLN V)
  by_cases h300 : 200 < n
  · have d0 : decide ((200 : Int) < (n : Int)) = true := decide_eq_true (by omega)
    have e0 : decide (200 < n) = true := decide_eq_true h300
    clear HLN hR hl HBR HBL
    go_enter Try.func6, Try.ntmps6
    go_wp2_with fail
    refine (HA.out _).mono ?_
    rintro e w1 ⟨rfl, hb1⟩
    go_wp2_with fail
    go_ret
    exact ⟨rfl, hb1⟩
  · have d0 : decide ((200 : Int) < (n : Int)) = false := decide_eq_false (by omega)
    have e0 : decide (200 < n) = false := decide_eq_false h300
    have HR := Lib.hid hR
    have HN := Lib.hid hl
    have HL1 := Lib.hid (HLN A l n c s how w hR hl (by omega) hc hs)
    have hle := linesP_le l s how
    obtain ⟨hp0, hall⟩ := linesP_all l s how
    have HALL := Lib.hid hall
    have H1 := Lib.hid (fun (x : C6) V => HBR x V)
    have H2 := Lib.hid (fun (x : C6) V => HBL x V)
    clear hR hl HLN HBR HBL hall
    generalize linesP l s how = P at *
    obtain ⟨m, hm⟩ : ∃ m, P.length = m := ⟨_, rfl⟩
    rw [hm] at HL1 hle hp0
    have HPM := Lib.hid hm
    have hm2 : m ≤ 201 := by have := HN.out; omega
    clear hm hle
    go_enter Try.func6, Try.ntmps6
    go_wp2_with fail
    refine HL1.out.mono ?_
    rintro e w3 ⟨A3, c3, rfl, ho3, hb3⟩
    have HP3 := Lib.hid (li_own HPM.out ho3)
    have HR3 := Lib.hid (HR.out.below hb3)
    have HB3 := Lib.hid hb3
    clear ho3 hb3 HL1 HR
    go_wp2_with fail
    go_loopw [8, 9] (fun s8 s9 wx => ∃ (i at_ : Nat), i ≤ m ∧ s8 = .int .i64 at_ ∧ s9 = .int .i64 i ∧ (i = 0 → at_ = 0) ∧ (∀ y, P[i]? = some y → y.f = at_) ∧ (i = m → at_ = n) ∧ Below w3.heap.size w3 wx) (fun _ s9 _ => m - (RowKit.intOf s9).toNat)
    case atStart => exact ⟨0, 0, Nat.zero_le _, rfl, rfl, fun _ => rfl, fun y hy => by obtain ⟨f, t, s, rfl, e, _⟩ := HALL.out 0 y hy; simp [e rfl], fun e => by omega, Below.refl _ _⟩
    case round =>
      obtain ⟨i, p, hi, rfl, rfl, hz, hp, he, hb⟩ := hrel
      have HB := Lib.hid hb
      by_cases hlt : i < m
      · have hil : i < P.length := by rw [HPM.out]; exact hlt
        have hat := HALL.out i P[i] (List.getElem?_eq_getElem hil)
        have hpf := hp P[i] (List.getElem?_eq_getElem hil)
        obtain ⟨g, o, rfl, hg, q0, q1, q2, q3, q4⟩ := (HP3.out.below hb).at_ hil
        obtain ⟨f, t, sh, e, a1, a2, a3, a4, a5, a6, a7, a8⟩ := hat
        rw [e] at q0 q1 q2 q3 q4 hpf
        have jj0 : (0 : Int) ≤ (i : Int) := by omega
        have jj1 : (i : Int) < (m : Int) := by omega
        simp only at q0 q1 q2 q3 q4 hpf
        rw [HPM.out] at q3 a7
        have ht := HN.out
        rw [ht] at a4 a5 a6 a7
        obtain rfl : f = p := by omega
        have k0 : ((f : Int) != (f : Int)) = false := by simp
        have k1 : decide ((sh : Int) < (f : Int)) = false := decide_eq_false (by omega)
        have k2 : decide ((t : Int) < (sh : Int)) = false := decide_eq_false (by omega)
        have k3 : decide ((n : Int) < (t : Int)) = false := decide_eq_false (by omega)
        have k1' : decide (sh < f) = false := decide_eq_false (by omega)
        have k2' : decide (t < sh) = false := decide_eq_false (by omega)
        have k3' : decide (n < t) = false := decide_eq_false (by omega)
        have hh : ((if i + 1 = m then (1 : Int) else 0) == 1) = (i + 1 == m) := by
          by_cases h : i + 1 = m
          · rw [if_pos h, beq_iff_eq.2 h]; rfl
          · rw [if_neg h, beq_eq_false_iff_ne.2 h]; rfl
        have hj : ((i : Int) + 1 == (m : Int)) = (i + 1 == m) := by
          by_cases h : i + 1 = m
          · rw [beq_iff_eq.2 h]; exact beq_iff_eq.2 (by omega)
          · rw [beq_eq_false_iff_ne.2 h]; exact beq_eq_false_iff_ne.2 (by omega)
        have HX := Lib.hid (And.intro a6 (And.intro a7 a8))
        generalize (if i + 1 = m then (1 : Int) else 0) = hx at *
        have hft : ((t : Int) == (f : Int)) = false ∨ ((t : Int) == (f : Int)) = true ∧ n = 0 := by
          by_cases h : t = f
          · exact .inr ⟨beq_iff_eq.2 (by omega), a5 h⟩
          · exact .inl (beq_eq_false_iff_ne.2 (by omega))
        clear hb a5 a6 a7 a8 e hpf hz hp he ht hil
        cases hq : (i + 1 == m) <;> rw [hq] at hh hj <;> rcases hft with hf | ⟨hf, rfl⟩
        all_goals
          go_wp2_with fail
        all_goals
          have hV : (wr.alloc (.cells #[.int .i64 f, .int .i64 t, .int .i64 sh, .int .i64 hx, .int .i64 0] 36)).heap[wr.heap.size]? = some (.cells #[.int .i64 f, .int .i64 t, .int .i64 sh, .int .i64 hx, .int .i64 0] 36) := heap_alloc_last wr _
          have hbV : Below wr.heap.size wr (wr.alloc (.cells #[.int .i64 f, .int .i64 t, .int .i64 sh, .int .i64 hx, .int .i64 0] 36)) := (Below.refl _ _).alloc (Nat.le_refl _) _
          have HBV := Lib.hid (HB.out.trans (hbV.mono HB.out.size))
          have hl6 : wr.heap.size < (wr.alloc (.cells #[.int .i64 f, .int .i64 t, .int .i64 sh, .int .i64 hx, .int .i64 0] 36)).heap.size := (Array.getElem?_eq_some_iff.1 hV).1
          have u1 : (wr.alloc (.cells #[.int .i64 f, .int .i64 t, .int .i64 sh, .int .i64 hx, .int .i64 0] 36)).cell? ⟨wr.heap.size, 1, none⟩ = some (.int .i64 t) := by simp
          clear hbV hV q0 q1 q2 q3 q4 HB hg
          generalize (wr.alloc (.cells #[.int .i64 f, .int .i64 t, .int .i64 sh, .int .i64 hx, .int .i64 0] 36)) = V at *
          generalize wr.heap.size = b6 at *
        all_goals
          go_loopw [11] (fun s11 wy => ∃ k : Nat, sh ≤ k ∧ k ≤ t ∧ s11 = .int .i64 k ∧ Below V.heap.size V wy) (fun s11 _ => t - (RowKit.intOf s11).toNat)
          case atStart => exact ⟨sh, Nat.le_refl _, a3, rfl, Below.refl _ _⟩
          case round =>
            obtain ⟨k, hk1, hk2, rfl, hy⟩ := hrel
            have u1' := (hy.cell (p := ⟨b6, 1, none⟩) hl6).trans u1
            have HBY := Lib.hid (HBV.out.trans (hy.mono HBV.out.size))
            have HY := Lib.hid hy
            clear hy
            by_cases hkt : k < t
            · first
              | (exfalso; omega)
              | (have hkl : k < l.length := by rw [HN.out]; omega
                 have hbk := HX.out.1 k hk1 hkt
                 rw [Bl_at hkl, getD_at hkl] at hbk
                 obtain ⟨g2, o2, rfl, hg2, c0, c1, c2, c3, c4, c5⟩ := (HR3.out.below HBY.out).at_ hkl
                 generalize l[k] = x at *
                 have HC := Lib.hid (fun W (h : Below wr.heap.size wr W) => And.intro ((h.cell (p := ⟨g2, o2 + k * 6, none⟩) hg2).trans c0) (And.intro ((h.cell (p := ⟨g2, o2 + k * 6 + 1, none⟩) hg2).trans c1) (And.intro ((h.cell (p := ⟨g2, o2 + k * 6 + 2, none⟩) hg2).trans c2) (And.intro ((h.cell (p := ⟨g2, o2 + k * 6 + 3, none⟩) hg2).trans c3) (And.intro ((h.cell (p := ⟨g2, o2 + k * 6 + 4, none⟩) hg2).trans c4) ((h.cell (p := ⟨g2, o2 + k * 6 + 5, none⟩) hg2).trans c5))))))
                 have jk0 : (0 : Int) ≤ (k : Int) := by omega
                 have jk2 : (k : Int) < (t : Int) := by omega
                 cases hb32 : (x.c == 32)
                 · obtain ⟨hkn, hbr⟩ := hbk.resolve_left (by rw [hb32]; decide)
                   have HK2 := Lib.hid (fun V => (hb32 ▸ H2.out x V : Calls Try.prog 11 #[.agg #[.int .i64 x.a, .int .i64 x.z, .int .i64 x.f, .int .i64 x.t, .int .i64 x.w, .int .i64 x.c]] V fun e w' => e = .returned (.bool false) ∧ Below V.heap.size V w'))
                   have HK1 := Lib.hid (fun V => (hbr ▸ H1.out x V : Calls Try.prog 9 #[.agg #[.int .i64 x.a, .int .i64 x.z, .int .i64 x.f, .int .i64 x.t, .int .i64 x.w, .int .i64 x.c]] V fun e w' => e = .returned (.bool true) ∧ Below V.heap.size V w'))
                   clear hbk hb32 hbr hkl
                   have hk3 : ((k : Int) + 1 != (n : Int)) = false := by rw [bne_eq_false_iff_eq]; omega
                   have hk4 : ((k : Int) + 1 == (n : Int)) = true := beq_iff_eq.2 (by omega)
                   go_wp2_with fail
                   refine (HK2.out _).mono ?_
                   rintro e w5 ⟨rfl, hb5⟩
                   have HB5 := Lib.hid (HY.out.trans (hb5.mono HY.out.size))
                   clear c0 c1 c2 c3 c4 c5
                   obtain ⟨c0, c1, c2, c3, c4, c5⟩ := HC.out _ hb5
                   clear hb5
                   go_wp2_with fail
                   refine (HK1.out _).mono ?_
                   rintro e w6 ⟨rfl, hb6⟩
                   have HB6 := Lib.hid (HB5.out.trans (hb6.mono HB5.out.size))
                   clear hb6
                   go_wp2_with fail
                   first
                     | exact ⟨⟨k + 1, by omega, by omega, by go_num, HB6.out⟩, by simp [RowKit.intOf]; omega⟩
                     | (go_roundw; (case rel => exact ⟨k + 1, by omega, by omega, by go_num, HB6.out⟩); (case measure => simp [RowKit.intOf]; omega))
                 · have HK2 := Lib.hid (fun V => (hb32 ▸ H2.out x V : Calls Try.prog 11 #[.agg #[.int .i64 x.a, .int .i64 x.z, .int .i64 x.f, .int .i64 x.t, .int .i64 x.w, .int .i64 x.c]] V fun e w' => e = .returned (.bool true) ∧ Below V.heap.size V w'))
                   clear hbk hb32 hkl
                   go_wp2_with fail
                   refine (HK2.out _).mono ?_
                   rintro e w5 ⟨rfl, hb5⟩
                   have HB5 := Lib.hid (HY.out.trans (hb5.mono HY.out.size))
                   clear hb5
                   go_wp2_with fail
                   first
                     | exact ⟨⟨k + 1, by omega, by omega, by go_num, HB5.out⟩, by simp [RowKit.intOf]; omega⟩
                     | (go_roundw; (case rel => exact ⟨k + 1, by omega, by omega, by go_num, HB5.out⟩); (case measure => simp [RowKit.intOf]; omega)))
            · obtain rfl : k = t := by omega
              have jk2 : decide ((k : Int) < (k : Int)) = false := decide_eq_false (by omega)
              go_wp2_with fail
              exact ⟨⟨i + 1, k, by omega, rfl, by go_num, fun e => by omega, HX.out.2.2, HX.out.2.1, HBY.out⟩, by simp [RowKit.intOf]; omega⟩
      · obtain rfl : i = m := by omega
        have jj2 : decide ((i : Int) < (i : Int)) = false := decide_eq_false (by omega)
        obtain rfl := he rfl
        clear hb
        go_wp2_with fail
        refine (HA.out _).mono ?_
        rintro e w7 ⟨rfl, hb7⟩
        go_wp2_with fail
        go_ret
        have h1 := HB3.out.trans (HB.out.mono HB3.out.size)
        exact ⟨rfl, h1.trans (hb7.mono h1.size)⟩
end Go.Proofs.Ytfbjgibjlppjoaa.Wr
