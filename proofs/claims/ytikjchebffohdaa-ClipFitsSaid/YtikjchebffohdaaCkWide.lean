/-
  Proved here: what clip.Wide returns: how many slots what is shown of a line takes; 0, if it may not be. It leaves what was in memory.
-/
import Derived.Test.YtikjchebffohdaaCkPub
set_option linter.unusedVariables false
namespace Go.Proofs.Ytikjchebffohdaa.Ck
open Go Go.RowKit Go.Lib Go.Proofs.Ytikjchebffohdaa.Ku Go.Proofs.Ytikjchebffohdaa.Wr Go.Proofs.Ytikjchebffohdaa.Arr

set_option maxHeartbeats 2000000 in
set_option maxRecDepth 100000 in
theorem lwide_any (A : Option Addr) (l : List C6) (n c : Nat) (x : L5) (w : World) (hR : CuAt w A l) (hl : l.length = n) (hnil : A = none → c = 0) (hc : n ≤ c) (hn : n ≤ 1099511627776) (hm : mayB n x = true) :
    Calls Try.prog 19 #[lkV A n c x] w fun e w' => e = .returned (.int .i64 (wideP l x)) ∧ Below w.heap.size w w' := by
  obtain ⟨f, s, t, hf, hs, ht, h1, h2, h3⟩ := mayB_is hm
  unfold lkV wideP
  rw [hf, hs, Int.toNat_natCast, Int.toNat_natCast]
  have HB := Lib.hid ((Below.refl w.heap.size w).alloc (Nat.le_refl _) (.cells #[.int .i64 f, .int .i64 x.t, .int .i64 s, .int .i64 x.h, .int .i64 x.d, .slice A n c] 40))
  obtain ⟨k, hk⟩ : ∃ k, s - f = k := ⟨_, rfl⟩
  rw [hk]
  obtain ⟨v0, hv0⟩ : ∃ v0 : Int, (if x.d = 1 then 2147483646 else 2147483647) = v0 := ⟨_, rfl⟩
  rw [hv0]
  have hv1 : 0 ≤ v0 ∧ v0 ≤ 2147483647 := by rw [← hv0]; split <;> omega
  obtain ⟨R, hRR⟩ : ∃ R, leftK (Wd l) k f v0 = R := ⟨_, rfl⟩
  have hrg := leftK_range (W := Wd l) (fun i => Wd_pos l i) k f v0 hv1.1
  rw [hRR] at hrg ⊢
  have HRR := Lib.hid hRR
  have HR := Lib.hid hR
  have HL := Lib.hid hl
  have hsc : s ≤ c := by omega
  have j0 : (0 : Int) ≤ (s : Int) := by omega
  have j1 : (s : Int) ≤ (c : Int) := by omega
  have j2 : (0 : Int) ≤ (f : Int) := by omega
  have j3 : (f : Int) ≤ (s : Int) := by omega
  have jk : ((s : Int) - (f : Int)) = (k : Int) := by omega
  have jR : IntKind.i64.wrap (2147483647 - R) = 2147483647 - R := IntWalk.i64_in _ (by omega)
  clear hR hl hRR hm hf hs ht
  cases A with
  | none =>
    obtain rfl : c = 0 := hnil rfl
    obtain rfl : s = 0 := by omega
    obtain rfl : f = 0 := by omega
    obtain rfl : n = 0 := by omega
    obtain rfl : k = 0 := by omega
    have e : v0 = R := HRR.out
    subst e
    by_cases hd : x.d = 1
    · have d1 : (x.d == (1 : Int)) = true := by rw [hd]; rfl
      rw [if_pos hd] at hv0
      subst hv0
      clear hd hrg hv1 hnil hc hn h1 h2 h3 hsc j0 j1 j2 j3 jk
      go_enter Try.func19, Try.ntmps19
      go_wp2_with fail
      go_loopw [3, 23] (fun s3 s23 wx => s3 = .int .i64 2147483646 ∧ s23 = .int .i64 0 ∧ wx = w.alloc (.cells #[.int .i64 0, .int .i64 x.t, .int .i64 0, .int .i64 x.h, .int .i64 x.d, .slice none 0 0] 40)) (fun _ _ _ => 0)
      case atStart => exact ⟨rfl, rfl, rfl⟩
      case round =>
        obtain ⟨rfl, rfl, rfl⟩ := hrel
        go_wp2_with fail
        go_ret
        exact ⟨rfl, HB.out⟩
    · have d1 : (x.d == (1 : Int)) = false := beq_eq_false_iff_ne.2 hd
      rw [if_neg hd] at hv0
      subst hv0
      clear hd hrg hv1 hnil hc hn h1 h2 h3 hsc j0 j1 j2 j3 jk
      go_enter Try.func19, Try.ntmps19
      go_wp2_with fail
      go_loopw [3, 23] (fun s3 s23 wx => s3 = .int .i64 2147483647 ∧ s23 = .int .i64 0 ∧ wx = w.alloc (.cells #[.int .i64 0, .int .i64 x.t, .int .i64 0, .int .i64 x.h, .int .i64 x.d, .slice none 0 0] 40)) (fun _ _ _ => 0)
      case atStart => exact ⟨rfl, rfl, rfl⟩
      case round =>
        obtain ⟨rfl, rfl, rfl⟩ := hrel
        go_wp2_with fail
        go_ret
        exact ⟨rfl, HB.out⟩
  | some a =>
    obtain ⟨b, off, sp⟩ := a
    have HSP := Lib.hid (fun (h : 0 < k) => (show sp = none from by
      obtain ⟨b', off', e, -⟩ := HR.out.at_ (k := 0) (by have := HL.out; omega)
      injection e with e
      injection e))
    have HCL := Lib.hid (fun (i : Nat) (h : i < k) (V : World) (hV : Below w.heap.size w V) => (show ∃ y : Int, Wd l (f + i) = max y 0 ∧ ∃ a0 a1 a2 a3 a5 : Int, V.cell? ⟨b, off + f * 6 + i * 6, none⟩ = some (.int .i64 a0) ∧ V.cell? ⟨b, off + f * 6 + i * 6 + 1, none⟩ = some (.int .i64 a1) ∧ V.cell? ⟨b, off + f * 6 + i * 6 + 2, none⟩ = some (.int .i64 a2) ∧ V.cell? ⟨b, off + f * 6 + i * 6 + 3, none⟩ = some (.int .i64 a3) ∧ V.cell? ⟨b, off + f * 6 + i * 6 + 4, none⟩ = some (.int .i64 y) ∧ V.cell? ⟨b, off + f * 6 + i * 6 + 5, none⟩ = some (.int .i64 a5) from by
      have hil : f + i < l.length := by have := HL.out; omega
      obtain ⟨b', off', e, -, c0, c1, c2, c3, c4, c5⟩ := (HR.out.below hV).at_ hil
      injection e with e
      injection e with e1 e2 e3
      subst e1 e2
      rw [show off + (f + i) * 6 = off + f * 6 + i * 6 from by omega] at c0 c1 c2 c3 c4 c5
      exact ⟨_, Wd_at hil, _, _, _, _, _, c0, c1, c2, c3, c4, c5⟩))
    by_cases hd : x.d = 1
    · have d1 : (x.d == (1 : Int)) = true := by rw [hd]; rfl
      rw [if_pos hd] at hv0
      subst hv0
      clear hd hrg hnil
      by_cases hk0 : k = 0
      · subst hk0
        have e : (2147483646 : Int) = R := HRR.out
        subst e
        clear HCL HSP
        rcases Nat.lt_or_ge f c with g2 | g2
        · have g1 : (f : Int) < (c : Int) := by omega
          have g3 : ¬ c = f := by omega
          go_enter Try.func19, Try.ntmps19
          go_wp2_with fail
          go_loopw [3, 23] (fun s3 s23 wx => s3 = .int .i64 2147483646 ∧ s23 = .int .i64 0 ∧ wx = w.alloc (.cells #[.int .i64 f, .int .i64 x.t, .int .i64 s, .int .i64 x.h, .int .i64 x.d, .slice (some ⟨b, off, sp⟩) n c] 40)) (fun _ _ _ => 0)
          case atStart => exact ⟨rfl, rfl, rfl⟩
          case round =>
            obtain ⟨rfl, rfl, rfl⟩ := hrel
            go_wp2_with fail
            go_ret
            exact ⟨rfl, HB.out⟩
        · have g3 : f = c := by omega
          subst g3
          go_enter Try.func19, Try.ntmps19
          go_wp2_with fail
          go_loopw [3, 23] (fun s3 s23 wx => s3 = .int .i64 2147483646 ∧ s23 = .int .i64 0 ∧ wx = w.alloc (.cells #[.int .i64 f, .int .i64 x.t, .int .i64 s, .int .i64 x.h, .int .i64 x.d, .slice (some ⟨b, off, sp⟩) n f] 40)) (fun _ _ _ => 0)
          case atStart => exact ⟨rfl, rfl, rfl⟩
          case round =>
            obtain ⟨rfl, rfl, rfl⟩ := hrel
            go_wp2_with fail
            go_ret
            exact ⟨rfl, HB.out⟩
      · obtain rfl : sp = none := HSP.out (by omega)
        have g1 : (f : Int) < (c : Int) := by omega
        have g2 : f < c := by omega
        have g3 : ¬ c = f := by omega
        clear hk0 HSP
        go_enter Try.func19, Try.ntmps19
        go_wp2_with fail
        generalize w.alloc (.cells #[.int .i64 f, .int .i64 x.t, .int .i64 s, .int .i64 x.h, .int .i64 x.d, .slice (some ⟨b, off, none⟩) n c] 40) = V0 at *
        go_loopw [3, 23] (fun s3 s23 wx => ∃ (i : Nat) (v : Int), i ≤ k ∧ s23 = .int .i64 i ∧ s3 = .int .i64 v ∧ 0 ≤ v ∧ v ≤ 2147483647 ∧ leftK (Wd l) (k - i) (f + i) v = R ∧ Below V0.heap.size V0 wx) (fun _ s23 _ => k - (RowKit.intOf s23).toNat)
        case atStart => exact ⟨0, _, Nat.zero_le _, rfl, rfl, by omega, by omega, HRR.out, Below.refl _ _⟩
        case round =>
          obtain ⟨i, v, hi, rfl, rfl, hv0, hv2, hr, hb⟩ := hrel
          have HY := Lib.hid hb
          by_cases hlt : i < k
          · obtain ⟨y, hy, a0, a1, a2, a3, a5, c0, c1, c2, c3, c4, c5⟩ := HCL.out i hlt wr (HB.out.trans (hb.mono HB.out.size))
            rw [show k - i = (k - (i + 1)) + 1 from by omega] at hr
            unfold leftK at hr
            rw [hy] at hr
            have HM := Lib.hid hr
            obtain ⟨m, hm⟩ : ∃ m, min (max y 0) v = m := ⟨_, rfl⟩
            rw [hm] at HM
            have hm0 : 0 ≤ m ∧ m ≤ v := by omega
            have t1 : IntKind.i64.wrap (v - m) = v - m := IntWalk.i64_in _ (by omega)
            have i0 : (0 : Int) ≤ (i : Int) := by omega
            have i1 : (i : Int) < (k : Int) := by omega
            have HMM := Lib.hid hm0
            clear hr hy hb hm0
            go_wp2_with fail
            exact ⟨⟨i + 1, v - m, by omega, by go_num, rfl, by have := HMM.out; omega, by have := HMM.out; omega, HM.out, HY.out.alloc HY.out.size _⟩, by simp [RowKit.intOf]; omega⟩
          · obtain rfl : i = k := by omega
            rw [Nat.sub_self] at hr
            have e : v = R := hr
            subst e
            clear hr hb
            go_wp2_with fail
            go_ret
            exact ⟨rfl, HB.out.trans (HY.out.mono HB.out.size)⟩
    · have d1 : (x.d == (1 : Int)) = false := beq_eq_false_iff_ne.2 hd
      rw [if_neg hd] at hv0
      subst hv0
      clear hd hrg hnil
      by_cases hk0 : k = 0
      · subst hk0
        have e : (2147483647 : Int) = R := HRR.out
        subst e
        clear HCL HSP
        rcases Nat.lt_or_ge f c with g2 | g2
        · have g1 : (f : Int) < (c : Int) := by omega
          have g3 : ¬ c = f := by omega
          go_enter Try.func19, Try.ntmps19
          go_wp2_with fail
          go_loopw [3, 23] (fun s3 s23 wx => s3 = .int .i64 2147483647 ∧ s23 = .int .i64 0 ∧ wx = w.alloc (.cells #[.int .i64 f, .int .i64 x.t, .int .i64 s, .int .i64 x.h, .int .i64 x.d, .slice (some ⟨b, off, sp⟩) n c] 40)) (fun _ _ _ => 0)
          case atStart => exact ⟨rfl, rfl, rfl⟩
          case round =>
            obtain ⟨rfl, rfl, rfl⟩ := hrel
            go_wp2_with fail
            go_ret
            exact ⟨rfl, HB.out⟩
        · have g3 : f = c := by omega
          subst g3
          go_enter Try.func19, Try.ntmps19
          go_wp2_with fail
          go_loopw [3, 23] (fun s3 s23 wx => s3 = .int .i64 2147483647 ∧ s23 = .int .i64 0 ∧ wx = w.alloc (.cells #[.int .i64 f, .int .i64 x.t, .int .i64 s, .int .i64 x.h, .int .i64 x.d, .slice (some ⟨b, off, sp⟩) n f] 40)) (fun _ _ _ => 0)
          case atStart => exact ⟨rfl, rfl, rfl⟩
          case round =>
            obtain ⟨rfl, rfl, rfl⟩ := hrel
            go_wp2_with fail
            go_ret
            exact ⟨rfl, HB.out⟩
      · obtain rfl : sp = none := HSP.out (by omega)
        have g1 : (f : Int) < (c : Int) := by omega
        have g2 : f < c := by omega
        have g3 : ¬ c = f := by omega
        clear hk0 HSP
        go_enter Try.func19, Try.ntmps19
        go_wp2_with fail
        generalize w.alloc (.cells #[.int .i64 f, .int .i64 x.t, .int .i64 s, .int .i64 x.h, .int .i64 x.d, .slice (some ⟨b, off, none⟩) n c] 40) = V0 at *
        go_loopw [3, 23] (fun s3 s23 wx => ∃ (i : Nat) (v : Int), i ≤ k ∧ s23 = .int .i64 i ∧ s3 = .int .i64 v ∧ 0 ≤ v ∧ v ≤ 2147483647 ∧ leftK (Wd l) (k - i) (f + i) v = R ∧ Below V0.heap.size V0 wx) (fun _ s23 _ => k - (RowKit.intOf s23).toNat)
        case atStart => exact ⟨0, _, Nat.zero_le _, rfl, rfl, by omega, by omega, HRR.out, Below.refl _ _⟩
        case round =>
          obtain ⟨i, v, hi, rfl, rfl, hv0, hv2, hr, hb⟩ := hrel
          have HY := Lib.hid hb
          by_cases hlt : i < k
          · obtain ⟨y, hy, a0, a1, a2, a3, a5, c0, c1, c2, c3, c4, c5⟩ := HCL.out i hlt wr (HB.out.trans (hb.mono HB.out.size))
            rw [show k - i = (k - (i + 1)) + 1 from by omega] at hr
            unfold leftK at hr
            rw [hy] at hr
            have HM := Lib.hid hr
            obtain ⟨m, hm⟩ : ∃ m, min (max y 0) v = m := ⟨_, rfl⟩
            rw [hm] at HM
            have hm0 : 0 ≤ m ∧ m ≤ v := by omega
            have t1 : IntKind.i64.wrap (v - m) = v - m := IntWalk.i64_in _ (by omega)
            have i0 : (0 : Int) ≤ (i : Int) := by omega
            have i1 : (i : Int) < (k : Int) := by omega
            have HMM := Lib.hid hm0
            clear hr hy hb hm0
            go_wp2_with fail
            exact ⟨⟨i + 1, v - m, by omega, by go_num, rfl, by have := HMM.out; omega, by have := HMM.out; omega, HM.out, HY.out.alloc HY.out.size _⟩, by simp [RowKit.intOf]; omega⟩
          · obtain rfl : i = k := by omega
            rw [Nat.sub_self] at hr
            have e : v = R := hr
            subst e
            clear hr hb
            go_wp2_with fail
            go_ret
            exact ⟨rfl, HB.out.trans (HY.out.mono HB.out.size)⟩

set_option maxHeartbeats 2000000 in
set_option maxRecDepth 100000 in
theorem pwide_any (A : Option Addr) (l : List C6) (n c : Nat) (x : L5) (w : World) (hR : CuAt w A l) (hl : l.length = n) (hnil : A = none → c = 0) (hc : n ≤ c) (hn : n ≤ 1099511627776) :
    Calls Try.prog 9 #[.slice A n c, lnV x] w fun e w' => e = .returned (.int .i64 (if mayB n x = true then wideP l x else 0)) ∧ Below w.heap.size w w' := by
  have HL := Lib.hid (fun W => look_any A n c x W)
  have HM := Lib.hid (fun W => may_any A n c x W hn)
  have HW := Lib.hid (fun (hm : mayB n x = true) W (h : Below w.heap.size w W) => lwide_any A l n c x W (hR.below h) hl hnil hc hn hm)
  have HB := Lib.hid ((Below.refl w.heap.size w).alloc (Nat.le_refl _) (.cells #[.int .i64 x.f, .int .i64 x.t, .int .i64 x.s, .int .i64 x.h, .int .i64 x.d] 24))
  clear hR hl hnil hc hn
  cases hm : mayB n x with
  | true =>
    have HW1 := Lib.hid (HW.out hm)
    rw [hm] at HM
    rw [if_pos rfl]
    generalize wideP l x = z at *
    clear hm HW
    unfold lkV lnV at *
    go_enter Try.func9, Try.ntmps9
    go_wp2_with fail
    refine (HL.out _).mono ?_
    rintro e w1 ⟨rfl, hb1⟩
    have HB1 := Lib.hid (HB.out.trans (hb1.mono HB.out.size))
    have HB3 := Lib.hid (HB1.out.alloc HB1.out.size (.cells #[.int .i64 x.f, .int .i64 x.t, .int .i64 x.s, .int .i64 x.h, .int .i64 x.d, .slice A n c] 40))
    have hh := heap_alloc_new w1 (.cells #[.int .i64 x.f, .int .i64 x.t, .int .i64 x.s, .int .i64 x.h, .int .i64 x.d, .slice A n c] 40)
    have HH := Lib.hid hh
    have hsz : w1.heap.size < (w1.alloc (.cells #[.int .i64 x.f, .int .i64 x.t, .int .i64 x.s, .int .i64 x.h, .int .i64 x.d, .slice A n c] 40)).heap.size := by rw [World.size_alloc]; omega
    have HSZ := Lib.hid hsz
    clear hb1 hh hsz
    go_wp2_with fail
    refine (HM.out _).mono ?_
    rintro e w2 ⟨rfl, hb2⟩
    obtain ⟨⟨q0, q1, q2, q3, q4, q5⟩, -⟩ := six_cells ((hb2.block _ HSZ.out).trans HH.out)
    have HB2 := Lib.hid (HB3.out.trans (hb2.mono HB3.out.size))
    clear hb2
    go_wp2_with fail
    refine (HW1.out _ HB2.out).mono ?_
    rintro e w3 ⟨rfl, hb3⟩
    go_wp2_with fail
    go_ret
    exact ⟨rfl, HB2.out.trans (hb3.mono HB2.out.size)⟩
  | false =>
    rw [hm] at HM
    rw [if_neg (by decide)]
    clear hm HW
    unfold lkV lnV at *
    go_enter Try.func9, Try.ntmps9
    go_wp2_with fail
    refine (HL.out _).mono ?_
    rintro e w1 ⟨rfl, hb1⟩
    have HB1 := Lib.hid (HB.out.trans (hb1.mono HB.out.size))
    have HB3 := Lib.hid (HB1.out.alloc HB1.out.size (.cells #[.int .i64 x.f, .int .i64 x.t, .int .i64 x.s, .int .i64 x.h, .int .i64 x.d, .slice A n c] 40))
    clear hb1
    go_wp2_with fail
    refine (HM.out _).mono ?_
    rintro e w2 ⟨rfl, hb2⟩
    go_wp2_with fail
    go_ret
    exact ⟨rfl, HB3.out.trans (hb2.mono HB3.out.size)⟩
end Go.Proofs.Ytikjchebffohdaa.Ck
