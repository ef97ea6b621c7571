/-
  Proved here: the chapter's examples (parquetrylaw07.awake) hold, where MaxLen stands in memory as it is laid; what parquetrylaw07.parses, spoilt, is return; they leave what was in memory.
-/
import Derived.Test.YtdhjadjgkdgomaaDoorCvParse
import Derived.Test.YtdhjadjgkdgomaaDoorCvSame
set_option linter.unusedVariables false
namespace Go.Proofs.YtdhjadjgkdgomaaDoor.Cv
open Go Go.RowKit Go.Lib Go.Proofs.YtdhjadjgkdgomaaDoor.Cl

set_option maxHeartbeats 1000000 in
set_option maxRecDepth 100000 in
theorem parses_any (s : ByteArray) (w : World) (hH : Held w) :
    Calls Tryd.prog 11 #[.string s] w fun e w' => e = .returned (.bool (erP s == 0)) ∧ Below w.heap.size w w' := by
  have HP := Lib.hid (parse_any s w hH)
  obtain ⟨z, hz⟩ : ∃ z, erP s = z := ⟨_, rfl⟩
  have HZ := Lib.hid hz
  rw [hz]
  clear hz
  go_enter Tryd.func11, Tryd.ntmps11
  go_wp2_with fail
  refine HP.out.mono ?_
  rintro e w' ⟨A, c, rfl, hR, hb⟩
  rw [HZ.out]
  generalize (recsP s).length = n
  generalize atP s = m
  go_wp2
  go_ret
  exact ⟨rfl, hb⟩

set_option maxHeartbeats 1000000 in
set_option maxRecDepth 100000 in
theorem spoilt_any (s : ByteArray) (k : Int) (w : World) (hH : Held w) (h1 : erP s = 2) (h2 : atP s = k) (h3 : (recsP s).length = 0) :
    Calls Tryd.prog 12 #[.string s, .int .i64 k] w fun e w' => e = .returned (.bool true) ∧ Below w.heap.size w w' := by
  have HP := Lib.hid (parse_any s w hH)
  have HS := Lib.hid (And.intro h1 (And.intro h2 h3))
  clear h1 h2 h3
  go_enter Tryd.func12, Tryd.ntmps12
  go_wp2_with fail
  refine HP.out.mono ?_
  rintro e w' ⟨A, c, rfl, hR, hb⟩
  rw [HS.out.1, HS.out.2.1, HS.out.2.2]
  go_wp2
  go_ret
  exact ⟨rfl, hb⟩

set_option maxHeartbeats 1000000 in
set_option maxRecDepth 100000 in
theorem is_any (s : ByteArray) (A : Option Addr) (R : List (List Bs)) (n c : Nat) (hn : n = R.length) (w : World) (hH : Held w) (hA : RecsAt w A R) (h1 : erP s = 0) (h2 : atP s = 0) (h3 : recsP s = R) (hl : R.length ≤ 1000000) (hm : ∀ r ∈ R, r.length ≤ 1000000) :
    Calls Tryd.prog 13 #[.string s, .slice A n c] w fun e w' => e = .returned (.bool true) ∧ Below w.heap.size w w' := by
  subst hn
  have HP := Lib.hid (parse_any s w hH)
  have HS := Lib.hid (And.intro h1 (And.intro h2 h3))
  have HA := Lib.hid hA
  have HM := Lib.hid hm
  clear h1 h2 h3 hA hm
  go_enter Tryd.func13, Tryd.ntmps13
  go_wp2_with fail
  refine HP.out.mono ?_
  rintro e w1 ⟨A1, c1, rfl, hR, hb⟩
  rw [HS.out.2.2] at hR
  rw [HS.out.1, HS.out.2.1, HS.out.2.2]
  have HSA := Lib.hid (same_recs A1 A R c1 c w1 hR (HA.out.below hb) hl HM.out)
  clear hR
  go_wp2_with fail
  refine HSA.out.mono ?_
  rintro e w2 ⟨rfl, hb2⟩
  go_wp2
  go_ret
  exact ⟨rfl, hb.trans (hb2.mono hb.size)⟩

theorem vAt_new (w : World) (vals : List Value) (t : TypeId) : VAt (w.alloc (.cells vals.toArray t)) (some ⟨w.heap.size, 0, none⟩) vals := by
  refine .inr ⟨_, 0, rfl, by simp, fun j u hj => ?_⟩
  rw [cell_of_row _ w.heap.size (0 + j) vals.toArray t _ (heap_alloc_new w _), Nat.zero_add]
  simpa using hj
theorem recV_new (w : World) (r : List Bs) (t : TypeId) (n c : Nat) (hn : n = r.length) : RecV (w.alloc (.cells (rowC r).toArray t)) (.slice (some ⟨w.heap.size, 0, none⟩) n c) r :=
  ⟨_, c, by rw [hn], vAt_new w (rowC r) t⟩
theorem recs_new1 (w : World) (x : Value) (r : List Bs) (t : TypeId) (hx : RecV w x r) : RecsAt (w.alloc (.cells #[x] t)) (some ⟨w.heap.size, 0, none⟩) [r] := by
  refine ⟨[x], rfl, vAt_new w [x] t, fun i hi y hy => ?_⟩
  have hb : Below w.heap.size w (w.alloc (.cells #[x] t)) := (Below.refl _ _).alloc (Nat.le_refl _) _
  match i, hi with
  | 0, _ => simp at hy; subst hy; exact hx.below hb
theorem recs_new2 (w : World) (x y : Value) (r q : List Bs) (t : TypeId) (hx : RecV w x r) (hy : RecV w y q) : RecsAt (w.alloc (.cells #[x, y] t)) (some ⟨w.heap.size, 0, none⟩) [r, q] := by
  refine ⟨[x, y], rfl, vAt_new w [x, y] t, fun i hi v hv => ?_⟩
  have hb : Below w.heap.size w (w.alloc (.cells #[x, y] t)) := (Below.refl _ _).alloc (Nat.le_refl _) _
  match i, hi with
  | 0, _ => simp at hv; subst hv; exact hx.below hb
  | 1, _ => simp at hv; subst hv; exact hy.below hb
theorem below_one (w : World) (o : Obj) : Below w.heap.size w (w.alloc o) := (Below.refl _ _).alloc (Nat.le_refl _) _

def t1 : ByteArray := ⟨#[97, 44, 98, 13, 10, 99]⟩
def r1 : List (List Bs) := [[[97], [98]], [[99]]]
def t2 : ByteArray := ⟨#[34, 120, 32, 34, 34, 121, 34, 34, 44, 13, 10, 122, 34, 44]⟩
def r2 : List (List Bs) := [[[120, 32, 34, 121, 34, 44, 13, 10, 122], []]]
theorem p1 : erP t1 = 0 ∧ atP t1 = 0 ∧ recsP t1 = r1 := by decide +kernel
theorem p2 : erP t2 = 0 ∧ atP t2 = 0 ∧ recsP t2 = r2 := by decide +kernel
theorem p3 : erP ⟨#[]⟩ = 0 ∧ atP ⟨#[]⟩ = 0 ∧ recsP ⟨#[]⟩ = [[[]]] := by decide +kernel
theorem p4 : erP ⟨#[13, 10]⟩ = 0 ∧ atP ⟨#[13, 10]⟩ = 0 ∧ recsP ⟨#[13, 10]⟩ = [[[]]] := by decide +kernel
theorem p5 : erP ⟨#[13, 10, 13, 10]⟩ = 0 ∧ atP ⟨#[13, 10, 13, 10]⟩ = 0 ∧ recsP ⟨#[13, 10, 13, 10]⟩ = [[[]], [[]]] := by decide +kernel
theorem s1 : erP ⟨#[97, 34, 98]⟩ = 2 ∧ atP ⟨#[97, 34, 98]⟩ = 1 ∧ (recsP ⟨#[97, 34, 98]⟩).length = 0 := by decide +kernel
theorem s2 : erP ⟨#[34, 97, 34, 98]⟩ = 2 ∧ atP ⟨#[34, 97, 34, 98]⟩ = 3 ∧ (recsP ⟨#[34, 97, 34, 98]⟩).length = 0 := by decide +kernel
theorem s3 : erP ⟨#[34, 97]⟩ = 2 ∧ atP ⟨#[34, 97]⟩ = 2 ∧ (recsP ⟨#[34, 97]⟩).length = 0 := by decide +kernel
theorem s4 : erP ⟨#[97, 13]⟩ = 2 ∧ atP ⟨#[97, 13]⟩ = 2 ∧ (recsP ⟨#[97, 13]⟩).length = 0 := by decide +kernel
theorem s5 : erP ⟨#[97, 10, 98]⟩ = 2 ∧ atP ⟨#[97, 10, 98]⟩ = 1 ∧ (recsP ⟨#[97, 10, 98]⟩).length = 0 := by decide +kernel
theorem s6 : erP ⟨#[97, 13, 98]⟩ = 2 ∧ atP ⟨#[97, 13, 98]⟩ = 2 ∧ (recsP ⟨#[97, 13, 98]⟩).length = 0 := by decide +kernel

theorem size_alloc (w : World) (o : Obj) : (w.alloc o).heap.size = w.heap.size + 1 := by simp
theorem held_alloc {w : World} (h : Held w) (o : Obj) : Held (w.alloc o) := h.below h.1 (below_one w o |>.mono (Nat.le_refl _))
theorem i1 (W : World) (n : Nat) (hn : W.heap.size = n) (hH : Held W) :
    Calls Tryd.prog 13 #[.string ⟨#[97, 44, 98, 13, 10, 99]⟩, .slice (some ⟨n + 1 + 1, 0, none⟩) 2 2] (((W.alloc (.cells #[.string ⟨#[97]⟩, .string ⟨#[98]⟩] 9)).alloc (.cells #[.string ⟨#[99]⟩] 9)).alloc (.cells #[.slice (some ⟨n, 0, none⟩) 2 2, .slice (some ⟨n + 1, 0, none⟩) 1 1] 31))
      fun e w' => e = .returned (.bool true) ∧ Below n W w' := by
  subst hn
  have h1 : RecV (W.alloc (.cells #[.string ⟨#[97]⟩, .string ⟨#[98]⟩] 9)) (.slice (some ⟨W.heap.size, 0, none⟩) 2 2) [[97], [98]] := recV_new W [[97], [98]] _ 2 2 rfl
  have h2 := recV_new (W.alloc (.cells #[.string ⟨#[97]⟩, .string ⟨#[98]⟩] 9)) [[99]] 9 1 1 rfl
  rw [size_alloc] at h2
  have h3 := recs_new2 _ _ _ _ _ 31 (h1.below (below_one _ (.cells (rowC [[99]]).toArray 9))) h2
  rw [size_alloc, size_alloc] at h3
  have hB : Below W.heap.size W (((W.alloc (.cells #[.string ⟨#[97]⟩, .string ⟨#[98]⟩] 9)).alloc (.cells #[.string ⟨#[99]⟩] 9)).alloc (.cells #[.slice (some ⟨W.heap.size, 0, none⟩) 2 2, .slice (some ⟨W.heap.size + 1, 0, none⟩) 1 1] 31)) :=
    (((Below.refl _ _).alloc (Nat.le_refl _) _).alloc (by simp) _).alloc (by simp; omega) _
  refine (is_any t1 _ r1 2 2 rfl _ (hH.below hH.1 hB) h3 p1.1 p1.2.1 p1.2.2 (by decide) (by decide)).mono ?_
  rintro e w' ⟨rfl, hb⟩
  exact ⟨rfl, hB.trans (hb.mono hB.size)⟩
theorem i2 (W : World) (hH : Held W) :
    Calls Tryd.prog 13 #[.string ⟨#[34, 120, 32, 34, 34, 121, 34, 34, 44, 13, 10, 122, 34, 44]⟩, .slice (some ⟨W.heap.size + 1, 0, none⟩) 1 1] ((W.alloc (.cells #[.string ⟨#[120, 32, 34, 121, 34, 44, 13, 10, 122]⟩, .string ⟨#[]⟩] 9)).alloc (.cells #[.slice (some ⟨W.heap.size, 0, none⟩) 2 2] 31))
      fun e w' => e = .returned (.bool true) ∧ Below W.heap.size W w' := by
  have h1 : RecV (W.alloc (.cells #[.string ⟨#[120, 32, 34, 121, 34, 44, 13, 10, 122]⟩, .string ⟨#[]⟩] 9)) (.slice (some ⟨W.heap.size, 0, none⟩) 2 2) [[120, 32, 34, 121, 34, 44, 13, 10, 122], []] := recV_new W [[120, 32, 34, 121, 34, 44, 13, 10, 122], []] _ 2 2 rfl
  have h3 := recs_new1 _ _ _ 31 h1
  rw [size_alloc] at h3
  have hB : Below W.heap.size W ((W.alloc (.cells #[.string ⟨#[120, 32, 34, 121, 34, 44, 13, 10, 122]⟩, .string ⟨#[]⟩] 9)).alloc (.cells #[.slice (some ⟨W.heap.size, 0, none⟩) 2 2] 31)) :=
    ((Below.refl _ _).alloc (Nat.le_refl _) _).alloc (by simp) _
  refine (is_any t2 _ r2 1 1 rfl _ (hH.below hH.1 hB) h3 p2.1 p2.2.1 p2.2.2 (by decide) (by decide)).mono ?_
  rintro e w' ⟨rfl, hb⟩
  exact ⟨rfl, hB.trans (hb.mono hB.size)⟩
theorem i3 (s : ByteArray) (hp : erP s = 0 ∧ atP s = 0 ∧ recsP s = [[[]]]) (W : World) (hH : Held W) (x : Value) (hx : RecV W x [[]]) :
    Calls Tryd.prog 13 #[.string s, .slice (some ⟨W.heap.size, 0, none⟩) 1 1] (W.alloc (.cells #[x] 31)) fun e w' => e = .returned (.bool true) ∧ Below W.heap.size W w' := by
  have h3 := recs_new1 _ _ _ 31 hx
  have hB := below_one W (.cells #[x] 31)
  refine (is_any s _ _ 1 1 rfl _ (hH.below hH.1 hB) h3 hp.1 hp.2.1 hp.2.2 (by decide) (by decide)).mono ?_
  rintro e w' ⟨rfl, hb⟩
  exact ⟨rfl, hB.trans (hb.mono hB.size)⟩
theorem i5 (W : World) (hH : Held W) (x : Value) (hx : RecV W x [[]]) :
    Calls Tryd.prog 13 #[.string ⟨#[13, 10, 13, 10]⟩, .slice (some ⟨W.heap.size, 0, none⟩) 2 2] (W.alloc (.cells #[x, x] 31)) fun e w' => e = .returned (.bool true) ∧ Below W.heap.size W w' := by
  have h3 := recs_new2 _ _ _ _ _ 31 hx hx
  have hB := below_one W (.cells #[x, x] 31)
  refine (is_any _ _ _ 2 2 rfl _ (hH.below hH.1 hB) h3 p5.1 p5.2.1 p5.2.2 (by decide) (by decide)).mono ?_
  rintro e w' ⟨rfl, hb⟩
  exact ⟨rfl, hB.trans (hb.mono hB.size)⟩

set_option maxHeartbeats 2000000 in
set_option maxRecDepth 100000 in
theorem awake_any (w : World) (hH : Held w) :
    Calls Tryd.prog 6 #[] w fun e w' => e = .returned (.bool true) ∧ Below w.heap.size w w' := by
  have hw0 := below_one w (.cells #[.string ⟨#[]⟩] 9)
  have hN : RecV (w.alloc (.cells #[.string ⟨#[]⟩] 9)) (.slice (some ⟨w.heap.size, 0, none⟩) 1 1) [[]] := recV_new w [[]] 9 1 1 rfl
  have h0 := held_alloc hH (.cells #[.string ⟨#[]⟩] 9)
  have I1 := Lib.hid (i1 (w.alloc (.cells #[.string ⟨#[]⟩] 9)) (w.heap.size + 1) (size_alloc _ _) h0)
  have HN := Lib.hid hN
  have H0 := Lib.hid h0
  have HW0 := Lib.hid hw0
  have hsz := Lib.hid (size_alloc w (.cells #[.string ⟨#[]⟩] 9))
  clear hH hN h0 hw0
  go_enter Tryd.func6, Tryd.ntmps6
  go_wp2_with fail
  refine I1.out.mono ?_
  rintro e w1 ⟨rfl, hb1⟩
  rw [← hsz.out] at hb1
  have K1 := Lib.hid (H0.out.below H0.out.1 hb1)
  have N1 := Lib.hid (HN.out.below hb1)
  have B1 := Lib.hid (HW0.out.trans (hb1.mono HW0.out.size))
  clear hb1 I1 HN H0 HW0 hsz
  go_wp2_with fail
  refine (i2 w1 K1.out).mono ?_
  rintro e w2 ⟨rfl, hb2⟩
  have K2 := Lib.hid (K1.out.below K1.out.1 hb2)
  have N2 := Lib.hid (N1.out.below hb2)
  have B2 := Lib.hid (B1.out.trans (hb2.mono B1.out.size))
  clear hb2 K1 N1 B1
  go_wp2_with fail
  refine (i3 _ p3 w2 K2.out _ N2.out).mono ?_
  rintro e w3 ⟨rfl, hb3⟩
  have K3 := Lib.hid (K2.out.below K2.out.1 hb3)
  have N3 := Lib.hid (N2.out.below hb3)
  have B3 := Lib.hid (B2.out.trans (hb3.mono B2.out.size))
  clear hb3 K2 N2 B2
  go_wp2_with fail
  refine (i3 _ p4 w3 K3.out _ N3.out).mono ?_
  rintro e w4 ⟨rfl, hb4⟩
  have K4 := Lib.hid (K3.out.below K3.out.1 hb4)
  have N4 := Lib.hid (N3.out.below hb4)
  have B4 := Lib.hid (B3.out.trans (hb4.mono B3.out.size))
  clear hb4 K3 N3 B3
  go_wp2_with fail
  refine (i5 w4 K4.out _ N4.out).mono ?_
  rintro e w5 ⟨rfl, hb5⟩
  have K5 := Lib.hid (K4.out.below K4.out.1 hb5)
  have B5 := Lib.hid (B4.out.trans (hb5.mono B4.out.size))
  clear hb5 K4 N4 B4
  go_wp2_with fail
  refine (spoilt_any _ _ w5 K5.out s1.1 s1.2.1 s1.2.2).mono ?_
  rintro e w6 ⟨rfl, hb6⟩
  have K6 := Lib.hid (K5.out.below K5.out.1 hb6)
  have B6 := Lib.hid (B5.out.trans (hb6.mono B5.out.size))
  clear hb6 K5 B5
  go_wp2_with fail
  refine (spoilt_any _ _ w6 K6.out s2.1 s2.2.1 s2.2.2).mono ?_
  rintro e w7 ⟨rfl, hb7⟩
  have K7 := Lib.hid (K6.out.below K6.out.1 hb7)
  have B7 := Lib.hid (B6.out.trans (hb7.mono B6.out.size))
  clear hb7 K6 B6
  go_wp2_with fail
  refine (spoilt_any _ _ w7 K7.out s3.1 s3.2.1 s3.2.2).mono ?_
  rintro e w8 ⟨rfl, hb8⟩
  have K8 := Lib.hid (K7.out.below K7.out.1 hb8)
  have B8 := Lib.hid (B7.out.trans (hb8.mono B7.out.size))
  clear hb8 K7 B7
  go_wp2_with fail
  refine (spoilt_any _ _ w8 K8.out s4.1 s4.2.1 s4.2.2).mono ?_
  rintro e w9 ⟨rfl, hb9⟩
  have K9 := Lib.hid (K8.out.below K8.out.1 hb9)
  have B9 := Lib.hid (B8.out.trans (hb9.mono B8.out.size))
  clear hb9 K8 B8
  go_wp2_with fail
  refine (spoilt_any _ _ w9 K9.out s5.1 s5.2.1 s5.2.2).mono ?_
  rintro e w10 ⟨rfl, hb10⟩
  have K10 := Lib.hid (K9.out.below K9.out.1 hb10)
  have B10 := Lib.hid (B9.out.trans (hb10.mono B9.out.size))
  clear hb10 K9 B9
  go_wp2_with fail
  refine (spoilt_any _ _ w10 K10.out s6.1 s6.2.1 s6.2.2).mono ?_
  rintro e w11 ⟨rfl, hb11⟩
  have K11 := Lib.hid (K10.out.below K10.out.1 hb11)
  have B11 := Lib.hid (B10.out.trans (hb11.mono B10.out.size))
  clear hb11 K10 B10
  go_wp2_with fail
  go_ret
  exact ⟨rfl, B11.out⟩
end Go.Proofs.YtdhjadjgkdgomaaDoor.Cv
