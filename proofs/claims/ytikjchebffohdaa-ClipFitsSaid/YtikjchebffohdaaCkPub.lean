/-
  Proved here: what clip.May, Clip and Cut return: whether a line may be; the line that is clipped, that is cut, or that it may not be. They leave what was in memory.
-/
import Derived.Test.YtikjchebffohdaaCkCut
import Derived.Shelf.Abstract
set_option linter.unusedVariables false
namespace Go.Proofs.Ytikjchebffohdaa.Ck
open Go Go.RowKit Go.Lib Go.Proofs.Ytikjchebffohdaa.Ku Go.Proofs.Ytikjchebffohdaa.Wr Go.Proofs.Ytikjchebffohdaa.Arr

def zeroL : L5 := ⟨0, 0, 0, 0, 0⟩
/-- The two results of a call that makes a line. -/
def madeV (b : Bool) (y : L5) : Value := .tuple #[lnV (if b = true then y else zeroL), .int .i64 (if b = true then 0 else 1)]

set_option maxHeartbeats 1000000 in
set_option maxRecDepth 100000 in
theorem pmay_any (A : Option Addr) (n c : Nat) (x : L5) (w : World) (hn : n ≤ 1099511627776) :
    Calls Try.prog 5 #[.slice A n c, lnV x] w fun e w' => e = .returned (.bool (mayB n x)) ∧ Below w.heap.size w w' := by
  have HL := Lib.hid (fun W => look_any A n c x W)
  have HM := Lib.hid (fun W => may_any A n c x W hn)
  have HB := Lib.hid ((Below.refl w.heap.size w).alloc (Nat.le_refl _) (.cells #[.int .i64 x.f, .int .i64 x.t, .int .i64 x.s, .int .i64 x.h, .int .i64 x.d] 24))
  generalize mayB n x = b at *
  unfold lkV lnV at *
  go_enter Try.func5, Try.ntmps5
  go_wp2_with fail
  refine (HL.out _).mono ?_
  rintro e w1 ⟨rfl, hb1⟩
  have HB1 := Lib.hid (HB.out.trans (hb1.mono HB.out.size))
  clear hb1
  go_wp2_with fail
  refine (HM.out _).mono ?_
  rintro e w2 ⟨rfl, hb2⟩
  have HB2 := Lib.hid (HB1.out.trans (hb2.mono HB1.out.size))
  clear hb2
  go_wp2_with fail
  go_ret
  exact ⟨rfl, HB2.out⟩

set_option maxHeartbeats 2000000 in
set_option maxRecDepth 100000 in
theorem checked_of (g : FuncId) (hg : ∀ args w, (callFunc g args).run Try.prog w = .ok (.enter g args) w) (A : Option Addr) (n c : Nat) (x y : L5) (u : Int) (w : World) (hn : n ≤ 1099511627776)
    (call : mayB n x = true → ∀ W, Below w.heap.size w W → Calls Try.prog g #[lkV A n c x, .int .i64 u] W fun e W' => e = .returned (lnV y) ∧ Below W.heap.size W W') :
    Calls Try.prog 16 #[lkV A n c x, .func (.func g) #[lkV A n c x] #[], .int .i64 u] w fun e w' => e = .returned (madeV (mayB n x) y) ∧ Below w.heap.size w w' := by
  have HM := Lib.hid (fun W => may_any A n c x W hn)
  have HI := Lib.hid infoLs
  have CL := Lib.hid call
  obtain ⟨e0, e1, hb0, hs0⟩ := two_newW w (.cells #[.int .i64 x.f, .int .i64 x.t, .int .i64 x.s, .int .i64 x.h, .int .i64 x.d, .slice A n c] 40) (.cells #[.int .i64 0, .int .i64 0, .int .i64 0, .int .i64 0, .int .i64 0] 24)
  have HS := Lib.hid (And.intro e0 (And.intro e1 (And.intro hb0 hs0)))
  unfold madeV
  clear call e0 e1 hb0 hs0
  cases hm : mayB n x with
  | true =>
    rw [hm] at HM
    have CL1 := Lib.hid (CL.out hm)
    rw [if_pos rfl, if_pos rfl]
    clear CL hm
    unfold lkV lnV at *
    go_enter Try.func16, Try.ntmps16
    go_wp2_with fail
    refine (HM.out _).mono ?_
    rintro e w1 ⟨rfl, hb1⟩
    have HB1 := Lib.hid (HS.out.2.2.1.trans (hb1.mono HS.out.2.2.1.size))
    have HBU := Lib.hid hb1
    clear hb1 HM
    go_wp2_with fail
    refine (CL1.out _ HB1.out).mono ?_
    rintro e w2 ⟨rfl, hb2⟩
    have hsz := HS.out.2.2.2
    have e1 := ((HBU.out.trans (hb2.mono HBU.out.size)).block (w.heap.size + 1) (by omega)).trans HS.out.2.1
    have HB2 := Lib.hid (HB1.out.trans (hb2.mono HB1.out.size))
    obtain ⟨⟨z0, z1, z2, z3, z4⟩, y0, y1, y2, y3, y4⟩ := cell5 e1
    have H1 := Lib.hid e1
    clear hb2 e1 hsz HS CL1 HBU HB1
    go_wp2_with fail
    refine bodyPost_ret (results_row_tmp Try.results16 _ _ (w.heap.size + 1) 24 _ (0, 0) _ rfl (five_set _ _ _ _ _ H1.out) Try.underlying24 rfl HI.out) rfl ?_
    exact ⟨rfl, below_five HB2.out (by omega) _ _ _ _ _⟩
  | false =>
    rw [hm] at HM
    rw [if_neg (by decide), if_neg (by decide)]
    clear CL hm
    unfold lkV lnV zeroL at *
    go_enter Try.func16, Try.ntmps16
    go_wp2_with fail
    refine (HM.out _).mono ?_
    rintro e w1 ⟨rfl, hb1⟩
    have hsz := HS.out.2.2.2
    have e1 := (hb1.block (w.heap.size + 1) (by omega)).trans HS.out.2.1
    have HB2 := Lib.hid (HS.out.2.2.1.trans (hb1.mono HS.out.2.2.1.size))
    obtain ⟨⟨z0, z1, z2, z3, z4⟩, y0, y1, y2, y3, y4⟩ := cell5 e1
    have H1 := Lib.hid e1
    clear hb1 e1 hsz HS HM
    go_wp2_with fail
    refine bodyPost_ret (results_row_tmp Try.results16 _ _ (w.heap.size + 1) 24 _ (0, 0) _ rfl (five_set _ _ _ _ _ H1.out) Try.underlying24 rfl HI.out) rfl ?_
    exact ⟨rfl, below_five HB2.out (by omega) _ _ _ _ _⟩

theorem enters_clip : ∀ args w, (callFunc 17 args).run Try.prog w = .ok (.enter 17 args) w := enters_of Try.func17 (by kernel_rfl) rfl
theorem enters_cut : ∀ args w, (callFunc 18 args).run Try.prog w = .ok (.enter 18 args) w := enters_of Try.func18 (by kernel_rfl) rfl

set_option maxHeartbeats 2000000 in
set_option maxRecDepth 100000 in
theorem pclip_any (A : Option Addr) (l : List C6) (n c : Nat) (x : L5) (u : Int) (w : World) (hR : CuAt w A l) (hl : l.length = n) (hnil : A = none → c = 0) (hc : n ≤ c) (hn : n ≤ 1099511627776) (hu : u ≤ 9223372036854775807) :
    Calls Try.prog 7 #[.slice A n c, lnV x, .int .i64 u] w fun e w' => e = .returned (madeV (mayB n x) (clipP l x u)) ∧ Below w.heap.size w w' := by
  have HL := Lib.hid (fun W => look_any A n c x W)
  have HC := Lib.hid (fun W (h : Below w.heap.size w W) => checked_of _ enters_clip A n c x (clipP l x u) u W hn (fun hm V hV => lclip_any A l n c x u V (hR.below (h.trans (hV.mono h.size))) hl hnil hc hn hu hm))
  have HI := Lib.hid infoLs
  obtain ⟨e0, e1, hb0, hs0⟩ := two_newW w (.cells #[.int .i64 x.f, .int .i64 x.t, .int .i64 x.s, .int .i64 x.h, .int .i64 x.d] 24) (.cells #[.int .i64 0, .int .i64 0, .int .i64 0, .int .i64 0, .int .i64 0] 24)
  have HS := Lib.hid (And.intro e0 (And.intro e1 (And.intro hb0 hs0)))
  clear hR hl hnil hc hn hu e0 e1 hb0 hs0
  unfold madeV at *
  generalize (if mayB n x = true then clipP l x u else zeroL) = y at *
  generalize (if mayB n x = true then (0 : Int) else 1) = er at *
  unfold lkV lnV at *
  go_enter Try.func7, Try.ntmps7
  go_wp2_with fail
  refine (HL.out _).mono ?_
  rintro e w1 ⟨rfl, hb1⟩
  have HB1 := Lib.hid (HS.out.2.2.1.trans (hb1.mono HS.out.2.2.1.size))
  have HBU := Lib.hid hb1
  have HB3 := Lib.hid (HB1.out.alloc HB1.out.size (.cells #[.int .i64 x.f, .int .i64 x.t, .int .i64 x.s, .int .i64 x.h, .int .i64 x.d, .slice A n c] 40))
  have HB4 := Lib.hid ((Below.refl w1.heap.size w1).alloc (Nat.le_refl _) (.cells #[.int .i64 x.f, .int .i64 x.t, .int .i64 x.s, .int .i64 x.h, .int .i64 x.d, .slice A n c] 40))
  clear hb1 HL
  go_wp2_with fail
  refine (HC.out _ HB3.out).mono ?_
  rintro e w2 ⟨rfl, hb2⟩
  have hsz := HS.out.2.2.2
  have e1 := ((HBU.out.trans ((HB4.out.trans (hb2.mono HB4.out.size)).mono HBU.out.size)).block (w.heap.size + 1) (by omega)).trans HS.out.2.1
  have HB2 := Lib.hid (HB3.out.trans (hb2.mono HB3.out.size))
  obtain ⟨⟨z0, z1, z2, z3, z4⟩, y0, y1, y2, y3, y4⟩ := cell5 e1
  have H1 := Lib.hid e1
  clear hb2 e1 hsz HS HC HBU HB1 HB3 HB4
  go_wp2_with fail
  refine bodyPost_ret (results_row_tmp Try.results7 _ _ (w.heap.size + 1) 24 _ (0, 0) _ rfl (five_set _ _ _ _ _ H1.out) Try.underlying24 rfl HI.out) rfl ?_
  exact ⟨rfl, below_five HB2.out (by omega) _ _ _ _ _⟩

set_option maxHeartbeats 2000000 in
set_option maxRecDepth 100000 in
theorem pcut_any (A : Option Addr) (l : List C6) (n c : Nat) (x : L5) (u : Int) (w : World) (hR : CuAt w A l) (hl : l.length = n) (hnil : A = none → c = 0) (hc : n ≤ c) (hn : n ≤ 1099511627776) (hu : u ≤ 9223372036854775807) :
    Calls Try.prog 8 #[.slice A n c, lnV x, .int .i64 u] w fun e w' => e = .returned (madeV (mayB n x) (cutP l x u)) ∧ Below w.heap.size w w' := by
  have HL := Lib.hid (fun W => look_any A n c x W)
  have HC := Lib.hid (fun W (h : Below w.heap.size w W) => checked_of _ enters_cut A n c x (cutP l x u) u W hn (fun hm V hV => lcut_any A l n c x u V (hR.below (h.trans (hV.mono h.size))) hl hnil hc hn hu hm))
  have HI := Lib.hid infoLs
  obtain ⟨e0, e1, hb0, hs0⟩ := two_newW w (.cells #[.int .i64 x.f, .int .i64 x.t, .int .i64 x.s, .int .i64 x.h, .int .i64 x.d] 24) (.cells #[.int .i64 0, .int .i64 0, .int .i64 0, .int .i64 0, .int .i64 0] 24)
  have HS := Lib.hid (And.intro e0 (And.intro e1 (And.intro hb0 hs0)))
  clear hR hl hnil hc hn hu e0 e1 hb0 hs0
  unfold madeV at *
  generalize (if mayB n x = true then cutP l x u else zeroL) = y at *
  generalize (if mayB n x = true then (0 : Int) else 1) = er at *
  unfold lkV lnV at *
  go_enter Try.func8, Try.ntmps8
  go_wp2_with fail
  refine (HL.out _).mono ?_
  rintro e w1 ⟨rfl, hb1⟩
  have HB1 := Lib.hid (HS.out.2.2.1.trans (hb1.mono HS.out.2.2.1.size))
  have HBU := Lib.hid hb1
  have HB3 := Lib.hid (HB1.out.alloc HB1.out.size (.cells #[.int .i64 x.f, .int .i64 x.t, .int .i64 x.s, .int .i64 x.h, .int .i64 x.d, .slice A n c] 40))
  have HB4 := Lib.hid ((Below.refl w1.heap.size w1).alloc (Nat.le_refl _) (.cells #[.int .i64 x.f, .int .i64 x.t, .int .i64 x.s, .int .i64 x.h, .int .i64 x.d, .slice A n c] 40))
  clear hb1 HL
  go_wp2_with fail
  refine (HC.out _ HB3.out).mono ?_
  rintro e w2 ⟨rfl, hb2⟩
  have hsz := HS.out.2.2.2
  have e1 := ((HBU.out.trans ((HB4.out.trans (hb2.mono HB4.out.size)).mono HBU.out.size)).block (w.heap.size + 1) (by omega)).trans HS.out.2.1
  have HB2 := Lib.hid (HB3.out.trans (hb2.mono HB3.out.size))
  obtain ⟨⟨z0, z1, z2, z3, z4⟩, y0, y1, y2, y3, y4⟩ := cell5 e1
  have H1 := Lib.hid e1
  clear hb2 e1 hsz HS HC HBU HB1 HB3 HB4
  go_wp2_with fail
  refine bodyPost_ret (results_row_tmp Try.results8 _ _ (w.heap.size + 1) 24 _ (0, 0) _ rfl (five_set _ _ _ _ _ H1.out) Try.underlying24 rfl HI.out) rfl ?_
  exact ⟨rfl, below_five HB2.out (by omega) _ _ _ _ _⟩
end Go.Proofs.Ytikjchebffohdaa.Ck
