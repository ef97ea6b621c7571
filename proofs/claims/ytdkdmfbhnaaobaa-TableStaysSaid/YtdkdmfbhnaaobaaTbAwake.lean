/-
  Proved here: the chapter's examples (parquetrylaw09.awake) hold; the call leaves what was in memory.
-/
import Derived.Test.YtdkdmfbhnaaobaaTbCheck
import Derived.Test.YtdkdmfbhnaaobaaTbTrim
import Derived.Test.YtdkdmfbhnaaobaaTbNew
import Derived.Test.YtdkdmfbhnaaobaaCvLike
set_option linter.unusedVariables false
namespace Go.Proofs.Ytdkdmfbhnaaobaa.Tb
open Go Go.RowKit Go.Lib Go.Proofs.Ytdkdmfbhnaaobaa.Cv

def l1 : Rec := [[[97], [98]], [[99]]]
theorem l1_few : Few l1 := ⟨by decide, by decide⟩
theorem l1_short : ∀ r ∈ l1, ∀ x ∈ r, x.length ≤ 140737488355328 := by decide
theorem l1_width : widthT l1 = 2 := by decide
theorem l1_check : checkT l1 = 1 := by decide
theorem l1_fill : fillT l1 = [[[97], [98]], [[99], []]] := by decide
theorem l1_turn : turnT l1 = [[[97], [99]], [[98], []]] := by decide
theorem l2_trim : trimT [[[97], []], [[]]] = [[[97]]] := by decide
theorem l2_few : Few [[[97], []], [[]]] := ⟨by decide, by decide⟩

theorem small_rows {R : Rec} (h : R.length ≤ 1000000) (h2 : ∀ r ∈ R, r.length ≤ 1000000) : Few R := ⟨h, h2⟩
/-- Two that read as the same records are the same. -/
theorem same_yes (A B : Option Addr) (R Q : Rec) (n m c d : Nat) (w : World) (hn : n = R.length) (hm : m = Q.length) (ha : RecsAt w A R) (hb : RecsAt w B Q) (hF : Few R) (he : R = Q) :
    Calls Try.prog 17 #[.slice A n c, .slice B m d] w fun e w' => e = .returned (.bool true) ∧ Below w.heap.size w w' := by
  subst he
  subst hn
  subst hm
  exact same_recs A B R c d w ha hb hF.num hF.each
/-- A literal of two records behind a table that was made ahead of it, and both told apart. -/
theorem same_lit2 (A : Option Addr) (Q : Rec) (n c : Nat) (w : World) (r q : List Bs) (k m : Nat) (hk : k = r.length) (hm : m = q.length) (hn : n = Q.length) (hA : RecsAt w A Q) (hF : Few Q) (he : Q = [r, q]) :
    Calls Try.prog 17 #[.slice A n c, .slice (some ⟨w.heap.size + 1 + 1, 0, none⟩) 2 2] (((w.alloc (.cells (rowC r).toArray 9)).alloc (.cells (rowC q).toArray 9)).alloc (.cells #[.slice (some ⟨w.heap.size, 0, none⟩) k k, .slice (some ⟨w.heap.size + 1, 0, none⟩) m m] 31))
      fun e w' => e = .returned (.bool true) ∧ Below w.heap.size w w' := by
  have hb := below_three w (.cells (rowC r).toArray 9) (.cells (rowC q).toArray 9) (.cells #[.slice (some ⟨w.heap.size, 0, none⟩) k k, .slice (some ⟨w.heap.size + 1, 0, none⟩) m m] 31)
  refine (same_yes A _ Q [r, q] n 2 c 2 _ hn rfl (hA.below hb) (recsC_two w r q k m hk hm).recs hF he).mono ?_
  rintro e w' ⟨rfl, h⟩
  exact ⟨rfl, hb.trans (h.mono hb.size)⟩
theorem same_lit1 (A : Option Addr) (Q : Rec) (n c : Nat) (w : World) (r : List Bs) (k : Nat) (hk : k = r.length) (hn : n = Q.length) (hA : RecsAt w A Q) (hF : Few Q) (he : Q = [r]) :
    Calls Try.prog 17 #[.slice A n c, .slice (some ⟨w.heap.size + 1, 0, none⟩) 1 1] ((w.alloc (.cells (rowC r).toArray 9)).alloc (.cells #[.slice (some ⟨w.heap.size, 0, none⟩) k k] 31))
      fun e w' => e = .returned (.bool true) ∧ Below w.heap.size w w' := by
  have hb := below_two w (.cells (rowC r).toArray 9) (.cells #[.slice (some ⟨w.heap.size, 0, none⟩) k k] 31)
  refine (same_yes A _ Q [r] n 1 c 1 _ hn rfl (hA.below hb) (recsC_one w r k hk).recs hF he).mono ?_
  rintro e w' ⟨rfl, h⟩
  exact ⟨rfl, hb.trans (h.mono hb.size)⟩
theorem trim_lit (w : World) : Calls Try.prog 15 #[.slice (some ⟨w.heap.size + 1 + 1, 0, none⟩) 2 2] (((w.alloc (.cells #[.string ⟨#[97]⟩, .string ⟨#[]⟩] 9)).alloc (.cells #[.string ⟨#[]⟩] 9)).alloc (.cells #[.slice (some ⟨w.heap.size, 0, none⟩) 2 2, .slice (some ⟨w.heap.size + 1, 0, none⟩) 1 1] 31))
    fun e w' => ∃ A c, e = .returned (.slice A 1 c) ∧ RecsAt w' A [[[97]]] ∧ Below w.heap.size w w' := by
  have hb := below_three w (.cells #[.string ⟨#[97]⟩, .string ⟨#[]⟩] 9) (.cells #[.string ⟨#[]⟩] 9) (.cells #[.slice (some ⟨w.heap.size, 0, none⟩) 2 2, .slice (some ⟨w.heap.size + 1, 0, none⟩) 1 1] 31)
  refine (trim_any _ [[[97], []], [[]]] 2 2 rfl _ (recsC_two w [[97], []] [[]] 2 1 rfl rfl) l2_few).mono ?_
  rintro e w' ⟨A, c, rfl, hT, h⟩
  rw [l2_trim] at hT ⊢
  exact ⟨A, c, rfl, hT.recs.recs, hb.trans (h.mono hb.size)⟩

set_option maxHeartbeats 4000000 in
set_option maxRecDepth 100000 in
theorem awake_any (w : World) :
    Calls Try.prog 8 #[] w fun e w' => e = .returned (.bool true) ∧ Below w.heap.size w w' := by
  have hr0 := recsC_two w [[97], [98]] [[99]] 2 1 rfl rfl
  have hb0 := below_three w (.cells #[.string ⟨#[97]⟩, .string ⟨#[98]⟩] 9) (.cells #[.string ⟨#[99]⟩] 9) (.cells #[.slice (some ⟨w.heap.size, 0, none⟩) 2 2, .slice (some ⟨w.heap.size + 1, 0, none⟩) 1 1] 31)
  have R0 := Lib.hid hr0.recs
  have B0 := Lib.hid hb0
  clear hr0 hb0
  go_enter Try.func8, Try.ntmps8
  go_wp2_with fail
  refine (width_any _ l1 2 2 rfl _ R0.out l1_few).mono ?_
  rintro e w1 ⟨rfl, rfl⟩
  rw [l1_width]
  have HC := Lib.hid (check_any _ l1 2 2 rfl _ R0.out l1_few l1_short)
  rw [l1_check] at HC
  go_wp2_with fail
  refine HC.out.mono ?_
  rintro e w2 ⟨rfl, hb2⟩
  have R2 := Lib.hid (R0.out.below hb2)
  have B2 := Lib.hid (B0.out.trans (hb2.mono B0.out.size))
  clear hb2 HC R0 B0
  have HF := Lib.hid (fill_any _ l1 2 2 rfl _ R2.out l1_few)
  rw [l1_fill] at HF
  go_wp2_with fail
  refine HF.out.mono ?_
  rintro e w3 ⟨A3, c3, rfl, ht3, hb3⟩
  have R3 := Lib.hid (R2.out.below hb3)
  have B3 := Lib.hid (B2.out.trans (hb3.mono B2.out.size))
  have HS := Lib.hid (same_lit2 A3 _ 2 c3 w3 [[97], [98]] [[99], []] 2 2 rfl rfl rfl ht3.recs.recs (small_rows (by decide) (by decide)) rfl)
  clear hb3 ht3 HF R2 B2
  go_wp2_with fail
  refine HS.out.mono ?_
  rintro e w4 ⟨rfl, hb4⟩
  have R4 := Lib.hid (R3.out.below hb4)
  have B4 := Lib.hid (B3.out.trans (hb4.mono B3.out.size))
  have HT := Lib.hid (turn_any _ l1 2 2 rfl _ R4.out l1_few)
  rw [l1_turn] at HT
  clear hb4 HS R3 B3
  go_wp2_with fail
  refine HT.out.mono ?_
  rintro e w5 ⟨A5, c5, rfl, ht5, hb5⟩
  have B5 := Lib.hid (B4.out.trans (hb5.mono B4.out.size))
  have HS := Lib.hid (same_lit2 A5 _ 2 c5 w5 [[97], [99]] [[98], []] 2 2 rfl rfl rfl ht5.recs.recs (small_rows (by decide) (by decide)) rfl)
  clear hb5 ht5 HT R4 B4
  go_wp2_with fail
  refine HS.out.mono ?_
  rintro e w6 ⟨rfl, hb6⟩
  have B6 := Lib.hid (B5.out.trans (hb6.mono B5.out.size))
  clear hb6 HS B5
  go_wp2_with fail
  refine (trim_lit w6).mono ?_
  rintro e w7 ⟨A7, c7, rfl, hr7, hb7⟩
  have B7 := Lib.hid (B6.out.trans (hb7.mono B6.out.size))
  have HS := Lib.hid (same_lit1 A7 _ 1 c7 w7 [[97]] 1 rfl rfl hr7 (small_rows (by decide) (by decide)) rfl)
  clear hb7 hr7 B6
  go_wp2_with fail
  refine HS.out.mono ?_
  rintro e w8 ⟨rfl, hb8⟩
  have B8 := Lib.hid (B7.out.trans (hb8.mono B7.out.size))
  clear hb8 HS B7
  go_wp2_with fail
  go_ret
  exact ⟨rfl, B8.out⟩
end Go.Proofs.Ytdkdmfbhnaaobaa.Tb
