/-
  Proved here: what (*level.opened).open does to what is open in memory, what level.paragraph makes. Condition: what is open is as it may be; counts of at most 2^40.
-/
import Derived.Test.YtehndhkcmccpmaaLvOpen
set_option linter.unusedVariables false
namespace Go.Proofs.Ytehndhkcmccpmaa.Lv
open Go Go.RowKit Go.Lib Go.Proofs.Ytehndhkcmccpmaa.Cl

theorem openS_any {c : Int} (h : c ≠ 21) (l l' : List Int) (s : St) : openS c l s = openS c l' s := by
  unfold openS
  simp only [if_neg h]
theorem openS_fsi (l : List Int) (s : St) : openS 21 l s = openS (if dirE l = 1 then 20 else 19) [] s := by
  have h := dirE_le l
  unfold openS
  rw [if_neg (by decide), if_neg (by decide), if_neg (by decide), if_neg (by decide), if_neg (by decide), if_neg (by decide), if_pos rfl]
  by_cases h1 : dirE l = 1
  · rw [if_pos h1, if_neg (by decide), if_neg (by decide), if_neg (by decide), if_neg (by decide), if_pos rfl, h1]
  · rw [if_neg h1, if_neg (by decide), if_neg (by decide), if_neg (by decide), if_neg (by decide), if_neg (by decide), if_pos rfl]
    have : dirE l = 0 := by omega
    rw [this]

set_option maxHeartbeats 1000000 in
set_option maxRecDepth 100000 in
theorem open_any (c : Int) (hc : c ≠ 21) (b B : Nat) (s : St) (w : World) (hb : b ≤ 1) (hk : Ok b s) (hO : OpAt w B s) (h1 : s.li ≤ 1099511627776) (h2 : s.ld ≤ 1099511627776) (h3 : s.op ≤ 1099511627776) :
    Calls Try.prog 27 #[.pointer (some ⟨B, 0, none⟩), .int .i64 c] w fun x w' => x = .returned (.tuple #[]) ∧ OpAt w' B (openS c [] s) ∧ Below (B - 1) w w' := by
  have hmost := hk.chain.most hb
  have hsmall := hk.chain.small hb
  have hpos := hk.chain.pos
  have hB := hO.lt
  have HE := Lib.hid (fun o v W (h : OpAt W B s) => embed_any B o v s W h hmost (by omega) h1 h2)
  have HI := Lib.hid (fun o W (h : OpAt W B s) => isolate_any B o s W h hmost (by omega) h1 h2 h3)
  have HO := Lib.hid hO
  have HOD : Hid (Calls Try.prog 49 #[.pointer (some ⟨B, 0, none⟩)] w fun x w' => x = .returned (.int .i64 (nxt 1 (top s.es).lev)) ∧ Below w.heap.size w w') := Lib.hid (by
    obtain ⟨es, li, ld, op⟩ := s
    cases es with
    | nil => simp at hpos
    | cons e r => exact odd_any B e r li ld op w hO (by simp at hsmall; omega) hmost)
  have HEV : Hid (Calls Try.prog 50 #[.pointer (some ⟨B, 0, none⟩)] w fun x w' => x = .returned (.int .i64 (nxt 0 (top s.es).lev)) ∧ Below w.heap.size w w') := Lib.hid (by
    obtain ⟨es, li, ld, op⟩ := s
    cases es with
    | nil => simp at hpos
    | cons e r => exact even_any B e r li ld op w hO (by simp at hsmall; omega) hmost)
  clear hk hO hmost hsmall hpos h1 h2 h3
  unfold openS
  by_cases e16 : c = 16
  · rw [if_pos e16]
    subst e16
    clear hc
    go_enter Try.func27, Try.ntmps27
    go_wp2_with fail
    refine HOD.out.mono ?_
    rintro x w1 ⟨rfl, hb1⟩
    have ho1 := HO.out.below hb1
    have HB1 := Lib.hid (hb1.mono (B' := B - 1) (by omega))
    have HC := Lib.hid (HE.out 1 (-1) w1 ho1)
    clear ho1 hb1
    go_wp2_with fail
    refine HC.out.mono ?_
    rintro x w2 ⟨rfl, ho2, hb2⟩
    go_wp2
    go_end0
    exact ⟨rfl, ho2, HB1.out.trans hb2⟩
  rw [if_neg e16]
  have k16 : (c == 16) = false := by simpa using e16
  by_cases e14 : c = 14
  · rw [if_pos e14]
    subst e14
    clear hc
    go_enter Try.func27, Try.ntmps27
    go_wp2_with fail
    refine HEV.out.mono ?_
    rintro x w1 ⟨rfl, hb1⟩
    have ho1 := HO.out.below hb1
    have HB1 := Lib.hid (hb1.mono (B' := B - 1) (by omega))
    have HC := Lib.hid (HE.out 0 (-1) w1 ho1)
    clear ho1 hb1
    go_wp2_with fail
    refine HC.out.mono ?_
    rintro x w2 ⟨rfl, ho2, hb2⟩
    go_wp2
    go_end0
    exact ⟨rfl, ho2, HB1.out.trans hb2⟩
  rw [if_neg e14]
  have k14 : (c == 14) = false := by simpa using e14
  by_cases e17 : c = 17
  · rw [if_pos e17]
    subst e17
    clear hc
    go_enter Try.func27, Try.ntmps27
    go_wp2_with fail
    refine HOD.out.mono ?_
    rintro x w1 ⟨rfl, hb1⟩
    have ho1 := HO.out.below hb1
    have HB1 := Lib.hid (hb1.mono (B' := B - 1) (by omega))
    have HC := Lib.hid (HE.out 1 1 w1 ho1)
    clear ho1 hb1
    go_wp2_with fail
    refine HC.out.mono ?_
    rintro x w2 ⟨rfl, ho2, hb2⟩
    go_wp2
    go_end0
    exact ⟨rfl, ho2, HB1.out.trans hb2⟩
  rw [if_neg e17]
  have k17 : (c == 17) = false := by simpa using e17
  by_cases e15 : c = 15
  · rw [if_pos e15]
    subst e15
    clear hc
    go_enter Try.func27, Try.ntmps27
    go_wp2_with fail
    refine HEV.out.mono ?_
    rintro x w1 ⟨rfl, hb1⟩
    have ho1 := HO.out.below hb1
    have HB1 := Lib.hid (hb1.mono (B' := B - 1) (by omega))
    have HC := Lib.hid (HE.out 0 0 w1 ho1)
    clear ho1 hb1
    go_wp2_with fail
    refine HC.out.mono ?_
    rintro x w2 ⟨rfl, ho2, hb2⟩
    go_wp2
    go_end0
    exact ⟨rfl, ho2, HB1.out.trans hb2⟩
  rw [if_neg e15]
  have k15 : (c == 15) = false := by simpa using e15
  by_cases e20 : c = 20
  · rw [if_pos e20]
    subst e20
    clear hc
    go_enter Try.func27, Try.ntmps27
    go_wp2_with fail
    refine HOD.out.mono ?_
    rintro x w1 ⟨rfl, hb1⟩
    have ho1 := HO.out.below hb1
    have HB1 := Lib.hid (hb1.mono (B' := B - 1) (by omega))
    have HC := Lib.hid (HI.out 1 w1 ho1)
    clear ho1 hb1
    go_wp2_with fail
    refine HC.out.mono ?_
    rintro x w2 ⟨rfl, ho2, hb2⟩
    go_wp2
    go_end0
    exact ⟨rfl, ho2, HB1.out.trans hb2⟩
  rw [if_neg e20]
  have k20 : (c == 20) = false := by simpa using e20
  by_cases e19 : c = 19
  · rw [if_pos e19]
    subst e19
    clear hc
    go_enter Try.func27, Try.ntmps27
    go_wp2_with fail
    refine HEV.out.mono ?_
    rintro x w1 ⟨rfl, hb1⟩
    have ho1 := HO.out.below hb1
    have HB1 := Lib.hid (hb1.mono (B' := B - 1) (by omega))
    have HC := Lib.hid (HI.out 0 w1 ho1)
    clear ho1 hb1
    go_wp2_with fail
    refine HC.out.mono ?_
    rintro x w2 ⟨rfl, ho2, hb2⟩
    go_wp2
    go_end0
    exact ⟨rfl, ho2, HB1.out.trans hb2⟩
  rw [if_neg e19]
  have k19 : (c == 19) = false := by simpa using e19
  rw [if_neg hc]
  go_enter Try.func27, Try.ntmps27
  go_wp2
  go_end0
  exact ⟨rfl, HO.out, Below.refl _ _⟩

theorem infoO : (Try.prog.info? 67).map (·.size) = some 4 := by kernel_rfl
set_option maxHeartbeats 1000000 in
set_option maxRecDepth 100000 in
theorem paragraph_any (b : Nat) (w : World) :
    Calls Try.prog 23 #[.int .i64 b] w fun x w' => x = .returned (.pointer (some ⟨w.heap.size + 1, 0, none⟩)) ∧ OpAt w' (w.heap.size + 1) (startS b) ∧ Below w.heap.size w w' := by
  go_enter Try.func23, Try.ntmps23
  go_wp2_with fail
  go_ret
  obtain ⟨o1, ho1⟩ : ∃ o, (Obj.cells #[.int .i64 b, .int .i64 (-1), .bool false] 62 (0, 0)) = o := ⟨_, rfl⟩
  have h1 := heap_alloc_last w o1
  have hs : (w.alloc o1).heap.size = w.heap.size + 1 := by simp
  refine ⟨rfl, ⟨w.heap.size, 1, ?_, ?_⟩, ((Below.refl _ _).alloc (Nat.le_refl _) _).alloc (by simp) _⟩
  · have h2 := heap_alloc_last (w.alloc (.cells #[.int .i64 b, .int .i64 (-1), .bool false] 62 (0, 0))) (.cells #[.int .i64 0, .int .i64 0, .slice (some ⟨w.heap.size, 0, none⟩) 1 1, .int .i64 0] 67 (0, 0))
    rw [show (w.alloc (.cells #[.int .i64 b, .int .i64 (-1), .bool false] 62 (0, 0))).heap.size = w.heap.size + 1 from by simp] at h2
    exact h2
  · refine ⟨rfl, .inr ⟨w.heap.size, 1, #[.int .i64 b, .int .i64 (-1), .bool false], rfl, by simp, (Below.heap_alloc _ _ _ (by simp)).trans (heap_alloc_last _ _), Nat.le_refl _, by unfold maxLen; omega, rfl, rfl⟩⟩
end Go.Proofs.Ytehndhkcmccpmaa.Lv
