/-
  Proved here: what level.Removed, (*level.opened).tell return and open does to what is open in memory. Condition: what is open is as it may be; counts of at most 2^40.
-/
import Derived.Test.YtehndhkcmccpmaaLvClose
set_option linter.unusedVariables false
namespace Go.Proofs.Ytehndhkcmccpmaa.Lv
open Go Go.RowKit Go.Lib Go.Proofs.Ytehndhkcmccpmaa.Cl

set_option maxHeartbeats 1000000 in
theorem removed_any (c : Int) (w : World) :
    Calls Try.prog 12 #[.int .i64 c] w fun x w' => x = .returned (.bool (remB c)) ∧ w = w' := by
  unfold remB
  cases h1 : (c == 16) <;> cases h2 : (c == 14) <;> cases h3 : (c == 17) <;> cases h4 : (c == 15) <;> cases h5 : (c == 18) <;> cases h6 : (c == 9)
  all_goals
    go_enter Try.func12, Try.ntmps12
    go_wp2
    go_ret
    exact ⟨rfl, rfl⟩

theorem outS_rem {b : Nat} {s : St} {c : Int} (h : remB c = true) : outS b s c = (-1, c) := by
  unfold outS
  rw [if_pos h]
theorem outS_B {b : Nat} {s : St} (h : remB 10 = false) : outS b s 10 = ((b : Int), 10) := by
  unfold outS
  rw [if_neg (by rw [h]; decide), if_pos rfl]
theorem outS_self {b : Nat} {s : St} {c : Int} (h : remB c = false) (ht : c ≠ 10) (ho : (top s.es).ov = -1) : outS b s c = (((top s.es).lev : Int), c) := by
  unfold outS
  rw [if_neg (by rw [h]; decide), if_neg ht, if_pos ho]
theorem outS_over {b : Nat} {s : St} {c : Int} (h : remB c = false) (ht : c ≠ 10) (ho : (top s.es).ov ≠ -1) : outS b s c = (((top s.es).lev : Int), (top s.es).ov) := by
  unfold outS
  rw [if_neg (by rw [h]; decide), if_neg ht, if_neg ho]

theorem tell_new (w : World) (cs : Array Value) (t : TypeId) : (w.alloc (.cells cs t)).heap[w.heap.size]? = some (.cells cs t (0, 0)) := heap_alloc_last w _

set_option maxHeartbeats 1000000 in
set_option maxRecDepth 100000 in
theorem tell_any (c : Int) (b B : Nat) (s : St) (w : World) (hb : b ≤ 1) (hc : Chain b s.es) (hO : OpAt w B s) :
    Calls Try.prog 25 #[.pointer (some ⟨B, 0, none⟩), .int .i64 c] w fun x w' => x = .returned (.tuple #[.int .i64 (outS b s c).1, .int .i64 (outS b s c).2]) ∧ Below w.heap.size w w' := by
  have hs := hc.small hb
  have hf := esC_first b hc
  have hB := hO.lt
  obtain ⟨es, li, ld, op⟩ := s
  simp only at *
  cases es with
  | nil => exact hc.elim
  | cons e r =>
    simp only [List.length_cons] at hs
    have HL := Lib.hid (last_any B e r li ld op w hO (by omega))
    obtain ⟨g, cc, h1, h2⟩ := hO
    have hg := (h2.lt g rfl)
    obtain ⟨⟨-, -, c2, -⟩, -⟩ := four h1
    have k0 := (h2.cellAt 0 (by simp)).trans hf
    simp only [List.length_cons] at c2
    obtain ⟨lev, ov, iso⟩ := e
    simp only at HL
    generalize r.length = n at *
    clear h1 h2 hf hc
    cases hR : remB c with
    | true =>
      rw [outS_rem hR]
      have HR := Lib.hid (fun W => removed_any c W)
      rw [hR] at HR
      clear hR
      go_enter Try.func25, Try.ntmps25
      go_wp2_with fail
      refine HL.out.mono ?_
      rintro x w1 ⟨rfl, hb1⟩
      have hnew := tell_new w1 #[.int .i64 lev, .int .i64 ov, .bool iso] 62
      go_wp2_with fail
      refine (HR.out _).mono ?_
      rintro x w2 ⟨rfl, rfl⟩
      go_wp2
      go_ret2
      exact ⟨rfl, hb1.alloc hb1.size _⟩
    | false =>
      have hRR := hR
      have HR := Lib.hid (fun W => removed_any c W)
      rw [hR] at HR
      clear hR
      by_cases hten : c = 10
      · subst hten
        rw [outS_B hRR]
        clear hRR
        go_enter Try.func25, Try.ntmps25
        go_wp2_with fail
        refine HL.out.mono ?_
        rintro x w1 ⟨rfl, hb1⟩
        obtain ⟨o, ho⟩ : ∃ o, (Obj.cells #[.int .i64 lev, .int .i64 ov, .bool iso] 62 (0, 0)) = o := ⟨_, rfl⟩
        have q2 := (cell_alloc w1 o 2 (Nat.lt_of_lt_of_le hB hb1.size)).trans ((hb1.cell (p := ⟨B, 2, none⟩) hB).trans c2)
        have r0 := (cell_alloc w1 o 0 (Nat.lt_of_lt_of_le hg.2 hb1.size)).trans ((hb1.cell (p := ⟨g, 0, none⟩) hg.2).trans k0)
        subst ho
        go_wp2_with fail
        refine (HR.out _).mono ?_
        rintro x w2 ⟨rfl, rfl⟩
        go_wp2
        go_ret2
        exact ⟨rfl, hb1.alloc hb1.size _⟩
      · have kt : (c == 10) = false := by simpa using hten
        by_cases hov : ov = -1
        · have ho := outS_self (b := b) (s := ⟨⟨lev, ov, iso⟩ :: r, li, ld, op⟩) hRR hten hov
          rw [ho]
          simp only [top, List.headD_cons]
          subst hov
          clear ho c2 k0 hten hRR
          go_enter Try.func25, Try.ntmps25
          go_wp2_with fail
          refine HL.out.mono ?_
          rintro x w1 ⟨rfl, hb1⟩
          have hnew := tell_new w1 #[.int .i64 lev, .int .i64 (-1), .bool iso] 62
          obtain ⟨⟨n0, n1, n2⟩, -⟩ := three hnew
          have HB1 := Lib.hid hb1
          clear hnew hb1
          go_wp2_with fail
          refine (HR.out _).mono ?_
          rintro x w2 ⟨rfl, rfl⟩
          go_wp2
          go_ret2
          exact ⟨rfl, HB1.out.alloc HB1.out.size _⟩
        · have ho := outS_over (b := b) (s := ⟨⟨lev, ov, iso⟩ :: r, li, ld, op⟩) hRR hten hov
          rw [ho]
          simp only [top, List.headD_cons]
          have ko : (ov == -1) = false := by simpa using hov
          clear ho c2 k0 hten hRR hov
          go_enter Try.func25, Try.ntmps25
          go_wp2_with fail
          refine HL.out.mono ?_
          rintro x w1 ⟨rfl, hb1⟩
          have hnew := tell_new w1 #[.int .i64 lev, .int .i64 ov, .bool iso] 62
          obtain ⟨⟨n0, n1, n2⟩, -⟩ := three hnew
          have HB1 := Lib.hid hb1
          clear hnew hb1
          go_wp2_with fail
          refine (HR.out _).mono ?_
          rintro x w2 ⟨rfl, rfl⟩
          go_wp2_with fail
          go_region
          all_goals
            go_wp2_with fail
            go_ret2
            exact ⟨rfl, (HB1.out.alloc HB1.out.size _).drew⟩
end Go.Proofs.Ytehndhkcmccpmaa.Lv
