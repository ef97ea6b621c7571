/-
  Proved here: what csv.walk returns, for every text of at most 65536 bytes, and any closure of two captured variables that it calls behind each field: the places and fields of the document; and for longer texts ErrLong.
-/
import Derived.Test.YtafpddpeffpnfaaDoorCvWalk
set_option linter.unusedVariables false
namespace Go.Proofs.YtafpddpeffpnfaaDoor.Cv
open Go Go.RowKit Go.Lib

theorem walk_long (s : ByteArray) (c : Value) (w : World) (hs : 65536 < s.size) :
    Calls Tryd.prog 28 #[.string s, c] w fun e w' => e = .returned (.tuple #[.int .i64 0, .int .i64 3]) ∧ w = w' := by
  go_enter Tryd.func28, Tryd.ntmps28
  go_wp2
  refine wp_scope_many (fun _ _ _ => False) (fun _ _ _ => 0) ?_ (fun _ _ _ h => h.elim)
  go_wp2
  simp only [jumps]
  go_ret2
  exact ⟨rfl, rfl⟩

theorem jump_ok {s : ByteArray} {c : Value} {I : List Ev → World → Prop} {t t' : Act} {W W' : World} {l l' a a' fm : Nat} {es : List Ev} (hfit : Fit t' (.string s) c (.int .i64 a') (.int .i64 fm))
    (h4 : t.tmps.getD 4 undef = .int .i64 a) (hfm : fm ≤ a') (hes : es.length ≤ a') (hI : I es W') (hpl : Pl (tx s) l' a' fm es) (hlt : 6 * (s.size + 2 - a') + rk l' < 6 * (s.size + 2 - a) + rk l) :
    Lab s c I l' t' W' ∧ mu s l' t' W' < mu s l t W := by
  refine ⟨⟨a', fm, es, hfit, hfm, hes, hI, hpl⟩, ?_⟩
  unfold mu
  rw [hfit.s4, h4]
  simp only [RowKit.intOf, Int.toNat_natCast]
  exact hlt
theorem jump_first {s : ByteArray} {c : Value} {I : List Ev → World → Prop} {t' : Act} {W' : World} {l' a' fm : Nat} {es : List Ev} (hfit : Fit t' (.string s) c (.int .i64 a') (.int .i64 fm))
    (hfm : fm ≤ a') (hes : es.length ≤ a') (hI : I es W') (hpl : Pl (tx s) l' a' fm es) : Lab s c I l' t' W' :=
  ⟨a', fm, es, hfit, hfm, hes, hI, hpl⟩
theorem out_ok {s : ByteArray} {I : List Ev → World → Prop} {W : World} {p : Option Nat} {es : List Ev} (h : place 0 0 (tx s) = p ∧ evs 0 [] (tx s) = es) (hI : I es W) {x y : Int} (hx : x = pz p) (hy : y = ez p) :
    WalkPost s I (.returned (.tuple #[.int .i64 x, .int .i64 y])) W := by
  refine ⟨?_, ?_⟩
  · rw [h.1, hx, hy]
  · rw [h.2]; exact hI

set_option maxHeartbeats 4000000 in
set_option maxRecDepth 1000000 in
theorem walk_any (f : FuncId) (hf : ∀ args w, (callFunc f args).run Tryd.prog w = .ok (.enter f args) w) (p1 p2 : Value) (I : List Ev → World → Prop) (call : Takes f p1 p2 I)
    (s : ByteArray) (w : World) (hs : s.size ≤ 65536) (h0 : I [] w) :
    Calls Tryd.prog 28 #[.string s, .func (.func f) #[] #[p1, p2]] w fun e w' => WalkPost s I e w' := by
  have CL := Lib.hid call
  have H0 := Lib.hid h0
  clear call h0
  go_enter Tryd.func28, Tryd.ntmps28
  go_wp2
  refine wp_scope_many (Lab s (.func (.func f) #[] #[p1, p2]) I) (mu s) ?_ ?_
  · go_wp2
    go_step3
    have HB := Lib.hid (fun W => byteAt_any s 0 W (by omega) (by omega))
    obtain ⟨z, hz⟩ : ∃ z, bz ((tx s).drop 0) = z := ⟨_, rfl⟩
    rw [hz] at HB
    have HZ := Lib.hid hz
    clear hz
    by_cases h34 : z = 34
    · subst h34
      go_wp2_with (first | (go_at_call 38; refine (HB.out _).mono ?_; rintro e w' ⟨rfl, rfl⟩))
      go_step3
      exact jump_first (a' := 0) (fm := 0) (es := []) ⟨rfl, rfl, rfl, rfl, rfl, rfl⟩ (Nat.le_refl _) (Nat.le_refl _) H0.out (field_quoted (Inv.start (tx s)) HZ.out)
    · have h34' : (z == 34) = false := by simpa using h34
      have HN := Lib.hid (field_bare (Inv.start (tx s)) (by rw [HZ.out]; exact h34))
      clear h34
      have HI2 := Lib.hid (fun W => isBare_any z W)
      obtain ⟨b, hb⟩ : ∃ b, bareZ z = b := ⟨_, rfl⟩
      rw [hb] at HI2
      have HBZ := Lib.hid hb
      clear hb
      go_wp2_with (first | (go_at_call 38; refine (HB.out _).mono ?_; rintro e w' ⟨rfl, rfl⟩))
      go_step3
      cases b
      · go_wp2_with (first | (go_at_call 38; refine (HB.out _).mono ?_; rintro e w' ⟨rfl, rfl⟩) | (go_at_call 39; refine (HI2.out _).mono ?_; rintro e w' ⟨rfl, rfl⟩))
        go_step3
        exact jump_first (a' := 0) (fm := 0) (es := []) ⟨rfl, rfl, rfl, rfl, rfl, rfl⟩ (Nat.le_refl _) (Nat.le_refl _) H0.out (bare_ended HN.out (by rw [HZ.out]; exact HBZ.out))
      · go_wp2_with (first | (go_at_call 38; refine (HB.out _).mono ?_; rintro e w' ⟨rfl, rfl⟩) | (go_at_call 39; refine (HI2.out _).mono ?_; rintro e w' ⟨rfl, rfl⟩))
        go_step3
        exact jump_first (a' := 0 + 1) (fm := 0) (es := []) ⟨rfl, rfl, rfl, rfl, rfl, rfl⟩ (Nat.le_succ _) (Nat.le_succ_of_le (Nat.le_refl _)) H0.out (bare_on HN.out (Nat.le_refl _) (by rw [HZ.out]; exact HBZ.out))
  · rintro l t W ⟨a, fm, es, hfit, hfm, hes, hI, hpl⟩
    have hal := hpl.le
    obtain ⟨g, rfl⟩ := hfit.opened
    clear hfit
    have HI := Lib.hid hI
    have HPL := Lib.hid hpl
    have hl : l = 0 ∨ l = 2 ∨ l = 1 ∨ l = 4 ∨ l = 3 ∨ l = 5 := by
      rcases hpl with h | h | h | h | h | h <;> omega
    clear hpl hI
    rcases hl with rfl | rfl | rfl | rfl | rfl | rfl
    · refine ⟨_, rfl, ?_⟩
      have HB := Lib.hid (fun W => byteAt_any s a W (by omega) (by omega))
      obtain ⟨z, hz⟩ : ∃ z, bz ((tx s).drop a) = z := ⟨_, rfl⟩
      rw [hz] at HB
      have HZ := Lib.hid hz
      clear hz
      by_cases h34 : z = 34
      · subst h34
        go_wp2_with (first | (go_at_call 38; refine (HB.out _).mono ?_; rintro e w' ⟨rfl, rfl⟩))
        go_step3
        exact jump_ok (a := a) (a' := a) (fm := a) (es := es) ⟨rfl, rfl, rfl, rfl, rfl, rfl⟩ rfl (Nat.le_refl _) hes HI.out (field_quoted (Pl.inv0 HPL.out) HZ.out) (by simp [rk] <;> omega)
      · have h34' : (z == 34) = false := by simpa using h34
        have HN := Lib.hid (field_bare (Pl.inv0 HPL.out) (by rw [HZ.out]; exact h34))
        clear h34
        have HI2 := Lib.hid (fun W => isBare_any z W)
        obtain ⟨b, hb⟩ : ∃ b, bareZ z = b := ⟨_, rfl⟩
        rw [hb] at HI2
        have HBZ := Lib.hid hb
        clear hb
        go_wp2_with (first | (go_at_call 38; refine (HB.out _).mono ?_; rintro e w' ⟨rfl, rfl⟩))
        go_step3
        cases b
        · go_wp2_with (first | (go_at_call 38; refine (HB.out _).mono ?_; rintro e w' ⟨rfl, rfl⟩) | (go_at_call 39; refine (HI2.out _).mono ?_; rintro e w' ⟨rfl, rfl⟩))
          go_step3
          exact jump_ok (a := a) (a' := a) (fm := a) (es := es) ⟨rfl, rfl, rfl, rfl, rfl, rfl⟩ rfl (Nat.le_refl _) hes HI.out (bare_ended HN.out (by rw [HZ.out]; exact HBZ.out)) (by simp [rk] <;> omega)
        · go_wp2_with (first | (go_at_call 38; refine (HB.out _).mono ?_; rintro e w' ⟨rfl, rfl⟩) | (go_at_call 39; refine (HI2.out _).mono ?_; rintro e w' ⟨rfl, rfl⟩))
          go_step3
          exact jump_ok (a := a) (a' := a + 1) (fm := a) (es := es) ⟨rfl, rfl, rfl, rfl, rfl, rfl⟩ rfl (Nat.le_succ _) (Nat.le_succ_of_le hes) HI.out (bare_on HN.out (Nat.le_refl _) (by rw [HZ.out]; exact HBZ.out)) (by simp [rk] <;> omega)
    · refine ⟨_, rfl, ?_⟩
      have HB := Lib.hid (fun W => byteAt_any s a W (by omega) (by omega))
      obtain ⟨z, hz⟩ : ∃ z, bz ((tx s).drop a) = z := ⟨_, rfl⟩
      rw [hz] at HB
      have HZ := Lib.hid hz
      clear hz
      have HI2 := Lib.hid (fun W => isBare_any z W)
      obtain ⟨b, hb⟩ : ∃ b, bareZ z = b := ⟨_, rfl⟩
      rw [hb] at HI2
      have HBZ := Lib.hid hb
      clear hb
      cases b
      · go_wp2_with (first | (go_at_call 38; refine (HB.out _).mono ?_; rintro e w' ⟨rfl, rfl⟩) | (go_at_call 39; refine (HI2.out _).mono ?_; rintro e w' ⟨rfl, rfl⟩))
        go_step3
        exact jump_ok (a := a) (a' := a) (fm := fm) (es := es) ⟨rfl, rfl, rfl, rfl, rfl, rfl⟩ rfl hfm hes HI.out (bare_ended HPL.out (by rw [HZ.out]; exact HBZ.out)) (by simp [rk] <;> omega)
      · go_wp2_with (first | (go_at_call 38; refine (HB.out _).mono ?_; rintro e w' ⟨rfl, rfl⟩) | (go_at_call 39; refine (HI2.out _).mono ?_; rintro e w' ⟨rfl, rfl⟩))
        go_step3
        exact jump_ok (a := a) (a' := a + 1) (fm := fm) (es := es) ⟨rfl, rfl, rfl, rfl, rfl, rfl⟩ rfl (by omega) (by omega) HI.out (bare_on HPL.out hfm (by rw [HZ.out]; exact HBZ.out)) (by simp [rk] <;> omega)
    · refine ⟨_, rfl, ?_⟩
      have hp : a + 1 ≤ s.size := quoted_room HPL.out
      have HB := Lib.hid (fun W => byteAt_any s (a + 1) W (by omega) (by omega))
      obtain ⟨z, hz⟩ : ∃ z, bz ((tx s).drop (a + 1)) = z := ⟨_, rfl⟩
      rw [hz] at HB
      have HZ := Lib.hid hz
      clear hz
      by_cases h34 : z = 34
      · subst h34
        go_wp2_with (first | (go_at_call 38; refine (HB.out _).mono ?_; rintro e w' ⟨rfl, rfl⟩))
        go_step3
        exact jump_ok (a := a) (a' := a + 1) (fm := fm) (es := es) ⟨rfl, rfl, rfl, rfl, rfl, rfl⟩ rfl (by omega) (by omega) HI.out (quoted_closed HPL.out hfm HZ.out) (by simp [rk] <;> omega)
      · have h34' : (z == 34) = false := by simpa using h34
        by_cases h1 : z = -1
        · subst h1
          go_wp2_with (first | (go_at_call 38; refine (HB.out _).mono ?_; rintro e w' ⟨rfl, rfl⟩))
          simp only [jumps]
          go_ret2
          exact out_ok (quoted_cut HPL.out HZ.out) HI.out rfl rfl
        · have h1' : (z == -1) = false := by simpa using h1
          have HN := Lib.hid (quoted_on HPL.out hfm (by rw [HZ.out]; exact h34) (by rw [HZ.out]; exact h1))
          clear h34 h1
          go_wp2_with (first | (go_at_call 38; refine (HB.out _).mono ?_; rintro e w' ⟨rfl, rfl⟩))
          go_step3
          exact jump_ok (a := a) (a' := a + 1) (fm := fm) (es := es) ⟨rfl, rfl, rfl, rfl, rfl, rfl⟩ rfl (by omega) (by omega) HI.out HN.out (by simp [rk] <;> omega)
    · refine ⟨_, rfl, ?_⟩
      have hp : a + 1 ≤ s.size := closed_room HPL.out
      have HB := Lib.hid (fun W => byteAt_any s (a + 1) W (by omega) (by omega))
      obtain ⟨z, hz⟩ : ∃ z, bz ((tx s).drop (a + 1)) = z := ⟨_, rfl⟩
      rw [hz] at HB
      have HZ := Lib.hid hz
      clear hz
      by_cases h34 : z = 34
      · subst h34
        go_wp2_with (first | (go_at_call 38; refine (HB.out _).mono ?_; rintro e w' ⟨rfl, rfl⟩))
        go_step3
        exact jump_ok (a := a) (a' := a + 1) (fm := fm) (es := es) ⟨rfl, rfl, rfl, rfl, rfl, rfl⟩ rfl (by omega) (by omega) HI.out (closed_quoted HPL.out hfm HZ.out) (by simp [rk] <;> omega)
      · have h34' : (z == 34) = false := by simpa using h34
        have HE := Lib.hid (closed_ended HPL.out (by rw [HZ.out]; exact h34))
        clear h34
        go_wp2_with (first | (go_at_call 38; refine (HB.out _).mono ?_; rintro e w' ⟨rfl, rfl⟩))
        go_step3
        have hsl : ∀ W, (Instr.slice 9 (.string s) (some (.int .i64 (fm : Int))) (some (.int .i64 ((a : Int) + 1))) none).run Tryd.prog W = .ok (.string ⟨(seg (tx s) fm (a + 1)).toArray⟩) W := fun W => by
          rw [run_slice_string (P := Tryd.prog) W 9 s .i64 .i64 (fm : Int) ((a : Int) + 1) Tryd.underlying9 (by omega) (by omega) (by omega), ← ext_seg]
          rfl
        by_cases h44 : z = 44
        · subst h44
          go_wp2_with (first | (go_at_call 38; refine (HB.out _).mono ?_; rintro e w' ⟨rfl, rfl⟩) | fail)
          refine (CL.out es (seg (tx s) fm (a + 1)) false _ HI.out (by omega) (by have := seg_len (tx s) fm (a + 1); rw [tx_size] at this; omega) (ended_wq HE.out)).mono ?_
          rintro e w' ⟨rfl, hI⟩
          have HIN := Lib.hid hI
          clear hI
          go_wp2
          go_step3
          exact jump_ok (a := a) (a' := a + 1 + 1) (fm := fm) (es := _) ⟨rfl, rfl, rfl, rfl, rfl, rfl⟩ rfl (by omega) (by simp; omega) HIN.out (ended_comma HE.out HZ.out) (by simp [rk] <;> omega)
        · have h44' : (z == 44) = false := by simpa using h44
          by_cases h13 : z = 13
          · subst h13
            go_wp2_with (first | (go_at_call 38; refine (HB.out _).mono ?_; rintro e w' ⟨rfl, rfl⟩) | fail)
            go_step3
            exact jump_ok (a := a) (a' := a + 1) (fm := fm) (es := es) ⟨rfl, rfl, rfl, rfl, rfl, rfl⟩ rfl (by omega) (by omega) HI.out (ended_cr HE.out HZ.out) (by simp [rk] <;> omega)
          · have h13' : (z == 13) = false := by simpa using h13
            by_cases h1 : z = -1
            · subst h1
              go_wp2_with (first | (go_at_call 38; refine (HB.out _).mono ?_; rintro e w' ⟨rfl, rfl⟩) | fail)
              refine (CL.out es (seg (tx s) fm (a + 1)) true _ HI.out (by omega) (by have := seg_len (tx s) fm (a + 1); rw [tx_size] at this; omega) (ended_wq HE.out)).mono ?_
              rintro e w' ⟨rfl, hI⟩
              have HIN := Lib.hid hI
              clear hI
              go_wp2
              simp only [jumps]
              go_ret2
              exact out_ok (ended_done HE.out HZ.out) HIN.out rfl rfl
            · have h1' : (z == -1) = false := by simpa using h1
              have HN := Lib.hid (ended_spoilt HE.out (by rw [HZ.out]; exact h44) (by rw [HZ.out]; exact h13) (by rw [HZ.out]; exact h1))
              clear h44 h13 h1
              go_wp2_with (first | (go_at_call 38; refine (HB.out _).mono ?_; rintro e w' ⟨rfl, rfl⟩) | fail)
              simp only [jumps]
              go_ret2
              exact out_ok HN.out HI.out rfl rfl
    · refine ⟨_, rfl, ?_⟩
      have HB := Lib.hid (fun W => byteAt_any s a W (by omega) (by omega))
      obtain ⟨z, hz⟩ : ∃ z, bz ((tx s).drop a) = z := ⟨_, rfl⟩
      rw [hz] at HB
      have HZ := Lib.hid hz
      clear hz
      have hsl : ∀ W, (Instr.slice 9 (.string s) (some (.int .i64 (fm : Int))) (some (.int .i64 ((a : Int)))) none).run Tryd.prog W = .ok (.string ⟨(seg (tx s) fm (a)).toArray⟩) W := fun W => by
        rw [run_slice_string (P := Tryd.prog) W 9 s .i64 .i64 (fm : Int) ((a : Int)) Tryd.underlying9 (by omega) (by omega) (by omega), ← ext_seg]
        rfl
      by_cases h44 : z = 44
      · subst h44
        go_wp2_with (first | (go_at_call 38; refine (HB.out _).mono ?_; rintro e w' ⟨rfl, rfl⟩) | fail)
        refine (CL.out es (seg (tx s) fm a) false _ HI.out (by omega) (by have := seg_len (tx s) fm (a); rw [tx_size] at this; omega) (ended_wq HPL.out)).mono ?_
        rintro e w' ⟨rfl, hI⟩
        have HIN := Lib.hid hI
        clear hI
        go_wp2
        go_step3
        exact jump_ok (a := a) (a' := a + 1) (fm := fm) (es := _) ⟨rfl, rfl, rfl, rfl, rfl, rfl⟩ rfl (by omega) (by simp; omega) HIN.out (ended_comma HPL.out HZ.out) (by simp [rk] <;> omega)
      · have h44' : (z == 44) = false := by simpa using h44
        by_cases h13 : z = 13
        · subst h13
          go_wp2_with (first | (go_at_call 38; refine (HB.out _).mono ?_; rintro e w' ⟨rfl, rfl⟩) | fail)
          go_step3
          exact jump_ok (a := a) (a' := a) (fm := fm) (es := es) ⟨rfl, rfl, rfl, rfl, rfl, rfl⟩ rfl (by omega) (by omega) HI.out (ended_cr HPL.out HZ.out) (by simp [rk] <;> omega)
        · have h13' : (z == 13) = false := by simpa using h13
          by_cases h1 : z = -1
          · subst h1
            go_wp2_with (first | (go_at_call 38; refine (HB.out _).mono ?_; rintro e w' ⟨rfl, rfl⟩) | fail)
            refine (CL.out es (seg (tx s) fm a) true _ HI.out (by omega) (by have := seg_len (tx s) fm (a); rw [tx_size] at this; omega) (ended_wq HPL.out)).mono ?_
            rintro e w' ⟨rfl, hI⟩
            have HIN := Lib.hid hI
            clear hI
            go_wp2
            simp only [jumps]
            go_ret2
            exact out_ok (ended_done HPL.out HZ.out) HIN.out rfl rfl
          · have h1' : (z == -1) = false := by simpa using h1
            have HN := Lib.hid (ended_spoilt HPL.out (by rw [HZ.out]; exact h44) (by rw [HZ.out]; exact h13) (by rw [HZ.out]; exact h1))
            clear h44 h13 h1
            go_wp2_with (first | (go_at_call 38; refine (HB.out _).mono ?_; rintro e w' ⟨rfl, rfl⟩) | fail)
            simp only [jumps]
            go_ret2
            exact out_ok HN.out HI.out rfl rfl
    · refine ⟨_, rfl, ?_⟩
      have hp : a + 1 ≤ s.size := broken_room HPL.out
      have HB := Lib.hid (fun W => byteAt_any s (a + 1) W (by omega) (by omega))
      obtain ⟨z, hz⟩ : ∃ z, bz ((tx s).drop (a + 1)) = z := ⟨_, rfl⟩
      rw [hz] at HB
      have HZ := Lib.hid hz
      clear hz
      have hsl : ∀ W, (Instr.slice 9 (.string s) (some (.int .i64 (fm : Int))) (some (.int .i64 (a : Int))) none).run Tryd.prog W = .ok (.string ⟨(seg (tx s) fm a).toArray⟩) W := fun W => by
        rw [run_slice_string (P := Tryd.prog) W 9 s .i64 .i64 (fm : Int) (a : Int) Tryd.underlying9 (by omega) (by omega) (by omega), ← ext_seg]
        rfl
      by_cases h10 : z = 10
      · subst h10
        go_wp2_with (first | (go_at_call 38; refine (HB.out _).mono ?_; rintro e w' ⟨rfl, rfl⟩) | fail)
        refine (CL.out es (seg (tx s) fm a) true _ HI.out (by omega) (by have := seg_len (tx s) fm a; rw [tx_size] at this; omega) (broken_wq HPL.out)).mono ?_
        rintro e w' ⟨rfl, hI⟩
        have HIN := Lib.hid hI
        clear hI HB
        have HLF := Lib.hid (broken_lf HPL.out HZ.out)
        have hp2 : a + 2 ≤ s.size := by have := HLF.out.le; rw [tx_size] at this; exact this
        have HB := Lib.hid (fun W => byteAt_any s (a + 2) W (by omega) (by omega))
        clear HZ
        obtain ⟨z, hz⟩ : ∃ z, bz ((tx s).drop (a + 2)) = z := ⟨_, rfl⟩
        rw [hz] at HB
        have HZ := Lib.hid hz
        clear hz
        by_cases h1 : z = -1
        · subst h1
          go_wp2_with (first | (go_at_call 38; refine (HB.out _).mono ?_; rintro e w' ⟨rfl, rfl⟩) | fail)
          simp only [jumps]
          go_ret2
          exact out_ok (lf_over HLF.out HZ.out) HIN.out rfl rfl
        · have h1' : (z != -1) = true := by simpa using h1
          have HN := Lib.hid (lf_field (fm := fm) HLF.out (by rw [HZ.out]; exact h1))
          clear h1
          go_wp2_with (first | (go_at_call 38; refine (HB.out _).mono ?_; rintro e w' ⟨rfl, rfl⟩) | fail)
          go_step3
          exact jump_ok (a := a) (a' := a + 2) (fm := fm) (es := _) ⟨rfl, rfl, rfl, rfl, rfl, rfl⟩ rfl (by omega) (by simp; omega) HIN.out HN.out (by simp [rk] <;> omega)
      · have h10' : (z != 10) = true := by simpa using h10
        have HN := Lib.hid (broken_spoilt HPL.out (by rw [HZ.out]; exact h10))
        clear h10
        go_wp2_with (first | (go_at_call 38; refine (HB.out _).mono ?_; rintro e w' ⟨rfl, rfl⟩) | fail)
        simp only [jumps]
        go_ret2
        exact out_ok HN.out HI.out rfl rfl
end Go.Proofs.YtafpddpeffpnfaaDoor.Cv
