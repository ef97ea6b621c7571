/-
  Proved here: what the document's own answers for one field (bare, field of the reference) return, for every text and place; they leave what was in memory.
-/
import Derived.Test.YtafpddpeffpnfaaDoorCvWalk
import Derived.Lib.Strings
set_option linter.unusedVariables false
namespace Go.Proofs.YtafpddpeffpnfaaDoor.Cv
open Go Go.RowKit Go.Lib

set_option maxHeartbeats 1000000 in
set_option maxRecDepth 100000 in
theorem bare_any (z : Int) (w : World) (h1 : z ≠ -1) :
    Calls Tryd.prog 49 #[.int .u8 z] w fun e w' => e = .returned (.bool (bareZ z)) ∧ w = w' := by
  by_cases h : bareZ z = true
  · rw [h]
    have h' : z ≠ 34 ∧ z ≠ 44 ∧ z ≠ 13 ∧ z ≠ 10 ∧ z ≠ -1 := by simpa [bareZ] using h
    clear h
    obtain ⟨h1, h2, h3, h4, h5⟩ := h'
    have d1 : (z != 34) = true := by simpa using h1
    have d2 : (z != 44) = true := by simpa using h2
    have d3 : (z != 13) = true := by simpa using h3
    have d4 : (z != 10) = true := by simpa using h4
    clear h1 h2 h3 h4 h5
    go_enter Tryd.func49, Tryd.ntmps49
    go_wp2
    go_ret
    exact ⟨rfl, rfl⟩
  · have hb : bareZ z = false := by simpa using h
    rw [hb]
    have h' : z = 34 ∨ z = 44 ∨ z = 13 ∨ z = 10 := by simp [bareZ] at hb; omega
    clear h hb
    rcases h' with rfl | rfl | rfl | rfl
    all_goals
      go_enter Tryd.func49, Tryd.ntmps49
      go_wp2
      go_ret
      exact ⟨rfl, rfl⟩

theorem und_len : ∀ (n : Nat) (x : Bs), x.length ≤ n → (und x).length ≤ x.length
  | _, [], _ => Nat.le_refl _
  | 0, _ :: _, h => by simp at h
  | n + 1, [b], h => Nat.le_refl _
  | n + 1, b :: c :: l, h => by
    by_cases hb : b = 34 ∧ c = 34
    · have := und_len n l (by simp at h; omega)
      simp [und, hb]
      omega
    · have := und_len n (c :: l) (by simpa using h)
      simp [und, hb] at this ⊢
      exact this
theorem txt_len (x : Bs) : (txt x).length ≤ x.length := by
  unfold txt
  split
  · have := und_len _ (x.drop 1).dropLast (Nat.le_refl _)
    have e : ((x.drop 1).dropLast).length ≤ x.length := by simp; omega
    omega
  · exact Nat.le_refl _
theorem bytes_app (x y : Bs) : (⟨x.toArray⟩ : ByteArray) ++ ⟨y.toArray⟩ = ⟨(x ++ y).toArray⟩ := by
  apply ByteArray.ext
  simp [ByteArray.data_append]

def FieldPost (s : ByteArray) (a : Nat) (es : List Ev) (w : World) (e : Ending) (w' : World) : Prop :=
  w' = w ∧ ((e = .returned (.tuple #[.string ⟨#[]⟩, .int .i64 (-(s.size : Int) - 1)]) ∧ place 0 0 (tx s) = some s.size ∧ evs 0 [] (tx s) = es) ∨
    ∃ n : Nat, e = .returned (.tuple #[.string ⟨(txt (seg (tx s) a n)).toArray⟩, .int .i64 n]) ∧ a ≤ n ∧ n ≤ s.size ∧ Pl (tx s) 3 n a es)

theorem seg_one (s : ByteArray) (a : Nat) {b : UInt8} (h : (tx s)[a]? = some b) : s.extract a (a + 1) = ⟨#[b]⟩ := by
  rw [ext_seg, seg_snoc (Nat.le_refl _) h, seg_self]
  rfl
theorem bare_txt {L : Bs} {n a : Nat} {es : List Ev} (h : Pl L 2 n a es) : txt (seg L a n) = seg L a n := by
  rcases h with ⟨h, _⟩ | ⟨_, q, hq, h, h0⟩ | ⟨h, _⟩ | ⟨h, _⟩ | ⟨h, _⟩ | ⟨h, _⟩
  all_goals first | omega | skip
  refine txt_bare ?_
  have hok := h.ok
  unfold OkQ at hok
  rcases hq with rfl | rfl
  · simp at hok
    rw [hok]
    simp
  · simp at hok
    exact hok.2
theorem inner_pr {L : Bs} {n a : Nat} {es : List Ev} (h : Pl L 1 n a es) : ∃ i, seg L a (n + 1) = 34 :: i ∧ pr i = true := by
  rcases h with ⟨h, _⟩ | ⟨h, _⟩ | ⟨_, h⟩ | ⟨h, _⟩ | ⟨h, _⟩ | ⟨h, _⟩
  all_goals first | omega | skip
  have hok := h.ok
  simp [OkQ] at hok
  exact hok

set_option maxHeartbeats 2000000 in
set_option maxRecDepth 1000000 in
theorem field_any (s : ByteArray) (a : Nat) (es : List Ev) (w : World) (hs : s.size ≤ 100000) (ha : a ≤ s.size) (hinv : Inv (tx s) 0 a [] es) :
    Calls Tryd.prog 37 #[.string s, .int .i64 a] w (FieldPost s a es w) := by
  by_cases hz : bz ((tx s).drop a) = 34
  · have HP := Lib.hid (field_quoted hinv hz)
    obtain ⟨b0, hb0, e0⟩ := z_byte hz (by rw [tx_size]; exact ha) (by decide)
    have hl : a < s.size := by rw [← tx_size]; exact (List.getElem?_eq_some_iff.1 hb0).1
    have h34 : (s[a].toNat : Int) = 34 := by rw [e0]; rw [tx_get s a hl] at hb0; injection hb0 with h; rw [h]
    clear hz hinv hb0 e0
    have hd : decide (s.size ≤ a) = false := decide_eq_false (by omega)
    go_enter Tryd.func37, Tryd.ntmps37
    go_wp2
    go_loopw [1, 6] (fun s1 s6 wx => wx = w ∧ ∃ (n : Nat) (i : Bs), a ≤ n ∧ n + 1 ≤ s.size ∧ s1 = .int .i64 ((n + 1 : Nat) : Int) ∧ s6 = .string ⟨(und i).toArray⟩ ∧ Pl (tx s) 1 n a es ∧ seg (tx s) a (n + 1) = 34 :: i ∧ pr i = true) (fun s1 _ _ => s.size + 1 - (RowKit.intOf s1).toNat)
    case atStart =>
      obtain ⟨i, hi, hp⟩ := inner_pr HP.out
      have hi' := hi
      rw [seg_snoc (Nat.le_refl _) (tx_get s a hl), seg_self] at hi'
      simp at hi'
      refine ⟨rfl, a, i, Nat.le_refl _, hl, rfl, ?_, HP.out, hi, hp⟩
      rw [hi'.2]
      rfl
    case round =>
      obtain ⟨rfl, n, i, han, hns, rfl, rfl, hpl, hseg, hpr⟩ := hrel
      have HPL := Lib.hid hpl
      have HSEG := Lib.hid hseg
      have HPR := Lib.hid hpr
      have hil : i.length ≤ 100000 := by
        have h1 := congrArg List.length hseg
        have h2 := seg_len (tx s) a (n + 1)
        rw [tx_size] at h2
        simp at h1
        omega
      have hul := und_len _ i (Nat.le_refl _)
      obtain ⟨T, hT⟩ : ∃ T, (⟨(und i).toArray⟩ : ByteArray) = T := ⟨_, rfl⟩
      have hTs : T.size ≤ 100000 := by
        rw [← hT]
        show (und i).toArray.size ≤ _
        simp
        omega
      rw [hT]
      have HT := Lib.hid hT
      clear hT hpl hseg hpr hul hil
      by_cases hlt : n + 1 < s.size
      · by_cases hq : (s[n + 1].toNat : Int) = 34
        · by_cases hq2 : ∃ h : n + 1 + 1 < s.size, (s[n + 1 + 1].toNat : Int) = 34
          · obtain ⟨hlt2, hq2⟩ := hq2
            have z1 : bz ((tx s).drop (n + 1)) = 34 := by rw [drop_at (tx_get s (n + 1) hlt)]; exact hq
            have z2 : bz ((tx s).drop (n + 1 + 1)) = 34 := by rw [drop_at (tx_get s (n + 1 + 1) hlt2)]; exact hq2
            have HN := Lib.hid (closed_quoted (quoted_closed HPL.out han z1) (by omega) z2)
            have c1 : s[n + 1] = 34 := u8_34 (by omega)
            have c2 : s[n + 1 + 1] = 34 := u8_34 (by omega)
            have hs2 : seg (tx s) a (n + 1 + 1 + 1) = 34 :: (i ++ [34, 34]) := by
              rw [seg_snoc (by omega) (tx_get s (n + 1 + 1) hlt2), seg_snoc (by omega) (tx_get s (n + 1) hlt), HSEG.out, c1, c2]
              simp
            have HS2 := Lib.hid hs2
            clear z1 z2 c1 c2 hs2
            go_wp2
            go_roundw
            case measure => simp [RowKit.intOf]; omega
            refine ⟨trivial, n + 1 + 1, i ++ [34, 34], by omega, by omega, by go_num, ?_, HN.out, HS2.out, (und_two HPR.out).2⟩
            rw [(und_two HPR.out).1, ← HT.out, ← bytes_app]
          · have z1 : bz ((tx s).drop (n + 1)) = 34 := by rw [drop_at (tx_get s (n + 1) hlt)]; exact hq
            have c1 : s[n + 1] = 34 := u8_34 (by omega)
            have z2 : bz ((tx s).drop (n + 1 + 1)) ≠ 34 := by
              intro e
              obtain ⟨b, hb, e2⟩ := z_byte e (by rw [tx_size]; omega) (by decide)
              have h : n + 1 + 1 < s.size := by rw [← tx_size]; exact (List.getElem?_eq_some_iff.1 hb).1
              rw [tx_get s _ h] at hb
              injection hb with hb
              exact hq2 ⟨h, by rw [hb]; omega⟩
            have HN := Lib.hid (closed_ended (quoted_closed HPL.out han z1) z2)
            have hs2 : seg (tx s) a (n + 1 + 1) = 34 :: (i ++ [34]) := by
              rw [seg_snoc (by omega) (tx_get s (n + 1) hlt), HSEG.out, c1]
              simp
            have HS2 := Lib.hid hs2
            clear z1 z2 c1 hs2
            by_cases hlt2 : n + 1 + 1 < s.size
            · have hq3 : ((s[n + 1 + 1].toNat : Int) == 34) = false := by
                rw [beq_eq_false_iff_ne]
                exact fun e => hq2 ⟨hlt2, e⟩
              clear hq2
              go_wp2
              go_ret2
              refine ⟨rfl, .inr ⟨n + 1 + 1, ?_, by omega, by omega, HN.out⟩⟩
              rw [HS2.out, txt_quoted, HT.out]
              rfl
            · clear hq2
              go_wp2
              go_ret2
              refine ⟨rfl, .inr ⟨n + 1 + 1, ?_, by omega, by omega, HN.out⟩⟩
              rw [HS2.out, txt_quoted, HT.out]
              rfl
        · have hq' : ((s[n + 1].toNat : Int) != 34) = true := by simpa using hq
          have hzn : bz ((tx s).drop (n + 1)) = (s[n + 1].toNat : Int) := by rw [drop_at (tx_get s (n + 1) hlt)]; rfl
          have HN := Lib.hid (quoted_on HPL.out han (by rw [hzn]; exact hq) (by rw [hzn]; omega))
          have hs2 : seg (tx s) a (n + 1 + 1) = 34 :: (i ++ [s[n + 1]]) := by
            rw [seg_snoc (by omega) (tx_get s (n + 1) hlt), HSEG.out]
            simp
          have hne : s[n + 1] ≠ 34 := u8_34' (by omega)
          have HU2 := Lib.hid (und_snoc HPR.out hne)
          have HS2 := Lib.hid hs2
          have hsl : ∀ W, (Instr.slice 9 (.string s) (some (.int .i64 ((n : Int) + 1))) (some (.int .i64 ((n : Int) + 1 + 1))) none).run Tryd.prog W = .ok (.string ⟨#[s[n + 1]]⟩) W := fun W => by
            rw [run_slice_string (P := Tryd.prog) W 9 s .i64 .i64 ((n : Int) + 1) ((n : Int) + 1 + 1) Tryd.underlying9 (by omega) (by omega) (by omega)]
            rw [← seg_one s (n + 1) (tx_get s (n + 1) hlt)]
            rfl
          have h1s : (⟨#[s[n + 1]]⟩ : ByteArray).size = 1 := rfl
          obtain ⟨U, hU⟩ : ∃ U, (⟨#[s[n + 1]]⟩ : ByteArray) = U := ⟨_, rfl⟩
          rw [hU] at hsl h1s
          have HU := Lib.hid hU
          clear hU hzn hs2 hq hne
          go_wp2
          go_roundw
          case measure => simp [RowKit.intOf]; omega
          refine ⟨trivial, n + 1, i ++ [s[n + 1]], by omega, by omega, by go_num, ?_, HN.out, HS2.out, HU2.out.2⟩
          rw [HU2.out.1, ← HT.out, ← HU.out, ← bytes_app]
      · have hn1 : n + 1 = s.size := by omega
        have HE := Lib.hid (quoted_cut HPL.out (by rw [drop_end (by rw [tx_size]; exact hn1)]; rfl))
        go_wp2
        go_ret2
        refine ⟨rfl, .inl ⟨?_, ?_, HE.out.2⟩⟩
        · rw [← hn1]
          rfl
        · rw [HE.out.1, hn1]
  · have HP := Lib.hid (field_bare hinv hz)
    have HZ := Lib.hid hz
    have hcond : (∃ _ : a < s.size, ((s[a].toNat : Int) != 34) = true ∧ decide (s.size ≤ a) = false) ∨ (s.size ≤ a ∧ decide (s.size ≤ a) = true) := by
      by_cases hl : a < s.size
      · refine .inl ⟨hl, ?_, decide_eq_false (by omega)⟩
        rw [drop_at (tx_get s a hl)] at hz
        simpa [bz] using hz
      · exact .inr ⟨by omega, decide_eq_true (by omega)⟩
    clear hz hinv
    go_enter Tryd.func37, Tryd.ntmps37
    rcases hcond with ⟨hl, hb34, hd⟩ | ⟨hge, hd⟩
    all_goals
      go_wp2
      go_loopw [1, 6] (fun s1 s6 wx => wx = w ∧ ∃ n : Nat, a ≤ n ∧ n ≤ s.size ∧ s1 = .int .i64 n ∧ s6 = .string ⟨(seg (tx s) a n).toArray⟩ ∧ Pl (tx s) 2 n a es) (fun s1 _ _ => s.size - (RowKit.intOf s1).toNat)
      case atStart => exact ⟨rfl, a, Nat.le_refl _, ha, rfl, by rw [seg_self], HP.out⟩
      case round =>
        obtain ⟨rfl, n, han, hns, rfl, rfl, hpl⟩ := hrel
        have HPL := Lib.hid hpl
        clear hpl
        obtain ⟨T, hT⟩ : ∃ T, (⟨(seg (tx s) a n).toArray⟩ : ByteArray) = T := ⟨_, rfl⟩
        have hTs : T.size ≤ 100000 := by
          rw [← hT]
          show (seg (tx s) a n).toArray.size ≤ _
          have := seg_len (tx s) a n
          rw [tx_size] at this
          simp
          omega
        rw [hT]
        have HTT := Lib.hid hT
        clear hT
        by_cases hlt : n < s.size
        · try (exfalso; omega)
          all_goals
            have hB := bare_any (s[n].toNat : Int) wr (by omega)
            have hzn : bz ((tx s).drop n) = (s[n].toNat : Int) := by rw [drop_at (tx_get s n hlt)]; rfl
            rw [← hzn] at hB
            obtain ⟨t, ht⟩ : ∃ t, bareZ (bz ((tx s).drop n)) = t := ⟨_, rfl⟩
            rw [ht, hzn] at hB
            have HB := Lib.hid hB
            have HT := Lib.hid ht
            clear hB hzn ht
            cases t
            · go_wp2_with (go_at_call 49; refine HB.out.mono ?_; rintro e w' ⟨rfl, rfl⟩)
              go_ret2
              refine ⟨rfl, .inr ⟨n, ?_, han, hns, bare_ended HPL.out HT.out⟩⟩
              rw [bare_txt HPL.out, HTT.out]
              rfl
            · have hsl : ∀ W, (Instr.slice 9 (.string s) (some (.int .i64 (n : Int))) (some (.int .i64 ((n : Int) + 1))) none).run Tryd.prog W = .ok (.string ⟨#[s[n]]⟩) W := fun W => by
                rw [run_slice_string (P := Tryd.prog) W 9 s .i64 .i64 (n : Int) ((n : Int) + 1) Tryd.underlying9 (by omega) (by omega) (by omega)]
                rw [← seg_one s n (tx_get s n hlt)]
                rfl
              have h1s : (⟨#[s[n]]⟩ : ByteArray).size = 1 := rfl
              obtain ⟨U, hU⟩ : ∃ U, (⟨#[s[n]]⟩ : ByteArray) = U := ⟨_, rfl⟩
              rw [hU] at hsl h1s
              have HU := Lib.hid hU
              clear hU
              go_wp2_with (go_at_call 49; refine HB.out.mono ?_; rintro e w' ⟨rfl, rfl⟩)
              go_roundw
              case measure => simp [RowKit.intOf]; omega
              refine ⟨trivial, n + 1, by omega, by omega, by go_num, ?_, bare_on HPL.out han HT.out⟩
              rw [seg_snoc han (tx_get s n hlt), ← bytes_app, HTT.out, ← HU.out]
        · have hns2 : n = s.size := by omega
          go_wp2
          go_ret2
          refine ⟨rfl, .inr ⟨n, ?_, han, hns, bare_ended HPL.out (by rw [drop_end (by rw [tx_size]; exact hns2)]; rfl)⟩⟩
          rw [bare_txt HPL.out, HTT.out]
          rfl
end Go.Proofs.YtafpddpeffpnfaaDoor.Cv
