/-
  Proved here: what the document's own Tidy (parquetryref08.Tidy) returns, for every text of at most 3000 bytes; it leaves what was in memory. What records that were read are, and that they are read again as they were when they are written.
-/
import Derived.Test.YtafpddpeffpnfaaDoorQuWide
import Derived.Test.YtafpddpeffpnfaaDoorQuRefP
import Derived.Test.YtafpddpeffpnfaaDoorCvRef
set_option linter.unusedVariables false
namespace Go.Proofs.YtafpddpeffpnfaaDoor.Qu
open Go Go.RowKit Go.Lib Go.Proofs.YtafpddpeffpnfaaDoor.Cv

theorem recs_len {s : ByteArray} (hs : s.size ≤ 3000) : (recsP s).length ≤ 3001 ∧ sumLen (recsP s) ≤ 3001 ∧ bytesT (recsP s) ≤ 3000 := by
  have h1 := evs_most (tx s) 0 []
  rw [tx_size] at h1
  unfold recsP
  split
  · refine ⟨?_, ?_, ?_⟩
    · have := (g0_lens (evs 0 [] (tx s))).1
      omega
    · have h3 := (grp_counts (evs 0 [] (tx s)) ([], [])).2
      have e : sumLen ([] : List (List Bs)) = 0 := rfl
      simp only [List.length_nil, e] at h3
      show sumLen (grp ([], []) (evs 0 [] (tx s))).1 ≤ _
      omega
    · have h3 := grp_bytes (evs 0 [] (tx s)) ([], [])
      have h4 := evs_bytes (tx s) 0 []
      rw [tx_size] at h4
      have e : bytesT ([] : List (List Bs)) = 0 := rfl
      have e' : bytesR ([] : List Bs) = 0 := rfl
      simp only [List.length_nil, e, e'] at h3 h4
      show bytesT (grp ([], []) (evs 0 [] (tx s))).1 ≤ _
      omega
  · refine ⟨by simp, by simp [sumLen], by simp [bytesT]⟩
theorem recs_text {s : ByteArray} (hs : s.size ≤ 3000) : (textW (recsP s)).length ≤ 65536 := by
  have h1 := textW_len (recsP s)
  have h2 := recs_len hs
  omega
theorem recs_rows {s : ByteArray} (hs : s.size ≤ 3000) : ∀ r ∈ recsP s, r.length ≤ 1000000 := fun r hr => by
  have := sum_ge _ r hr
  have := (recs_len hs).2.1
  omega
theorem recs_ok {s : ByteArray} (hs : s.size ≤ 3000) : RecsOk (recsP s) := recsOk_of (by have := (recs_len hs).1; omega) (recs_rows hs) (recs_text hs)
theorem anyEmpty_of {R : List (List Bs)} (h : ∀ r ∈ R, r ≠ []) : anyEmpty R = false := by
  unfold anyEmpty
  rw [List.any_eq_false]
  intro r hr e
  exact h r hr (by simpa using e)
theorem bad_of {R : List (List Bs)} (h0 : R ≠ []) (h : ∀ r ∈ R, r ≠ []) : bad R = false := by
  unfold bad
  rw [anyEmpty_of h, Bool.or_false, decide_eq_false]
  intro e
  exact h0 (List.eq_nil_of_length_eq_zero e)
theorem recs_bad {s : ByteArray} (hs : s.size ≤ 65536) (he : erP s = 0) : bad (recsP s) = false := by
  have hp := (erP_zero hs).1 he
  have e : recsP s = (g0 (evs 0 [] (tx s))).1 := if_pos ⟨hs, hp⟩
  rw [e]
  refine bad_of ?_ ?_
  · exact (ends (tx s) 0 0 [] ([], []) (by decide) hp (by decide)).2
  · exact grp_ne (evs 0 [] (tx s)) ([], []) (by simp)
theorem bad_false {R : List (List Bs)} (h : bad R = false) : R ≠ [] ∧ ∀ r ∈ R, r ≠ [] := by
  unfold bad at h
  rw [Bool.or_eq_false_iff] at h
  refine ⟨?_, anyEmpty_false h.2⟩
  rintro rfl
  simp at h

/-- What was written is read as it was. -/
theorem back {R : List (List Bs)} (hb : bad R = false) (hl : (textW R).length ≤ 65536) (T : ByteArray) (hT : tx T = textW R) : erP T = 0 ∧ atP T = 0 ∧ recsP T = R := by
  obtain ⟨h0, h1⟩ := bad_false hb
  have hs : T.size ≤ 65536 := by rw [← tx_size, hT]; exact hl
  obtain ⟨hp, hg⟩ := text_run R [] 0 h0 h1
  rw [← hT] at hp hg
  refine ⟨(erP_zero hs).2 hp, ?_, ?_⟩
  · have e : atP T = pz (place 0 0 (tx T)) := if_pos hs
    rw [e, hp]
    rfl
  · have e : recsP T = (g0 (evs 0 [] (tx T))).1 := if_pos ⟨hs, hp⟩
    rw [e]
    show (grp ([], []) (evs 0 [] (tx T))).1 = R
    rw [hg]
    rfl

theorem refR_eq {s : ByteArray} (hs : s.size ≤ 65536) : refR s = recsP s := by
  unfold refR recsP
  by_cases hp : place 0 0 (tx s) = none
  · rw [if_pos hp, if_pos ⟨hs, hp⟩]
  · rw [if_neg hp, if_neg (fun h => hp h.2)]

set_option maxHeartbeats 1000000 in
set_option maxRecDepth 100000 in
theorem refTidy_any (s : ByteArray) (w : World) (hs : s.size ≤ 3000) :
    Calls Tryd.prog 18 #[.string s] w (TidyPost s w) := by
  have hP := refParse_any s w (by omega)
  unfold RefPost at hP
  rw [refR_eq (by omega)] at hP
  have hOK := Lib.hid (recs_ok hs)
  unfold TidyPost tdT tdA tdE
  have ea : atP s = pz (place 0 0 (tx s)) := if_pos (by omega)
  have ee : erP s = ez (place 0 0 (tx s)) := if_pos (by omega)
  cases hp : place 0 0 (tx s) with
  | none =>
    rw [hp] at hP ea ee
    have h0 : erP s = 0 := ee
    rw [if_pos h0, if_pos h0, if_pos h0]
    have HP := Lib.hid hP
    obtain ⟨T, hT⟩ : ∃ T, prT (recsP s) = T := ⟨_, rfl⟩
    obtain ⟨E, hE⟩ : ∃ E, prE (recsP s) = E := ⟨_, rfl⟩
    rw [hT, hE]
    have HT := Lib.hid hT
    have HE := Lib.hid hE
    clear hP hT hE h0 ea ee hp
    go_enter Tryd.func18, Tryd.ntmps18
    go_wp2_with fail
    refine HP.out.mono ?_
    rintro e w1 ⟨A, c, rfl, hR, hb1⟩
    have HR := Lib.hid hR
    obtain ⟨n, hn⟩ : ∃ n, (recsP s).length = n := ⟨_, rfl⟩
    have hneg : refZ none = -1 := rfl
    rw [hn, hneg]
    have HN := Lib.hid hn.symm
    clear hn hR hneg
    go_wp2_with fail
    refine (refPrint_any A (recsP s) n c HN.out w1 HR.out hOK.out).mono ?_
    rintro e w2 ⟨rfl, hb2⟩
    rw [HT.out, HE.out]
    go_wp2_with fail
    go_ret3
    exact ⟨rfl, hb1.trans (hb2.mono hb1.size)⟩
  | some k =>
    rw [hp] at hP ea ee
    have h2 : erP s = 2 := ee
    have hne : erP s ≠ 0 := by rw [h2]; decide
    rw [if_neg hne, if_neg hne, if_neg hne, h2, ea]
    have hk : pz (some k) = (k : Int) := rfl
    have hk2 : refZ (some k) = (k : Int) := rfl
    rw [hk2] at hP
    rw [hk]
    have HP := Lib.hid hP
    clear hP ea ee h2 hne hk hk2 hp
    go_enter Tryd.func18, Tryd.ntmps18
    go_wp2_with fail
    refine HP.out.mono ?_
    rintro e w1 ⟨A, c, rfl, hR, hb1⟩
    obtain ⟨n, hn⟩ : ∃ n, (recsP s).length = n := ⟨_, rfl⟩
    rw [hn]
    clear hn hR
    go_wp2_with fail
    go_ret3
    exact ⟨rfl, hb1⟩
end Go.Proofs.YtafpddpeffpnfaaDoor.Qu
