/-
  Proved here: what the document's own answer parquetryref10.Match returns, for every row of numbers of at most 2^40: a new row, by the plain matchL; and closed of the statements. They leave what was in memory.
-/
import Derived.Test.YtifaimoaaiikpaaBaRef
import Derived.Test.YtifaimoaaiikpaaAddInts
set_option linter.unusedVariables false
namespace Go.Proofs.Ytifaimoaaiikpaa.Ba
open Go.RowKit Go.Lib Go.Proofs.Ytifaimoaaiikpaa.Cl

/-- Whether an initiator stands at a place, and ends at another. -/
def EndsAt (l : List Int) (t i : Nat) : Prop := ∃ h : t < l.length, isI l[t] = true ∧ endAt l t = i
/-- What is found among the places ahead of k as the initiator of the PDI at i. -/
def Found (l : List Int) (i k : Nat) (v : Int) : Prop := (v = -1 ∧ ∀ t, t < k → ¬ EndsAt l t i) ∨ (∃ t, t < k ∧ EndsAt l t i ∧ v = t)
theorem found_zero (l : List Int) (i : Nat) : Found l i 0 (-1) := .inl ⟨rfl, fun t h => by omega⟩
theorem found_yes {l : List Int} {i k : Nat} {v : Int} (h : Found l i k v) (hk : EndsAt l k i) : Found l i (k + 1) k := .inr ⟨k, by omega, hk, rfl⟩
theorem found_no {l : List Int} {i k : Nat} {v : Int} (h : Found l i k v) (hk : ¬ EndsAt l k i) : Found l i (k + 1) v := by
  rcases h with ⟨h1, h2⟩ | ⟨t, h1, h2, h3⟩
  · refine .inl ⟨h1, fun t ht => ?_⟩
    by_cases e : t = k
    · subst e; exact hk
    · exact h2 t (by omega)
  · exact .inr ⟨t, by omega, h2, h3⟩
theorem found_end {l : List Int} {i : Nat} {v : Int} (hi : i < l.length) (hp : isP l[i] = true) (h : Found l i i v) : v = mtK l l.length i := by
  rw [mt_P hi hp]
  rcases h with ⟨h1, h2⟩ | ⟨t, h1, ⟨hlt, h2, h3⟩, h4⟩
  · cases hs : stk l i with
    | nil => exact h1
    | cons t r =>
      obtain ⟨e1, e2, e3⟩ := ends_top hi hp hs
      rw [List.getElem?_eq_getElem (by omega)] at e3
      exact absurd ⟨by omega, by simpa using e3, e1⟩ (h2 t e2)
  · obtain ⟨r, hs⟩ := ends_only hi hlt h2 h3
    rw [hs]
    exact h4
theorem matchL_take (l : List Int) (k : Nat) (hk : k < l.length) : icl ((matchL l).take (k + 1)) = icl ((matchL l).take k) ++ [.int .i64 (mtK l l.length k)] := by
  unfold icl
  rw [List.take_succ_eq_append_getElem (by rw [matchL_len]; exact hk), List.map_append, matchL_at _ _ hk]
  rfl

set_option maxHeartbeats 2000000 in
set_option maxRecDepth 100000 in
theorem refmatch_any (A : Option Addr) (l : List Int) (n m : Nat) (w : World) (hl : l.length = n) (hR : IntsAt w A l) (hn : n ≤ 1099511627776) :
    Calls Try.prog 15 #[.slice A n m] w fun e w' => ∃ v, e = .returned v ∧ w'.ownsRow w.heap.size 3 1 v n ((matchL l).map (Value.int .i64)) ∧ Below w.heap.size w w' := by
  obtain ⟨i0, hi0, hz0, hz1, hz2⟩ := info_parts infoInt
  have HR := Lib.hid hR
  have HL := Lib.hid hl
  have HALL := Lib.hid (show (matchL l).take n = matchL l by rw [← hl, ← matchL_len l, List.take_length])
  have HTK := Lib.hid (fun k hk => matchL_take l k hk)
  have HE := Lib.hid (fun i hi W h => end_any A l n m i W hl h hn hi)
  clear hR hl
  go_enter Try.func15, Try.ntmps15
  go_wp2_with fail
  go_loopw [3, 4] (fun s3 s4 wx => ∃ i : Nat, i ≤ n ∧ s4 = .int .i64 i ∧ Below w.heap.size w wx ∧ wx.ownsRow w.heap.size 3 1 s3 i (icl ((matchL l).take i))) (fun _ s4 _ => n - (RowKit.intOf s4).toNat)
  case atStart => exact ⟨0, Nat.zero_le _, rfl, Below.refl _ _, World.ownsRow_nil _ _ _ _⟩
  case round =>
    obtain ⟨i, hi, rfl, hb, hown⟩ := hrel
    have HB := Lib.hid hb
    have HOWN := Lib.hid hown
    clear hb hown
    by_cases hlt : i < n
    · have hkl : i < l.length := by rw [HL.out]; exact hlt
      have HRr := Lib.hid (HR.out.below HB.out)
      obtain ⟨b, off, rfl, hc0⟩ := HRr.out.at_ hkl
      have HEr := Lib.hid (fun t ht => HE.out t ht wr HRr.out)
      have HT := Lib.hid (HTK.out i hkl)
      obtain ⟨z, hz⟩ : ∃ z, mtK l l.length i = z := ⟨_, rfl⟩
      rw [hz] at HT
      have HMI := Lib.hid (fun h => (mt_I hkl h).symm.trans hz)
      have HMN := Lib.hid (fun h h2 => (mt_N (k := l.length) hkl h h2).symm.trans hz)
      have HMP := Lib.hid (fun h v hv => (found_end (v := v) hkl h hv).trans hz)
      clear hz HTK HE
      have hbs := HB.out.size
      have hlt2 := HOWN.out.lt
      have HLT2 := Lib.hid hlt2
      clear hlt2
      generalize hcc : l[i] = c at *
      cases hI : isI c with
      | true =>
        have hzz := HMI.out hI
        have hP2 : (c == 22) = false := by
          have := isI_not_isP hI
          simpa [isP] using this
        have HE1 := Lib.hid (HEr.out i hlt)
        rw [hzz] at HE1
        clear HMI HMN HMP hzz HEr
        go_wp2_with (first | (go_at_call 25; refine (init_any _ _).mono ?_; rintro e w' ⟨rfl, rfl⟩) | (go_at_call 26; refine (HE1.out).mono ?_; rintro e w' ⟨rfl, rfl⟩))
        go_loop [5, 6] (fun s5 s6 => s5 = .int .i64 z ∧ s6 = .int .i64 0) (fun _ _ => 0)
        case atStart => exact ⟨rfl, rfl⟩
        case round =>
          obtain ⟨rfl, rfl⟩ := hrel
          rcases Nat.eq_zero_or_pos i with h0 | h0
          · have hd : decide (0 < i) = false := decide_eq_false (by omega)
            clear h0
            go_wp2_with (at_builtin; refine wpList_append_own _ rfl _ _ 25 rfl w.heap.size 3 i0 (.int .i64 0) 1 8 Try.underlying25 hi0 hz0 hz1 hz2 rfl (by decide) _ _ _ rfl (HOWN.out.alloc _) ⟨wr.heap.size, 0, none⟩ 1 1 [.int .i64 z] rfl rfl (cell_one_new' rfl) (ints_single _) (by unfold maxLen; omega) (by omega) (by simp; omega) ?_)
            intro v' w5 hown' hgrow _
            have HG := Lib.hid hgrow
            have HO' := Lib.hid hown'
            clear hgrow hown'
            go_wp2
            go_roundw
            case measure => simp [RowKit.intOf]; omega
            case rel =>
              refine ⟨i + 1, by omega, by go_num, ?_, ?_⟩
              · exact (HB.out.alloc hbs _).grown HG.out (by simp; omega) (fun x hx => (HLT2.out x hx).1)
              · rw [HT.out]; exact HO'.out
          · have hd : decide (0 < i) = true := decide_eq_true h0
            go_wp2_with (at_builtin; refine wpList_append_own _ rfl _ _ 25 rfl w.heap.size 3 i0 (.int .i64 0) 1 8 Try.underlying25 hi0 hz0 hz1 hz2 rfl (by decide) _ _ _ rfl (HOWN.out.alloc _) ⟨wr.heap.size, 0, none⟩ 1 1 [.int .i64 z] rfl rfl (cell_one_new' rfl) (ints_single _) (by unfold maxLen; omega) (by omega) (by simp; omega) ?_)
            intro v' w5 hown' hgrow _
            have HG := Lib.hid hgrow
            have HO' := Lib.hid hown'
            clear hgrow hown'
            go_wp2
            go_roundw
            case measure => simp [RowKit.intOf]; omega
            case rel =>
              refine ⟨i + 1, by omega, by go_num, ?_, ?_⟩
              · exact (HB.out.alloc hbs _).grown HG.out (by simp; omega) (fun x hx => (HLT2.out x hx).1)
              · rw [HT.out]; exact HO'.out
      | false =>
        by_cases hP : c = 22
        · subst hP
          clear HMI HMN
          go_wp2_with (first | (go_at_call 25; refine (init_any _ _).mono ?_; rintro e w' ⟨rfl, rfl⟩))
          go_loop [5, 6] (fun s5 s6 => ∃ (k : Nat) (v : Int), s5 = .int .i64 v ∧ s6 = .int .i64 k ∧ k ≤ i ∧ Found l i k v) (fun _ s6 => i - (RowKit.intOf s6).toNat)
          case atStart => exact ⟨0, -1, rfl, rfl, Nat.zero_le _, found_zero l i⟩
          case round =>
            obtain ⟨k, v, rfl, rfl, hk, hf⟩ := hrel
            have HF := Lib.hid hf
            clear hf
            by_cases hki : k < i
            · have hd : decide (k < i) = true := decide_eq_true hki
              have hkl2 : k < l.length := by omega
              obtain ⟨b2, off2, hab, hc2⟩ := HRr.out.at_ hkl2
              injection hab with hab
              injection hab with hab1 hab2
              subst hab1 hab2
              have HYES := Lib.hid (fun h => found_yes HF.out h)
              have HNO := Lib.hid (fun h => found_no HF.out h)
              have HE1 := Lib.hid (HEr.out k (by omega))
              have HIS := Lib.hid (show EndsAt l k i ↔ isI l[k] = true ∧ endAt l k = i from ⟨fun ⟨_, h1, h2⟩ => ⟨h1, h2⟩, fun ⟨h1, h2⟩ => ⟨hkl2, h1, h2⟩⟩)
              obtain ⟨y, hy⟩ : ∃ y, l[k] = y := ⟨_, rfl⟩
              obtain ⟨e, he⟩ : ∃ e, endAt l k = e := ⟨_, rfl⟩
              rw [hy] at hc2 HIS
              rw [he] at HE1 HIS
              clear hy he
              cases hIk : isI y with
              | false =>
                have HN2 := Lib.hid (HNO.out (fun h => by rw [hIk] at HIS; exact absurd (HIS.out.1 h).1 (by decide)))
                clear HNO HYES HIS HE1
                go_wp2_with (first | (go_at_call 25; refine (init_any _ _).mono ?_; rintro e w' ⟨rfl, rfl⟩))
                go_round
                case measure => simp [RowKit.intOf]; omega
                case rel => exact ⟨k + 1, v, rfl, by go_num, by omega, HN2.out⟩
              | true =>
                by_cases hei : e = i
                · have HY2 := Lib.hid (HYES.out (HIS.out.2 ⟨hIk, hei⟩))
                  subst hei
                  clear HNO HYES HIS
                  go_wp2_with (first | (go_at_call 25; refine (init_any _ _).mono ?_; rintro e w' ⟨rfl, rfl⟩) | (go_at_call 26; refine (HE1.out).mono ?_; rintro e w' ⟨rfl, rfl⟩))
                  go_round
                  case measure => simp [RowKit.intOf]; omega
                  case rel => exact ⟨k + 1, k, rfl, by go_num, by omega, HY2.out⟩
                · have HN2 := Lib.hid (HNO.out (fun h => hei (HIS.out.1 h).2))
                  have he2 : (e == i) = false := by simpa using hei
                  have he3 : ((e : Int) == (i : Int)) = false := by simp; omega
                  clear HNO HYES HIS
                  go_wp2_with (first | (go_at_call 25; refine (init_any _ _).mono ?_; rintro e w' ⟨rfl, rfl⟩) | (go_at_call 26; refine (HE1.out).mono ?_; rintro e w' ⟨rfl, rfl⟩))
                  go_round
                  case measure => simp [RowKit.intOf]; omega
                  case rel => exact ⟨k + 1, v, rfl, by go_num, by omega, HN2.out⟩
            · have hd : decide (k < i) = false := decide_eq_false hki
              obtain rfl : k = i := by omega
              obtain rfl := HMP.out rfl v HF.out
              go_wp2_with (at_builtin; refine wpList_append_own _ rfl _ _ 25 rfl w.heap.size 3 i0 (.int .i64 0) 1 8 Try.underlying25 hi0 hz0 hz1 hz2 rfl (by decide) _ _ _ rfl (HOWN.out.alloc _) ⟨wr.heap.size, 0, none⟩ 1 1 [.int .i64 v] rfl rfl (cell_one_new' rfl) (ints_single _) (by unfold maxLen; omega) (by omega) (by simp; omega) ?_)
              intro v' w5 hown' hgrow _
              have HG := Lib.hid hgrow
              have HO' := Lib.hid hown'
              clear hgrow hown'
              go_wp2
              go_roundw
              case measure => simp [RowKit.intOf]; omega
              case rel =>
                refine ⟨k + 1, by omega, by go_num, ?_, ?_⟩
                · exact (HB.out.alloc hbs _).grown HG.out (by simp; omega) (fun x hx => (HLT2.out x hx).1)
                · rw [HT.out]; exact HO'.out
        · have hPf : isP c = false := by simpa [isP] using hP
          have hP2 : (c == 22) = false := by simpa using hP
          have hzz := HMN.out hPf hI
          subst hzz
          clear HMI HMN HMP HEr hPf
          go_wp2_with (first | (go_at_call 25; refine (init_any _ _).mono ?_; rintro e w' ⟨rfl, rfl⟩))
          go_loop [5, 6] (fun s5 s6 => s5 = .int .i64 (-1) ∧ s6 = .int .i64 0) (fun _ _ => 0)
          case atStart => exact ⟨rfl, rfl⟩
          case round =>
            obtain ⟨rfl, rfl⟩ := hrel
            rcases Nat.eq_zero_or_pos i with h0 | h0
            · have hd : decide (0 < i) = false := decide_eq_false (by omega)
              clear h0
              go_wp2_with (at_builtin; refine wpList_append_own _ rfl _ _ 25 rfl w.heap.size 3 i0 (.int .i64 0) 1 8 Try.underlying25 hi0 hz0 hz1 hz2 rfl (by decide) _ _ _ rfl (HOWN.out.alloc _) ⟨wr.heap.size, 0, none⟩ 1 1 [.int .i64 (-1)] rfl rfl (cell_one_new' rfl) (ints_single _) (by unfold maxLen; omega) (by omega) (by simp; omega) ?_)
              intro v' w5 hown' hgrow _
              have HG := Lib.hid hgrow
              have HO' := Lib.hid hown'
              clear hgrow hown'
              go_wp2
              go_roundw
              case measure => simp [RowKit.intOf]; omega
              case rel =>
                refine ⟨i + 1, by omega, by go_num, ?_, ?_⟩
                · exact (HB.out.alloc hbs _).grown HG.out (by simp; omega) (fun x hx => (HLT2.out x hx).1)
                · rw [HT.out]; exact HO'.out
            · have hd : decide (0 < i) = true := decide_eq_true h0
              go_wp2_with (at_builtin; refine wpList_append_own _ rfl _ _ 25 rfl w.heap.size 3 i0 (.int .i64 0) 1 8 Try.underlying25 hi0 hz0 hz1 hz2 rfl (by decide) _ _ _ rfl (HOWN.out.alloc _) ⟨wr.heap.size, 0, none⟩ 1 1 [.int .i64 (-1)] rfl rfl (cell_one_new' rfl) (ints_single _) (by unfold maxLen; omega) (by omega) (by simp; omega) ?_)
              intro v' w5 hown' hgrow _
              have HG := Lib.hid hgrow
              have HO' := Lib.hid hown'
              clear hgrow hown'
              go_wp2
              go_roundw
              case measure => simp [RowKit.intOf]; omega
              case rel =>
                refine ⟨i + 1, by omega, by go_num, ?_, ?_⟩
                · exact (HB.out.alloc hbs _).grown HG.out (by simp; omega) (fun x hx => (HLT2.out x hx).1)
                · rw [HT.out]; exact HO'.out
    · obtain rfl : i = n := by omega
      go_wp2
      go_ret
      have h0 := HOWN.out
      rw [HALL.out] at h0
      exact ⟨_, rfl, h0, HB.out⟩
end Go.Proofs.Ytifaimoaaiikpaa.Ba
