/-
  Proved here: parquetryref07.Same of two slices that read as records says whether these are the same; it leaves what was in memory.
-/
import Derived.Test.YtdkdmfbhnaaobaaCvSame
import Derived.Lib.SlicesS
set_option linter.unusedVariables false
namespace Go.Proofs.Ytdkdmfbhnaaobaa.Cv
open Go Go.RowKit Go.Lib

def LikePost (R Q : List (List Bs)) (w : World) (e : Ending) (w' : World) : Prop := e = .returned (.bool (decide (R = Q))) ∧ Below w.heap.size w w'
theorem LikePost.no {R Q : List (List Bs)} {w w' : World} (h : R ≠ Q) (hb : Below w.heap.size w w') : LikePost R Q w (.returned (.bool false)) w' := ⟨by rw [decide_eq_false h], hb⟩
theorem LikePost.yes {R Q : List (List Bs)} {w w' : World} (h : R = Q) (hb : Below w.heap.size w w') : LikePost R Q w (.returned (.bool true)) w' := ⟨by rw [decide_eq_true h], hb⟩
theorem take_step {α : Type} {R Q : List α} {k : Nat} (h1 : k < R.length) (h2 : k < Q.length) : (R[k] ≠ Q[k] → R ≠ Q) ∧ (R[k] = Q[k] → R.take k = Q.take k → R.take (k + 1) = Q.take (k + 1)) :=
  ⟨fun h e => h (by subst e; rfl), fun h e => by rw [List.take_add_one, List.take_add_one, e, List.getElem?_eq_getElem h1, List.getElem?_eq_getElem h2, h]⟩
theorem beq_no {X Y : ByteArray} (h : X ≠ Y) : (X.toList == Y.toList) = false := (bytes_beq_false_iff X Y).2 h
theorem beq_yes (X : ByteArray) : (X.toList == X.toList) = true := (bytes_beq_iff X X).2 rfl
theorem bytes_inj {x y : Bs} (h : (⟨x.toArray⟩ : ByteArray) = ⟨y.toArray⟩) : x = y := by
  injection h with h
  simpa using h

set_option maxHeartbeats 2000000 in
set_option maxRecDepth 1000000 in
theorem same_any (A B : Option Addr) (R Q : List (List Bs)) (c d : Nat) (w : World) (ha : RecsAt w A R) (hb : RecsAt w B Q) (hl : R.length ≤ 1000000) (hl2 : Q.length ≤ 1000000) (hm : ∀ r ∈ R, r.length ≤ 1000000) (hm2 : ∀ r ∈ Q, r.length ≤ 1000000) :
    Calls Try.prog 17 #[.slice A R.length c, .slice B Q.length d] w (LikePost R Q w) := by
  have HA := Lib.hid ha
  have HB := Lib.hid hb
  have HM := Lib.hid hm
  have HM2 := Lib.hid hm2
  clear ha hb hm hm2
  by_cases hlen : R.length = Q.length
  case neg =>
    have hne : R ≠ Q := fun e => hlen (by rw [e])
    have e1 : ((R.length : Int) == (Q.length : Int)) = false := by rw [beq_eq_false_iff_ne]; omega
    have HNE := Lib.hid hne
    clear hne
    go_enter Try.func17, Try.ntmps17
    go_wp2_with fail
    go_ret
    exact .no HNE.out (Below.refl _ _)
  obtain ⟨n, hn⟩ : ∃ n, R.length = n := ⟨_, rfl⟩
  have hn2 : Q.length = n := by omega
  rw [hn, hn2]
  clear hlen hl2
  rw [hn] at hl
  have HN := Lib.hid hn
  have HN2 := Lib.hid hn2
  clear hn hn2
  go_enter Try.func17, Try.ntmps17
  go_wp2_with fail
  go_loopw [5] (fun s5 wx => ∃ k : Nat, k ≤ n ∧ s5 = .int .i64 k ∧ Below w.heap.size w wx ∧ R.take k = Q.take k) (fun s5 _ => n - (RowKit.intOf s5).toNat)
  case atStart => exact ⟨0, Nat.zero_le _, rfl, Below.refl _ _, by simp⟩
  case round =>
    obtain ⟨k, hk, rfl, hbw, htk⟩ := hrel
    have HBW := Lib.hid hbw
    have HTK := Lib.hid htk
    clear hbw htk
    by_cases hlt : k < n
    · have h1 : k < R.length := by rw [HN.out]; exact hlt
      have h2 : k < Q.length := by rw [HN2.out]; exact hlt
      obtain ⟨g, o, A1, c1, rfl, a1, v1⟩ := (HA.out.below HBW.out).at_ h1
      obtain ⟨g', o', B1, d1, rfl, b1, u1⟩ := (HB.out.below HBW.out).at_ h2
      have hr := HM.out R[k] (List.getElem_mem h1)
      have hr2 := HM2.out Q[k] (List.getElem_mem h2)
      have hst := take_step h1 h2
      obtain ⟨r, er⟩ : ∃ r, R[k] = r := ⟨_, rfl⟩
      obtain ⟨q, eq⟩ : ∃ q, Q[k] = q := ⟨_, rfl⟩
      rw [er] at a1 v1 hr hst
      rw [eq] at b1 u1 hr2 hst
      have HST := Lib.hid hst
      have V1 := Lib.hid v1
      have U1 := Lib.hid u1
      have hgl := Lib.hid (World.block_lt_of_cell? wr _ a1)
      have hgl' := Lib.hid (World.block_lt_of_cell? wr _ b1)
      clear v1 u1 hst er eq h1 h2
      by_cases hrl : r.length = q.length
      · obtain ⟨m, hm⟩ : ∃ m, r.length = m := ⟨_, rfl⟩
        have hm2 : q.length = m := by omega
        rw [hm] at a1 hr
        rw [hm2] at b1
        have A1c := Lib.hid a1
        have B1c := Lib.hid b1
        have HMr := Lib.hid hm
        have HMq := Lib.hid hm2
        clear hrl hr2 hm hm2
        go_wp2_with fail
        go_quiet (fail)
        go_wp2_with fail
        clear a1 b1
        go_loopw [6] (fun s6 wx => ∃ j : Nat, j ≤ m ∧ s6 = .int .i64 j ∧ Below wr.heap.size wr wx ∧ r.take j = q.take j) (fun s6 _ => m - (RowKit.intOf s6).toNat)
        case atStart => exact ⟨0, Nat.zero_le _, rfl, drewN_below _ _, by simp⟩
        case round =>
          obtain ⟨j, hj, rfl, hbi, htj⟩ := hrel
          have a1 := (hbi.cell (p := ⟨g, o + k, none⟩) hgl.out).trans A1c.out
          have b1 := (hbi.cell (p := ⟨g', o' + k, none⟩) hgl'.out).trans B1c.out
          have HBI := Lib.hid hbi
          have HTJ := Lib.hid htj
          clear hbi htj
          by_cases hlj : j < m
          · have h1 : j < r.length := by rw [HMr.out]; exact hlj
            have h2 : j < q.length := by rw [HMq.out]; exact hlj
            have hlc : j < (rowC r).length := by simpa [rowC] using h1
            have hlc2 : j < (rowC q).length := by simpa [rowC] using h2
            obtain ⟨g2, o2, hA1, c2⟩ := (V1.out.below HBI.out).at_ hlc
            obtain ⟨g3, o3, hB1, c3⟩ := (U1.out.below HBI.out).at_ hlc2
            subst hA1
            subst hB1
            have e : (rowC r)[j] = .string ⟨r[j].toArray⟩ := by simp [rowC, bx]
            have e2 : (rowC q)[j] = .string ⟨q[j].toArray⟩ := by simp [rowC, bx]
            rw [e] at c2
            rw [e2] at c3
            have hs2 := take_step h1 h2
            have hinj : (⟨r[j].toArray⟩ : ByteArray) = ⟨q[j].toArray⟩ → r[j] = q[j] := bytes_inj
            have hcon : r[j] = q[j] → (⟨r[j].toArray⟩ : ByteArray) = ⟨q[j].toArray⟩ := fun h => by rw [h]
            obtain ⟨X, eX⟩ : ∃ X, (⟨r[j].toArray⟩ : ByteArray) = X := ⟨_, rfl⟩
            obtain ⟨Y, eY⟩ : ∃ Y, (⟨q[j].toArray⟩ : ByteArray) = Y := ⟨_, rfl⟩
            rw [eX] at c2 hinj hcon
            rw [eY] at c3 hinj hcon
            by_cases hXY : X = Y
            · have hs3 := hs2.2 (hinj hXY) HTJ.out
              have HS3 := Lib.hid hs3
              clear e e2 hlc hlc2 hs2 hs3 hinj hcon eX eY h1 h2
              subst hXY
              go_wp2_with fail
              go_quiet (fail)
              go_wp2_with fail
              go_roundw
              case rel => exact ⟨j + 1, by omega, by go_num, HBI.out.trans ((drewN_below _ _).mono HBI.out.size), HS3.out⟩
              case measure => simp [RowKit.intOf]; omega
            · have hs3 := HST.out.1 (hs2.1 fun h => hXY (hcon h))
              have HS3 := Lib.hid hs3
              have e1 : (X.toList == Y.toList) = false := beq_no hXY
              clear e e2 hlc hlc2 hs2 hs3 hinj hcon eX eY h1 h2
              go_wp2_with fail
              go_quiet (fail)
              go_wp2_with fail
              go_ret
              exact .no HS3.out (HBW.out.trans ((HBI.out.trans ((drewN_below _ _).mono HBI.out.size)).mono HBW.out.size))
          · have hrq : r = q := by
              have := HTJ.out
              rw [List.take_of_length_le (by rw [HMr.out]; omega), List.take_of_length_le (by rw [HMq.out]; omega)] at this
              exact this
            have HS3 := Lib.hid (HST.out.2 hrq HTK.out)
            clear hrq
            go_wp2_with fail
            go_roundw
            case rel => exact ⟨k + 1, by omega, by go_num, HBW.out.trans (HBI.out.mono HBW.out.size), HS3.out⟩
            case measure => simp [RowKit.intOf]; omega
      · have hs3 := HST.out.1 fun e => hrl (by rw [e])
        have HS3 := Lib.hid hs3
        have e1 : ((r.length : Int) == (q.length : Int)) = false := by rw [beq_eq_false_iff_ne]; omega
        clear hs3
        go_wp2_with fail
        go_quiet (fail)
        go_wp2_with fail
        go_ret
        exact .no HS3.out (HBW.out.trans ((drewN_below _ _).mono HBW.out.size))
    · have hRQ : R = Q := by
        have := HTK.out
        rw [List.take_of_length_le (by rw [HN.out]; omega), List.take_of_length_le (by rw [HN2.out]; omega)] at this
        exact this
      have HRQ := Lib.hid hRQ
      clear hRQ
      go_wp2
      go_ret
      exact .yes HRQ.out HBW.out
end Go.Proofs.Ytdkdmfbhnaaobaa.Cv
