/-
  Proved here: what the document's own Removed, odd, Step return, for every row of numbers of at most 2^40; they leave what was in memory. Condition: what is open is as it may be; counts of at most 2^40.
-/
import Derived.Test.YtehndhkcmccpmaaLvRefP
import Derived.Test.YtehndhkcmccpmaaLvRefB
import Derived.Test.YtehndhkcmccpmaaLvDir
import Derived.Test.YtehndhkcmccpmaaBaRefL
set_option linter.unusedVariables false
namespace Go.Proofs.Ytehndhkcmccpmaa.Lv
open Go Go.RowKit Go.Lib Go.Proofs.Ytehndhkcmccpmaa.Cl Go.Proofs.Ytehndhkcmccpmaa.Ba

set_option maxHeartbeats 1000000 in
set_option maxRecDepth 100000 in
theorem nRemoved_any (c : Int) (w : World) :
    Calls Try.prog 56 #[.int .i64 c] w fun x w' => x = .returned (.bool (remB c)) ∧ w = w' := by
  unfold remB
  cases h1 : (c == 16)
  case' false => cases h2 : (c == 14)
  case' false.false => cases h3 : (c == 17)
  case' false.false.false => cases h4 : (c == 15)
  case' false.false.false.false => cases h5 : (c == 18)
  case' false.false.false.false.false => cases h6 : (c == 9)
  all_goals
    go_enter Try.func56, Try.ntmps56
    go_wp2
    go_ret
    exact ⟨rfl, rfl⟩

/-- The direction of an initiator, behind which a row stands. -/
def dirI (c : Int) (l : List Int) : Nat := if c = 20 then 1 else if c = 19 then 0 else dirE l
theorem dirI_le (c : Int) (l : List Int) : dirI c l ≤ 1 := by
  have := dirE_le l
  unfold dirI
  split
  · omega
  · split <;> omega
theorem ints_mid {w : World} {b off : Nat} {zs : List Int} (h : IntsAt w (some ⟨b, off, none⟩) zs) (p q : Nat) : IntsAt w (some ⟨b, off + p, none⟩) ((zs.drop p).take q) := by
  have := ints_take (ints_drop h p) q
  rw [show (⟨b, off, none⟩ : Addr).add p = ⟨b, off + p, none⟩ from by unfold Addr.add; split <;> simp_all] at this
  exact this
theorem mid_dir (l : List Int) (k n : Nat) (hl : l.length = n) (hk : k < n) : ((l.drop (k + 1)).take (endAt l k - (k + 1))).length = endAt l k - (k + 1) ∧ levL ((l.drop (k + 1)).take (endAt l k - (k + 1))) 0 = levE (l.drop (k + 1)) 0 := by
  have h1 := endAt_le l k (by omega)
  have h2 := endAt_gt l k
  refine ⟨by rw [List.length_take, List.length_drop]; omega, ?_⟩
  rw [show endAt l k - (k + 1) = endL (l.drop (k + 1)) 0 from by unfold endAt; omega]
  exact levE_take _ _

set_option maxHeartbeats 2000000 in
set_option maxRecDepth 100000 in
theorem nOdd_any (A : Option Addr) (l : List Int) (n m k : Nat) (w : World) (hl : l.length = n) (hR : IntsAt w A l) (hn : n ≤ 1099511627776) (hnm : n ≤ m) (hk : k < n) (hkl : k < l.length) :
    Calls Try.prog 62 #[.slice A n m, .int .i64 k] w fun x w' => x = .returned (.int .i64 (dirI l[k] (l.drop (k + 1)))) ∧ w = w' := by
  obtain ⟨b, off, rfl, hc0⟩ := hR.at_ hkl
  have HE := Lib.hid (end_any _ l n m k w hl hR hn hk)
  obtain ⟨hlen, hlev⟩ := mid_dir l k n hl hk
  have hle := endAt_le l k hkl
  have hgt := endAt_gt l k
  have HM := Lib.hid (ints_mid hR (k + 1) (endAt l k - (k + 1)))
  have hd : ((dirE (l.drop (k + 1)) : Nat) : Int) = (levE (l.drop (k + 1)) 0).1 := (dirE_eq _).symm
  generalize hee : endAt l k = e at *
  generalize hcc : l[k] = c at *
  clear hee hcc
  unfold dirI
  by_cases c1 : c = 20
  · subst c1
    rw [if_pos rfl]
    go_enter Try.func62, Try.ntmps62
    go_wp2
    go_ret
    exact ⟨rfl, rfl⟩
  · rw [if_neg c1]
    have k1 : (c == 20) = false := by simpa using c1
    by_cases c2 : c = 19
    · subst c2
      rw [if_pos rfl]
      go_enter Try.func62, Try.ntmps62
      go_wp2
      go_ret
      exact ⟨rfl, rfl⟩
    · rw [if_neg c2, hd]
      have k2 : (c == 19) = false := by simpa using c2
      generalize hxx : levE (l.drop (k + 1)) 0 = x at *
      clear hd hxx
      have HLV := Lib.hid (fun A' m' (h : IntsAt w A' ((l.drop (k + 1)).take (e - (k + 1)))) => reflevel_any A' _ (e - (k + 1)) m' w hlen h (by omega))
      rw [hlev] at HLV
      clear hlev hlen
      by_cases hm : m = k + 1
      · have he : e = k + 1 := by omega
        subst he
        subst hm
        have h0 : (l.drop (k + 1)).take (k + 1 - (k + 1)) = [] := by simp
        rw [h0] at HLV HM
        go_enter Try.func62, Try.ntmps62
        go_wp2_with fail
        refine HE.out.mono ?_
        rintro y w1 ⟨rfl, rfl⟩
        go_wp2_with fail
        rw [Nat.sub_self] at HLV
        refine (HLV.out _ _ (.inl rfl)).mono ?_
        rintro y w1 ⟨rfl, rfl⟩
        go_wp2
        go_ret
        exact ⟨rfl, rfl⟩
      · have hm2 : ¬ m = k + 1 := hm
        have hem : e ≤ m := by omega
        have hke : k + 1 ≤ e := by omega
        go_enter Try.func62, Try.ntmps62
        go_wp2_with fail
        refine HE.out.mono ?_
        rintro y w1 ⟨rfl, rfl⟩
        go_wp2_with fail
        refine (HLV.out _ _ HM.out).mono ?_
        rintro y w1 ⟨rfl, rfl⟩
        go_wp2
        go_ret
        exact ⟨rfl, rfl⟩
end Go.Proofs.Ytehndhkcmccpmaa.Lv
