/-
  Several texts in one, each with its own remark: LvRefS, MrTab, MrFind, MrFns, BrSmall, RcTable, RcOf, RuRc.
-/
import Derived.Carry
import Derived.ProofKit
import Derived.OpenShut
import Derived.Below
import Derived.Lib.Hide
import Derived.Great.BuildSlice
import Derived.WalkKit
import Derived.Test.YtfclpecbnailgaaGreatR25
import Derived.Test.YtfclpecbnailgaaGreatR4
import Derived.Test.YtfclpecbnailgaaGreatR2
import Derived.Test.YtfclpecbnailgaaGreatR1
import Derived.Test.YtfclpecbnailgaaGreatR10
import Derived.Test.YtfclpecbnailgaaGreatR23
import Derived.Test.YtfclpecbnailgaaGreatR3
import Derived.Test.YtfclpecbnailgaaGreatRows
import Derived.Test.YtfclpecbnailgaaGreatR17

/-
 Proved here: what the document's own Removed, odd, Step return, for every row of numbers of at most 2^40; they leave what was in memory. Condition: what is open is as it may be; counts of at most 2^40.
-/
set_option linter.unusedVariables false
namespace Go.Proofs.YtfclpecbnailgaaGreat.Lv
open Go Go.RowKit Go.Lib Go.Proofs.YtfclpecbnailgaaGreat.Cl Go.Proofs.YtfclpecbnailgaaGreat.Ba
set_option maxHeartbeats 1000000 in
set_option maxRecDepth 100000 in
theorem nRemoved_any (c : Int) (w : World) :
  Calls Tryz.prog 63 #[.int .i64 c] w fun x w' => x = .returned (.bool (remB c)) ∧ w = w' := by
 unfold remB
 cases h1 : (c == 16)
 case' false => cases h2 : (c == 14)
 case' false.false => cases h3 : (c == 17)
 case' false.false.false => cases h4 : (c == 15)
 case' false.false.false.false => cases h5 : (c == 18)
 case' false.false.false.false.false => cases h6 : (c == 9)
 all_goals
  go_enter Tryz.func63, Tryz.ntmps63
  go_wp2
  go_ret
  exact ⟨rfl, rfl⟩
/-- The direction of an initiator, behind which a row stands. -/
def dirI (c : Int) (l : List Int) : Nat := if c = 20 then 1 else if c = 19 then 0 else dirE l
theorem dirI_le (c : Int) (l : List Int) : dirI c l ≤ 1 := by
 have := dirE_le l
 unfold dirI
 split
 ·omega
 ·split <;> omega
theorem ints_mid {w : World} {b off : Nat} {zs : List Int} (h : IntsAt w (some ⟨b, off, none⟩) zs) (p q : Nat) : IntsAt w (some ⟨b, off + p, none⟩) ((zs.drop p).take q) := by
 have := ints_take (ints_drop h p) q
 rw [show (⟨b, off, none⟩ : Addr).add p = ⟨b, off + p, none⟩ from by unfold Addr.add; split <;> simp_all] at this
 exact this
theorem mid_dir (l : List Int) (k n : Nat) (hl : l.length = n) (hk : k < n) : ((l.drop (k + 1)).take (endAt l k - (k + 1))).length = endAt l k - (k + 1) ∧ levL ((l.drop (k + 1)).take (endAt l k - (k + 1))) 0 = levE (l.drop (k + 1)) 0 := by
 have h1 := endAt_le l k (by omega)
 have h2 := endAt_gt l k
 refine ⟨by rw [List.length_take, List.length_drop]; omega, ?_⟩
 rw [show endAt l k - (k + 1) = endL (l.drop (k + 1)) 0 from by unfold endAt; omega]
 exact levE_take _ _
set_option maxHeartbeats 2000000 in
set_option maxRecDepth 100000 in
theorem nOdd_any (A : Option Addr) (l : List Int) (n m k : Nat) (w : World) (hl : l.length = n) (hR : IntsAt w A l) (hn : n ≤ 1099511627776) (hnm : n ≤ m) (hk : k < n) (hkl : k < l.length) :
  Calls Tryz.prog 110 #[.slice A n m, .int .i64 k] w fun x w' => x = .returned (.int .i64 (dirI l[k] (l.drop (k + 1)))) ∧ w = w' := by
 obtain ⟨b, off, rfl, hc0⟩ := hR.at_ hkl
 have HE := Lib.hid (end_any _ l n m k w hl hR hn hk)
 obtain ⟨hlen, hlev⟩ := mid_dir l k n hl hk
 have hle := endAt_le l k hkl
 have hgt := endAt_gt l k
 have HM := Lib.hid (ints_mid hR (k + 1) (endAt l k - (k + 1)))
 have hd : ((dirE (l.drop (k + 1)) : Nat) : Int) = (levE (l.drop (k + 1)) 0).1 := (dirE_eq _).symm
 generalize hee : endAt l k = e at *
 generalize hcc : l[k] = c at *
 clear hee hcc
 unfold dirI
 by_cases c1 : c = 20
 ·subst c1
  rw [if_pos rfl]
  go_enter Tryz.func110, Tryz.ntmps110
  go_wp2
  go_ret
  exact ⟨rfl, rfl⟩
 ·rw [if_neg c1]
  have k1 : (c == 20) = false := by simpa using c1
  by_cases c2 : c = 19
  ·subst c2
   rw [if_pos rfl]
   go_enter Tryz.func110, Tryz.ntmps110
   go_wp2
   go_ret
   exact ⟨rfl, rfl⟩
  ·rw [if_neg c2, hd]
   have k2 : (c == 19) = false := by simpa using c2
   generalize hxx : levE (l.drop (k + 1)) 0 = x at *
   clear hd hxx
   have HLV := Lib.hid (fun A' m' (h : IntsAt w A' ((l.drop (k + 1)).take (e - (k + 1)))) => reflevel_any A' _ (e - (k + 1)) m' w hlen h (by omega))
   rw [hlev] at HLV
   clear hlev hlen
   by_cases hm : m = k + 1
   ·have he : e = k + 1 := by omega
    subst he
    subst hm
    have h0 : (l.drop (k + 1)).take (k + 1 - (k + 1)) = [] := by simp
    rw [h0] at HLV HM
    go_enter Tryz.func110, Tryz.ntmps110
    go_wp2_with fail
    refine HE.out.mono ?_
    rintro y w1 ⟨rfl, rfl⟩
    go_wp2_with fail
    rw [Nat.sub_self] at HLV
    refine (HLV.out _ _ (.inl rfl)).mono ?_
    rintro y w1 ⟨rfl, rfl⟩
    go_wp2
    go_ret
    exact ⟨rfl, rfl⟩
   ·have hm2 : ¬ m = k + 1 := hm
    have hem : e ≤ m := by omega
    have hke : k + 1 ≤ e := by omega
    go_enter Tryz.func110, Tryz.ntmps110
    go_wp2_with fail
    refine HE.out.mono ?_
    rintro y w1 ⟨rfl, rfl⟩
    go_wp2_with fail
    refine (HLV.out _ _ HM.out).mono ?_
    rintro y w1 ⟨rfl, rfl⟩
    go_wp2
    go_ret
    exact ⟨rfl, rfl⟩
end Go.Proofs.YtfclpecbnailgaaGreat.Lv

/-
 Proved here: what parquetryref03.brackets, lone return: slices of their numbers; they leave what was in memory. No condition.
-/
set_option linter.unusedVariables false
namespace Go.Proofs.YtfclpecbnailgaaGreat.Mr
open Go.RowKit Go.Lib Go.Proofs.YtfclpecbnailgaaGreat.Mi Go.Proofs.YtfclpecbnailgaaGreat.Tab
def flatR (l : List MRow) : List Int := l.flatMap fun r => [r.1, r.2.1]
theorem flatR_len : ∀ (l : List MRow), (flatR l).length = 2 * l.length
 | [] => rfl
 | r :: l => by
  have := flatR_len l
  unfold flatR at this ⊢
  rw [List.flatMap_cons, List.length_append, this]
  simp
  omega
theorem flatR_at : ∀ (l : List MRow) (k : Nat) (hk : k < l.length), (flatR l)[2 * k]? = some l[k].1 ∧ (flatR l)[2 * k + 1]? = some l[k].2.1
 | r :: l, 0, hk => ⟨rfl, rfl⟩
 | r :: l, k + 1, hk => by
  have := flatR_at l k (by simpa using hk)
  rw [show flatR (r :: l) = r.1 :: r.2.1 :: flatR l from rfl, show 2 * (k + 1) = 2 * k + 1 + 1 from by omega]
  simpa using this
set_option maxRecDepth 100000 in
theorem brackets_any (w : World) :
  Calls Tryz.prog 125 #[] w fun e w' => e = .returned (.slice (some ⟨w.heap.size, 0, none⟩) 44 44) ∧ LitAt w' w.heap.size (flatR brRows) ∧ Below w.heap.size w w' := by
 go_enter Tryz.func125, Tryz.ntmps125
 refine wp_seq (wp_region_lit (l := [_]) (wpList_assignTo rfl _ rfl ?_))
 show Exit.then _ _ _ _ _
 refine wp_seq ?_
 refine wp_ints 1 0 25 3 (flatR brRows) 44 Tryz.underlying25 infoI1 infoI2 (by kernel_rfl) (by decide) (by decide) (by kernel_rfl) ?_
 refine wp_ret ?_
 go_ret
 exact ⟨rfl, litAt_made _ _ _, (Below.refl _ _).alloc (Nat.le_refl _) _⟩
set_option maxRecDepth 100000 in
theorem lone_true (w : World) :
  Calls Tryz.prog 87 #[.bool true] w fun e w' => e = .returned (.slice (some ⟨w.heap.size, 0, none⟩) 8 8) ∧ LitAt w' w.heap.size (flatR brPairs) ∧ Below w.heap.size w w' := by
 go_enter Tryz.func87, Tryz.ntmps87
 go_wp2
 go_ret
 exact ⟨rfl, litAt_made (flatR brPairs) _ _, (Below.refl _ _).alloc (Nat.le_refl _) _⟩
end Go.Proofs.YtfclpecbnailgaaGreat.Mr

/-
 Proved here: what parquetryref03.inRows, inPairs return at rows as the document has them; they leave what was in memory.
-/
set_option linter.unusedVariables false
namespace Go.Proofs.YtfclpecbnailgaaGreat.Mr
open Go.RowKit Go.Lib Go.Proofs.YtfclpecbnailgaaGreat.Mi Go.Proofs.YtfclpecbnailgaaGreat.Tab
/-- Rows of pairs of neighbours; pairs. -/
def rowB (r : MRow) : Bool := decide (0 ≤ r.1) && (decide (r.1 < r.2.1) && (decide (r.2.1 ≤ 100000) && ((r.2.1 - r.1) % 2 == 1 && r.2.2 == 1)))
def twoB (r : MRow) : Bool := decide (0 ≤ r.1) && (decide (r.1 < r.2.1) && (decide (r.2.1 ≤ 100000) && (r.2.1 - r.1 == r.2.2)))
theorem rowB_is {r : MRow} (h : rowB r = true) : 0 ≤ r.1 ∧ r.1 < r.2.1 ∧ r.2.1 ≤ 100000 ∧ (r.2.1 - r.1) % 2 = 1 ∧ r.2.2 = 1 := by
 simp only [rowB, Bool.and_eq_true, decide_eq_true_eq, beq_iff_eq] at h
 exact ⟨h.1, h.2.1, h.2.2.1, h.2.2.2.1, h.2.2.2.2⟩
theorem twoB_is {r : MRow} (h : twoB r = true) : 0 ≤ r.1 ∧ r.1 < r.2.1 ∧ r.2.1 ≤ 100000 ∧ r.2.1 - r.1 = r.2.2 := by
 simp only [twoB, Bool.and_eq_true, decide_eq_true_eq, beq_iff_eq] at h
 exact ⟨h.1, h.2.1, h.2.2.1, h.2.2.2⟩
theorem row_first {r : MRow} {c : Int} {m : Nat} (h : rowB r = true) (hc : c = r.1 + 2 * m) (hm : r.1 + 2 * m < r.2.1) : hasB r c = true ∧ pairR r c = (1, c + 1) := by
 obtain ⟨h1, h2, h3, h4, h5⟩ := rowB_is h
 obtain ⟨a, b, s⟩ := r
 simp only at *
 subst hc h5
 unfold hasB pairR
 simp only [Bool.and_eq_true, decide_eq_true_eq, beq_iff_eq]
 refine ⟨⟨by omega, by omega, by omega⟩, ?_⟩
 rw [if_pos (by omega)]
theorem row_second {r : MRow} {c : Int} {m : Nat} (h : rowB r = true) (hc : c = r.1 + 2 * m + 1) (hm : r.1 + 2 * m < r.2.1) : hasB r c = true ∧ pairR r c = (2, c - 1) := by
 obtain ⟨h1, h2, h3, h4, h5⟩ := rowB_is h
 obtain ⟨a, b, s⟩ := r
 simp only at *
 subst hc h5
 unfold hasB pairR
 simp only [Bool.and_eq_true, decide_eq_true_eq, beq_iff_eq]
 refine ⟨⟨by omega, by omega, by omega⟩, ?_⟩
 rw [if_neg (by omega)]
theorem row_not {r : MRow} {c : Int} {m : Nat} (h : rowB r = true) (hm : r.2.1 ≤ r.1 + 2 * m) (hc : c < r.1 ∨ r.1 + 2 * m ≤ c) : hasB r c = false := by
 obtain ⟨h1, h2, h3, h4, h5⟩ := rowB_is h
 obtain ⟨a, b, s⟩ := r
 simp only at *
 unfold hasB
 simp only [Bool.and_eq_false_iff, decide_eq_false_iff_not]
 omega
theorem two_first {r : MRow} (h : twoB r = true) : hasB r r.1 = true ∧ pairR r r.1 = (1, r.2.1) := by
 obtain ⟨h1, h2, h3, h4⟩ := twoB_is h
 obtain ⟨a, b, s⟩ := r
 simp only at *
 subst h4
 unfold hasB pairR
 simp only [Bool.and_eq_true, decide_eq_true_eq, beq_iff_eq]
 refine ⟨⟨by omega, by omega, by simp⟩, ?_⟩
 rw [if_pos (by simp)]
 congr 1
 omega
theorem two_second {r : MRow} (h : twoB r = true) : hasB r r.2.1 = true ∧ pairR r r.2.1 = (2, r.1) := by
 obtain ⟨h1, h2, h3, h4⟩ := twoB_is h
 obtain ⟨a, b, s⟩ := r
 simp only at *
 subst h4
 unfold hasB pairR
 simp only [Bool.and_eq_true, decide_eq_true_eq, beq_iff_eq]
 refine ⟨⟨by omega, by omega, by simp⟩, ?_⟩
 rw [Int.ediv_self (by omega), if_neg (by decide)]
 congr 1
 omega
theorem two_not {r : MRow} {c : Int} (h : twoB r = true) (hc1 : c ≠ r.1) (hc2 : c ≠ r.2.1) : hasB r c = false := by
 obtain ⟨h1, h2, h3, h4⟩ := twoB_is h
 obtain ⟨a, b, s⟩ := r
 simp only at *
 subst h4
 unfold hasB
 simp only [Bool.and_eq_false_iff, decide_eq_false_iff_not, beq_eq_false_iff_ne]
 by_cases h5 : a ≤ c
 ·by_cases h6 : c ≤ b
  ·right; right
   rw [Int.emod_eq_of_lt (by omega) (by omega)]
   omega
  ·exact .inr (.inl h6)
 ·exact .inl h5
theorem ret2 {a b c d : Int} (h1 : a = c) (h2 : b = d) : Ending.returned (.tuple #[.int .i64 a, .int .i64 b]) = .returned (.tuple #[.int .i64 c, .int .i64 d]) := by rw [h1, h2]
theorem flat_at {w : World} {g : Nat} {rs : List MRow} (h : LitAt w g (flatR rs)) {k : Nat} (hk : k < rs.length) : w.cell? ⟨g, 2 * k, none⟩ = some (.int .i64 rs[k].1) ∧ w.cell? ⟨g, 2 * k + 1, none⟩ = some (.int .i64 rs[k].2.1) := by
 have hl := flatR_len rs
 obtain ⟨h1, h2⟩ := flatR_at rs k hk
 rw [List.getElem?_eq_getElem (by omega), Option.some.injEq] at h1 h2
 have h3 := h.2 (2 * k) (by omega)
 have h4 := h.2 (2 * k + 1) (by omega)
 rw [h1] at h3
 rw [h2] at h4
 exact ⟨h3, h4⟩
set_option maxHeartbeats 1000000 in
set_option maxRecDepth 100000 in
theorem inRows_any (g : Nat) (rs : List MRow) (c : Int) (n : Nat) (w : World) (hn : n = 2 * rs.length) (hR : LitAt w g (flatR rs)) (hl : rs.length ≤ 1000) (hok : ∀ r ∈ rs, rowB r = true) :
  Calls Tryz.prog 84 #[.slice (some ⟨g, 0, none⟩) n n, .int .i64 c] w fun e w' => e = .returned (.tuple #[.int .i64 (inR rs c).1, .int .i64 (inR rs c).2]) ∧ w = w' := by
 have HR := Lib.hid hR
 have HOK := Lib.hid hok
 have HN := Lib.hid hn
 have hn2 : n ≤ 2000 := by omega
 clear hR hok hn
 obtain ⟨res, hres⟩ : ∃ res, inR rs c = res := ⟨_, rfl⟩
 rw [hres]
 have HRes := Lib.hid hres
 clear hres
 go_enter Tryz.func84, Tryz.ntmps84
 go_wp2
 go_loop [6] (fun s6 => ∃ k i : Nat, k = 2 * i ∧ k ≤ n ∧ s6 = .int .i64 k ∧ ∀ j (hj : j < rs.length), j < i → hasB rs[j] c = false) (fun s6 => n - (RowKit.intOf s6).toNat)
 case atStart => exact ⟨0, 0, rfl, Nat.zero_le _, rfl, fun j _ h => by omega⟩
 case round =>
  obtain ⟨k, i, hki, hk, rfl, hlo⟩ := hrel
  have HLO := Lib.hid hlo
  have HKI := Lib.hid hki
  clear hlo hki
  by_cases hltk : k < n
  ·have hlt : i < rs.length := by have := HN.out; have := HKI.out; omega
   have hlt1 : k + 1 < n := by have := HN.out; have := HKI.out; omega
   obtain ⟨c0, c1⟩ := flat_at HR.out hlt
   rw [← HKI.out] at c0 c1
   have hr := HOK.out _ (List.getElem_mem hlt)
   obtain ⟨r, hrr⟩ : ∃ r, rs[i] = r := ⟨_, rfl⟩
   rw [hrr] at c0 c1 hr
   have HRR := Lib.hid hrr
   clear hrr
   obtain ⟨b1, b2, b3, b4, b5⟩ := rowB_is hr
   have HB4 := Lib.hid b4
   have HB5 := Lib.hid b5
   have HRB := Lib.hid hr
   clear hr b4 b5
   have HF : ∀ m : Nat, c = r.1 + 2 * m → r.1 + 2 * m < r.2.1 → res = (1, c + 1) := fun m h1 h2 => by
    obtain ⟨h3, h4⟩ := row_first HRB.out h1 h2
    rw [← HRes.out, inR_at rs c i hlt HLO.out (by rw [HRR.out]; exact h3), HRR.out, h4]
   have HS : ∀ m : Nat, c = r.1 + 2 * m + 1 → r.1 + 2 * m < r.2.1 → res = (2, c - 1) := fun m h1 h2 => by
    obtain ⟨h3, h4⟩ := row_second HRB.out h1 h2
    rw [← HRes.out, inR_at rs c i hlt HLO.out (by rw [HRR.out]; exact h3), HRR.out, h4]
   have HX : ∀ m : Nat, r.2.1 ≤ r.1 + 2 * m → (c < r.1 ∨ r.1 + 2 * m ≤ c) → ∀ j (hj : j < rs.length), j < i + 1 → hasB rs[j] c = false := fun m h1 h2 j hj hji => by
    by_cases e : j = i
    ·subst e; rw [HRR.out]; exact row_not HRB.out h1 h2
    ·exact HLO.out j hj (by omega)
   have HF' := Lib.hid HF
   have HS' := Lib.hid HS
   have HX' := Lib.hid HX
   clear HF HS HX
   generalize r.1 = a0 at *
   generalize r.2.1 = z0 at *
   go_wp2_with fail
   go_loop [7] (fun s7 => ∃ m : Nat, a0 + 2 * m ≤ z0 + 1 ∧ s7 = .int .i64 (a0 + 2 * m) ∧ (c < a0 ∨ a0 + 2 * m ≤ c)) (fun s7 => (z0 + 1 - RowKit.intOf s7).toNat)
   case atStart => exact ⟨0, by omega, by simp, by omega⟩
   case round =>
    obtain ⟨m, hm, rfl, hc⟩ := hrel
    by_cases hm2 : a0 + 2 * m < z0
    ·by_cases e1 : c = a0 + 2 * m
     ·have hd : (c == a0 + 2 * m) = true := by simpa using e1
      have HD := Lib.hid (HF'.out m e1 hm2)
      have HE := Lib.hid e1
      clear e1
      go_wp2
      go_ret2
      exact ⟨ret2 (by rw [HD.out]) (by rw [HD.out, HE.out]), rfl⟩
     ·have hd : (c == a0 + 2 * m) = false := by simpa using e1
      by_cases e2 : c = a0 + 2 * m + 1
      ·have hd2 : (c == a0 + 2 * m + 1) = true := by simpa using e2
       have HD := Lib.hid (HS'.out m e2 hm2)
       have HE := Lib.hid e2
       clear e1 e2
       go_wp2
       go_ret2
       exact ⟨ret2 (by rw [HD.out]) (by rw [HD.out, HE.out]; omega), rfl⟩
      ·have hd2 : (c == a0 + 2 * m + 1) = false := by simpa using e2
       have hnext : c < a0 ∨ a0 + 2 * ((m + 1 : Nat) : Int) ≤ c := by omega
       have HNE := Lib.hid hnext
       clear hnext e1 e2 hc
       go_wp2
       go_round
       case rel => exact ⟨m + 1, by have := HB4.out; omega, by go_num, HNE.out⟩
       case measure => simp [RowKit.intOf]; omega
    ·have HX2 := Lib.hid (HX'.out m (by omega) hc)
     clear hc
     go_wp2
     go_round
     case rel => exact ⟨k + 2, i + 1, by have := HKI.out; omega, by omega, by go_num, HX2.out⟩
     case measure => simp [RowKit.intOf]; omega
  ·have HD := Lib.hid (inR_none rs c fun r hr => by
    obtain ⟨j, hj, rfl⟩ := List.mem_iff_getElem.1 hr
    exact HLO.out j hj (by have := HN.out; have := HKI.out; omega))
   go_wp2
   go_ret2
   exact ⟨ret2 (by rw [← HRes.out, HD.out]) (by rw [← HRes.out, HD.out]), rfl⟩
set_option maxHeartbeats 1000000 in
set_option maxRecDepth 100000 in
theorem inPairs_any (g : Nat) (rs : List MRow) (c : Int) (n : Nat) (w : World) (hn : n = 2 * rs.length) (hR : LitAt w g (flatR rs)) (hl : rs.length ≤ 1000) (hok : ∀ r ∈ rs, twoB r = true) :
  Calls Tryz.prog 86 #[.slice (some ⟨g, 0, none⟩) n n, .int .i64 c] w fun e w' => e = .returned (.tuple #[.int .i64 (inR rs c).1, .int .i64 (inR rs c).2]) ∧ Below w.heap.size w w' := by
 have HR := Lib.hid hR
 have HOK := Lib.hid hok
 have HN := Lib.hid hn
 have hn2 : n ≤ 2000 := by omega
 clear hR hok hn
 obtain ⟨res, hres⟩ : ∃ res, inR rs c = res := ⟨_, rfl⟩
 rw [hres]
 have HRes := Lib.hid hres
 clear hres
 go_enter Tryz.func86, Tryz.ntmps86
 go_wp2
 go_loop [6] (fun s6 => ∃ k i : Nat, k = 2 * i ∧ k ≤ n ∧ s6 = .int .i64 k ∧ ∀ j (hj : j < rs.length), j < i → hasB rs[j] c = false) (fun s6 => n - (RowKit.intOf s6).toNat)
 case atStart => exact ⟨0, 0, rfl, Nat.zero_le _, rfl, fun j _ h => by omega⟩
 case round =>
  obtain ⟨k, i, hki, hk, rfl, hlo⟩ := hrel
  have HLO := Lib.hid hlo
  have HKI := Lib.hid hki
  clear hlo hki
  by_cases hltk : k < n
  ·have hlt : i < rs.length := by have := HN.out; have := HKI.out; omega
   have hlt1 : k + 1 < n := by have := HN.out; have := HKI.out; omega
   obtain ⟨c0, c1⟩ := flat_at HR.out hlt
   rw [← HKI.out] at c0 c1
   have hr := HOK.out _ (List.getElem_mem hlt)
   obtain ⟨r, hrr⟩ : ∃ r, rs[i] = r := ⟨_, rfl⟩
   rw [hrr] at c0 c1 hr
   have HRR := Lib.hid hrr
   clear hrr
   have HRB := Lib.hid hr
   clear hr
   have HF : c = r.1 → res = (1, r.2.1) := fun h1 => by
    obtain ⟨h3, h4⟩ := two_first HRB.out
    rw [← h1] at h3 h4
    rw [← HRes.out, inR_at rs c i hlt HLO.out (by rw [HRR.out]; exact h3), HRR.out, h4]
   have HS : c = r.2.1 → res = (2, r.1) := fun h1 => by
    obtain ⟨h3, h4⟩ := two_second HRB.out
    rw [← h1] at h3 h4
    rw [← HRes.out, inR_at rs c i hlt HLO.out (by rw [HRR.out]; exact h3), HRR.out, h4]
   have HX : c ≠ r.1 → c ≠ r.2.1 → ∀ j (hj : j < rs.length), j < i + 1 → hasB rs[j] c = false := fun h1 h2 j hj hji => by
    by_cases e : j = i
    ·subst e; rw [HRR.out]; exact two_not HRB.out h1 h2
    ·exact HLO.out j hj (by omega)
   have HF' := Lib.hid HF
   have HS' := Lib.hid HS
   have HX' := Lib.hid HX
   clear HF HS HX
   generalize r.1 = a0 at *
   generalize r.2.1 = z0 at *
   by_cases e1 : c = a0
   ·have hd : (c == a0) = true := by simpa using e1
    have HD := Lib.hid (HF'.out e1)
    clear e1
    go_wp2_with fail
    go_quiet (fail)
    all_goals go_wp2
    all_goals go_ret2
    all_goals exact ⟨ret2 (by rw [HD.out]) (by rw [HD.out]), below_drewN (Below.refl _ _) _⟩
   ·have hd : (c == a0) = false := by simpa using e1
    by_cases e2 : c = z0
    ·have hd2 : (c == z0) = true := by simpa using e2
     have HD := Lib.hid (HS'.out e2)
     clear e1 e2
     go_wp2_with fail
     go_quiet (fail)
     all_goals go_wp2
     all_goals go_ret2
     all_goals exact ⟨ret2 (by rw [HD.out]) (by rw [HD.out]), below_drewN (Below.refl _ _) _⟩
    ·have hd2 : (c == z0) = false := by simpa using e2
     have HX2 := Lib.hid (HX'.out e1 e2)
     clear e1 e2
     go_wp2
     go_round
     case rel => exact ⟨k + 2, i + 1, by have := HKI.out; omega, by omega, by go_num, HX2.out⟩
     case measure => simp [RowKit.intOf]; omega
  ·have HD := Lib.hid (inR_none rs c fun r hr => by
    obtain ⟨j, hj, rfl⟩ := List.mem_iff_getElem.1 hr
    exact HLO.out j hj (by have := HN.out; have := HKI.out; omega))
   go_wp2
   go_ret2
   exact ⟨ret2 (by rw [← HRes.out, HD.out]) (by rw [← HRes.out, HD.out]), Below.refl _ _⟩
end Go.Proofs.YtfclpecbnailgaaGreat.Mr

/-
 Proved here: what parquetryref03.Pair, Form, Meet return, for every number: what mirror's do; they leave what was in memory. No condition.
-/
set_option linter.unusedVariables false
namespace Go.Proofs.YtfclpecbnailgaaGreat.Mr
open Go.RowKit Go.Lib Go.Proofs.YtfclpecbnailgaaGreat.Mi Go.Proofs.YtfclpecbnailgaaGreat.Tab
theorem brRows_ok : ∀ r ∈ brRows, rowB r = true := by decide +kernel
theorem brPairs_ok : ∀ r ∈ brPairs, twoB r = true := by decide +kernel
set_option maxHeartbeats 1000000 in
set_option maxRecDepth 100000 in
theorem refPair_any (c : Int) (w : World) :
  Calls Tryz.prog 83 #[.int .i64 c] w fun e w' => e = .returned (.tuple #[.int .i64 (pairT c).1, .int .i64 (pairT c).2]) ∧ Below w.heap.size w w' := by
 have HP := Lib.hid (fun (g : Nat) (W : World) (h : LitAt W g (flatR brRows)) => inRows_any g brRows c 44 W (by kernel_rfl) h (by decide +kernel) brRows_ok)
 have HQ := Lib.hid (fun (g : Nat) (W : World) (h : LitAt W g (flatR brPairs)) => inPairs_any g brPairs c 8 W (by kernel_rfl) h (by decide +kernel) brPairs_ok)
 have he : pairT c = if (inR brRows c).1 = 0 then inR brPairs c else inR brRows c := inR_append brRows brPairs c
 rw [he]
 clear he
 generalize inR brRows c = p at *
 generalize inR brPairs c = q at *
 obtain ⟨k, o⟩ := p
 obtain ⟨m, x⟩ := q
 simp only at HP HQ ⊢
 by_cases h1 : k = 0
 ·subst h1
  rw [if_pos rfl]
  go_enter Tryz.func83, Tryz.ntmps83
  go_wp2_with fail
  refine (brackets_any _).mono ?_
  rintro e w1 ⟨rfl, hL1, hb1⟩
  go_wp2_with fail
  refine (HP.out _ _ hL1).mono ?_
  rintro e w2 ⟨rfl, rfl⟩
  go_wp2_with fail
  refine (lone_true _).mono ?_
  rintro e w3 ⟨rfl, hL3, hb3⟩
  go_wp2_with fail
  refine (HQ.out _ _ hL3).mono ?_
  rintro e w4 ⟨rfl, hb4⟩
  go_wp2
  go_ret2
  have hb13 := hb1.trans (hb3.mono hb1.size)
  exact ⟨rfl, hb13.trans (hb4.mono hb13.size)⟩
 ·rw [if_neg h1]
  have d1 : (k == 0) = false := by simpa using h1
  clear h1
  go_enter Tryz.func83, Tryz.ntmps83
  go_wp2_with fail
  refine (brackets_any _).mono ?_
  rintro e w1 ⟨rfl, hL1, hb1⟩
  go_wp2_with fail
  refine (HP.out _ _ hL1).mono ?_
  rintro e w2 ⟨rfl, rfl⟩
  go_wp2
  go_ret2
  exact ⟨rfl, hb1⟩
set_option maxHeartbeats 1000000 in
theorem refForm_any (c : Int) (w : World) :
  Calls Tryz.prog 153 #[.int .i64 c] w fun e w' => e = .returned (.int .i64 (formT c)) ∧ w = w' := by
 by_cases h1 : c = 9001
 ·subst h1
  go_enter Tryz.func153, Tryz.ntmps153
  go_wp2
  go_ret
  exact ⟨rfl, rfl⟩
 ·by_cases h2 : c = 9002
  ·subst h2
   go_enter Tryz.func153, Tryz.ntmps153
   go_wp2
   go_ret
   exact ⟨rfl, rfl⟩
  ·have e : formT c = c := by unfold formT; rw [if_neg h1, if_neg h2]
   rw [e]
   have d1 : (c == 9001) = false := by simpa using h1
   have d2 : (c == 9002) = false := by simpa using h2
   clear e h1 h2
   go_enter Tryz.func153, Tryz.ntmps153
   go_wp2
   go_ret
   exact ⟨rfl, rfl⟩
set_option maxHeartbeats 1000000 in
set_option maxRecDepth 100000 in
theorem refMeet_any (a b : Int) (w : World) :
  Calls Tryz.prog 116 #[.int .i64 a, .int .i64 b] w fun e w' => e = .returned (.bool (meetT a b)) ∧ Below w.heap.size w w' := by
 have CA := Lib.hid (fun W => refPair_any a W)
 have CB := Lib.hid (fun W => refPair_any b W)
 unfold meetT
 generalize pairT a = p at *
 generalize pairT b = q at *
 obtain ⟨k, o⟩ := p
 obtain ⟨m, x⟩ := q
 simp only at CA CB ⊢
 by_cases h1 : k = 1
 ·subst h1
  by_cases h2 : m = 2
  ·subst h2
   go_enter Tryz.func116, Tryz.ntmps116
   go_wp2_with fail
   refine (CA.out _).mono ?_
   rintro e w1 ⟨rfl, hb1⟩
   go_wp2_with fail
   refine (CB.out _).mono ?_
   rintro e w2 ⟨rfl, hb2⟩
   go_wp2_with fail
   refine (refForm_any o _).mono ?_
   rintro e w3 ⟨rfl, rfl⟩
   go_wp2_with fail
   refine (refForm_any b _).mono ?_
   rintro e w3 ⟨rfl, rfl⟩
   go_wp2
   go_ret
   exact ⟨rfl, hb1.trans (hb2.mono hb1.size)⟩
  ·have d2 : (m == 2) = false := by simpa using h2
   rw [d2]
   clear h2
   go_enter Tryz.func116, Tryz.ntmps116
   go_wp2_with fail
   refine (CA.out _).mono ?_
   rintro e w1 ⟨rfl, hb1⟩
   go_wp2_with fail
   refine (CB.out _).mono ?_
   rintro e w2 ⟨rfl, hb2⟩
   go_wp2
   go_ret
   exact ⟨rfl, hb1.trans (hb2.mono hb1.size)⟩
 ·have d1 : (k == 1) = false := by simpa using h1
  rw [d1]
  clear h1
  go_enter Tryz.func116, Tryz.ntmps116
  go_wp2_with fail
  refine (CA.out _).mono ?_
  rintro e w1 ⟨rfl, hb1⟩
  go_wp2_with fail
  refine (CB.out _).mono ?_
  rintro e w2 ⟨rfl, hb2⟩
  go_wp2
  go_ret
  exact ⟨rfl, hb1.trans (hb2.mono hb1.size)⟩
end Go.Proofs.YtfclpecbnailgaaGreat.Mr

/-
 Proved here: what parquetryref16's blank, Cut, Shown, pick return: the plain ones. They leave what was in memory.
-/
set_option linter.unusedVariables false
namespace Go.Proofs.YtfclpecbnailgaaGreat.Bi
open Go Go.RowKit Go.Lib Go.Proofs.YtfclpecbnailgaaGreat.Cl
theorem pick_snoc {l : List Int} {p : List Nat} {k : Nat} (h : k < p.length) : (pick l p).take (k + 1) = (pick l p).take k ++ [l.getD p[k] 0] := by
 rw [List.take_succ_eq_append_getElem (by rw [pick_len]; exact h)]
 simp [pick]
set_option maxHeartbeats 2000000 in
set_option maxRecDepth 100000 in
theorem rpick_any (A1 A2 : Option Addr) (l : List Int) (p : List Nat) (n m c1 c2 : Nat) (w : World) (h1 : IntsAt w A1 l) (h2 : IntsAt w A2 (Sq.ns p)) (hl : l.length = n) (hp : p.length = m) (hm : m ≤ 1099511627776) (hn : n ≤ 1099511627776) (hlt : ∀ i ∈ p, i < l.length) :
  Calls Tryz.prog 33 #[.slice A1 n c1, .slice A2 m c2] w fun e w' => ∃ A c, e = .returned (.slice A m c) ∧ w'.ownsRow w.heap.size 3 1 (.slice A m c) m (icl (pick l p)) ∧ Below w.heap.size w w' := by
 have H1 := Lib.hid h1
 have H2 := Lib.hid h2
 have HL := Lib.hid hl
 have HP := Lib.hid hp
 have HLT := Lib.hid hlt
 clear h1 h2 hl hp hlt
 go_enter Tryz.func33, Tryz.ntmps33
 go_wp2_with fail
 go_loopw [5, 6] (fun s5 s6 wx => ∃ k : Nat, k ≤ m ∧ s6 = .int .i64 k ∧ wx.ownsRow w.heap.size 3 1 s5 k (icl ((pick l p).take k)) ∧ Below w.heap.size w wx) (fun _ s6 _ => m - (RowKit.intOf s6).toNat)
 case atStart => exact ⟨0, Nat.zero_le _, rfl, World.ownsRow_nil _ _ _ _, Below.refl _ _⟩
 case round =>
  obtain ⟨k, hk, rfl, hown, hb⟩ := hrel
  have HO := Lib.hid hown
  have HB := Lib.hid hb
  clear hown
  by_cases hlt : k < m
  ·have hkp : k < p.length := by rw [HP.out]; exact hlt
   have hkn : k < (Sq.ns p).length := by rw [Sq.ns_len]; exact hkp
   have hpl := HLT.out _ (List.getElem_mem hkp)
   obtain ⟨g2, off2, rfl, hc2⟩ := (H2.out.below hb).at_ hkn
   obtain ⟨g1, off1, rfl, hc1⟩ := (H1.out.below hb).at_ hpl
   have hns : (Sq.ns p)[k] = ((p[k] : Nat) : Int) := by simp [Sq.ns]
   rw [hns] at hc2
   have HAT := Lib.hid (pick_snoc (l := l) hkp)
   have hgd : l.getD p[k] 0 = l[p[k]] := by simp [List.getD, List.getElem?_eq_getElem hpl]
   rw [hgd] at HAT
   generalize l[p[k]] = z at *
   have hpn : p[k] < n := by rw [← HL.out]; exact hpl
   generalize p[k] = q at *
   have hk0 : (0 : Int) ≤ (k : Int) := by omega
   have hk1 : (k : Int) < (m : Int) := by omega
   have hq0 : (0 : Int) ≤ (q : Int) := by omega
   have hq1 : (q : Int) < (n : Int) := by omega
   have hsz := HB.out.size
   clear hkp hkn hpl hns hgd hb hpn
   go_wp2_with (at_builtin; refine wpList_add rfl _ _ rfl w.heap.size _ k ((pick l p).take k) rfl (ownsRow_below HO.out (below_made _ _)) (some ⟨wr.heap.size, 0, none⟩) 1 1 [(z : Int)] rfl (made_ints [(z : Int)] _ _ _ rfl) rfl (by omega) (by simp; omega) ?_)
   intro v' w2 hown2 hb2
   have hb3 := (HB.out.trans ((below_made wr (.cells #[.int .i64 (z)] 3)).mono hsz)).trans hb2
   have HO2 := Lib.hid (show w2.ownsRow w.heap.size 3 1 v' (k + 1) (icl ((pick l p).take (k + 1))) from by rw [HAT.out]; exact hown2)
   have HB2 := Lib.hid hb3
   clear hown2 hb2 hb3
   go_wp2_with fail
   go_roundw
   case rel => exact ⟨k + 1, by omega, by go_num, HO2.out, HB2.out⟩
   case measure => simp [RowKit.intOf]; omega
  ·obtain rfl : k = m := by omega
   rw [List.take_of_length_le (by rw [pick_len, HP.out]; exact Nat.le_refl _)] at HO
   obtain ⟨A, c, rfl, -⟩ := intsAt_icl HO.out (by rw [pick_len, HP.out])
   clear hb
   go_wp2_with fail
   go_ret
   exact ⟨A, c, rfl, HO.out, HB.out⟩
end Go.Proofs.YtfclpecbnailgaaGreat.Bi

/-
 Proved here: what parquetryref02.Table returns: a new row of the document's 22 rows of spans; it leaves what was in memory. No condition.
-/
set_option linter.unusedVariables false
namespace Go.Proofs.YtfclpecbnailgaaGreat.Rc
open Go.RowKit Go.Lib
abbrev TRow := Int × List Int
/-- The document's table: a class, and its spans: from, to, from, to, .. -/
def tableL : List TRow := [(1, [1424, 1424, 1470, 1470, 1472, 1472, 1475, 1475, 1478, 1478, 1480, 1535, 8207, 8207, 64285, 64285, 64287, 64296, 64298, 64335]),
 (2, [1544, 1544, 1547, 1547, 1549, 1549, 1563, 1610, 1645, 1647, 1649, 1749, 1765, 1766, 1774, 1775, 1786, 1791, 1872, 1919, 65136, 65278]),
 (3, [48, 57, 178, 179, 185, 185, 1776, 1785, 8304, 8304, 8308, 8313, 8320, 8329, 9352, 9371, 65296, 65305]),
 (4, [43, 43, 45, 45, 8314, 8315, 8330, 8331, 8722, 8722, 64297, 64297, 65122, 65123, 65291, 65291, 65293, 65293]),
 (5, [35, 37, 162, 165, 176, 177, 1423, 1423, 1545, 1546, 1642, 1642, 8240, 8244, 8352, 8399, 8723, 8723, 65119, 65119, 65129, 65130, 65283, 65285, 65504, 65505, 65509, 65510]),
 (6, [1536, 1541, 1632, 1641, 1643, 1644, 1757, 1757, 2274, 2274]),
 (7, [44, 44, 46, 47, 58, 58, 160, 160, 1548, 1548, 8239, 8239, 8260, 8260, 65104, 65104, 65106, 65106, 65109, 65109, 65292, 65292, 65294, 65295, 65306, 65306]),
 (8, [768, 879, 1155, 1161, 1425, 1469, 1471, 1471, 1473, 1474, 1476, 1477, 1479, 1479, 1552, 1562, 1611, 1631, 1648, 1648, 1750, 1756, 1759, 1764, 1767, 1768, 1770, 1773, 2364, 2364, 2369, 2376, 2381, 2381, 8400, 8432, 12330, 12333, 12441, 12442, 64286, 64286, 65024, 65039, 65056, 65071, 917760, 917999]),
 (9, [0, 8, 14, 27, 127, 132, 134, 159, 173, 173, 8203, 8205, 8288, 8293, 8298, 8303, 65279, 65279]),
 (10, [10, 10, 13, 13, 28, 30, 133, 133, 8233, 8233]),
 (11, [9, 9, 11, 11, 31, 31]),
 (12, [12, 12, 32, 32, 5760, 5760, 8192, 8202, 8232, 8232, 8287, 8287, 12288, 12288]),
 (13, [33, 34, 38, 42, 59, 64, 91, 96, 123, 126, 161, 161, 166, 169, 171, 172, 174, 175, 180, 180, 182, 184, 187, 191, 215, 215, 247, 247, 1542, 1543, 1550, 1551, 1758, 1758, 1769, 1769, 8208, 8231, 8245, 8259, 8261, 8286, 8316, 8318, 8332, 8334, 8592, 8721, 8724, 9013, 9472, 9899, 9901, 10239, 11904, 11929, 12289, 12292, 12296, 12320, 12336, 12336, 65281, 65282, 65286, 65290, 65307, 65312, 65339, 65344, 65371, 65381, 65529, 65533, 127744, 128591]),
 (14, [8234, 8234]),
 (16, [8235, 8235]),
 (18, [8236, 8236]),
 (15, [8237, 8237]),
 (17, [8238, 8238]),
 (19, [8294, 8294]),
 (20, [8295, 8295]),
 (21, [8296, 8296]),
 (22, [8297, 8297])]
/-- The operations that build such rows, one behind the other: dst, operation, guard. -/
def litParts (l : List Int) : Array (Nat × Operand) := ((l.zipIdx 0).map fun x => (x.2, Operand.const (Value.int .i64 x.1))).toArray
def rowOps (tS tR : TypeId) : Nat → List TRow → List (Option Tmp × Op × Option (Nat × Bool))
 | _, [] => []
 | i, r :: rs => (some i, .buildSlice tS r.2.length (litParts r.2), none) :: (some (i + 1), .build tR #[(0, .const (.int .i64 r.1)), (1, .tmp i)], none) :: rowOps tS tR (i + 2) rs
def rowV (B : Nat) (r : TRow) : Value := .agg #[.int .i64 r.1, .slice (some ⟨B, 0, none⟩) r.2.length r.2.length]
def rowWorld (e : TypeId) : List TRow → World → World
 | [], w => w
 | r :: rs, w => rowWorld e rs (w.alloc (.cells (r.2.map (Value.int .i64)).toArray e))
def rowAct : Nat → Nat → List TRow → Act → Act
 | _, _, [], a => a
 | i, B, r :: rs, a => rowAct (i + 2) (B + 1) rs ((a.put (some i) (.slice (some ⟨B, 0, none⟩) r.2.length r.2.length)).put (some (i + 1)) (rowV B r))
theorem eval_put {a : Act} {i : Nat} {v : Value} (h : i < a.tmps.size) : (a.put (some i) v).eval (.tmp i) = v := by
 simp [Act.put, Act.eval, h]
theorem wpList_rows {P : Program} {ops : Array Oper} {Q : Exit → Act → World → Prop} {rest : List Oper} (tS tR e : TypeId) (hu : P.underlying tS = some (.slice e)) (hsz : (P.info? e).map (·.size) = some 1) (hz : ((P.info? e).bind (·.zero)).isSome = true)
  (hb : ∀ c A n m, P.built tR [(0, .int .i64 c), (1, .slice A n m)] = some #[.int .i64 c, .slice A n m]) :
  ∀ (rows : List TRow) (l : List Oper) (i B : Nat) (a : Act) (w : World), w.heap.size = B → l.map (fun o => (o.dst, o.op, o.guard)) = rowOps tS tR i rows → (∀ r ∈ rows, 0 < r.2.length ∧ r.2.length ≤ 1000) → i + 2 * rows.length ≤ a.tmps.size →
   wpList P ops Q rest (rowAct i B rows a) (rowWorld e rows w) → wpList P ops Q (l ++ rest) a w
 | [], l, i, B, a, w, hB, hl, _, _, h => by
  rw [rowOps, List.map_eq_nil_iff] at hl
  subst hl
  exact h
 | r :: rs, l, i, B, a, w, hB, hl, hr, hs, h => by
  obtain _ | ⟨o1, _ | ⟨o2, l⟩⟩ := l
  ·simp [rowOps] at hl
  ·simp [rowOps] at hl
  simp only [List.map_cons, rowOps, List.cons.injEq, Prod.mk.injEq] at hl
  obtain ⟨⟨e1, e2, e3⟩, ⟨e4, e5, e6⟩, hl⟩ := hl
  obtain ⟨hp, hq⟩ := hr r (by simp)
  simp only [List.length_cons] at hs
  refine wpList_buildFlatAt e3 tS e r.2.length (litParts r.2) e2 .i64 r.2 B hB (some i) e1 hu hsz hz rfl hp (by omega) rfl ?_
  refine wpList_buildTo e6 tR _ e5 (some (i + 1)) e4 #[.int .i64 r.1, .slice (some ⟨B, 0, none⟩) r.2.length r.2.length] ?_ ?_
  ·rw [← hb r.1 (some ⟨B, 0, none⟩) r.2.length r.2.length]
   congr 1
   rw [Array.toList_map]
   simp only [List.map_cons, List.map_nil]
   rw [eval_put (by omega)]
   rfl
  ·exact wpList_rows tS tR e hu hsz hz hb rs l (i + 2) (B + 1) _ _ (by simp [hB]) hl (fun r hr' => hr r (by simp [hr'])) (by simp [Act.put]; omega) h
theorem rowWorld_size (e : TypeId) : ∀ (rows : List TRow) (w : World), (rowWorld e rows w).heap.size = w.heap.size + rows.length
 | [], w => rfl
 | r :: rs, w => by rw [rowWorld, rowWorld_size e rs]; simp; omega
theorem rowWorld_below (e : TypeId) : ∀ (rows : List TRow) (w : World), Below w.heap.size w (rowWorld e rows w)
 | [], w => Below.refl _ _
 | r :: rs, w => by
  have h1 : Below w.heap.size w (w.alloc (.cells (r.2.map (Value.int .i64)).toArray e)) := (Below.refl _ _).alloc (Nat.le_refl _) _
  exact h1.trans ((rowWorld_below e rs _).mono h1.size)
theorem rowWorld_cell (e : TypeId) : ∀ (rows : List TRow) (w : World) (i : Nat) (hi : i < rows.length) (j : Nat) (hj : j < rows[i].2.length), (rowWorld e rows w).cell? ⟨w.heap.size + i, j, none⟩ = some (.int .i64 rows[i].2[j])
 | r :: rs, w, 0, _, j, hj => by
  have h2 := rowWorld_below e rs (w.alloc (.cells (r.2.map (Value.int .i64)).toArray e))
  rw [rowWorld]
  refine (h2.cell (p := ⟨w.heap.size + 0, j, none⟩) (by simp)).trans ?_
  simp at hj ⊢
  try simp [hj]
 | r :: rs, w, i + 1, hi, j, hj => by
  have := rowWorld_cell e rs (w.alloc (.cells (r.2.map (Value.int .i64)).toArray e)) i (by simpa using hi) j (by simpa using hj)
  rw [rowWorld]
  rw [show (w.alloc (.cells (r.2.map (Value.int .i64)).toArray e)).heap.size + i = w.heap.size + (i + 1) from by simp; omega] at this
  simpa using this
/-- A table of rows in memory. -/
def TabAt (w : World) (b : Nat) (rows : List TRow) : Prop :=
 b < w.heap.size ∧ ∀ i (hi : i < rows.length), w.cell? ⟨b, i * 2, none⟩ = some (.int .i64 rows[i].1) ∧ ∃ g, g < w.heap.size ∧ w.cell? ⟨b, i * 2 + 1, none⟩ = some (.slice (some ⟨g, 0, none⟩) rows[i].2.length rows[i].2.length) ∧ ∀ j (hj : j < rows[i].2.length), w.cell? ⟨g, j, none⟩ = some (.int .i64 rows[i].2[j])
theorem TabAt.below {w w' : World} {b : Nat} {rows : List TRow} (h : TabAt w b rows) (hb : Below w.heap.size w w') : TabAt w' b rows := by
 refine ⟨Nat.lt_of_lt_of_le h.1 hb.size, fun i hi => ?_⟩
 obtain ⟨h1, g, h2, h3, h4⟩ := h.2 i hi
 exact ⟨(hb.cell (p := ⟨b, i * 2, none⟩) h.1).trans h1, g, Nat.lt_of_lt_of_le h2 hb.size, (hb.cell (p := ⟨b, i * 2 + 1, none⟩) h.1).trans h3, fun j hj => (hb.cell (p := ⟨g, j, none⟩) h2).trans (h4 j hj)⟩
def rowVs (B : Nat) (rows : List TRow) : List Value := (rows.zipIdx B).map fun x => rowV x.2 x.1
theorem rowVs_cells (B : Nat) (rows : List TRow) : ∀ v ∈ rowVs B rows, v.cells.size = 2 := by
 intro v hv
 obtain ⟨x, _, rfl⟩ := List.mem_map.1 hv
 rfl
theorem rowVs_at (B : Nat) (rows : List TRow) (i : Nat) (hi : i < rows.length) : (rowVs B rows)[i]? = some (rowV (B + i) rows[i]) := by
 unfold rowVs
 rw [List.getElem?_map, List.getElem?_zipIdx, List.getElem?_eq_getElem hi]
 rfl
theorem tab_made (e t : TypeId) (rows : List TRow) (w : World) : TabAt ((rowWorld e rows w).alloc (.cells ((rowVs w.heap.size rows).flatMap fun v => v.cells.toList).toArray t)) (w.heap.size + rows.length) rows := by
 have hs := rowWorld_size e rows w
 have hc := rowWorld_cell e rows w
 generalize rowWorld e rows w = w1 at *
 have hb : Below w1.heap.size w1 (w1.alloc (.cells ((rowVs w.heap.size rows).flatMap fun v => v.cells.toList).toArray t)) := (Below.refl _ _).alloc (Nat.le_refl _) _
 have hcell : ∀ k, (w1.alloc (.cells ((rowVs w.heap.size rows).flatMap fun v => v.cells.toList).toArray t)).cell? ⟨w1.heap.size, k, none⟩ = ((rowVs w.heap.size rows).flatMap fun v => v.cells.toList)[k]? := by
  intro k
  simp
 have hflat := Great.flat_get (s := 2) (by decide) (rowVs w.heap.size rows) (rowVs_cells _ _)
 rw [← hs]
 refine ⟨by simp, fun i hi => ?_⟩
 have hv := rowVs_at w.heap.size rows i hi
 refine ⟨?_, w.heap.size + i, ?_, ?_, fun j hj => ?_⟩
 ·rw [hcell, hflat, show i * 2 / 2 = i from by omega, show i * 2 % 2 = 0 from by omega, hv]; rfl
 ·have := hb.size; omega
 ·rw [hcell, hflat, show (i * 2 + 1) / 2 = i from by omega, show (i * 2 + 1) % 2 = 1 from by omega, hv]; rfl
 ·exact (hb.cell (p := ⟨w.heap.size + i, j, none⟩) (by simp only; omega)).trans (hc i hi j hj)
theorem wpList_assignTo {P : Program} {ops : Array Oper} {Q : Exit → Act → World → Prop} {rest : List Oper} {o : Oper} {a : Act} {w : World} (hg : o.guard = none) (x : Operand) (ho : o.op = .assign x)
  (h : wpList P ops Q rest (a.put o.dst (a.eval x)) w) : wpList P ops Q (o :: rest) a w :=
 wpList_plain hg fun K hK => by
  unfold Oper.wp execOp
  simp only [ho]
  exact hK _ _ h
def tabFrame (B : Nat) : Act := ⟨((.slice none 0 0 :: ((tableL.zipIdx B).flatMap fun x => [.slice (some ⟨x.2, 0, none⟩) x.1.2.length x.1.2.length, rowV x.2 x.1])) ++ [undef]).toArray, []⟩
def tab0 : Act := ⟨(.slice none 0 0 :: List.replicate 45 undef).toArray, []⟩
theorem tab_act (B : Nat) : rowAct 1 B tableL tab0 = tabFrame B := by kernel_rfl
theorem infoRow : (Tryz.prog.info? 129).map (fun i => (i.zero, i.size)) = some (some (.agg #[.int .i64 0, .slice none 0 0]), 2) := by kernel_rfl
theorem infoI1 : (Tryz.prog.info? 3).map (·.size) = some 1 := by kernel_rfl
theorem infoI2 : ((Tryz.prog.info? 3).bind (·.zero)).isSome = true := by kernel_rfl
theorem row_built (c : Int) (A : Option Addr) (n m : Nat) : Tryz.prog.built 129 [(0, .int .i64 c), (1, .slice A n m)] = some #[.int .i64 c, .slice A n m] := by kernel_rfl
def tabParts : Array (Nat × Operand) := ((List.range 22).map fun i => (i, Operand.tmp (2 * i + 2))).toArray
theorem tab_parts (B : Nat) : (tabParts.map fun (i, x) => (i, (tabFrame B).eval x)).toList = ((rowVs B tableL).zipIdx 0).map fun x => (x.2, x.1) := by kernel_rfl
theorem table_rows : ∀ r ∈ tableL, 0 < r.2.length ∧ r.2.length ≤ 1000 := by decide +kernel
theorem table_len : tableL.length = 22 := by kernel_rfl
theorem tab0_size : tab0.tmps.size = 46 := by kernel_rfl
theorem tabFrame_size (B : Nat) : (tabFrame B).tmps.size = 46 := by kernel_rfl
/-- A region that builds the rows, the slice of them, and hands it on. -/
theorem wp_tab {P : Program} {id : Nat} {l : List Oper} {Q : Exit → Act → World → Prop} {w : World} (tS tR e t : TypeId) (hu : P.underlying tS = some (.slice e)) (hsz : (P.info? e).map (·.size) = some 1) (hz : ((P.info? e).bind (·.zero)).isSome = true)
  (hb : ∀ c A n m, P.built tR [(0, .int .i64 c), (1, .slice A n m)] = some #[.int .i64 c, .slice A n m])
  (hu2 : P.underlying t = some (.slice tR)) (ie : TypeInfo) (z : Value) (hie : P.info? tR = some ie) (hzz : ie.zero = some z) (hs2 : ie.size = 2)
  (h1 : (l.take 44).map (fun o => (o.dst, o.op, o.guard)) = rowOps tS tR 1 tableL)
  (h2 : (l.drop 44).map (fun o => (o.dst, o.op, o.guard)) = [(some 45, .buildSlice t 22 tabParts, none), (some 0, .assign (.tmp 45), none)])
  (h : Q .normal (((tabFrame w.heap.size).put (some 45) (.slice (some ⟨w.heap.size + 22, 0, none⟩) 22 22)).put (some 0) (.slice (some ⟨w.heap.size + 22, 0, none⟩) 22 22)) ((rowWorld e tableL w).alloc (.cells ((rowVs w.heap.size tableL).flatMap fun v => v.cells.toList).toArray tR))) :
  (Code.region id l.toArray false).wp P Q tab0 w := by
 refine wp_region_lit ?_
 have hw : wpList P l.toArray Q (l.take 44 ++ l.drop 44) tab0 w := by
  refine wpList_rows tS tR e hu hsz hz hb tableL (l.take 44) 1 w.heap.size tab0 w rfl h1 table_rows (by rw [table_len, tab0_size]; decide) ?_
  rw [tab_act]
  generalize l.drop 44 = m at h2 ⊢
  obtain _ | ⟨o1, _ | ⟨o2, _ | ⟨o3, m⟩⟩⟩ := m
  ·cases h2
  ·simp at h2
  ·simp only [List.map_cons, List.map_nil, List.cons.injEq, Prod.mk.injEq, and_true] at h2
   obtain ⟨⟨e1, e2, e3⟩, e4, e5, e6⟩ := h2
   have hsize : (rowWorld e tableL w).heap.size = w.heap.size + 22 := by rw [rowWorld_size, table_len]
   refine wpList_buildSlice e3 t tR 22 tabParts e2 _ ie z hu2 hie hzz (by rw [hs2]; decide) (by rw [hs2]; decide) (by
    rw [tab_parts, hs2]
    exact Great.fill_whole (s := 2) (by decide) (rowVs w.heap.size tableL) _ (rowVs_cells _ _) (by simp [rowVs, table_len])) ?_
   rw [hsize, e1]
   refine wpList_assignTo e6 (.tmp 45) e5 ?_
   rw [e4, eval_put (by rw [tabFrame_size]; decide)]
   exact h
  ·simp at h2
 rwa [List.take_append_drop] at hw
set_option maxHeartbeats 4000000 in
set_option maxRecDepth 1000000 in
theorem table_any (w : World) :
  Calls Tryz.prog 107 #[] w fun e w' => e = .returned (.slice (some ⟨w.heap.size + 22, 0, none⟩) tableL.length tableL.length) ∧ TabAt w' (w.heap.size + 22) tableL ∧ Below w.heap.size w w' := by
 obtain ⟨i0, hi, hz0, hz1⟩ : ∃ i, Tryz.prog.info? 129 = some i ∧ i.zero = some (.agg #[.int .i64 0, .slice none 0 0]) ∧ i.size = 2 := by
  have := infoRow
  cases h : Tryz.prog.info? 129 with
  | none => rw [h] at this; cases this
  | some i => rw [h] at this; simp only [Option.map_some, Option.some.injEq, Prod.mk.injEq] at this; exact ⟨i, rfl, this.1, this.2⟩
 have hmade := tab_made 3 129 tableL w
 have hbelow : Below w.heap.size w ((rowWorld 3 tableL w).alloc (.cells ((rowVs w.heap.size tableL).flatMap fun v => v.cells.toList).toArray 129)) := (rowWorld_below _ _ _).alloc (by rw [rowWorld_size]; omega) _
 rw [table_len] at hmade ⊢
 generalize hW : ((rowWorld 3 tableL w).alloc (.cells ((rowVs w.heap.size tableL).flatMap fun v => v.cells.toList).toArray 129)) = W at hmade hbelow
 go_enter Tryz.func107, Tryz.ntmps107
 refine wp_seq (wp_region_lit (l := [_]) (wpList_assignTo rfl _ rfl ?_))
 show Exit.then _ _ _ _ _
 refine wp_seq ?_
 refine wp_tab 25 129 3 126 Tryz.underlying25 infoI1 infoI2 row_built Tryz.underlying126 i0 _ hi hz0 hz1 (by kernel_rfl) (by kernel_rfl) ?_
 rw [hW]
 refine wp_ret ?_
 go_ret
 exact ⟨by kernel_rfl, hmade, hbelow⟩
end Go.Proofs.YtfclpecbnailgaaGreat.Rc

/-
 Proved here: what parquetryref02.Of returns, for every number: the class that class.Of returns; it leaves what was in memory. No condition.
-/
set_option linter.unusedVariables false
namespace Go.Proofs.YtfclpecbnailgaaGreat.Rc
open Go.RowKit Go.Lib Go.Proofs.YtfclpecbnailgaaGreat.Cl
/-- Whether a number stands in one of these spans: from, to, from, to, .. -/
def hasSpan : List Int → Int → Bool
 | a :: b :: l, c => (decide (a ≤ c) && decide (c ≤ b)) || hasSpan l c
 | _, _ => false
def refOf : List TRow → Int → Int
 | [], _ => 0
 | r :: rs, c => if hasSpan r.2 c then r.1 else refOf rs c
theorem hasSpan_at : ∀ (l : List Int) (c : Int) (m : Nat) (h : 2 * m + 1 < l.length), l[2 * m] ≤ c → c ≤ l[2 * m + 1] → hasSpan l c = true
 | a :: b :: l, c, 0, h, h1, h2 => by
  simp only [hasSpan, Bool.or_eq_true, Bool.and_eq_true, decide_eq_true_eq]
  exact .inl ⟨h1, h2⟩
 | a :: b :: l, c, m + 1, h, h1, h2 => by
  simp only [hasSpan, Bool.or_eq_true]
  right
  exact hasSpan_at l c m (by simp at h; omega) (by simpa [Nat.mul_add] using h1) (by simpa [Nat.mul_add] using h2)
 | [a], c, m, h, _, _ => by simp at h
 | [], c, m, h, _, _ => by simp at h
theorem hasSpan_at' (l : List Int) (c : Int) (q : Nat) (hq : q % 2 = 0) (h : q + 1 < l.length) (h1 : l[q] ≤ c) (h2 : c ≤ l[q + 1]) : hasSpan l c = true := by
 obtain ⟨m, rfl⟩ : ∃ m, q = 2 * m := ⟨q / 2, by omega⟩
 exact hasSpan_at l c m h h1 h2
theorem hasSpan_none : ∀ (l : List Int) (c : Int), (∀ (m : Nat) (h : 2 * m + 1 < l.length), ¬ (l[2 * m] ≤ c ∧ c ≤ l[2 * m + 1])) → hasSpan l c = false
 | a :: b :: l, c, h => by
  simp only [hasSpan, Bool.or_eq_false_iff]
  refine ⟨?_, hasSpan_none l c fun m hm => ?_⟩
  ·have := h 0 (by simp)
   simp only [Nat.mul_zero, List.getElem_cons_zero, Nat.zero_add, List.getElem_cons_succ] at this
   simp only [Bool.and_eq_false_iff, decide_eq_false_iff_not]
   omega
  ·have := h (m + 1) (by simp; omega)
   simpa [Nat.mul_add] using this
 | [a], c, h => rfl
 | [], c, h => rfl
theorem hasSpan_none' (l : List Int) (c : Int) (hno : ∀ (q : Nat) (h : q + 1 < l.length), q % 2 = 0 → ¬ (l[q] ≤ c ∧ c ≤ l[q + 1])) : hasSpan l c = false :=
 hasSpan_none l c fun m h => hno (2 * m) h (by omega)
theorem refOf_at : ∀ (rows : List TRow) (c : Int) (i : Nat) (h : i < rows.length), (∀ j (hj : j < rows.length), j < i → hasSpan rows[j].2 c = false) → hasSpan rows[i].2 c = true → refOf rows c = rows[i].1
 | r :: rs, c, 0, h, _, h1 => by simp only [refOf]; rw [if_pos (by simpa using h1)]; rfl
 | r :: rs, c, i + 1, h, hlo, h1 => by
  have h0 := hlo 0 (by simp) (by omega)
  simp only [refOf]
  rw [if_neg (by simpa using h0)]
  exact refOf_at rs c i (by simpa using h) (fun j hj hji => hlo (j + 1) (Nat.succ_lt_succ hj) (by omega)) h1
theorem refOf_none : ∀ (rows : List TRow) (c : Int), (∀ j (hj : j < rows.length), hasSpan rows[j].2 c = false) → refOf rows c = 0
 | [], c, _ => rfl
 | r :: rs, c, h => by
  have h0 := h 0 (by simp)
  simp only [refOf]
  rw [if_neg (by simpa using h0)]
  exact refOf_none rs c (fun j hj => h (j + 1) (Nat.succ_lt_succ hj))
/-- The spans of a row, each with its class. -/
def rowSpans (k : Int) : List Int → List Span
 | a :: b :: l => (a, b, k) :: rowSpans k l
 | _ => []
theorem hasSpan_mem (k : Int) : ∀ (l : List Int) (c : Int), hasSpan l c = true → ∃ s ∈ rowSpans k l, s.1 ≤ c ∧ c ≤ s.2.1 ∧ s.2.2 = k
 | a :: b :: l, c, h => by
  simp only [hasSpan, Bool.or_eq_true, Bool.and_eq_true, decide_eq_true_eq] at h
  rcases h with h | h
  ·exact ⟨(a, b, k), by simp [rowSpans], h.1, h.2, rfl⟩
  ·obtain ⟨s, hs, h1⟩ := hasSpan_mem k l c h
   exact ⟨s, by simp [rowSpans, hs], h1⟩
 | [a], c, h => by simp [hasSpan] at h
 | [], c, h => by simp [hasSpan] at h
theorem hasSpan_of (k : Int) : ∀ (l : List Int) (c : Int) (s : Span), s ∈ rowSpans k l → s.1 ≤ c → c ≤ s.2.1 → hasSpan l c = true
 | a :: b :: l, c, s, h, h1, h2 => by
  simp only [rowSpans, List.mem_cons] at h
  simp only [hasSpan, Bool.or_eq_true, Bool.and_eq_true, decide_eq_true_eq]
  rcases h with rfl | h
  ·exact .inl ⟨h1, h2⟩
  ·exact .inr (hasSpan_of k l c s h h1 h2)
 | [a], c, s, h, _, _ => by simp [rowSpans] at h
 | [], c, s, h, _, _ => by simp [rowSpans] at h
theorem spans_all : (tableL.flatMap fun r => rowSpans r.1 r.2).all (fun s => spansL.contains s) = true := by kernel_rfl
theorem spans_from : spansL.all (fun s => (tableL.flatMap fun r => rowSpans r.1 r.2).contains s) = true := by kernel_rfl
theorem refOf_tab (c : Int) : ∀ (rows : List TRow), (∀ r ∈ rows, r ∈ tableL) → (∃ s ∈ spansL, s.1 ≤ c ∧ c ≤ s.2.1 ∧ refOf rows c = s.2.2) ∨ (refOf rows c = 0 ∧ ∀ r ∈ rows, hasSpan r.2 c = false)
 | [], _ => .inr ⟨rfl, by simp⟩
 | r :: rs, h => by
  cases hh : hasSpan r.2 c with
  | true =>
   obtain ⟨s, hs, h1, h2, h3⟩ := hasSpan_mem r.1 r.2 c hh
   have := List.all_eq_true.1 spans_all s (List.mem_flatMap.2 ⟨r, h r (by simp), hs⟩)
   exact .inl ⟨s, by simpa using this, h1, h2, by simp only [refOf]; rw [hh, if_pos rfl, h3]⟩
  | false =>
   have e : refOf (r :: rs) c = refOf rs c := by simp only [refOf]; rw [hh]; rfl
   rw [e]
   rcases refOf_tab c rs (fun x hx => h x (by simp [hx])) with h1 | ⟨h1, h2⟩
   ·exact .inl h1
   ·refine .inr ⟨h1, fun x hx => ?_⟩
    rcases List.mem_cons.1 hx with rfl | hx
    ·exact hh
    ·exact h2 x hx
/-- The document's table, and the program's: one class. -/
theorem ref_is (c : Int) : refOf tableL c = cls c := by
 unfold cls
 rcases refOf_tab c tableL (fun _ h => h) with ⟨s, hs, h1, h2, h3⟩ | ⟨h1, h2⟩
 ·rw [h3, ofT_in rises_spans hs h1 h2]
 ·rw [h1, ofT_out]
  intro s hs ⟨h3, h4⟩
  have := List.all_eq_true.1 spans_from s hs
  obtain ⟨r, hr, hs2⟩ := List.mem_flatMap.1 (List.contains_iff_mem.1 this)
  have h5 := hasSpan_of r.1 r.2 c s hs2 h3 h4
  rw [h2 r hr] at h5
  cases h5
theorem table_even : ∀ r ∈ tableL, r.2.length % 2 = 0 := by decide +kernel
set_option maxHeartbeats 1000000 in
set_option maxRecDepth 100000 in
theorem refOf_any (c : Int) (w : World) :
  Calls Tryz.prog 60 #[.int .i64 c] w fun e w' => e = .returned (.int .i64 (cls c)) ∧ Below w.heap.size w w' := by
 rw [← ref_is]
 have HTab := Lib.hid (table_any w)
 have hlen : tableL.length ≤ 1000 := by rw [table_len]; decide
 have heven := Lib.hid table_even
 have hshort := Lib.hid table_rows
 generalize tableL = rows at *
 go_enter Tryz.func60, Tryz.ntmps60
 go_wp2_with fail
 refine HTab.out.mono ?_
 rintro e w1 ⟨rfl, hT, hb⟩
 have hb22 := hb.size
 generalize w.heap.size + 22 = b at *
 have HT := Lib.hid hT
 clear hT HTab
 go_wp2_with fail
 go_loop [4] (fun s4 => ∃ i : Nat, i ≤ rows.length ∧ s4 = .int .i64 i ∧ ∀ j (hj : j < rows.length), j < i → hasSpan rows[j].2 c = false) (fun s4 => rows.length - (RowKit.intOf s4).toNat)
 case atStart => exact ⟨0, Nat.zero_le _, rfl, fun j _ h => by omega⟩
 case round =>
  obtain ⟨i, hi, rfl, hlo⟩ := hrel
  have HLO := Lib.hid hlo
  clear hlo
  by_cases hlt : i < rows.length
  ·obtain ⟨c1, g, hg, c2, c3⟩ := HT.out.2 i hlt
   obtain ⟨r, hr⟩ : ∃ r, rows[i] = r := ⟨_, rfl⟩
   have hev : r.2.length % 2 = 0 := heven.out r (hr ▸ List.getElem_mem hlt)
   have hsh : r.2.length ≤ 1000 := (hshort.out r (hr ▸ List.getElem_mem hlt)).2
   have c3' : ∀ j (hj : j < r.2.length), w1.cell? ⟨g, j, none⟩ = some (.int .i64 r.2[j]) := by subst hr; exact c3
   clear c3
   rw [hr] at c1 c2
   have HR := Lib.hid hr
   have HC := Lib.hid c3'
   clear hr c3'
   obtain ⟨k, l⟩ := r
   simp only at c1 c2 HC hev hsh
   go_wp2_with fail
   go_loop [6] (fun s6 => ∃ q : Nat, q ≤ l.length ∧ q % 2 = 0 ∧ s6 = .int .i64 q ∧ ∀ q' (h : q' + 1 < l.length), q' % 2 = 0 → q' < q → ¬ (l[q'] ≤ c ∧ c ≤ l[q' + 1])) (fun s6 => l.length - (RowKit.intOf s6).toNat)
   case atStart => exact ⟨0, Nat.zero_le _, rfl, rfl, fun j _ _ h => by omega⟩
   case round =>
    obtain ⟨q, hq, hq2, rfl, hlo2⟩ := hrel
    have HLO2 := Lib.hid hlo2
    have HQ2 := Lib.hid hq2
    clear hlo2
    by_cases hlt2 : q < l.length
    ·have hlt3 : q + 1 < l.length := by omega
     have d1 := HC.out q hlt2
     have d2 := HC.out (q + 1) hlt3
     have HA := Lib.hid (hasSpan_at' l c q HQ2.out hlt3)
     obtain ⟨a, ha⟩ : ∃ a, l[q] = a := ⟨_, rfl⟩
     obtain ⟨b', hb'⟩ : ∃ b, l[q + 1] = b := ⟨_, rfl⟩
     rw [ha] at d1
     rw [hb'] at d2
     have hstep : ¬ (a ≤ c ∧ c ≤ b') → ∀ q' (h : q' + 1 < l.length), q' % 2 = 0 → q' < q + 2 → ¬ (l[q'] ≤ c ∧ c ≤ l[q' + 1]) := by
      intro hn q' h h0 h1
      by_cases e : q' = q
      ·subst e
       rw [ha, hb']
       exact hn
      ·exact HLO2.out q' h h0 (by have := HQ2.out; omega)
     have HST := Lib.hid hstep
     have hA2 : a ≤ c → c ≤ b' → hasSpan l c = true := by rw [← ha, ← hb']; exact HA.out
     have HA2 := Lib.hid hA2
     clear ha hb' hstep HA hq2 hA2
     by_cases h1 : a ≤ c
     ·have hd1 : decide (a ≤ c) = true := decide_eq_true h1
      by_cases h2 : c ≤ b'
      ·have hd2 : decide (c ≤ b') = true := decide_eq_true h2
       have hfin := Lib.hid (refOf_at rows c i hlt HLO.out (by rw [HR.out]; exact HA2.out h1 h2))
       go_wp2
       go_ret
       refine ⟨?_, hb⟩
       rw [hfin.out, HR.out]
       rfl
      ·have hd2 : decide (c ≤ b') = false := decide_eq_false h2
       go_wp2
       go_round
       case measure => simp [RowKit.intOf]; omega
       exact ⟨q + 2, by omega, by have := HQ2.out; omega, by go_num, HST.out (by omega)⟩
     ·have hd1 : decide (a ≤ c) = false := decide_eq_false h1
      go_wp2
      go_round
      case measure => simp [RowKit.intOf]; omega
      exact ⟨q + 2, by omega, by have := HQ2.out; omega, by go_num, HST.out (by omega)⟩
    ·clear hq2
     have hno := Lib.hid (hasSpan_none' l c (fun q' h h0 => HLO2.out q' h h0 (by omega)))
     go_wp2
     go_round
     case measure => simp [RowKit.intOf]; omega
     refine ⟨i + 1, by omega, by go_num, fun j hj hji => ?_⟩
     by_cases e : j = i
     ·subst e
      rw [HR.out]
      exact hno.out
     ·exact HLO.out j hj (by omega)
  ·have hfin := Lib.hid (refOf_none rows c (fun j hj => HLO.out j hj (by omega)))
   go_wp2
   go_ret
   refine ⟨?_, hb⟩
   rw [hfin.out]
   rfl
end Go.Proofs.YtfclpecbnailgaaGreat.Rc

/-
 Proved here: what parquetryref02.All returns, for every row of runes of whatever numbers, of at most 2^40: a new row of their classes, in order; it leaves what was in memory.
-/
set_option linter.unusedVariables false
namespace Go.Proofs.YtfclpecbnailgaaGreat.Rc
open Go.RowKit Go.Lib Go.Proofs.YtfclpecbnailgaaGreat.Cl
set_option maxHeartbeats 1000000 in
set_option maxRecDepth 100000 in
theorem refallR_any (A : Option Addr) (l : List Ku.R3) (c : Nat) (w : World) (hR : Ku.RuAt w A l) (hn : l.length ≤ 1099511627776) :
  Calls Tryz.prog 29 #[.slice A l.length c] w fun e w' => ∃ v, e = .returned v ∧ w'.ownsRow w.heap.size 3 1 v l.length (iClR (clsR l)) ∧ Below w.heap.size w w' := by
 obtain ⟨i0, hi, hz0, hz1, hz2⟩ := info_parts infoInt
 have HR := Lib.hid hR
 clear hR
 go_enter Tryz.func29, Tryz.ntmps29
 go_wp2_with fail
 go_loopw [3, 4] (fun s3 s4 wx => ∃ k : Nat, k ≤ l.length ∧ s4 = .int .i64 k ∧ Below w.heap.size w wx ∧ wx.ownsRow w.heap.size 3 1 s3 k (iClR (clsR (l.take k)))) (fun _ s4 _ => l.length - (RowKit.intOf s4).toNat)
 case atStart => exact ⟨0, Nat.zero_le _, rfl, Below.refl _ _, World.ownsRow_nil _ _ _ _⟩
 case round =>
  obtain ⟨k, hk, rfl, hb, hown⟩ := hrel
  by_cases hlt : k < l.length
  ·obtain ⟨g, off, rfl, hg, c0, c1, c2⟩ := (HR.out.below hb).at_ hlt
   have HT := Lib.hid (clsR_take hlt)
   have HOWN := Lib.hid hown
   have hbs := hb.size
   clear hown
   generalize l[k] = r at *
   go_wp2_with fail
   refine (refOf_any _ _).mono ?_
   rintro e w3 ⟨rfl, hb3⟩
   have hown3 : w3.ownsRow w.heap.size 3 1 u3 k (iClR (clsR (l.take k))) := ownsRow_below HOWN.out hb3
   have hb13 : Below w.heap.size w w3 := hb.trans (hb3.mono hbs)
   have hs13 := hb13.size
   have hlt2 := hown3.lt
   generalize cls r.2.2 = z at *
   clear hb3
   go_wp2_with (at_builtin; refine wpList_append_own _ rfl _ _ 25 rfl w.heap.size 3 i0 (.int .i64 0) 1 8 Tryz.underlying25 hi hz0 hz1 hz2 rfl (by decide) _ _ _ rfl (hown3.alloc _) ⟨w3.heap.size, 0, none⟩ 1 1 [.int .i64 z] rfl rfl ?c1 ?c2 ?c3 ?c4 ?c5 ?_)
   case c1 => exact cell_one_new _ _ _
   case c2 => intro u hu; simp only [List.mem_singleton] at hu; subst hu; rfl
   case c3 => unfold maxLen; omega
   case c4 => omega
   case c5 => simp; omega
   intro v' w4 hown' hgrow _
   have HG := Lib.hid hgrow
   have HO := Lib.hid hown'
   clear hgrow hown' hown3
   go_wp2
   go_roundw
   case measure => simp [RowKit.intOf]; omega
   case rel =>
    refine ⟨k + 1, by omega, by go_num, ?_, ?_⟩
    ·exact (hb13.alloc hs13 _).grown HG.out (by simp; omega) (fun g hg => (hlt2 g hg).1)
    ·rw [HT.out]; exact HO.out
  ·obtain rfl : k = l.length := by omega
   rw [List.take_length] at hown
   go_wp2
   go_ret
   exact ⟨_, rfl, hown, hb⟩
end Go.Proofs.YtfclpecbnailgaaGreat.Rc
