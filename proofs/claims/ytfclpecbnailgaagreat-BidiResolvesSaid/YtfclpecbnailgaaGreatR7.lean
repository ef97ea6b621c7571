/-
  Several texts in one, each with its own remark: WkSigns, WkMake.
-/
import Derived.LoopTactic
import Derived.IntWalk
import Derived.Test.YtfclpecbnailgaaGreatR1
import Derived.Test.YtfclpecbnailgaaGreatR2
import Derived.Test.YtfclpecbnailgaaGreatR6

/-
 Proved here: weak's signsBehind and signsAhead, called on a sequence: what the row holds then (the plain sbeh, sah). Nothing else of memory changes.
-/
set_option linter.unusedVariables false
namespace Go.Proofs.YtfclpecbnailgaaGreat.Wk
open Go Go.RowKit Go.Lib Go.Proofs.YtfclpecbnailgaaGreat.Cl
theorem sbeh_start (a : Int) (r : List Int) : sbeh (-1) (a :: r) = a :: sbeh a r := by
 rw [sbeh, if_neg (by omega)]
theorem sah_head {r : List Int} (h : r ≠ []) : ∃ y t, sah r = y :: t := by
 cases h2 : sah r with
 | nil => exact absurd (List.eq_nil_of_length_eq_zero (by rw [← sah_len, h2]; rfl)) h
 | cons y t => exact ⟨y, t, rfl⟩
set_option maxHeartbeats 4000000 in
set_option maxRecDepth 100000 in
theorem sbeh_any (base : Nat) (A : Option Addr) (n c : Nat) (s : Int) (l : List Int) (w : World) (hown : w.ownsRow base 3 1 (.slice A n c) n (icl l)) (hn : n ≤ 1099511627776) :
  Calls Tryz.prog 138 #[.agg #[.slice A n c, .int .i64 s]] w fun e W' => e = .returned (.tuple #[]) ∧ Row base A n c w (sbeh (-1) l) W' := by
 have hrow := (Row.start hown).alloc (.cells #[.slice A n c, .int .i64 s] 119)
 have hne : some w.heap.size ≠ (Value.slice A n c).ownBlock := fun e => by have := hown.lt _ e.symm; omega
 have hll := hrow.len
 cases l with
 | nil =>
  have H0 := Lib.hid hrow
  simp only [List.length_nil] at hll
  subst hll
  clear hown hrow hne
  go_enter Tryz.func138, Tryz.ntmps138
  go_wp2_with fail
  go_loopw [2] (fun s3 wx => s3 = .int .i64 1 ∧ wx = w.alloc (.cells #[.slice A 0 c, .int .i64 s] 119)) (fun s3 _ => 0)
  case atStart => exact ⟨rfl, rfl⟩
  case round =>
   obtain ⟨rfl, rfl⟩ := hrel
   go_wp2
   go_end0
   exact ⟨rfl, H0.out⟩
 | cons a0 l =>
  have HNE := Lib.hid hne
  have H0 := Lib.hid (show Row base A n c (w.alloc (.cells #[.slice A n c, .int .i64 s] 119)) (a0 :: l) (w.alloc (.cells #[.slice A n c, .int .i64 s] 119)) from Row.start hrow.own)
  have C0 := Lib.hid (show (w.alloc (.cells #[.slice A n c, .int .i64 s] 119)).cell? ⟨w.heap.size, 0, none⟩ = some (.slice A n c) from by simp)
  have HLL := Lib.hid hll
  have HG := Lib.hid hrow.gr
  have HS := Lib.hid (sbeh_start a0 l)
  clear hown hrow hne hll
  go_enter Tryz.func138, Tryz.ntmps138
  go_wp2_with fail
  obtain ⟨b, hb⟩ : ∃ b, w.heap.size = b := ⟨_, rfl⟩
  rw [hb] at C0 HNE ⊢
  generalize hw1 : w.alloc (.cells #[.slice A n c, .int .i64 s] 119) = w1 at *
  go_loopw [2] (fun s3 wx => ∃ (d r : List Int) (a : Int) (k : Nat), d.length = k ∧ (d ++ a :: r).length = n ∧ s3 = .int .i64 (k + 1) ∧ Row base A n c w1 (d ++ a :: r) wx ∧ d ++ a :: sbeh a r = sbeh (-1) (a0 :: l)) (fun s3 _ => n - (RowKit.intOf s3).toNat)
  case atStart => exact ⟨[], l, a0, 0, rfl, HLL.out, rfl, H0.out, HS.out.symm⟩
  case round =>
   obtain ⟨d, r, a, k, hk, hlen, rfl, hrw, heq⟩ := hrel
   have HRW := Lib.hid hrw
   have HEQ := Lib.hid heq
   have HK := Lib.hid hk
   have HLEN := Lib.hid hlen
   have hc1 := hrw.cell C0.out HNE.out
   rw [List.length_append, List.length_cons, hk] at hlen
   clear heq
   cases r with
   | nil =>
    obtain rfl : n = k + 1 := by simpa using hlen.symm
    clear hk hlen hrw
    go_wp2
    go_end0
    refine ⟨rfl, ?_⟩
    rw [show sbeh (-1) (a0 :: l) = d ++ [a] from HEQ.out.symm]
    exact ⟨HRW.out.own, grown_trans HG.out HRW.out.gr⟩
   | cons x r =>
    have hkn : k + 1 < n := by simp at hlen; omega
    obtain ⟨g, hA, hca, -, -, hnc, -⟩ := hrw.at_ rfl hk
    subst hA
    obtain ⟨g', hA', hcx, hfx, -, -, hput⟩ := hrw.at_ (d := d ++ [a]) (r := r) (x := x) (k := k + 1) (by simp) (by simp [hk])
    obtain rfl : g = g' := by injection hA' with e; injection e
    have HPUT := Lib.hid hput
    clear hput hlen hk hrw hA'
    have e1 : IntKind.i64.wrap ((k : Int) + 1 - 1) = (k : Int) := by rw [show (k : Int) + 1 - 1 = (k : Int) from by omega]; exact IntWalk.i64_in _ (by omega)
    have HNO := Lib.hid (fun (h : ¬ (x = 5 ∧ a = 3)) => show (d ++ [a]) ++ x :: sbeh x r = sbeh (-1) (a0 :: l) from by
     have := HEQ.out
     rw [sbeh, if_neg h] at this
     simpa using this)
    by_cases hx : x = 5
    ·subst hx
     by_cases ha : a = 3
     ·subst ha
      have HEQ2 := Lib.hid (show (d ++ [3]) ++ 3 :: sbeh 3 r = sbeh (-1) (a0 :: l) from by
       have := HEQ.out
       rw [sbeh, if_pos ⟨rfl, rfl⟩] at this
       simpa using this)
      go_wp2
      go_roundw
      case rel => exact ⟨d ++ [3], r, 3, k + 1, by simp [HK.out], by simpa using HLEN.out, by go_num, by simpa using HPUT.out 3, HEQ2.out⟩
      case measure => simp [RowKit.intOf]; omega
     ·have hab : (a == 3) = false := by simpa using ha
      have HEQ2 := Lib.hid (HNO.out (fun h => ha h.2))
      clear ha
      go_wp2
      go_roundw
      case rel => exact ⟨d ++ [a], r, 5, k + 1, by simp [HK.out], by simpa using HLEN.out, by go_num, by simpa using HRW.out, HEQ2.out⟩
      case measure => simp [RowKit.intOf]; omega
    ·have hxb : (x == 5) = false := by simpa using hx
     have HEQ2 := Lib.hid (HNO.out (fun h => hx h.1))
     clear hx
     go_wp2
     go_roundw
     case rel => exact ⟨d ++ [a], r, x, k + 1, by simp [HK.out], by simpa using HLEN.out, by go_num, by simpa using HRW.out, HEQ2.out⟩
     case measure => simp [RowKit.intOf]; omega
set_option maxHeartbeats 4000000 in
set_option maxRecDepth 100000 in
theorem sah_any (base : Nat) (A : Option Addr) (n c : Nat) (s : Int) (l : List Int) (w : World) (hown : w.ownsRow base 3 1 (.slice A n c) n (icl l)) (hn : n ≤ 1099511627776) :
  Calls Tryz.prog 139 #[.agg #[.slice A n c, .int .i64 s]] w fun e W' => e = .returned (.tuple #[]) ∧ Row base A n c w (sah l) W' := by
 have hrow := (Row.start hown).alloc (.cells #[.slice A n c, .int .i64 s] 119)
 have hne : some w.heap.size ≠ (Value.slice A n c).ownBlock := fun e => by have := hown.lt _ e.symm; omega
 have hll := hrow.len
 rcases List.eq_nil_or_concat l with rfl | ⟨l0, z0, rfl⟩
 ·have H0 := Lib.hid hrow
  simp only [List.length_nil] at hll
  subst hll
  clear hown hrow hne
  go_enter Tryz.func139, Tryz.ntmps139
  go_wp2_with fail
  go_loopw [2] (fun s3 wx => s3 = .int .i64 (-2) ∧ wx = w.alloc (.cells #[.slice A 0 c, .int .i64 s] 119)) (fun s3 _ => 0)
  case atStart => exact ⟨rfl, rfl⟩
  case round =>
   obtain ⟨rfl, rfl⟩ := hrel
   go_wp2
   go_end0
   exact ⟨rfl, H0.out⟩
 ·rw [List.concat_eq_append] at *
  have HNE := Lib.hid hne
  have H0 := Lib.hid (show Row base A n c (w.alloc (.cells #[.slice A n c, .int .i64 s] 119)) (l0 ++ [z0]) (w.alloc (.cells #[.slice A n c, .int .i64 s] 119)) from Row.start hrow.own)
  have C0 := Lib.hid (show (w.alloc (.cells #[.slice A n c, .int .i64 s] 119)).cell? ⟨w.heap.size, 0, none⟩ = some (.slice A n c) from by simp)
  obtain ⟨m, hm⟩ : ∃ m, l0.length = m := ⟨_, rfl⟩
  have HM := Lib.hid hm
  have HG := Lib.hid hrow.gr
  obtain rfl : n = m + 1 := by simp [hm] at hll; omega
  clear hown hrow hne hll hm
  have e0 : IntKind.i64.wrap ((m : Int) + 1 - 2) = (m : Int) - 1 := by rw [show (m : Int) + 1 - 2 = (m : Int) - 1 from by omega]; exact IntWalk.i64_in _ (by omega)
  go_enter Tryz.func139, Tryz.ntmps139
  go_wp2_with fail
  obtain ⟨b, hb⟩ : ∃ b, w.heap.size = b := ⟨_, rfl⟩
  rw [hb] at C0 HNE ⊢
  generalize hw1 : w.alloc (.cells #[.slice A (m + 1) c, .int .i64 s] 119) = w1 at *
  go_loopw [2] (fun s3 wx => ∃ (d r : List Int) (k : Nat), d.length = k ∧ k ≤ m ∧ r ≠ [] ∧ d ++ r = l0 ++ [z0] ∧ s3 = .int .i64 ((k : Int) - 1) ∧ Row base A (m + 1) c w1 (d ++ sah r) wx) (fun s3 _ => (RowKit.intOf s3 + 1).toNat)
  case atStart => exact ⟨l0, [z0], m, HM.out, Nat.le_refl _, by simp, rfl, rfl, by
   rw [show sah [z0] = [z0] from by rw [sah, if_neg (fun h => by simp [sah] at h)]; rfl]
   exact H0.out⟩
  case round =>
   obtain ⟨d, r, k, hk, hkm, hr, hdr, rfl, hrw⟩ := hrel
   obtain ⟨y, t, hy⟩ := sah_head hr
   have HRW := Lib.hid hrw
   have HDR := Lib.hid hdr
   have HR := Lib.hid hr
   have hc1 := hrw.cell C0.out HNE.out
   rcases List.eq_nil_or_concat d with rfl | ⟨d, x, rfl⟩
   ·simp only [List.length_nil] at hk
    subst hk
    simp only [List.nil_append] at hdr
    subst hdr
    clear hr hrw hy
    go_wp2
    go_end0
    refine ⟨rfl, ?_⟩
    have h1 := HRW.out
    simp only [List.nil_append] at h1
    exact ⟨h1.own, grown_trans HG.out h1.gr⟩
   ·rw [List.concat_eq_append] at *
    obtain ⟨j, hj⟩ : ∃ j, d.length = j := ⟨_, rfl⟩
    have HJ := Lib.hid hj
    obtain rfl : k = j + 1 := by simp [hj] at hk; omega
    obtain ⟨g, hA, hcx, hfx, hjn, hnc, hput⟩ := hrw.at_ (d := d) (r := sah r) (x := x) (k := j) (by simp) hj
    subst hA
    obtain ⟨g', hA', hcy, -, -, -, -⟩ := hrw.at_ (d := d ++ [x]) (r := t) (x := y) (k := j + 1) (by rw [hy]) (by simp [hj])
    obtain rfl : g = g' := by injection hA' with e; injection e
    have HPUT := Lib.hid hput
    have HY := Lib.hid hy
    clear hput hk hrw hA' hy hj hdr hr
    have e1 : ((j + 1 : Nat) : Int) - 1 = (j : Int) := by omega
    rw [e1]
    clear e1
    have e2 : IntKind.i64.wrap ((j : Int) + 1) = (j : Int) + 1 := IntWalk.i64_in _ (by omega)
    have e3 : IntKind.i64.wrap ((j : Int) - 1) = (j : Int) - 1 := IntWalk.i64_in _ (by omega)
    have HNO := Lib.hid (fun (h : ¬ (x = 5 ∧ y = 3)) => show d ++ sah (x :: r) = (d ++ [x]) ++ sah r from by
     rw [sah, if_neg (fun h2 => h ⟨h2.1, by have := h2.2; rw [HY.out] at this; simpa using this⟩)]
     simp)
    by_cases hx : x = 5
    ·subst hx
     by_cases ha : y = 3
     ·subst ha
      have HEQ2 := Lib.hid (show d ++ sah (5 :: r) = d ++ 3 :: sah r from by
       rw [sah, if_pos ⟨rfl, by rw [HY.out]; rfl⟩])
      go_wp2
      go_roundw
      case rel => exact ⟨d, 5 :: r, j, HJ.out, by omega, by simp, by rw [← HDR.out]; simp, by go_num, by rw [HEQ2.out]; exact HPUT.out 3⟩
      case measure => (simp [RowKit.intOf]; try omega)
     ·have hab : (y == 3) = false := by simpa using ha
      have HEQ2 := Lib.hid (HNO.out (fun h => ha h.2))
      clear ha
      go_wp2
      go_roundw
      case rel => exact ⟨d, 5 :: r, j, HJ.out, by omega, by simp, by rw [← HDR.out]; simp, by go_num, by rw [HEQ2.out]; exact HRW.out⟩
      case measure => (simp [RowKit.intOf]; try omega)
    ·have hxb : (x == 5) = false := by simpa using hx
     have HEQ2 := Lib.hid (HNO.out (fun h => hx h.1))
     clear hx
     go_wp2
     go_roundw
     case rel => exact ⟨d, x :: r, j, HJ.out, by omega, by simp, by rw [← HDR.out]; simp, by go_num, by rw [HEQ2.out]; exact HRW.out⟩
     case measure => (simp [RowKit.intOf]; try omega)
end Go.Proofs.YtfclpecbnailgaaGreat.Wk

/-
 Proved here: what weak's numbers, become and between return: function values that, called, make of what the row holds what the plain rules say; and that the method values do so.
-/
set_option linter.unusedVariables false
namespace Go.Proofs.YtfclpecbnailgaaGreat.Wk
open Go Go.RowKit Go.Lib Go.Proofs.YtfclpecbnailgaaGreat.Cl
theorem older (w : World) (o : Obj) {p : Addr} {v : Value} (h : w.cell? p = some v) : (w.alloc o).cell? p = some v :=
 ((below_made w o).cell (World.block_lt_of_cell? w _ h)).trans h
theorem newer (w : World) (cs : Array Value) (t : TypeId) (B k : Nat) (v : Value) (hB : w.heap.size = B) (h : cs[k]? = some v) : (w.alloc (.cells cs t)).cell? ⟨B, k, none⟩ = some v := by
 subst hB
 simp [h]
/-- The row's block lies below a number. -/
def Under (A : Option Addr) (n c : Nat) (k : Nat) : Prop := ∀ b, (Value.slice A n c).ownBlock = some b → b < k
theorem Under.ne {A : Option Addr} {n c k b : Nat} (h : Under A n c k) (hb : k ≤ b) : some b ≠ (Value.slice A n c).ownBlock := fun e => by have := h _ e.symm; omega
theorem Under.mono {A : Option Addr} {n c k m : Nat} (h : Under A n c k) (hk : k ≤ m) : Under A n c m := fun b hb => Nat.lt_of_lt_of_le (h b hb) hk
theorem marks_rule (base : Nat) (A : Option Addr) (n c : Nat) (s : Int) (hn : n ≤ 1099511627776) (w : World) :
  RuleOk base A n c (.func (.func 134) #[.agg #[.slice A n c, .int .i64 s]] #[]) (marks s) w :=
 ⟨_, _, _, rfl, fun _ _ => by kernel_rfl, fun W L _ hL => marks_any base A n c s L W hL hn⟩
theorem sbeh_rule (base : Nat) (A : Option Addr) (n c : Nat) (s : Int) (hn : n ≤ 1099511627776) (w : World) :
  RuleOk base A n c (.func (.func 138) #[.agg #[.slice A n c, .int .i64 s]] #[]) (sbeh (-1)) w :=
 ⟨_, _, _, rfl, fun _ _ => by kernel_rfl, fun W L _ hL => sbeh_any base A n c s L W hL hn⟩
theorem sah_rule (base : Nat) (A : Option Addr) (n c : Nat) (s : Int) (hn : n ≤ 1099511627776) (w : World) :
  RuleOk base A n c (.func (.func 139) #[.agg #[.slice A n c, .int .i64 s]] #[]) sah w :=
 ⟨_, _, _, rfl, fun _ _ => by kernel_rfl, fun W L _ hL => sah_any base A n c s L W hL hn⟩
set_option maxHeartbeats 1000000 in
set_option maxRecDepth 100000 in
theorem numbers_any (base : Nat) (A : Option Addr) (n c : Nat) (s x o : Int) (w : World) (hu : Under A n c w.heap.size) (hn : n ≤ 1099511627776) :
  Calls Tryz.prog 135 #[.agg #[.slice A n c, .int .i64 s], .int .i64 x, .int .i64 o] w fun e w' => ∃ fv, e = .returned fv ∧ RuleOk base A n c fv (nums x o s) w' ∧ Below w.heap.size w w' := by
 have HU := Lib.hid hu
 clear hu
 go_enter Tryz.func135, Tryz.ntmps135
 go_wp2
 go_ret
 refine ⟨_, rfl, ⟨_, _, _, rfl, fun _ _ => by kernel_rfl, fun W L hW hL => ?_⟩, ?_⟩
 ·simp only [List.append_toArray, List.nil_append]
  refine nums_run base A n c s x o w.heap.size (w.heap.size + 1) (w.heap.size + 2) L W hL hn ?_ ?_ ?_ ?_ (HU.out.ne (by omega)) (HU.out.ne (by omega)) (HU.out.ne (by omega))
  ·exact hW.cell (older _ _ (older _ _ (newer w _ _ _ 0 _ rfl rfl))) (HU.out.ne (Nat.le_refl _))
  ·exact hW.cell (older _ _ (older _ _ (newer w _ _ _ 1 _ rfl rfl))) (HU.out.ne (Nat.le_refl _))
  ·exact hW.cell (older _ _ (newer _ _ _ _ 0 _ (by simp) rfl)) (HU.out.ne (Nat.le_succ _))
  ·exact hW.cell (newer _ _ _ _ 0 _ (by simp) rfl) (HU.out.ne (by show w.heap.size ≤ w.heap.size + 2; omega))
 ·exact ((below_made w _).alloc (by simp) _).alloc (by simp; omega) _
set_option maxHeartbeats 1000000 in
set_option maxRecDepth 100000 in
theorem become_any (base : Nat) (A : Option Addr) (n c : Nat) (s o : Int) (p m : Nat) (ps : List Int) (w : World) (hu : Under A n c w.heap.size) (hn : n ≤ 1099511627776) (hp : IntsAt w (some ⟨p, 0, none⟩) ps) (hm : ps.length = m) (hm2 : m ≤ 1000) (hnp : some p ≠ (Value.slice A n c).ownBlock) :
  Calls Tryz.prog 136 #[.agg #[.slice A n c, .int .i64 s], .int .i64 o, .slice (some ⟨p, 0, none⟩) m m] w fun e w' => ∃ fv, e = .returned fv ∧ RuleOk base A n c fv (bec o ps) w' ∧ Below w.heap.size w w' := by
 have HU := Lib.hid hu
 have HP := Lib.hid hp
 have HNP := Lib.hid hnp
 clear hu hp hnp
 go_enter Tryz.func136, Tryz.ntmps136
 go_wp2
 go_ret
 have hB : Below w.heap.size w (((w.alloc (.cells #[.slice A n c, .int .i64 s] 119)).alloc (.cells #[.int .i64 o] 3)).alloc (.cells #[.slice (some ⟨p, 0, none⟩) m m] 25)) := ((below_made w _).alloc (by simp) _).alloc (by simp; omega) _
 refine ⟨_, rfl, ⟨_, _, _, rfl, fun _ _ => by kernel_rfl, fun W L hW hL => ?_⟩, hB⟩
 simp only [List.append_toArray, List.nil_append]
 have hpW : IntsAt W (some ⟨p, 0, none⟩) ps := ((show Row base A n c _ L W from ⟨hL, hW⟩).ints (HP.out.below hB) HNP.out)
 refine bec_run base A n c s o w.heap.size (w.heap.size + 2) (w.heap.size + 1) p m ps L W hL hn ?_ ?_ ?_ hpW hm hm2 (HU.out.ne (by omega)) (HU.out.ne (by omega)) (HU.out.ne (by omega)) HNP.out
 ·exact hW.cell (older _ _ (older _ _ (newer w _ _ _ 0 _ rfl rfl))) (HU.out.ne (Nat.le_refl _))
 ·exact hW.cell (newer _ _ _ _ 0 _ (by simp) rfl) (HU.out.ne (by show w.heap.size ≤ w.heap.size + 2; omega))
 ·exact hW.cell (older _ _ (newer _ _ _ _ 0 _ (by simp) rfl)) (HU.out.ne (Nat.le_succ _))
set_option maxHeartbeats 1000000 in
set_option maxRecDepth 100000 in
theorem between_any (base : Nat) (A : Option Addr) (n c : Nat) (s o : Int) (ho : o ≠ -1) (p m : Nat) (ps : List Int) (w : World) (hu : Under A n c w.heap.size) (hn : n ≤ 1099511627776) (hp : IntsAt w (some ⟨p, 0, none⟩) ps) (hm : ps.length = m) (hm2 : m ≤ 1000) (hnp : some p ≠ (Value.slice A n c).ownBlock) :
  Calls Tryz.prog 137 #[.agg #[.slice A n c, .int .i64 s], .int .i64 o, .slice (some ⟨p, 0, none⟩) m m] w fun e w' => ∃ fv, e = .returned fv ∧ RuleOk base A n c fv (btw o ps (-1)) w' ∧ Below w.heap.size w w' := by
 have HU := Lib.hid hu
 have HP := Lib.hid hp
 have HNP := Lib.hid hnp
 have HO := Lib.hid ho
 clear hu hp hnp ho
 go_enter Tryz.func137, Tryz.ntmps137
 go_wp2
 go_ret
 have hB : Below w.heap.size w (((w.alloc (.cells #[.slice A n c, .int .i64 s] 119)).alloc (.cells #[.int .i64 o] 3)).alloc (.cells #[.slice (some ⟨p, 0, none⟩) m m] 25)) := ((below_made w _).alloc (by simp) _).alloc (by simp; omega) _
 refine ⟨_, rfl, ⟨_, _, _, rfl, fun _ _ => by kernel_rfl, fun W L hW hL => ?_⟩, hB⟩
 simp only [List.append_toArray, List.nil_append]
 have hpW : IntsAt W (some ⟨p, 0, none⟩) ps := ((show Row base A n c _ L W from ⟨hL, hW⟩).ints (HP.out.below hB) HNP.out)
 refine btw_run base A n c s o HO.out w.heap.size (w.heap.size + 1) (w.heap.size + 2) p m ps L W hL hn ?_ ?_ ?_ hpW hm hm2 (HU.out.ne (by omega)) (HU.out.ne (by omega)) (HU.out.ne (by omega)) HNP.out
 ·exact hW.cell (older _ _ (older _ _ (newer w _ _ _ 0 _ rfl rfl))) (HU.out.ne (Nat.le_refl _))
 ·exact hW.cell (older _ _ (newer _ _ _ _ 0 _ (by simp) rfl)) (HU.out.ne (Nat.le_succ _))
 ·exact hW.cell (newer _ _ _ _ 0 _ (by simp) rfl) (HU.out.ne (by show w.heap.size ≤ w.heap.size + 2; omega))
end Go.Proofs.YtfclpecbnailgaaGreat.Wk
