/-
  Proved here: what the small functions of the statement RunesBack (text, fit, codes) return; they leave what was in memory.
-/
import Derived.Test.YtlipcabfjikmkaaRnInts
import Derived.Test.YtlipcabfjikmkaaRnBack
set_option linter.unusedVariables false
namespace Go.Proofs.Ytlipcabfjikmkaa.Rn
open Go.RowKit Go.Lib

set_option maxHeartbeats 1000000 in
set_option maxRecDepth 100000 in
theorem lawtext_any (A : Option Addr) (zs : List Int) (c : Nat) (w : World) (hr : IntsAt w A zs) (hnil : A = none → zs = [] ∧ c = 0) (hs0 : zs.length ≤ 1000) :
    Calls Try.prog 18 #[.slice A zs.length c] w fun e w' => e = .returned (.string ⟨(textB zs).toArray⟩) ∧ Below w.heap.size w w' := by
  obtain ⟨i0, hi, hz0, hz1, hz2⟩ := info_parts infoInt
  have hmade : (w.alloc (.cells #[] 3)).ownsRow w.heap.size 3 1 (.slice (some ⟨w.heap.size, 0, none⟩) 0 0) 0 [] := World.ownsRow_made w #[] 0 (Nat.le_refl _) (Nat.zero_le _) rfl
  have hr1 := hr.below ((Below.refl w.heap.size w).alloc (Nat.le_refl _) (.cells #[] 3))
  have HM := Lib.hid hmade
  have HR := Lib.hid hr1
  clear hmade hr1
  rcases A with _ | ad
  · obtain ⟨rfl, rfl⟩ := hnil rfl
    clear hnil
    have hb2 : Below w.heap.size w (w.alloc (.cells #[] 3)) := (Below.refl w.heap.size w).alloc (Nat.le_refl _) _
    have hr' : IntsAt (w.alloc (.cells #[] 3)) (some ⟨w.heap.size, 0, none⟩) [] := .inl rfl
    go_enter Try.func18, Try.ntmps18
    go_wp2_with fail
    clear HM HR
    generalize w.alloc (.cells #[] 3) = w2 at *
    refine (text_any _ [] _ _ hr' (by decide)).mono ?_
    rintro e w3 ⟨rfl, hb3⟩
    go_wp2_with fail
    go_ret
    exact ⟨rfl, hb2.trans (hb3.mono hb2.size)⟩
  · clear hnil
    go_enter Try.func18, Try.ntmps18
    go_wp2_with (at_builtin; refine wpList_append_own _ rfl _ _ 30 rfl w.heap.size 3 i0 (.int .i64 0) 1 8 Try.underlying30 hi hz0 hz1 hz2 rfl (by decide) _ _ _ rfl HM.out ad _ _ (zs.map (Value.int .i64)) rfl (by simp) HR.out.news (ints_one _) ?c3 ?c4 ?c5 ?_)
    case c3 => unfold maxLen; omega
    case c4 => omega
    case c5 => simp
    intro v' w2 hown' hgrow _
    have hown2 : w2.ownsRow w.heap.size 3 1 v' zs.length (zs.map (Value.int .i64)) := by simpa using hown'
    have hb2 : Below w.heap.size w w2 := ((Below.refl w.heap.size w).alloc (Nat.le_refl _) _).grown hgrow (by simp) (fun g hg => by simp [Value.ownBlock] at hg; omega)
    obtain ⟨A', c', rfl, hr'⟩ := intsAt_own hown2
    clear hgrow hown' hown2 HM HR
    go_wp2_with fail
    refine (text_any _ zs _ _ hr' (by omega)).mono ?_
    rintro e w3 ⟨rfl, hb3⟩
    go_wp2_with fail
    go_ret
    exact ⟨rfl, hb2.trans (hb3.mono hb2.size)⟩

set_option maxHeartbeats 400000 in
theorem fit_any (c : Int) (w : World) :
    Calls Try.prog 19 #[.int .i64 c] w fun e w' => e = .returned (.int .i64 (fitZ c)) ∧ w' = w := by
  by_cases h1 : c < 0 <;> by_cases h2 : 1114111 < c <;> by_cases h3 : 55296 ≤ c <;> by_cases h4 : c ≤ 57343
  all_goals first | (exfalso; omega) | skip
  all_goals
    go_enter Try.func19, Try.ntmps19
    go_wp2
    go_ret
    refine ⟨ret_int ?_, rfl⟩
    first
      | (rw [fitZ, if_pos (by rw [isPoint_iff]; omega)])
      | (rw [fitZ, if_neg (by rw [isPoint_iff]; omega)])

/-- The cells of the numbers of the first k runes. -/
def codeCells (l : List (Nat × Nat × Nat)) (k : Nat) : List Value := ((l.take k).map fun r => (r.2.2 : Int)).map (Value.int .i64)
theorem codeCells_next (l : List (Nat × Nat × Nat)) (k : Nat) (hlt : k < l.length) : codeCells l (k + 1) = codeCells l k ++ [.int .i64 (l[k].2.2 : Int)] := by
  unfold codeCells
  rw [List.take_succ_eq_append_getElem hlt, List.map_append, List.map_append]
  rfl

set_option maxHeartbeats 1000000 in
set_option maxRecDepth 100000 in
theorem codes_any (A : Option Addr) (l : List (Nat × Nat × Nat)) (c : Nat) (w : World) (hr : RunesAt w A l) (hn : l.length ≤ 1099511627776) :
    Calls Try.prog 20 #[.slice A l.length c] w fun e w' => ∃ A' c', e = .returned (.slice A' l.length c') ∧ IntsAt w' A' (l.map fun r => (r.2.2 : Int)) ∧ Below w.heap.size w w' := by
  obtain ⟨i0, hi, hz0, hz1, hz2⟩ := info_parts infoInt
  have HR := Lib.hid hr
  clear hr
  go_enter Try.func20, Try.ntmps20
  go_wp2_with fail
  go_loopw [3, 4] (fun s3 s4 wx => ∃ k : Nat, k ≤ l.length ∧ s4 = .int .i64 k ∧ Below w.heap.size w wx ∧ wx.ownsRow w.heap.size 3 1 s3 k (codeCells l k)) (fun _ s4 _ => l.length - (RowKit.intOf s4).toNat)
  case atStart => exact ⟨0, Nat.zero_le _, rfl, Below.refl _ _, World.ownsRow_nil _ _ _ _⟩
  case round =>
    obtain ⟨k, hk, rfl, hbw, hown⟩ := hrel
    by_cases hlt : k < l.length
    · obtain ⟨g, rfl, hg, c0, c1, c2⟩ := (HR.out.below hbw) k hlt
      have htk := codeCells_next l k hlt
      obtain ⟨y, hy⟩ : ∃ y, l[k].2.2 = y := ⟨_, rfl⟩
      rw [hy] at c2 htk
      have HT := Lib.hid htk
      have hlow := hown.lt
      have hsz := hbw.size
      clear hy htk HR c0 c1
      go_wp2_with (at_builtin; refine wpList_append_own _ rfl _ _ 30 rfl w.heap.size 3 i0 (.int .i64 0) 1 8 Try.underlying30 hi hz0 hz1 hz2 rfl (by decide) _ _ _ rfl (hown.alloc _) ⟨wr.heap.size, 0, none⟩ 1 1 [.int .i64 (y : Int)] rfl rfl ?c1 ?c2 ?c3 ?c4 ?c5 ?_)
      case c1 =>
        intro j u hj
        match j, hj with
        | 0, hj => simp at hj; subst hj; simp [Addr.add]
        | (j + 1), hj => simp at hj
      case c2 => intro u hu; simp at hu; subst hu; rfl
      case c3 => unfold maxLen; omega
      case c4 => omega
      case c5 => simp; omega
      intro v' w2 hown' hgrow _
      rw [← HT.out] at hown'
      have HO := Lib.hid hown'
      clear hown'
      go_wp2
      go_roundw
      case rel => exact ⟨k + 1, by omega, by go_num, (hbw.alloc hbw.size _).grown hgrow (by simp; omega) (fun g hg => (hlow g hg).1), HO.out⟩
      case measure => simp [RowKit.intOf]; omega
    · obtain rfl : k = l.length := by omega
      go_wp2
      go_ret
      unfold codeCells at hown
      rw [List.take_length] at hown
      have hown' : wr.ownsRow w.heap.size 3 1 u3 (l.map fun r => (r.2.2 : Int)).length ((l.map fun r => (r.2.2 : Int)).map (Value.int .i64)) := by simpa using hown
      obtain ⟨A', c', hv, hr'⟩ := intsAt_own hown'
      rw [List.length_map] at hv
      exact ⟨A', c', by rw [← hv]; rfl, hr', hbw⟩
end Go.Proofs.Ytlipcabfjikmkaa.Rn
