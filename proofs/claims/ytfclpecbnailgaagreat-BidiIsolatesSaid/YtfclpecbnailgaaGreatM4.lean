/-
  Several texts in one, each with its own remark: BiRule, BiSeqs, ClInts, AppSrc, AddInts, WkRow, LvOne, TabInts, ArrKit, SqRows.
-/
import Derived.Carry
import Derived.ProofKit
import Derived.OpenShut
import Derived.Below
import Derived.Lib.Hide
import Derived.WalkKit
import Derived.Laws.AppendOwn
import Derived.Laws.OwnMore
import Derived.OwnWalk
import Derived.Deep.AppendLies
import Derived.Deep.Upon
import Derived.Great.BuildSlice
import Derived.Deep.WholeRow
import Derived.Laws.Rows
import Derived.Deep.QuietTactic
import Derived.BigQuiet
import Derived.Test.YtfclpecbnailgaaGreatM3
import Derived.Test.YtfclpecbnailgaaGreatRows
import Derived.Test.YtfclpecbnailgaaGreatM1

/-
  What a sequence's places are told, plainly: its weak classes, brackets, what is left, their levels; what a line's levels are; that letters without a right one, in a paragraph of the level 0, are all at 0; that a line's levels stay so. No program in it.
-/
set_option linter.unusedVariables false
namespace Go.Proofs.YtfclpecbnailgaaGreat.Bi
open Go Go.Proofs.YtfclpecbnailgaaGreat.Ba Go.Proofs.YtfclpecbnailgaaGreat.Lv Go.Proofs.YtfclpecbnailgaaGreat.Sq Go.Proofs.YtfclpecbnailgaaGreat.Wk Go.Proofs.YtfclpecbnailgaaGreat.Pr Go.Proofs.YtfclpecbnailgaaGreat.Ne
/-- The levels of a sequence's places. -/
def rule : Rule := fun a b c x y u => if y.length = x.length ∧ u.length = x.length then (settleN a c b (settleZ (weak b x) y u a b)).map (levN a) else x.map fun _ => a
theorem rule_len (a b c : Int) (x y u : List Int) : (rule a b c x y u).length = x.length := by
  unfold rule
  split
  · rename_i h
    rw [List.length_map, settle_len, settleZ_len a b (by rw [weak_len, h.1]) (by rw [h.2, h.1]), weak_len]
  · simp
theorem lev_ge {a : Int} (h : 0 ≤ a) (c : Int) : 0 ≤ levN a c := by
  unfold levN
  split
  · omega
  · split
    · omega
    · split <;> omega
theorem rule_pos (a b c : Int) (x y u : List Int) (h : 0 ≤ a) : ∀ v ∈ rule a b c x y u, 0 ≤ v := by
  intro v hv
  unfold rule at hv
  split at hv
  · obtain ⟨z, _, rfl⟩ := List.mem_map.1 hv
    exact lev_ge h z
  · obtain ⟨z, _, rfl⟩ := List.mem_map.1 hv
    exact h
/-- A paragraph's levels. -/
def resB (c codes : List Int) (b : Nat) (T : List S4) : List Int := resP rule c codes b T
theorem btw_no (n : Int) (p : List Int) : ∀ (l : List Int) (a : Int), a ≠ n → (∀ y ∈ l, y ≠ n) → btw n p a l = l
  | [], _, _, _ => rfl
  | c :: r, a, ha, h => by
    unfold btw
    rw [if_neg (fun x => ha x.1), btw_no n p r c (h c (by simp)) (fun y hy => h y (by simp [hy]))]
theorem nums_zero : ∀ (l : List Int), (∀ y ∈ l, y ≠ 1 ∧ y ≠ 2) → ∀ y ∈ nums 0 0 0 l, y ≠ 3
  | [], _, y, hy => by simp [nums] at hy
  | c :: r, h, y, hy => by
    have hc := h c (by simp)
    have hr : ∀ y ∈ r, y ≠ 1 ∧ y ≠ 2 := fun z hz => h z (by simp [hz])
    unfold nums at hy
    by_cases h0 : let3 c = true
    · rw [if_pos h0] at hy
      have : c = 0 := by simp [let3] at h0; omega
      subst this
      rcases List.mem_cons.1 hy with rfl | hy
      · decide
      · exact nums_zero r hr y hy
    · rw [if_neg h0] at hy
      by_cases h3 : c = 3
      · rw [if_pos ⟨h3, rfl⟩] at hy
        rcases List.mem_cons.1 hy with rfl | hy
        · decide
        · exact nums_zero r hr y hy
      · rw [if_neg (fun x => h3 x.1)] at hy
        rcases List.mem_cons.1 hy with rfl | hy
        · exact h3
        · exact nums_zero r hr y hy
theorem weak_left {l : List Int} (h : ∀ y ∈ l, y ≠ 1 ∧ y ≠ 2 ∧ y ≠ 6) : ∀ y ∈ weak 0 l, y ≠ 1 ∧ y ≠ 3 ∧ y ≠ 6 := by
  have h1 : ∀ y ∈ marks 0 l, y ≠ 1 ∧ y ≠ 2 ∧ y ≠ 6 := fun y hy => by
    rcases marks_mem l 0 y hy with rfl | rfl | ⟨hy, _⟩
    · decide
    · decide
    · exact h y hy
  have e2 : nums 2 6 0 (marks 0 l) = marks 0 l := nums_id _ 0 (by decide) (fun y hy => (h1 y hy).2.1)
  have e3 : bec 1 [2] (marks 0 l) = marks 0 l := bec_id 1 [2] _ (fun y hy hm => (h1 y hy).2.1 (by simpa using hm))
  have h4 : ∀ y ∈ btw 3 [4, 7] (-1) (marks 0 l), y ≠ 1 ∧ y ≠ 2 ∧ y ≠ 6 := fun y hy => by
    rcases btw_mem 3 [4, 7] _ _ y hy with rfl | hy
    · decide
    · exact h1 y hy
  have e5 : btw 6 [7] (-1) (btw 3 [4, 7] (-1) (marks 0 l)) = btw 3 [4, 7] (-1) (marks 0 l) := btw_no 6 [7] _ _ (by decide) (fun y hy => (h4 y hy).2.2)
  have h6 : ∀ y ∈ sbeh (-1) (btw 3 [4, 7] (-1) (marks 0 l)), y ≠ 1 ∧ y ≠ 2 ∧ y ≠ 6 := fun y hy => by
    rcases sbeh_mem _ _ y hy with rfl | hy
    · decide
    · exact h4 y hy
  have h7 : ∀ y ∈ sah (sbeh (-1) (btw 3 [4, 7] (-1) (marks 0 l))), y ≠ 1 ∧ y ≠ 2 ∧ y ≠ 6 := fun y hy => by
    rcases sah_mem _ y hy with rfl | hy
    · decide
    · exact h6 y hy
  have h8 : ∀ y ∈ bec 13 [4, 5, 7] (sah (sbeh (-1) (btw 3 [4, 7] (-1) (marks 0 l)))), y ≠ 1 ∧ y ≠ 2 ∧ y ≠ 6 := fun y hy => by
    rcases bec_mem 13 [4, 5, 7] _ y hy with rfl | ⟨hy, _⟩
    · decide
    · exact h7 y hy
  intro y hy
  unfold weak at hy
  rw [e2, e3, e5] at hy
  have h9 := nums_zero _ (fun z hz => ⟨(h8 z hz).1, (h8 z hz).2.1⟩) y hy
  rcases nums_mem 0 0 _ 0 y hy with rfl | hm
  · decide
  · exact ⟨(h8 y hm).1, h9, (h8 y hm).2.2⟩
def NoR (l : List Int) : Prop := ∀ y ∈ l, y ≠ 1 ∧ y ≠ 3 ∧ y ≠ 6
theorem noR_has {l : List Int} (h : NoR l) : hasZ l 1 = false := by
  unfold hasZ
  rw [List.any_eq_false]
  intro y hy he
  have := h y hy
  have : letZ y = 1 := of_decide_eq_true he
  unfold letZ at this
  split at this
  · omega
  · split at this <;> omega
theorem noR_apply (own : List Int) {l : List Int} (h : NoR l) (p : Nat × Nat) : NoR (applyZ own 0 0 l p) := by
  unfold applyZ
  split
  · exact h
  · rename_i hb
    have hz : becZ l p 0 0 = 0 := by
      unfold becZ at hb ⊢
      split
      · rfl
      · rename_i h1
        rw [if_neg h1, show (1 : Int) - 0 = 1 from rfl, noR_has (fun y hy => h y (List.mem_of_mem_take (List.mem_of_mem_drop hy)))] at hb
        rw [if_neg (by decide)] at hb
        exact absurd (by decide) hb
    intro y hy
    rw [hz] at hy
    obtain ⟨i, hi, rfl⟩ := List.getElem_of_mem hy
    have hil : i < l.length := by rw [setZ_len] at hi; exact hi
    have := setZ_at own p 0 l i l[i] (List.getElem?_eq_getElem hil)
    rw [List.getElem?_eq_getElem hi] at this
    injection this with this
    rw [this]
    split
    · decide
    · exact h _ (List.getElem_mem hil)
theorem noR_fold (own : List Int) : ∀ (ps : List (Nat × Nat)) {l : List Int}, NoR l → NoR (ps.foldl (applyZ own 0 0) l)
  | [], l, h => h
  | p :: ps, l, h => noR_fold own ps (noR_apply own h p)
theorem settle_zero : ∀ (l : List Int), NoR l → ∀ y ∈ settleN 0 0 0 l, y = 0
  | [], _, y, hy => by simp [settleN] at hy
  | c :: r, h, y, hy => by
    have hc := h c (by simp)
    have hr : NoR r := fun z hz => h z (by simp [hz])
    unfold settleN at hy
    by_cases hd : 0 ≤ dirN c
    · have h0 : c = 0 := by rcases dirN_has.1 hd with e | e | e | e <;> omega
      subst h0
      rw [if_pos hd] at hy
      rcases List.mem_cons.1 hy with rfl | hy
      · rfl
      · exact settle_zero r hr y hy
    · rw [if_neg hd] at hy
      rcases List.mem_cons.1 hy with rfl | hy
      · have hn : ∀ (r : List Int), NoR r → nextN 0 r = 0 := by
          intro r
          induction r with
          | nil => intro _; rfl
          | cons d q ih =>
            intro hq
            unfold nextN
            split
            · rename_i hd2
              have := hq d (by simp)
              have h0 : d = 0 := by rcases dirN_has.1 hd2 with e | e | e | e <;> omega
              subst h0; rfl
            · exact ih (fun z hz => hq z (by simp [hz]))
        rw [hn r hr]
        rfl
      · exact settle_zero r hr y hy
theorem rule_zero {x y u : List Int} (h : ∀ z ∈ x, z ≠ 1 ∧ z ≠ 2 ∧ z ≠ 6) : ∀ v ∈ rule 0 0 0 x y u, v = 0 := by
  intro v hv
  unfold rule at hv
  split at hv
  · rename_i hl
    obtain ⟨z, hz, rfl⟩ := List.mem_map.1 hv
    have : z = 0 := by
      refine settle_zero _ ?_ z hz
      unfold settleZ
      rw [if_pos ⟨by rw [weak_len, hl.1], by rw [hl.2, hl.1]⟩]
      have hw : wayZ 0 = 0 := rfl
      rw [hw]
      exact noR_fold u _ (weak_left h)
    rw [this]
    rfl
  · obtain ⟨z, _, rfl⟩ := List.mem_map.1 hv
    rfl
theorem told_plain (b : Nat) : ∀ (l : List Int), (∀ x ∈ l, plainB x = true) → (walkL b l (startS b)).map (·.2) = l
  | [], _ => rfl
  | x :: l, hp => by
    obtain ⟨p1, p2⟩ := plain_same (b := b) (hp x List.mem_cons_self) l
    simp only [walkL, List.map_cons]
    rw [p1, p2, told_plain b l (fun q hq => hp q (List.mem_cons_of_mem _ hq))]
    congr 1
    unfold outS
    split
    · rfl
    · split
      · rfl
      · rfl
theorem fill_zero : ∀ (l : List Int), (∀ y ∈ l, y = -1 ∨ y = 0) → fillP 0 l = List.replicate l.length 0
  | [], _ => rfl
  | x :: r, h => by
    have e : (if x < 0 then (0 : Int) else x) = 0 := by rcases h x (by simp) with rfl | rfl <;> rfl
    simp only [fillP, List.length_cons, List.replicate_succ]
    rw [e, fill_zero r (fun y hy => h y (by simp [hy]))]
/-- All at 0. -/
theorem res_plain {c codes : List Int} {T : List S4} (h : SeqsAll c (zB c 0) 0 T) (hc : ∀ x ∈ c, x ≠ 1 ∧ x ≠ 2 ∧ x ≠ 6 ∧ x < 14) : resB c codes 0 T = List.replicate c.length 0 := by
  have hp : ∀ x ∈ c, plainB x = true := fun x hx => by
    unfold plainB
    rw [decide_eq_true (hc x hx).2.2.2]
    rfl
  have ht : toldB c 0 = c := told_plain 0 c hp
  unfold resB resP
  have hl : (outP rule (toldB c 0) codes c (zB c 0) T).length = c.length := by rw [fold_len, zB_len]
  show fillP 0 _ = _
  rw [fill_zero _ (fun y hy => ?_), hl]
  obtain ⟨i, hi, rfl⟩ := List.getElem_of_mem hy
  have hic : i < c.length := by rw [hl] at hi; exact hi
  by_cases hk : L (zB c 0) i = -1
  · left
    have e := out_not rule (toldB c 0) codes c h hk
    rw [List.getElem?_eq_getElem hi, List.getElem?_eq_getElem (by rw [zB_len]; exact hic)] at e
    injection e with e
    rw [e, ← hk, L_at (by rw [zB_len]; exact hic)]
  · right
    obtain ⟨j, s, hj, hm⟩ := h.cover i hk
    have hs := List.mem_of_getElem? hj
    obtain ⟨k, hkl, rfl⟩ := List.getElem_of_mem hm
    have e := out_at rule rule_len (toldB c 0) codes c h hs hkl
    rw [List.getElem?_eq_getElem hi] at e
    have hv := List.mem_of_getElem? e.symm
    rcases one_seq h hp with ⟨_, h2⟩ | ⟨_, h2⟩
    · rw [h2] at hs; cases hs
    · rw [h2] at hs
      have hs := List.mem_singleton.1 hs
      subst hs
      refine rule_zero (fun z hz => ?_) _ hv
      obtain ⟨q, hq, rfl⟩ := List.mem_map.1 hz
      have hql : q < c.length := by
        have := (kf_mem.1 hq).2.1
        rw [zB_len] at this
        exact this
      rw [ht, getD_at hql]
      have := hc _ (List.getElem_mem hql)
      exact ⟨this.1, this.2.1, this.2.2.1⟩
def blankB (c : Int) : Bool := decide (c = 12) || (isI c || (isP c || remB c))
/-- Does nothing but blanks stand up to an S, a B, or the end? -/
def endB : List Int → Bool
  | [] => true
  | c :: r => if blankB c = true then endB r else decide (c = 11 ∨ c = 10)
def lineP (p : Int) : List Int → List Int → List Int
  | c :: cs, l :: ls => (if endB (c :: cs) = true then p else l) :: lineP p cs ls
  | _, _ => []
theorem line_len (p : Int) : ∀ (c l : List Int), c.length = l.length → (lineP p c l).length = l.length
  | [], [], _ => rfl
  | [], _ :: _, h => by simp at h
  | _ :: _, [], h => by simp at h
  | c :: cs, l :: ls, h => by simp [lineP, line_len p cs ls (by simpa using h)]
theorem line_again (p : Int) : ∀ (c l : List Int), c.length = l.length → lineP p c (lineP p c l) = lineP p c l
  | [], [], _ => rfl
  | [], _ :: _, h => by simp at h
  | _ :: _, [], h => by simp at h
  | c :: cs, l :: ls, h => by
    simp only [lineP]
    rw [line_again p cs ls (by simpa using h)]
    congr 1
    split <;> rfl
theorem line_at (p : Int) : ∀ (c l : List Int) (i : Nat), c.length = l.length → i < l.length → (lineP p c l)[i]? = some (if endB (c.drop i) = true then p else l.getD i 0)
  | [], [], i, _, hi => by simp at hi
  | [], _ :: _, _, h, _ => by simp at h
  | _ :: _, [], _, h, _ => by simp at h
  | c :: cs, l :: ls, 0, h, hi => by simp [lineP]
  | c :: cs, l :: ls, i + 1, h, hi => by
    simp only [lineP, List.getElem?_cons_succ, List.drop_succ_cons]
    rw [line_at p cs ls i (by simpa using h) (by simpa using hi)]
    simp
/-- Blanks at the end. -/
theorem endB_blanks : ∀ (l : List Int), (∀ x ∈ l, x = 12) → endB l = true
  | [], _ => rfl
  | c :: r, h => by
    have hc := h c (by simp)
    subst hc
    unfold endB
    rw [if_pos (show blankB 12 = true from rfl)]
    exact endB_blanks r (fun x hx => h x (by simp [hx]))
end Go.Proofs.YtfclpecbnailgaaGreat.Bi

/-
  A paragraph's sequences and levels as functions, plainly: there are sequences, and just one row of them. No program in it.
-/
set_option linter.unusedVariables false
namespace Go.Proofs.YtfclpecbnailgaaGreat.Bi
open Go Go.Proofs.YtfclpecbnailgaaGreat.Ba Go.Proofs.YtfclpecbnailgaaGreat.Lv Go.Proofs.YtfclpecbnailgaaGreat.Sq
theorem runs_inv {c z : List Int} {lv : Int} (hiso : Iso c z) : ∀ {i j : Nat} {R : List S4}, Runs c z lv i j R → ∀ (T : List S4) (f : Nat → Option Nat), SInv c z lv i T f → ∃ T' f', SInv c z lv j T' f' := by
  intro i j R h
  induction h with
  | nil i => exact fun T f h => ⟨T, f, h⟩
  | @cons i j f0 t r R hu hr _ ih =>
    intro T f h
    cases hf : f f0 with
    | none => exact ih _ _ (h.fresh hiso hu hr hf)
    | some m =>
      obtain ⟨s, hs, _⟩ := h.w1 _ m (upS hu).1 hf
      exact ih _ _ (h.grown hiso hu hr hf hs)
theorem seqs_exist {c z : List Int} (lv : Int) (hiso : Iso c z) : ∃ T, SeqsAll c z lv T := by
  obtain ⟨j, hr, hu⟩ := runsL_ok c z lv
  obtain ⟨T, f, h⟩ := runs_inv hiso hr [] _ (SInv.start c z lv)
  exact ⟨T, h.all hiso hu⟩
theorem ok_all {c z : List Int} {lv : Int} (hiso : Iso c z) {T : List S4} (h : SeqsOk c z lv T) : SeqsAll c z lv T := by
  obtain ⟨T', h'⟩ := seqs_exist lv hiso
  rw [h.unique h'.ok]
  exact h'
/-- The sequences of a paragraph of the level b. -/
noncomputable def seqsB (c : List Int) (b : Nat) : List S4 := Classical.choose (seqs_exist (b : Int) (iso_zB c b))
theorem seqsB_all (c : List Int) (b : Nat) : SeqsAll c (zB c b) (b : Int) (seqsB c b) := Classical.choose_spec (seqs_exist (b : Int) (iso_zB c b))
theorem seqsB_eq {c : List Int} {b : Nat} {T : List S4} (h : SeqsOk c (zB c b) (b : Int) T) : T = seqsB c b := h.unique (seqsB_all c b).ok
/-- The levels of a paragraph of that level; none, if it is neither 0 nor 1. -/
noncomputable def resZ (c codes : List Int) (x : Int) : List Int := if x = 0 then resB c codes 0 (seqsB c 0) else if x = 1 then resB c codes 1 (seqsB c 1) else []
theorem res_len (c codes : List Int) (b : Nat) (T : List S4) : (resB c codes b T).length = c.length := by
  unfold resB resP
  rw [fill_len, fold_len, zB_len]
theorem resZ_some (c codes : List Int) {b : Nat} (hb : b ≤ 1) : resZ c codes b = resB c codes b (seqsB c b) := by
  unfold resZ
  by_cases h : b = 0
  · subst h; rfl
  · obtain rfl : b = 1 := by omega
    rfl
theorem resZ_none (c codes : List Int) {x : Int} (h0 : x ≠ 0) (h1 : x ≠ 1) : resZ c codes x = [] := by unfold resZ; rw [if_neg h0, if_neg h1]
end Go.Proofs.YtfclpecbnailgaaGreat.Bi

/-
  Rows of ints in memory, of the call's own or of what came in: small facts.
-/
set_option linter.unusedVariables false
namespace Go.Proofs.YtfclpecbnailgaaGreat.Cl
open Go.RowKit Go.Lib
theorem info_parts {P : Program} {t : TypeId} {z : Value} {s b : Nat} (h : (P.info? t).map (fun i => (i.zero, i.size, i.bytes)) = some (some z, s, b)) : ∃ i, P.info? t = some i ∧ i.zero = some z ∧ i.size = s ∧ i.bytes = b := by
  cases hi : P.info? t with
  | none => rw [hi] at h; cases h
  | some i =>
    rw [hi] at h
    simp only [Option.map_some, Option.some.injEq, Prod.mk.injEq] at h
    exact ⟨i, rfl, h.1, h.2.1, h.2.2⟩
/-- A row of ints that came in: nil, or cells below the heap's end. -/
def IntsAt (w : World) (A : Option Addr) (zs : List Int) : Prop :=
  zs = [] ∨ ∃ b off, A = some ⟨b, off, none⟩ ∧ b < w.heap.size ∧ ∀ j z, zs[j]? = some z → w.cell? ⟨b, off + j, none⟩ = some (.int .i64 z)
theorem infoInt : (Tryz.prog.info? 3).map (fun i => (i.zero, i.size, i.bytes)) = some (some (.int .i64 0), 1, 8) := by kernel_rfl
theorem IntsAt.below {w w' : World} {A : Option Addr} {zs : List Int} (h : IntsAt w A zs) (hb : Below w.heap.size w w') : IntsAt w' A zs := by
  rcases h with h | ⟨b, off, hA, hlt, hc⟩
  · exact .inl h
  · exact .inr ⟨b, off, hA, Nat.lt_of_lt_of_le hlt hb.size, fun j z hz => (hb.cell (p := ⟨b, off + j, none⟩) hlt).trans (hc j z hz)⟩
theorem intsAt_own {w : World} {B : Nat} {v : Value} {zs : List Int} (h : w.ownsRow B 3 1 v zs.length (zs.map (Value.int .i64))) : ∃ A c, v = .slice A zs.length c ∧ IntsAt w A zs := by
  have hc := @World.ownsRow.cells _ _ _ _ _ _ _ h
  rcases h.2 with ⟨rfl, hn⟩ | ⟨g, cap, cur, rfl, _, hg, _⟩
  · exact ⟨none, 0, by rw [hn], .inl (List.eq_nil_of_length_eq_zero hn)⟩
  · refine ⟨_, cap, rfl, .inr ⟨g, 0, rfl, (Array.getElem?_eq_some_iff.1 hg).1, fun j z hz => ?_⟩⟩
    have := hc (g := g) rfl j (.int .i64 z) (by simp [hz])
    have hadd : (⟨g, 0, none⟩ : Addr).add j = ⟨g, 0 + j, none⟩ := by unfold Addr.add; split <;> simp_all
    rw [← hadd]
    exact this
theorem IntsAt.at_ {w : World} {A : Option Addr} {zs : List Int} (h : IntsAt w A zs) {k : Nat} (hk : k < zs.length) : ∃ b off, A = some ⟨b, off, none⟩ ∧ w.cell? ⟨b, off + k, none⟩ = some (.int .i64 zs[k]) := by
  rcases h with rfl | ⟨b, off, hA, hlt, hc⟩
  · simp at hk
  · exact ⟨b, off, hA, hc k _ (List.getElem?_eq_getElem hk)⟩
theorem IntsAt.nil_len {w : World} {A : Option Addr} {zs : List Int} (h : IntsAt w A zs) : A = none → zs.length = 0 := by
  rintro rfl
  rcases h with rfl | ⟨b, off, hA, _⟩
  · rfl
  · cases hA
theorem IntsAt.news {w : World} {ad : Addr} {zs : List Int} (h : IntsAt w (some ad) zs) : ∀ j u, (zs.map (Value.int .i64))[j]? = some u → w.cell? (ad.add j) = some u := by
  intro j u hu
  rcases h with rfl | ⟨b, off, hA, hlt, hc⟩
  · simp at hu
  · injection hA with hA
    subst hA
    have hadd : (⟨b, off, none⟩ : Addr).add j = ⟨b, off + j, none⟩ := by unfold Addr.add; split <;> simp_all
    rw [hadd]
    simp only [List.getElem?_map, Option.map_eq_some_iff] at hu
    obtain ⟨z, hz, rfl⟩ := hu
    exact hc j z hz
theorem ownsRow_mono {w : World} {b b' : Nat} {t : TypeId} {n m : Nat} {v : Value} {xs : List Value} (h : w.ownsRow b t n v m xs) (hb : b' ≤ b) : w.ownsRow b' t n v m xs := by
  refine ⟨h.1, ?_⟩
  rcases h.2 with h2 | ⟨g, cap, cur, e1, e2, e3⟩
  · exact .inl h2
  · exact .inr ⟨g, cap, cur, e1, Nat.le_trans hb e2, e3⟩
theorem ownsRow_below {w w' : World} {b : Nat} {t : TypeId} {n m : Nat} {v : Value} {xs : List Value} (h : w.ownsRow b t n v m xs) (hb : Below w.heap.size w w') : w'.ownsRow b t n v m xs := by
  refine ⟨h.1, ?_⟩
  rcases h.2 with h2 | ⟨g, cap, cur, e1, e2, e3, e4⟩
  · exact .inl h2
  · exact .inr ⟨g, cap, cur, e1, e2, (hb.block g (Array.getElem?_eq_some_iff.1 e3).1).trans e3, e4⟩
theorem ints_one (zs : List Int) : ∀ u ∈ zs.map (Value.int .i64), u.oneCell' = true := by
  intro u hu
  simp only [List.mem_map] at hu
  obtain ⟨x, _, rfl⟩ := hu
  rfl
end Go.Proofs.YtfclpecbnailgaaGreat.Cl

/-
  A law for the builtin append onto a row of the call's own, of whatever slice is appended, nil too: one way through.
-/
set_option linter.unusedVariables false
namespace Go.Proofs.YtfclpecbnailgaaGreat
open Go
theorem wpList_append_src {P : Program} (w : World) {ops : Array Oper} {rest : List Oper} {o : Oper} {a : Act} {Q : Exit → Act → World → Prop} (hgd : o.guard = none) (s x : Operand) (t : TypeId)
    (ho : o.op = .call { callee := .builtin .append, args := #[s, x], argTypes := #[t, t] })
    (base : Nat) (e : TypeId) (i : TypeInfo) (z : Value) (size bytes : Nat) (ht : P.underlying t = some (.slice e)) (hi : P.info? e = some i) (hz : i.zero = some z)
    (hsize : i.size = size) (hby : i.bytes = bytes) (hzs : z.cells.size = size) (hsz : 0 < size)
    (v : Value) (n : Nat) (xs : List Value) (hs : a.eval s = v) (hown : w.ownsRow base e size v n xs)
    (A : Option Addr) (m c : Nat) (news : List Value) (hx : a.eval x = .slice A m c) (hl : news.length = m * size) (hA : A = none → m = 0) (hnews : ∀ ad, A = some ad → ∀ j u, news[j]? = some u → w.cell? (ad.add j) = some u) (h1 : ∀ u ∈ news, u.oneCell' = true)
    (h63 : n + m ≤ maxLen) (hbytes : (n + m) * bytes ≤ 140737488355328) (hbase : base ≤ w.heap.size)
    (h : ∀ v' w', w'.ownsRow base e size v' (n + m) (xs ++ news) → w.grownBy w' v.ownBlock → wpList P ops Q rest (a.put o.dst v') w') : wpList P ops Q (o :: rest) a w := by
  cases A with
  | some ad => exact wpList_append_own w hgd s x t ho base e i z size bytes ht hi hz hsize hby hzs hsz v n xs hs hown ad m c news hx hl (hnews ad rfl) h1 h63 hbytes hbase (fun v' w' h2 h3 _ => h v' w' h2 h3)
  | none =>
    obtain rfl := hA rfl
    obtain rfl : news = [] := List.eq_nil_of_length_eq_zero (by omega)
    have hshape : ∃ b k d, v = .slice b k d ∧ k ≤ d := by
      rcases hown.2 with ⟨rfl, _⟩ | ⟨g, cap, cur, rfl, _, _, hle, _⟩
      · exact ⟨_, _, _, rfl, Nat.le_refl _⟩
      · exact ⟨_, _, _, rfl, hle⟩
    obtain ⟨b, k, d, rfl, hkd⟩ := hshape
    have hr := run_append_nothing (P := P) w t t o.type e i ht hi b k d hkd (.slice none 0 c) (Src.ofNil w ht c)
    refine wpList_plain hgd fun K hK => ?_
    unfold Oper.wp execOp
    simp only [ho, resolve, invoke, builtin, Sem.run_bind, Sem.run_pure, Result.andThen_ok, List.map_toArray, List.map_cons, List.map_nil, hs, hx, hr]
    refine hK _ _ (h _ _ ?_ ⟨rfl, rfl, rfl, Nat.le_refl _, fun _ _ _ => rfl⟩)
    rw [Nat.add_zero, List.append_nil]
    exact hown
end Go.Proofs.YtfclpecbnailgaaGreat

/-
  The built-in append of ints onto a row of the call's own, of whatever row of ints, in one step of a walk: what is owned then, and that nothing below the row's base changes.
-/
set_option linter.unusedVariables false
namespace Go.Proofs.YtfclpecbnailgaaGreat.Cl
open Go Go.RowKit Go.Lib
/-- The cells of a row of ints. -/
def icl (zs : List Int) : List Value := zs.map (Value.int .i64)
theorem icl_snoc (a : List Int) (z : Int) : icl (a ++ [z]) = icl a ++ [.int .i64 z] := by simp [icl]
theorem icl_append (a b : List Int) : icl (a ++ b) = icl a ++ icl b := by simp [icl]
theorem icl_len (a : List Int) : (icl a).length = a.length := by simp [icl]
theorem intsAt_icl {w : World} {B n : Nat} {v : Value} {zs : List Int} (h : w.ownsRow B 3 1 v n (icl zs)) (hn : zs.length = n) : ∃ A c, v = .slice A n c ∧ IntsAt w A zs := by
  subst hn
  exact intsAt_own h
theorem made_ints (zs : List Int) (cs : Array Value) (e : TypeId) (w : World) (h : cs = (zs.map (Value.int .i64)).toArray) : IntsAt (w.alloc (.cells cs e)) (some ⟨w.heap.size, 0, none⟩) zs := by
  subst h
  refine .inr ⟨w.heap.size, 0, rfl, by simp, fun j z hz => ?_⟩
  obtain ⟨hj, rfl⟩ := List.getElem?_eq_some_iff.1 hz
  simp [hj]
theorem made_ints' {W : World} {B : Nat} {zs : List Int} {cs : Array Value} {e : TypeId} (hB : W.heap.size = B) (h : cs = (zs.map (Value.int .i64)).toArray) : IntsAt (W.alloc (.cells cs e)) (some ⟨B, 0, none⟩) zs := by
  subst hB
  exact made_ints zs cs e W h
theorem below_made (w : World) (o : Obj) : Below w.heap.size w (w.alloc o) := (Below.refl _ _).alloc (Nat.le_refl _) _
theorem wpList_add {ops : Array Oper} {rest : List Oper} {o : Oper} {a : Act} {Q : Exit → Act → World → Prop} {w : World} (hgd : o.guard = none) (s x : Operand)
    (ho : o.op = .call { callee := .builtin .append, args := #[s, x], argTypes := #[25, 25] })
    (base : Nat) (v : Value) (n : Nat) (zs : List Int) (hs : a.eval s = v) (hown : w.ownsRow base 3 1 v n (icl zs))
    (A : Option Addr) (m c : Nat) (ys : List Int) (hx : a.eval x = .slice A m c) (hy : IntsAt w A ys) (hl : ys.length = m) (hnm : n + m ≤ 1099511627776) (hbase : base ≤ w.heap.size)
    (h : ∀ v' w', w'.ownsRow base 3 1 v' (n + m) (icl (zs ++ ys)) → Below base w w' → wpList Tryz.prog ops Q rest (a.put o.dst v') w') : wpList Tryz.prog ops Q (o :: rest) a w := by
  obtain ⟨i0, hi, hz0, hz1, hz2⟩ := info_parts infoInt
  refine wpList_append_src w hgd s x 25 ho base 3 i0 (.int .i64 0) 1 8 Tryz.underlying25 hi hz0 hz1 hz2 rfl (by decide) v n (icl zs) hs hown A m c (icl ys) hx (by rw [icl_len, hl, Nat.mul_one])
    (fun e => by rw [← hl]; exact hy.nil_len e) (fun ad had => ?_) (ints_one _) (by unfold maxLen; omega) (by omega) hbase (fun v' w' h2 h3 => h v' w' (by rw [icl_append]; exact h2) ?_)
  · subst had
    exact hy.news
  · exact (Below.refl base w).grown h3 hbase (fun k hk => (hown.lt k hk).1)
end Go.Proofs.YtfclpecbnailgaaGreat.Cl

/-
  A row of classes of the call's own while rules write it: nothing else of memory changes; and what a rule is: a function value that, called, makes of what the row holds what it says. No program in it but its types.
-/
set_option linter.unusedVariables false
namespace Go.Proofs.YtfclpecbnailgaaGreat.Wk
open Go Go.RowKit Go.Lib Go.Proofs.YtfclpecbnailgaaGreat.Cl
theorem grown_refl (w : World) (r : Option Nat) : w.grownBy w r := ⟨rfl, rfl, rfl, Nat.le_refl _, fun _ _ _ => rfl⟩
theorem grown_trans {a b c : World} {r : Option Nat} (h : a.grownBy b r) (k : b.grownBy c r) : a.grownBy c r :=
  ⟨k.os.trans h.os, k.tape.trans h.tape, k.output.trans h.output, Nat.le_trans h.size k.size, fun i hi hne => (k.block i (Nat.lt_of_lt_of_le hi h.size) hne).trans (h.block i hi hne)⟩
theorem grown_below {w w' : World} (r : Option Nat) (h : Below w.heap.size w w') : w.grownBy w' r :=
  ⟨h.os, h.tape, h.output, h.size, fun i hi _ => h.block i hi⟩
/-- In the world wx the row (which lies from block base on) holds L; of w nothing else has changed. -/
structure Row (base : Nat) (A : Option Addr) (n c : Nat) (w : World) (L : List Int) (wx : World) : Prop where
  own : wx.ownsRow base 3 1 (.slice A n c) n (icl L)
  gr : w.grownBy wx (Value.slice A n c).ownBlock
section
variable {bs : Nat} {A : Option Addr} {n c : Nat} {w wx wy : World} {L : List Int}
theorem Row.start (h : w.ownsRow bs 3 1 (.slice A n c) n (icl L)) : Row bs A n c w L w := ⟨h, grown_refl _ _⟩
theorem Row.len (h : Row bs A n c w L wx) : L.length = n := by
  have := h.own.1
  rw [icl_len] at this
  omega
theorem Row.below (h : Row bs A n c w L wx) (hb : Below wx.heap.size wx wy) : Row bs A n c w L wy :=
  ⟨ownsRow_below h.own hb, grown_trans h.gr (grown_below _ hb)⟩
theorem Row.alloc (h : Row bs A n c w L wx) (o : Obj) : Row bs A n c w L (wx.alloc o) := h.below (below_made wx o)
theorem Row.drew (h : Row bs A n c w L wx) : Row bs A n c w L wx.drew := h.below (Below.refl _ _).drew
theorem Row.base (h : Row bs A n c w L wx) : ∀ k, (Value.slice A n c).ownBlock = some k → bs ≤ k ∧ k < wx.heap.size := h.own.lt
/-- A block that is not the row's. -/
theorem Row.cell (h : Row bs A n c w L wx) {p : Addr} {v : Value} (hp : w.cell? p = some v) (hne : some p.block ≠ (Value.slice A n c).ownBlock) : wx.cell? p = some v := h.gr.cell hp hne
theorem Row.at_ (h : Row bs A n c w L wx) {d r : List Int} {x : Int} {k : Nat} (hL : L = d ++ x :: r) (hk : d.length = k) :
    ∃ g, A = some ⟨g, 0, none⟩ ∧ wx.cell? ⟨g, k, none⟩ = some (.int .i64 x) ∧ wx.frozen? ⟨g, k, none⟩ = false ∧ k < n ∧ n ≤ c ∧ ∀ z : Int, Row bs A n c w (d ++ z :: r) (wx.setCell ⟨g, k, none⟩ (.int .i64 z)) := by
  subst hk
  have hlen := h.len
  subst hL
  rw [List.length_append, List.length_cons] at hlen
  rcases h.own.2 with ⟨e, hn⟩ | ⟨g, cap, cur, e, hB, hg, hle, -⟩
  · omega
  · injection e with e1 e2 e3
    subst e1 e3
    refine ⟨g, rfl, ?_, h.own.frozenAt _, by omega, hle, fun z => ?_⟩
    · rw [h.own.cellAt _ (by omega)]
      simp [icl]
    · obtain ⟨h1, h2⟩ := h.own.stored d.length (.int .i64 z)
      refine ⟨?_, grown_trans h.gr h2⟩
      rw [show (icl (d ++ x :: r)).set d.length (.int .i64 z) = icl (d ++ z :: r) from by simp [icl]] at h1
      exact h1
/-- A row of ints that lies elsewhere. -/
theorem Row.ints (h : Row bs A n c w L wx) {p q : Nat} {zs : List Int} (hp : IntsAt w (some ⟨p, q, none⟩) zs) (hne : some p ≠ (Value.slice A n c).ownBlock) : IntsAt wx (some ⟨p, q, none⟩) zs := by
  rcases hp with rfl | ⟨b, off, e, hb, hz⟩
  · exact .inl rfl
  · injection e with e
    injection e with e1 e2 e3
    subst e1 e2
    exact .inr ⟨_, _, rfl, Nat.lt_of_lt_of_le hb h.gr.size, fun j z hj => h.gr.cell (hz j z hj) hne⟩
end
/-- The function value fv, called in w or later, makes R of what the row holds. -/
def RuleOk (base : Nat) (A : Option Addr) (n c : Nat) (fv : Value) (R : List Int → List Int) (w : World) : Prop :=
  ∃ k mid caps, fv = .func (.func k) mid caps ∧ (∀ args W, (callFunc k args).run Tryz.prog W = .ok (.enter k args) W) ∧
    ∀ W L, w.grownBy W (Value.slice A n c).ownBlock → W.ownsRow base 3 1 (.slice A n c) n (icl L) →
      Calls Tryz.prog k (mid ++ caps) W fun e W' => e = .returned (.tuple #[]) ∧ Row base A n c W (R L) W'
theorem RuleOk.later {base : Nat} {A : Option Addr} {n c : Nat} {fv : Value} {R : List Int → List Int} {w w' : World} (h : RuleOk base A n c fv R w) (hg : w.grownBy w' (Value.slice A n c).ownBlock) : RuleOk base A n c fv R w' := by
  obtain ⟨k, mid, caps, e, h1, h2⟩ := h
  exact ⟨k, mid, caps, e, h1, fun W L hW hL => h2 W L (grown_trans hg hW) hL⟩
end Go.Proofs.YtfclpecbnailgaaGreat.Wk

/-
  The built-in append of one number onto a row of numbers of the call's own: where the row lies then: where it lay, or in a block that is new. Two rows that grow side by side. No program in it.
-/
set_option linter.unusedVariables false
set_option maxRecDepth 100000
namespace Go.Proofs.YtfclpecbnailgaaGreat.Cl
open Go Go.RowKit Go.Lib
theorem run_one (ty : TypeId) (base : Nat) (v : Value) (n : Nat) (zs : List Int) (z : Int) (w : World) (hown : w.ownsRow base 3 1 v n (icl zs)) (ad : Addr) (hz : w.cell? ad = some (.int .i64 z)) (hs : ad.add 0 = ad) (hn : n ≤ 1099511627776) (hbase : base ≤ w.heap.size) :
    ∃ v' w', (Builtin.append_ #[25, 25] ty #[v, .slice (some ad) 1 1]).run Tryz.prog w = .ok v' w' ∧ w'.ownsRow base 3 1 v' (n + 1) (icl (zs ++ [z])) ∧ w.grownBy w' v.ownBlock ∧ (v'.ownBlock = v.ownBlock ∨ ∃ k, v'.ownBlock = some k ∧ w.heap.size ≤ k) := by
  obtain ⟨i0, hi, hz0, hz1, hz2⟩ := info_parts infoInt
  have hnews : ∀ j u, [Value.int .i64 z][j]? = some u → w.cell? (ad.add j) = some u := by
    intro j u hu
    cases j with
    | zero =>
      injection hu with hu
      rw [hs, ← hu]
      exact hz
    | succ j => simp at hu
  have h1 : ∀ u ∈ [Value.int .i64 z], u.oneCell' = true := by
    intro u hu
    simp only [List.mem_singleton] at hu
    subst hu
    rfl
  have hx : icl (zs ++ [z]) = icl zs ++ [.int .i64 z] := icl_snoc zs z
  rw [hx]
  rcases hown.2 with ⟨rfl, rfl⟩ | ⟨g, cap, cur, rfl, hbg, hg, hnc, hcm, hcs, htake⟩
  · have hz' : icl zs = [] := List.eq_nil_of_length_eq_zero (by simpa using hown.1)
    obtain ⟨v', w', hr, ho, hg, -⟩ := run_append_own (P := Tryz.prog) w w.heap.size 25 ty 3 i0 (.int .i64 0) 1 8 Tryz.underlying25 hi hz0 hz1 hz2 rfl (by decide) (.slice none 0 0) 0 (icl zs) (by rw [hz']; exact World.ownsRow_nil _ _ _ _) ad 1 1 [.int .i64 z] rfl hnews h1 (by unfold maxLen; omega) (by omega) (Nat.le_refl _)
    refine ⟨v', w', hr, ?_, hg, .inr ?_⟩
    · exact ho.mono hbase
    · obtain ⟨k, c, rfl, hk, -⟩ := ho.form (by omega)
      exact ⟨k, rfl, hk⟩
  · by_cases hroom : n + 1 ≤ cap
    · obtain ⟨w', hr, ho, hgr⟩ := run_append_fits (P := Tryz.prog) w base 25 ty 3 i0 1 Tryz.underlying25 hi hz1 g n cap (icl zs) hown ad 1 1 [.int .i64 z] rfl hnews h1 hroom
      exact ⟨_, w', hr, ho, hgr, .inl rfl⟩
    · obtain ⟨v', w', hr, ho, hgr, -⟩ := run_append_own (P := Tryz.prog) w base 25 ty 3 i0 (.int .i64 0) 1 8 Tryz.underlying25 hi hz0 hz1 hz2 rfl (by decide) _ n (icl zs) hown ad 1 1 [.int .i64 z] rfl hnews h1 (by unfold maxLen; omega) (by omega) hbase
      have holds : ∀ j u, (icl zs)[j]? = some u → w.cell? ((⟨g, 0, none⟩ : Addr).add j) = some u := hown.cells (g := g) rfl
      have hr2 := run_append_grow (P := Tryz.prog) w 25 ty 3 i0 (.int .i64 0) Tryz.underlying25 hi hz0 ⟨g, 0, none⟩ n cap (icl zs) (by rw [hz1]; exact hown.1) holds ad 1 1 [.int .i64 z] (by rw [hz1]; rfl) hnews (by omega) (by omega) (by rw [hz2]; exact growslice_fits (by omega) (by omega))
      refine ⟨v', w', hr, ho, hgr, .inr ?_⟩
      rw [hr2] at hr
      injection hr with hv _
      exact ⟨w.heap.size, by rw [← hv]; rfl, Nat.le_refl _⟩
/-- Two rows lie apart. -/
def Two (u v : Value) : Prop := u.ownBlock = none ∨ u.ownBlock ≠ v.ownBlock
theorem Two.nil (v : Value) : Two (.slice none 0 0) v := .inl rfl
theorem Two.swap {u v : Value} (h : Two u v) : Two v u := by
  rcases h with h | h
  · cases hv : v.ownBlock with
    | none => exact .inl hv
    | some k => exact .inr (by rw [h, hv]; exact fun e => by cases e)
  · exact .inr (fun e => h e.symm)
/-- The first one grows. -/
theorem Two.grow {w : World} {u u' v : Value} {base n : Nat} {xs : List Value} (h : Two u v) (ho : w.ownsRow base 3 1 v n xs) (hu : u'.ownBlock = u.ownBlock ∨ ∃ k, u'.ownBlock = some k ∧ w.heap.size ≤ k) : Two u' v := by
  rcases hu with hu | ⟨k, hk, hle⟩
  · rcases h with h | h
    · exact .inl (hu.trans h)
    · exact .inr (by rw [hu]; exact h)
  · refine .inr ?_
    rw [hk]
    intro e
    have := (ho.lt k e.symm).2
    omega
theorem Two.kept {w w' : World} {u v : Value} {base n : Nat} {xs : List Value} (h : Two u v) (ho : w.ownsRow base 3 1 v n xs) (hg : w.grownBy w' u.ownBlock) : w'.ownsRow base 3 1 v n xs := by
  refine ho.kept hg ?_
  rcases h.swap with h | h
  · exact .inl h
  · exact .inr h
end Go.Proofs.YtfclpecbnailgaaGreat.Cl

/-
  A region that builds one slice of literal ints and hands it on (a table of the document's answer); no program here but its table of types.
-/
set_option linter.unusedVariables false
namespace Go.Proofs.YtfclpecbnailgaaGreat.Tab
open Go.RowKit Go.Lib
def litParts (l : List Int) : Array (Nat × Operand) := ((l.zipIdx 0).map fun x => (x.2, Operand.const (Value.int .i64 x.1))).toArray
theorem wpList_assignTo {P : Program} {ops : Array Oper} {Q : Exit → Act → World → Prop} {rest : List Oper} {o : Oper} {a : Act} {w : World} (hg : o.guard = none) (x : Operand) (ho : o.op = .assign x)
    (h : wpList P ops Q rest (a.put o.dst (a.eval x)) w) : wpList P ops Q (o :: rest) a w :=
  wpList_plain hg fun K hK => by
    unfold Oper.wp execOp
    simp only [ho]
    exact hK _ _ h
theorem wp_ints {P : Program} {id : Nat} {l : List Oper} {Q : Exit → Act → World → Prop} {a : Act} {w : World} (d d2 : Nat) (t e : TypeId) (zs : List Int) (n : Nat)
    (hu : P.underlying t = some (.slice e)) (hsz : (P.info? e).map (·.size) = some 1) (hz : ((P.info? e).bind (·.zero)).isSome = true) (hn : n = zs.length) (hpos : 0 < n) (hsmall : n ≤ 2 ^ 24)
    (hl : l.map (fun o => (o.dst, o.op, o.guard)) = [(some d, .buildSlice t n (litParts zs), none), (some d2, .assign (.tmp d), none)])
    (h : Q .normal ((a.put (some d) (.slice (some ⟨w.heap.size, 0, none⟩) n n)).put (some d2) ((a.put (some d) (.slice (some ⟨w.heap.size, 0, none⟩) n n)).eval (.tmp d))) (w.alloc (.cells (zs.map (Value.int .i64)).toArray e))) :
    (Code.region id l.toArray false).wp P Q a w := by
  refine wp_region_lit ?_
  generalize hops : l.toArray = ops
  clear hops
  rcases l with _ | ⟨o1, _ | ⟨o2, _ | ⟨o3, m⟩⟩⟩
  · cases hl
  · simp at hl
  · simp only [List.map_cons, List.map_nil, List.cons.injEq, Prod.mk.injEq, and_true] at hl
    obtain ⟨⟨e1, e2, e3⟩, e4, e5, e6⟩ := hl
    refine wpList_buildFlat e3 t e n (litParts zs) e2 .i64 zs hu hsz hz hn hpos hsmall rfl ?_
    refine wpList_assignTo e6 (.tmp d) e5 ?_
    rw [e1, e4]
    exact h
  · simp at hl
theorem infoI1 : (Tryz.prog.info? 3).map (·.size) = some 1 := by kernel_rfl
theorem infoI2 : ((Tryz.prog.info? 3).bind (·.zero)).isSome = true := by kernel_rfl
/-- Numbers in memory, from a block's beginning on. -/
def LitAt (w : World) (g : Nat) (zs : List Int) : Prop := g < w.heap.size ∧ ∀ k (hk : k < zs.length), w.cell? ⟨g, k, none⟩ = some (.int .i64 zs[k])
theorem LitAt.below {w w' : World} {g : Nat} {zs : List Int} (h : LitAt w g zs) (hb : Below w.heap.size w w') : LitAt w' g zs :=
  ⟨Nat.lt_of_lt_of_le h.1 hb.size, fun k hk => (hb.cell (p := ⟨g, k, none⟩) h.1).trans (h.2 k hk)⟩
theorem litAt_made (zs : List Int) (e : TypeId) (w : World) : LitAt (w.alloc (.cells (zs.map (Value.int .i64)).toArray e)) w.heap.size zs := by
  refine ⟨by simp, fun k hk => ?_⟩
  simp [hk]
end Go.Proofs.YtfclpecbnailgaaGreat.Tab

/-
  Small laws: a region that builds literals and stores the last one into the array that was made last; a new variable; a world that drew; no program here.
-/
set_option linter.unusedVariables false
namespace Go.Proofs.YtfclpecbnailgaaGreat.Arr
open Go.RowKit Go.Lib
theorem below_drewN {B : Nat} {a w : World} (h : Below B a w) (n : Nat) : Below B a (w.drewN n) := ⟨h.os, h.tape, h.output, h.size, h.block⟩
theorem below_drew {B : Nat} {a w : World} (h : Below B a w) : Below B a w.drew := ⟨h.os, h.tape, h.output, h.size, h.block⟩
/-- The frame behind a list of literals of structs and arrays. -/
def builtAll (P : Program) : List Oper → Act → Option Act
  | [], a => some a
  | o :: l, a => match o.guard, o.op with
    | none, .build t parts => match P.built t (parts.map fun (i, x) => (i, a.eval x)).toList with
      | some cells => builtAll P l (a.put o.dst (.agg cells))
      | none => none
    | _, _ => none
theorem wpList_builtAll {P : Program} {ops : Array Oper} {Q : Exit → Act → World → Prop} {rest : List Oper} {w : World} :
    ∀ (l : List Oper) (a a' : Act), builtAll P l a = some a' → wpList P ops Q rest a' w → wpList P ops Q (l ++ rest) a w
  | [], a, a', h, hr => by
    simp only [builtAll, Option.some.injEq] at h
    subst h
    exact hr
  | o :: l, a, a', h, hr => by
    unfold builtAll at h
    split at h
    · rename_i t parts hg ho
      split at h
      · rename_i cells hc
        exact wpList_buildTo hg t parts ho _ rfl cells hc (wpList_builtAll l _ a' h hr)
      · cases h
    · cases h
/-- A region that builds literals, and stores the last one into the array that was made last. -/
theorem wp_stored {P : Program} {id : Nat} {l : List Oper} {Q : Exit → Act → World → Prop} {a : Act} {w : World} (n : Nat) (a' : Act) (h1 : builtAll P (l.take n) a = some a')
    (x y : Operand) (t : TypeId) (hl : (l.drop n).map (fun o => (o.dst, o.op, o.guard)) = [(none, .store t x y, none)]) (old cells : Array Value)
    (hx : a'.eval x = .pointer (some ⟨w.heap.size, 0, none⟩)) (hy : a'.eval y = .agg cells) (hi : (P.info? t).map (·.size) = some cells.size) (hold : old.size = cells.size) (hc : cells.all (·.oneCell') = true)
    (h : Q .normal a' (w.alloc (.cells cells t))) : (Code.region id l.toArray false).wp P Q a (w.alloc (.cells old t)) := by
  refine wp_region_lit ?_
  have hw : wpList P l.toArray Q (l.take n ++ l.drop n) a (w.alloc (.cells old t)) := by
    refine wpList_builtAll _ a a' h1 ?_
    generalize l.drop n = m at hl ⊢
    rcases m with _ | ⟨o1, _ | ⟨o2, m⟩⟩
    · cases hl
    · simp only [List.map_cons, List.map_nil, List.cons.injEq, Prod.mk.injEq, and_true] at hl
      obtain ⟨e1, e2, e3⟩ := hl
      refine wpList_store_rowTo e3 t x y e2 e1 w.heap.size cells hx hy t old (heap_alloc_last w _) hi hold hc ?_
      rw [World.setRow_alloc_new]
      exact h
    · simp at hl
  rwa [List.take_append_drop] at hw
/-- A new variable. -/
theorem wpList_allocVar {P : Program} {ops : Array Oper} {rest : List Oper} {o : Oper} {a : Act} {w : World} {Q : Exit → Act → World → Prop} (hg : o.guard = none) (t : TypeId) (ho : o.op = .alloc t) (d : Option Tmp) (hd : o.dst = d)
    (z : Value) (hz : ∀ w, (zeroValue t).run P w = .ok z w) (h : wpList P ops Q rest (a.put d (.pointer (some ⟨w.heap.size, 0, none⟩))) (w.alloc (.cells z.cells t))) : wpList P ops Q (o :: rest) a w := by
  subst hd
  refine wpList_plain hg fun K hK => ?_
  unfold Oper.wp execOp
  simp only [ho, Instr.alloc, Sem.run_bind, hz, Result.andThen_ok, newVar, newRow]
  exact hK _ _ h
end Go.Proofs.YtfclpecbnailgaaGreat.Arr

/-
  Runs and sequences in memory: rows of structs of three ints and a row of ints, each row of its own; as they are read.
-/
set_option linter.unusedVariables false
namespace Go.Proofs.YtfclpecbnailgaaGreat.Sq
open Go Go.RowKit Go.Lib Go.Proofs.YtfclpecbnailgaaGreat.Cl
theorem own_ne {w : World} {B B' : Nat} {t t' : TypeId} {sz sz' : Nat} {v v' : Value} {n n' : Nat} {xs xs' : List Value} (h : w.ownsRow B t sz v n xs) (h' : w.ownsRow B' t' sz' v' n' xs') (ht : t ≠ t') : v.ownBlock = none ∨ v.ownBlock ≠ v'.ownBlock := by
  rcases h.2 with ⟨rfl, _⟩ | ⟨g, cap, cur, rfl, _, hg, _⟩
  · exact .inl rfl
  · rcases h'.2 with ⟨rfl, _⟩ | ⟨g', cap', cur', rfl, _, hg', _⟩
    · exact .inr (by simp [Value.ownBlock])
    · right
      intro e
      simp [Value.ownBlock] at e
      subst e
      rw [hg] at hg'
      injection hg' with hg'
      injection hg' with _ h2 _
      exact ht h2
theorem own_heap {w w' : World} {B : Nat} {t : TypeId} {sz : Nat} {v : Value} {n : Nat} {xs : List Value} (h : w.ownsRow B t sz v n xs) (e : w'.heap = w.heap) : w'.ownsRow B t sz v n xs := by
  unfold World.ownsRow at h ⊢
  rw [e]
  exact h
/-- Places as numbers. -/
def ns (l : List Nat) : List Int := l.map fun p : Nat => (p : Int)
theorem ns_len (l : List Nat) : (ns l).length = l.length := by simp [ns]
theorem ns_append (a b : List Nat) : ns (a ++ b) = ns a ++ ns b := by simp [ns]
theorem ns_at {l : List Nat} {k : Nat} (h : k < l.length) : (ns l)[k]? = some ((l[k] : Nat) : Int) := by simp [ns, h]
def c4 (r : S4) (x : Value) : List Value := [.int .i64 r.a, .int .i64 r.b, .int .i64 r.c, x]
def cellsS : List S4 → List Value → List Value
  | r :: R, x :: X => c4 r x ++ cellsS R X
  | _, _ => []
theorem cellsS_snoc : ∀ {R : List S4} {X : List Value} (r : S4) (x : Value), X.length = R.length → cellsS (R ++ [r]) (X ++ [x]) = cellsS R X ++ c4 r x
  | [], [], r, x, _ => by simp [cellsS]
  | r0 :: R, x0 :: X, r, x, h => by
    have := cellsS_snoc (R := R) (X := X) r x (by simpa using h)
    simp only [List.cons_append, cellsS]
    rw [this, List.append_assoc]
theorem cellsS_at : ∀ {R : List S4} {X : List Value} {k : Nat} {x : Value} (hk : k < R.length), X[k]? = some x → (cellsS R X)[k * 4]? = some (.int .i64 R[k].a) ∧ (cellsS R X)[k * 4 + 1]? = some (.int .i64 R[k].b) ∧ (cellsS R X)[k * 4 + 2]? = some (.int .i64 R[k].c) ∧ (cellsS R X)[k * 4 + 3]? = some x
  | r :: R, y :: X, 0, x, _, h => by
    simp at h
    subst h
    exact ⟨rfl, rfl, rfl, rfl⟩
  | r :: R, y :: X, k + 1, x, hk, h => by
    have := cellsS_at (R := R) (X := X) (k := k) (x := x) (by simpa using hk) (by simpa using h)
    rw [show (k + 1) * 4 = k * 4 + 4 from by omega]
    exact this
theorem cellsS_setc : ∀ {R : List S4} {X : List Value} {k : Nat} (hk : k < R.length) (y : Int), X.length = R.length → (cellsS R X).set (k * 4 + 2) (.int .i64 y) = cellsS (R.set k ⟨R[k].a, R[k].b, y, R[k].p⟩) X
  | r :: R, x :: X, 0, _, y, _ => rfl
  | r :: R, x :: X, k + 1, hk, y, h => by
    have := cellsS_setc (R := R) (X := X) (k := k) (by simpa using hk) y (by simpa using h)
    rw [show (k + 1) * 4 + 2 = (k * 4 + 2) + 4 from by omega]
    simp only [List.set_cons_succ, cellsS, List.getElem_cons_succ]
    rw [← this]
    rfl
theorem cellsS_setp : ∀ {R : List S4} {X : List Value} {k : Nat} (hk : k < R.length) (x : Value) (p : List Nat), X.length = R.length → (cellsS R X).set (k * 4 + 3) x = cellsS (R.set k ⟨R[k].a, R[k].b, R[k].c, p⟩) (X.set k x)
  | r :: R, x0 :: X, 0, _, x, p, _ => rfl
  | r :: R, x0 :: X, k + 1, hk, x, p, h => by
    have := cellsS_setp (R := R) (X := X) (k := k) (by simpa using hk) x p (by simpa using h)
    rw [show (k + 1) * 4 + 3 = (k * 4 + 3) + 4 from by omega]
    simp only [List.set_cons_succ, cellsS, List.getElem_cons_succ]
    rw [← this]
    rfl
/-- Such a row of the call's own, of a struct's type, with the values of its rows. -/
structure SqI (T : TypeId) (B : Nat) (w : World) (v : Value) (R : List S4) (X : List Value) : Prop where
  ty : T ≠ 3
  len : X.length = R.length
  row : w.ownsRow B T 4 v R.length (cellsS R X)
  own : ∀ i (h : i < R.length) x, X[i]? = some x → w.ownsRow B 3 1 x R[i].p.length (icl (ns R[i].p))
  two : ∀ (i j : Nat) (x y : Value), i ≠ j → X[i]? = some x → X[j]? = some y → Two x y
theorem SqI.nil {T : TypeId} (B : Nat) (w : World) (hT : T ≠ 3) : SqI T B w (.slice none 0 0) [] [] :=
  ⟨hT, rfl, World.ownsRow_nil _ _ _ _, fun i h => by simp at h, fun i j x y _ h => by simp at h⟩
theorem SqI.below {T : TypeId} {B : Nat} {w w' : World} {v : Value} {R : List S4} {X : List Value} (h : SqI T B w v R X) (hb : Below w.heap.size w w') : SqI T B w' v R X :=
  ⟨h.ty, h.len, ownsRow_below h.row hb, fun i hi x hx => ownsRow_below (h.own i hi x hx) hb, h.two⟩
theorem SqI.heap {T : TypeId} {B : Nat} {w w' : World} {v : Value} {R : List S4} {X : List Value} (h : SqI T B w v R X) (e : w'.heap = w.heap) : SqI T B w' v R X :=
  ⟨h.ty, h.len, own_heap h.row e, fun i hi x hx => own_heap (h.own i hi x hx) e, h.two⟩
theorem SqI.mono {T : TypeId} {B C : Nat} {w : World} {v : Value} {R : List S4} {X : List Value} (h : SqI T B w v R X) (hC : C ≤ B) : SqI T C w v R X :=
  ⟨h.ty, h.len, ownsRow_mono h.row hC, fun i hi x hx => ownsRow_mono (h.own i hi x hx) hC, h.two⟩
theorem SqI.val {T : TypeId} {B : Nat} {w : World} {v : Value} {R : List S4} {X : List Value} (h : SqI T B w v R X) {i : Nat} (hi : i < R.length) : ∃ x, X[i]? = some x := ⟨_, List.getElem?_eq_getElem (by rw [h.len]; exact hi)⟩
theorem SqI.lt {T : TypeId} {B : Nat} {w : World} {v : Value} {R : List S4} {X : List Value} (h : SqI T B w v R X) {i : Nat} {x : Value} (hx : X[i]? = some x) {k : Nat} (hk : x.ownBlock = some k) : B ≤ k ∧ k < w.heap.size := by
  have hi : i < R.length := by rw [← h.len]; exact (List.getElem?_eq_some_iff.1 hx).1
  exact (h.own i hi x hx).lt k hk
/-- Anything changes but blocks that are none of its own. -/
theorem SqI.kept {T : TypeId} {B : Nat} {w w' : World} {v : Value} {R : List S4} {X : List Value} (h : SqI T B w v R X) {row : Option Nat} (hg : w.grownBy w' row) (hr : ∀ k, row = some k → k < B) : SqI T B w' v R X := by
  have hn : ∀ (u : Value), (∀ k, u.ownBlock = some k → B ≤ k ∧ k < w.heap.size) → u.ownBlock = none ∨ u.ownBlock ≠ row := fun u hu => by
    cases hb : u.ownBlock with
    | none => exact .inl rfl
    | some k =>
      right
      intro e
      have := (hu k hb).1
      have := hr k e.symm
      omega
  exact ⟨h.ty, h.len, h.row.kept hg (hn v h.row.lt), fun i hi x hx => (h.own i hi x hx).kept hg (hn x (h.own i hi x hx).lt), h.two⟩
/-- Anything changes but cells. -/
theorem own_other {w w' : World} {B : Nat} {t : TypeId} {sz : Nat} {v : Value} {n : Nat} {xs : List Value} (h : w.ownsRow B t sz v n xs) {row : Option Nat} (hg : w.grownBy w' row) (hr : ∀ r, row = some r → ∀ b t' f, w.heap[r]? ≠ some (.cells b t' f)) : w'.ownsRow B t sz v n xs := by
  refine h.kept hg ?_
  rcases h.2 with ⟨rfl, _⟩ | ⟨g, cap, cur, rfl, _, hgb, _⟩
  · exact .inl rfl
  · refine .inr fun e' => ?_
    have ho := hr g (by simpa [Value.ownBlock] using e'.symm)
    exact ho _ _ _ hgb
theorem SqI.other {T : TypeId} {B : Nat} {w w' : World} {v : Value} {R : List S4} {X : List Value} (h : SqI T B w v R X) {row : Option Nat} (hg : w.grownBy w' row) (hr : ∀ r, row = some r → ∀ b t' f, w.heap[r]? ≠ some (.cells b t' f)) : SqI T B w' v R X :=
  ⟨h.ty, h.len, own_other h.row hg hr, fun i hi x hx => own_other (h.own i hi x hx) hg hr, h.two⟩
theorem new_cells {W : World} {cs : Array Value} {e : TypeId} : ∀ j u, cs.toList[j]? = some u → (W.alloc (.cells cs e)).cell? ((⟨W.heap.size, 0, none⟩ : Addr).add j) = some u := by
  intro j u hu
  obtain ⟨hj, rfl⟩ := List.getElem?_eq_some_iff.1 hu
  have hadd : (⟨W.heap.size, 0, none⟩ : Addr).add j = ⟨W.heap.size, 0 + j, none⟩ := by unfold Addr.add; split <;> simp_all
  rw [hadd, Nat.zero_add, cell_of_row _ W.heap.size j cs e (0, 0) (heap_alloc_last W _)]
  have hj' : j < cs.size := by simpa using hj
  rw [Array.getElem?_eq_getElem hj']
  simp
/-- One more. -/
theorem SqI.push {T : TypeId} {B : Nat} {w w' : World} {v v' : Value} {R : List S4} {X : List Value} (h : SqI T B w v R X) (r : S4) (x : Value) (hrow : w'.ownsRow B T 4 v' (R.length + 1) (cellsS R X ++ c4 r x)) (hg : w.grownBy w' v.ownBlock)
    (hx : w.ownsRow B 3 1 x r.p.length (icl (ns r.p))) (h2 : ∀ y ∈ X, Two y x) : SqI T B w' v' (R ++ [r]) (X ++ [x]) := by
  have hl := h.len
  refine ⟨h.ty, by simp [hl], ?_, fun i hi y hy => ?_, fun i j y z hij hy hz => ?_⟩
  · rw [cellsS_snoc r x hl, List.length_append]
    exact hrow
  · by_cases hlt : i < R.length
    · have e : (R ++ [r])[i] = R[i] := List.getElem_append_left hlt
      rw [e]
      rw [List.getElem?_append_left (by omega)] at hy
      exact (h.own i hlt y hy).kept hg (own_ne (h.own i hlt y hy) h.row (fun e => h.ty e.symm))
    · have hi' : i = R.length := by simp at hi; omega
      subst hi'
      rw [List.getElem?_append_right (by omega), hl, Nat.sub_self] at hy
      simp at hy
      subst hy
      simp only [List.getElem_concat_length]
      exact hx.kept hg (own_ne hx h.row (fun e => h.ty e.symm))
  · have hcase : ∀ (i : Nat) (y : Value), (X ++ [x])[i]? = some y → (i < X.length ∧ X[i]? = some y) ∨ (i = X.length ∧ y = x) := fun i y hy => by
      by_cases hi : i < X.length
      · rw [List.getElem?_append_left hi] at hy
        exact .inl ⟨hi, hy⟩
      · rw [List.getElem?_append_right (by omega)] at hy
        have : i - X.length = 0 := by
          have := (List.getElem?_eq_some_iff.1 hy).1
          simp at this
          omega
        rw [this] at hy
        simp at hy
        exact .inr ⟨by omega, hy.symm⟩
    rcases hcase i y hy with ⟨h3, h4⟩ | ⟨h3, h4⟩
    · rcases hcase j z hz with ⟨h5, h6⟩ | ⟨h5, h6⟩
      · exact h.two i j y z hij h4 h6
      · subst h6
        exact h2 y (List.mem_of_getElem? h4)
    · rcases hcase j z hz with ⟨h5, h6⟩ | ⟨h5, h6⟩
      · subst h4
        exact (h2 z (List.mem_of_getElem? h6)).swap
      · omega
/-- One of them, as it lies. -/
theorem SqI.get {T : TypeId} {B : Nat} {w : World} {v : Value} {R : List S4} {X : List Value} (h : SqI T B w v R X) {k : Nat} (hk : k < R.length) : ∃ g cap x A c, v = .slice (some ⟨g, 0, none⟩) R.length cap ∧ B ≤ g ∧ g < w.heap.size ∧ X[k]? = some x ∧ x = .slice A R[k].p.length c ∧ IntsAt w A (ns R[k].p) ∧
    w.cell? ⟨g, k * 4, none⟩ = some (.int .i64 R[k].a) ∧ w.cell? ⟨g, k * 4 + 1, none⟩ = some (.int .i64 R[k].b) ∧ w.cell? ⟨g, k * 4 + 2, none⟩ = some (.int .i64 R[k].c) ∧ w.cell? ⟨g, k * 4 + 3, none⟩ = some x ∧ (∀ j, w.frozen? ⟨g, j, none⟩ = false) := by
  obtain ⟨x, hx⟩ := h.val hk
  obtain ⟨h0, h1, h2, h3⟩ := cellsS_at hk hx
  have hw := h.own k hk x hx
  obtain ⟨A, c, ex, hi⟩ := intsAt_icl hw (ns_len _)
  have hr := h.row
  rcases hr.2 with ⟨e, hn⟩ | ⟨g, cap, cur, e, hB, hg, _⟩
  · omega
  · subst e
    refine ⟨g, cap, x, A, c, rfl, hB, (Array.getElem?_eq_some_iff.1 hg).1, hx, ex, hi, ?_, ?_, ?_, ?_, fun j => hr.frozenAt j⟩
    · rw [hr.cellAt _ (by omega)]; exact h0
    · rw [hr.cellAt _ (by omega)]; exact h1
    · rw [hr.cellAt _ (by omega)]; exact h2
    · rw [hr.cellAt _ (by omega)]; exact h3
/-- The third number is stored. -/
theorem SqI.setc {T : TypeId} {B g cap : Nat} {w : World} {R : List S4} {X : List Value} (h : SqI T B w (.slice (some ⟨g, 0, none⟩) R.length cap) R X) {k : Nat} (hk : k < R.length) (y : Int) :
    SqI T B (w.setCell ⟨g, k * 4 + 2, none⟩ (.int .i64 y)) (.slice (some ⟨g, 0, none⟩) R.length cap) (R.set k ⟨R[k].a, R[k].b, y, R[k].p⟩) X := by
  obtain ⟨h1, h2⟩ := h.row.stored (k * 4 + 2) (.int .i64 y)
  rw [cellsS_setc hk y h.len] at h1
  refine ⟨h.ty, by rw [List.length_set]; exact h.len, by rw [List.length_set]; exact h1, fun i hi x hx => ?_, h.two⟩
  have hi' : i < R.length := by simpa using hi
  have ho := (h.own i hi' x hx).kept h2 (own_ne (h.own i hi' x hx) h.row (fun e => h.ty e.symm))
  have e : (R.set k ⟨R[k].a, R[k].b, y, R[k].p⟩)[i].p = R[i].p := by
    rw [List.getElem_set]
    split
    · rename_i hki
      subst hki
      rfl
    · rfl
  rw [e]
  exact ho
/-- The places are stored, when they have grown. -/
theorem SqI.setp {T : TypeId} {B g cap : Nat} {w w1 : World} {R : List S4} {X : List Value} (h : SqI T B w (.slice (some ⟨g, 0, none⟩) R.length cap) R X) {k : Nat} (hk : k < R.length) {x x' : Value} (hx : X[k]? = some x) (q : List Nat)
    (ho : w1.ownsRow B 3 1 x' (R[k].p ++ q).length (icl (ns (R[k].p ++ q)))) (hg : w.grownBy w1 x.ownBlock) (hw : x'.ownBlock = x.ownBlock ∨ ∃ j, x'.ownBlock = some j ∧ w.heap.size ≤ j) :
    SqI T B (w1.setCell ⟨g, k * 4 + 3, none⟩ x') (.slice (some ⟨g, 0, none⟩) R.length cap) (R.set k ⟨R[k].a, R[k].b, R[k].c, R[k].p ++ q⟩) (X.set k x') ∧ w1.cell? ⟨g, k * 4 + 3, none⟩ = some x ∧ w1.frozen? ⟨g, k * 4 + 3, none⟩ = false := by
  have hxo := h.own k hk x hx
  have hr1 := h.row.kept hg (own_ne h.row hxo h.ty)
  obtain ⟨h1, h2⟩ := hr1.stored (k * 4 + 3) x'
  rw [cellsS_setp hk x' (R[k].p ++ q) h.len] at h1
  obtain ⟨-, -, -, h3⟩ := cellsS_at hk hx
  have htw : ∀ i y, i ≠ k → X[i]? = some y → Two x' y := fun i y hik hy => by
    have hi : i < R.length := by rw [← h.len]; exact (List.getElem?_eq_some_iff.1 hy).1
    exact (h.two k i x y (fun e => hik e.symm) hx hy).grow (h.own i hi y hy) hw
  refine ⟨⟨h.ty, by simp [h.len], by rw [List.length_set]; exact h1, fun i hi y hy => ?_, fun i j y z hij hy hz => ?_⟩, ?_, hr1.frozenAt _⟩
  · have hi' : i < R.length := by simpa using hi
    by_cases e : i = k
    · subst e
      rw [List.getElem?_set_self (by rw [h.len]; exact hk)] at hy
      injection hy with hy
      subst hy
      simp only [List.getElem_set_self]
      exact ho.kept h2 (own_ne ho hr1 (fun e => h.ty e.symm))
    · rw [List.getElem?_set_ne (fun e' => e e'.symm)] at hy
      simp only [List.getElem_set_ne (fun e' => e e'.symm)]
      have hy1 := (h.two k i x y (fun e' => e e'.symm) hx hy).kept (h.own i hi' y hy) hg
      exact hy1.kept h2 (own_ne hy1 hr1 (fun e => h.ty e.symm))
  · by_cases e : i = k
    · subst e
      rw [List.getElem?_set_self (by rw [h.len]; exact hk)] at hy
      injection hy with hy
      subst hy
      rw [List.getElem?_set_ne hij] at hz
      exact htw j z (fun e => hij e.symm) hz
    · rw [List.getElem?_set_ne (fun e' => e e'.symm)] at hy
      by_cases e2 : j = k
      · subst e2
        rw [List.getElem?_set_self (by rw [h.len]; exact hk)] at hz
        injection hz with hz
        subst hz
        exact (htw i y e hy).swap
      · rw [List.getElem?_set_ne (fun e' => e2 e'.symm)] at hz
        exact h.two i j y z hij hy hz
  · rw [hr1.cellAt _ (by omega)]; exact h3
/-- Such a row as it is read. -/
def SqAt (w : World) (A : Option Addr) (R : List S4) : Prop :=
  R = [] ∨ ∃ b off, A = some ⟨b, off, none⟩ ∧ b < w.heap.size ∧ ∀ k (hk : k < R.length), ∃ A' c, w.cell? ⟨b, off + k * 4, none⟩ = some (.int .i64 R[k].a) ∧ w.cell? ⟨b, off + k * 4 + 1, none⟩ = some (.int .i64 R[k].b) ∧ w.cell? ⟨b, off + k * 4 + 2, none⟩ = some (.int .i64 R[k].c) ∧ w.cell? ⟨b, off + k * 4 + 3, none⟩ = some (.slice A' R[k].p.length c) ∧ IntsAt w A' (ns R[k].p)
theorem SqAt.below {w w' : World} {A : Option Addr} {R : List S4} (h : SqAt w A R) (hb : Below w.heap.size w w') : SqAt w' A R := by
  rcases h with h | ⟨b, off, hA, hlt, hc⟩
  · exact .inl h
  · refine .inr ⟨b, off, hA, Nat.lt_of_lt_of_le hlt hb.size, fun k hk => ?_⟩
    obtain ⟨A', c, h0, h1, h2, h3, h4⟩ := hc k hk
    exact ⟨A', c, (hb.cell (p := ⟨b, off + k * 4, none⟩) hlt).trans h0, (hb.cell (p := ⟨b, off + k * 4 + 1, none⟩) hlt).trans h1, (hb.cell (p := ⟨b, off + k * 4 + 2, none⟩) hlt).trans h2, (hb.cell (p := ⟨b, off + k * 4 + 3, none⟩) hlt).trans h3, h4.below hb⟩
theorem SqAt.at_ {w : World} {A : Option Addr} {R : List S4} (h : SqAt w A R) {k : Nat} (hk : k < R.length) : ∃ b off A' c, A = some ⟨b, off, none⟩ ∧ w.cell? ⟨b, off + k * 4, none⟩ = some (.int .i64 R[k].a) ∧ w.cell? ⟨b, off + k * 4 + 1, none⟩ = some (.int .i64 R[k].b) ∧ w.cell? ⟨b, off + k * 4 + 2, none⟩ = some (.int .i64 R[k].c) ∧ w.cell? ⟨b, off + k * 4 + 3, none⟩ = some (.slice A' R[k].p.length c) ∧ IntsAt w A' (ns R[k].p) := by
  rcases h with rfl | ⟨b, off, hA, hlt, hc⟩
  · simp at hk
  · obtain ⟨A', c, h0, h1, h2, h3, h4⟩ := hc k hk
    exact ⟨b, off, A', c, hA, h0, h1, h2, h3, h4⟩
theorem SqAt.nil_len {w : World} {A : Option Addr} {R : List S4} (h : SqAt w A R) : A = none → R.length = 0 := by
  rintro rfl
  rcases h with rfl | ⟨b, off, hA, _⟩
  · rfl
  · cases hA
theorem SqI.reads {T : TypeId} {B : Nat} {w : World} {v : Value} {R : List S4} {X : List Value} (h : SqI T B w v R X) : ∃ A c, v = .slice A R.length c ∧ SqAt w A R := by
  by_cases hR : R = []
  · have := h.row
    subst hR
    rcases this.2 with ⟨rfl, _⟩ | ⟨g, cap, cur, rfl, _⟩
    · exact ⟨_, _, rfl, .inl rfl⟩
    · exact ⟨_, _, rfl, .inl rfl⟩
  · have h0 : 0 < R.length := List.length_pos_iff.2 hR
    obtain ⟨g, cap, _, _, _, hv, _, hlt, _⟩ := h.get h0
    refine ⟨_, cap, hv, .inr ⟨g, 0, rfl, hlt, fun k hk => ?_⟩⟩
    obtain ⟨g', cap', x, A, c, hv', _, _, _, ex, hi, c0, c1, c2, c3, _⟩ := h.get hk
    rw [hv] at hv'
    injection hv' with e1 e2 e3
    injection e1 with e1
    injection e1 with e1
    subst e1
    subst ex
    refine ⟨A, c, ?_, ?_, ?_, ?_, hi⟩
    · rw [Nat.zero_add]; exact c0
    · rw [Nat.zero_add]; exact c1
    · rw [Nat.zero_add]; exact c2
    · rw [Nat.zero_add]; exact c3
end Go.Proofs.YtfclpecbnailgaaGreat.Sq
