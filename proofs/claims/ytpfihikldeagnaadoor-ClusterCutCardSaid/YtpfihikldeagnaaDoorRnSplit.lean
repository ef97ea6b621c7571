/-
  Proved here: what runes.Split returns, for every string of at most 2^40 bytes: a new row of runes, by the plain splitA; it leaves what was in memory.
-/
import Derived.Test.YtpfihikldeagnaaDoorRnDrop
import Derived.Laws.AppendOwn
import Derived.Laws.OwnMore
import Derived.OwnWalk
set_option linter.unusedVariables false
namespace Go.Proofs.YtpfihikldeagnaaDoor.Rn
open Go.RowKit Go.Lib

/-- The cells of a row of runes. -/
def cells3 (l : List (Nat × Nat × Nat)) : List Value := l.flatMap fun r => [.int .i64 r.1, .int .i64 r.2.1, .int .i64 r.2.2]
theorem cells3_snoc (l : List (Nat × Nat × Nat)) (r : Nat × Nat × Nat) : cells3 (l ++ [r]) = cells3 l ++ [.int .i64 r.1, .int .i64 r.2.1, .int .i64 r.2.2] := by simp [cells3]

theorem own_base {w : World} {b b' : Nat} {e : TypeId} {size : Nat} {v : Value} {n : Nat} {xs : List Value} (h : w.ownsRow b e size v n xs) (hb : b' ≤ b) : w.ownsRow b' e size v n xs := by
  refine ⟨h.1, ?_⟩
  rcases h.2 with hn | ⟨g, cap, cur, hv, hg, rest⟩
  · exact .inl hn
  · exact .inr ⟨g, cap, cur, hv, by omega, rest⟩
theorem grown_iterAt (w : World) (k : Nat) (s : ByteArray) (pos : Nat) : w.grownBy (w.iterAt k s pos) (some k) :=
  ⟨rfl, rfl, rfl, by rw [Lib.iterAt_size]; exact Nat.le_refl _, fun i _ hne => Lib.iterAt_other w k i s pos (fun e => hne (by rw [e]))⟩
theorem own_iterAt {w : World} {k : Nat} {e : TypeId} {size : Nat} {v : Value} {n : Nat} {xs : List Value} (h : w.ownsRow (k + 1) e size v n xs) (s : ByteArray) (pos : Nat) : (w.iterAt k s pos).ownsRow (k + 1) e size v n xs := by
  refine h.kept (grown_iterAt w k s pos) ?_
  cases hv : v.ownBlock with
  | none => exact .inl rfl
  | some g =>
    right
    intro e1
    have := (h.lt g hv).1
    injection e1 with e1
    omega

theorem infoRune : (Tryd.prog.info? 40).map (fun i => (i.zero, i.size, i.bytes)) = some (some (.agg #[.int .i64 0, .int .i64 0, .int .i64 0]), 3, 24) := by kernel_rfl

set_option maxHeartbeats 1000000 in
set_option maxRecDepth 100000 in
theorem split_any (s : ByteArray) (w : World) (hs : s.size ≤ 1099511627776) :
    Calls Tryd.prog 18 #[.string s] w fun e w' => ∃ v, e = .returned v ∧ w'.ownsRow w.heap.size 40 3 v (splitA s.data.toList 0).length (cells3 (splitA s.data.toList 0)) ∧ Below w.heap.size w w' := by
  obtain ⟨i0, hi, hz0, hz1, hz2⟩ := info_parts infoRune
  go_enter Tryd.func18, Tryd.ntmps18
  go_wp2
  go_loopg [3] s.size (fun gf s3 wx => ∃ (pos : Nat) (pre : List (Nat × Nat × Nat)), wx.heap[w.heap.size]? = some (.stringIter s pos) ∧ Below w.heap.size w wx ∧ wx.ownsRow (w.heap.size + 1) 40 3 s3 pre.length (cells3 pre) ∧ pre ++ splitA (s.data.toList.drop pos) pos = splitA s.data.toList 0 ∧ s.size ≤ pos + gf ∧ pre.length ≤ pos)
  case atStart => exact ⟨0, [], World.iter_heap w s 0, (Below.refl _ w).alloc (Nat.le_refl _) _, World.ownsRow_nil _ _ _ _, rfl, by omega, Nat.le_refl _⟩
  case round =>
    obtain ⟨pos, pre, hit, hbw, hown, hleft, hfu, hn⟩ := hrel
    by_cases hps : pos < s.size
    · obtain ⟨g', rfl⟩ : ∃ g', gk = g' + 1 := ⟨gk - 1, by omega⟩
      have hnx : ∀ ty, (Instr.next (.pointer (some ⟨w.heap.size, 0, none⟩)) true ty).run Tryd.prog wr = _ := fun ty => Lib.run_next_any_at wr w.heap.size s pos ty hit hps
      have hwd := dec_pos (s.data.toList.drop pos)
      have hcd := dec_code (s.data.toList.drop pos)
      have hsz := size_dec (drop_ne s pos hps)
      have hst := splitA_step (drop_ne s pos hps) pos
      rw [← dec_drop] at hnx
      rw [List.drop_drop] at hst
      rw [hst] at hleft
      have hit2 := Lib.iterAt_heap wr w.heap.size s pos (pos + (dec (s.data.toList.drop pos)).2) hit
      have hbw2 := Lib.below_iterAt hbw (k := w.heap.size) (Nat.le_refl _) s (pos + (dec (s.data.toList.drop pos)).2)
      have hown2 := own_iterAt hown s (pos + (dec (s.data.toList.drop pos)).2)
      have cS := size_any s pos (((dec (s.data.toList.drop pos)).1 : Nat) : Int) (wr.iterAt w.heap.size s (pos + (dec (s.data.toList.drop pos)).2)) (by omega) (by omega)
      rw [hsz] at cS
      obtain ⟨R, hR⟩ : ∃ R, (dec (s.data.toList.drop pos)).1 = R := ⟨_, rfl⟩
      obtain ⟨K, hK⟩ : ∃ K, (dec (s.data.toList.drop pos)).2 = K := ⟨_, rfl⟩
      rw [hR] at hnx hcd hleft cS
      rw [hK] at hwd hleft hnx hit2 hbw2 hown2 cS
      obtain ⟨W, hWd⟩ : ∃ W, wr.iterAt w.heap.size s (pos + K) = W := ⟨_, rfl⟩
      rw [hWd] at hnx hit2 hbw2 hown2 cS
      have hltW : w.heap.size < W.heap.size := (Array.getElem?_eq_some_iff.1 hit2).1
      have HL := Lib.hid hleft
      have HIT := Lib.hid hit2
      have HC := Lib.hid cS
      clear hleft hst hit hit2 hR hK hWd hown hsz cS
      go_wp2_with (first
        | (go_at_call 32; refine HC.out.mono ?_; rintro e W' ⟨rfl, rfl⟩)
        | (at_builtin; refine wpList_append_own _ rfl _ _ 22 rfl (w.heap.size + 1) 40 i0 (.agg #[.int .i64 0, .int .i64 0, .int .i64 0]) 3 24 Tryd.underlying22 hi hz0 hz1 hz2 rfl (by decide) _ _ _ rfl (hown2.alloc _) ⟨W.heap.size, 0, none⟩ 1 1 [.int .i64 pos, .int .i64 K, .int .i64 R] rfl rfl ?c1 ?c2 ?c3 ?c4 ?c5 ?_))
      case c1 =>
        intro j u hj
        match j, hj with
        | 0, hj => simp at hj; subst hj; simp [Addr.add]
        | 1, hj => simp at hj; subst hj; simp [Addr.add]
        | 2, hj => simp at hj; subst hj; simp [Addr.add]
        | (j + 3), hj => simp at hj
      case c2 => intro u hu; simp at hu; rcases hu with rfl | rfl | rfl <;> rfl
      case c3 => unfold maxLen; omega
      case c4 => omega
      case c5 => simp; omega
      intro v' w2 hown' hgrow _
      have hlt := (hown2.lt)
      have HG := Lib.hid hgrow
      have HO := Lib.hid hown'
      clear hgrow hown'
      go_wp2
      go_roundg g'
      case measure => omega
      case rel =>
        have hrow := fun g hg => (hlt g hg).1
        refine ⟨pos + K, pre ++ [(pos, K, R)], ?_, ?_, ?_, ?_, by omega, by simp; omega⟩
        · rw [HG.out.block _ (by simp; omega) (fun e => by have := hrow _ e.symm; omega), Below.heap_alloc _ _ _ hltW]
          exact HIT.out
        · exact (hbw2.alloc (by omega) _).grown HG.out (by simp; omega) (fun g hg => by have := hrow g hg; omega)
        · have := HO.out
          rw [cells3_snoc, List.length_append]
          exact this
        · rw [List.append_assoc]
          exact HL.out
    · have hnx : ∀ ty, (Instr.next (.pointer (some ⟨w.heap.size, 0, none⟩)) true ty).run Tryd.prog wr = _ := fun ty => Lib.run_next_end_at wr w.heap.size s pos ty hit hps
      have HL := Lib.hid hleft
      clear hleft
      go_wp2
      go_ret
      have := HL.out
      rw [drop_end s pos hps, splitA_nil, List.append_nil] at this
      subst this
      exact ⟨_, rfl, own_base hown (Nat.le_succ _), hbw⟩

theorem cells3_len (l : List (Nat × Nat × Nat)) : (cells3 l).length = l.length * 3 := by
  induction l with
  | nil => rfl
  | cons r l ih => simp [cells3] at ih ⊢; omega
theorem cells3_at : ∀ (l : List (Nat × Nat × Nat)) (k : Nat) (hk : k < l.length), (cells3 l)[k * 3]? = some (.int .i64 l[k].1) ∧ (cells3 l)[k * 3 + 1]? = some (.int .i64 l[k].2.1) ∧ (cells3 l)[k * 3 + 2]? = some (.int .i64 l[k].2.2)
  | r :: l, 0, _ => ⟨rfl, rfl, rfl⟩
  | r :: l, k + 1, hk => by
    have := cells3_at l k (by simpa using hk)
    rw [show (k + 1) * 3 = k * 3 + 3 from by omega]
    exact this

/-- A row of runes in memory: a slice's address and what its cells hold. -/
def RunesAt (w : World) (A : Option Addr) (l : List (Nat × Nat × Nat)) : Prop :=
  ∀ k (hk : k < l.length), ∃ g, A = some ⟨g, 0, none⟩ ∧ g < w.heap.size ∧ w.cell? ⟨g, k * 3, none⟩ = some (.int .i64 l[k].1) ∧ w.cell? ⟨g, k * 3 + 1, none⟩ = some (.int .i64 l[k].2.1) ∧ w.cell? ⟨g, k * 3 + 2, none⟩ = some (.int .i64 l[k].2.2)
theorem RunesAt.below {w w' : World} {A : Option Addr} {l : List (Nat × Nat × Nat)} (h : RunesAt w A l) (hb : Below w.heap.size w w') : RunesAt w' A l := by
  intro k hk
  obtain ⟨g, rfl, hg, h0, h1, h2⟩ := h k hk
  exact ⟨g, rfl, Nat.lt_of_lt_of_le hg hb.size, (hb.cell (p := ⟨g, k * 3, none⟩) hg).trans h0, (hb.cell (p := ⟨g, k * 3 + 1, none⟩) hg).trans h1, (hb.cell (p := ⟨g, k * 3 + 2, none⟩) hg).trans h2⟩
theorem runesAt_own {w : World} {B : Nat} {v : Value} {l : List (Nat × Nat × Nat)} (h : w.ownsRow B 40 3 v l.length (cells3 l)) : ∃ A c, v = .slice A l.length c ∧ RunesAt w A l := by
  have hc := @World.ownsRow.cells _ _ _ _ _ _ _ h
  rcases h.2 with ⟨rfl, hn⟩ | ⟨g, cap, cur, rfl, _, hg, _⟩
  · exact ⟨none, 0, by rw [hn], fun k hk => by omega⟩
  · refine ⟨_, cap, rfl, fun k hk => ⟨g, rfl, (Array.getElem?_eq_some_iff.1 hg).1, ?_, ?_, ?_⟩⟩
    · have := hc (g := g) rfl _ _ (cells3_at l k hk).1
      rw [Addr.add] at this
      split at this
      · rename_i h0; rw [h0] ; exact this
      · simpa using this
    · simpa [Addr.add] using hc (g := g) rfl _ _ (cells3_at l k hk).2.1
    · simpa [Addr.add] using hc (g := g) rfl _ _ (cells3_at l k hk).2.2

/-- runes.Split, as its callers read it. -/
theorem split_reads (s : ByteArray) (w : World) (hs : s.size ≤ 1099511627776) :
    Calls Tryd.prog 18 #[.string s] w fun e w' => ∃ A c, e = .returned (.slice A (splitA s.data.toList 0).length c) ∧ RunesAt w' A (splitA s.data.toList 0) ∧ Below w.heap.size w w' := by
  refine (split_any s w hs).mono ?_
  rintro e w' ⟨v, rfl, hown, hb⟩
  obtain ⟨A, c, rfl, hr⟩ := runesAt_own hown
  exact ⟨A, c, rfl, hr, hb⟩
end Go.Proofs.YtpfihikldeagnaaDoor.Rn
