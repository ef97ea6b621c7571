/-
  Proved here: what the document's own Split, Odd and Same (of the reference) return: Split of every text of at most 2^40 bytes gives the same runes; Same of two rows that hold the same runes is true; they leave what was in memory.
-/
import Derived.Test.YtikjchebffohdaaRfFirst
set_option linter.unusedVariables false
namespace Go.Proofs.Ytikjchebffohdaa.Rn
open Go.RowKit Go.Lib

theorem own_below {w w' : World} {b : Nat} {e : TypeId} {size : Nat} {v : Value} {n : Nat} {xs : List Value} (h : w.ownsRow b e size v n xs) (hb : Below w.heap.size w w') : w'.ownsRow b e size v n xs := by
  refine ⟨h.1, ?_⟩
  rcases h.2 with hn | ⟨g, cap, cur, hv, hg, hh, rest⟩
  · exact .inl hn
  · exact .inr ⟨g, cap, cur, hv, hg, (hb.block g (Array.getElem?_eq_some_iff.1 hh).1).trans hh, rest⟩

theorem first_at (s : ByteArray) (p : Nat) (w : World) (hp : p < s.size) (hs1 : s.size ≤ 4611686018427387904) :
    Calls Try.prog 28 #[.string (s.extract p s.size)] w fun e w' => e = .returned (.tuple #[.int .i64 (dec (s.data.toList.drop p)).1, .int .i64 (dec (s.data.toList.drop p)).2]) ∧ Below w.heap.size w w' := by
  have hx : (s.extract p s.size).data.toList = s.data.toList.drop p := by
    rw [Lib.extract_data, List.take_of_length_le (by rw [List.length_drop, ← Lib.size_eq]; omega)]
  have hz : (s.extract p s.size).size = s.size - p := by rw [Lib.size_eq, hx, List.length_drop, ← Lib.size_eq]
  have := first_any (s.extract p s.size) w (by omega) (by omega)
  rw [hx] at this
  exact this

set_option maxHeartbeats 1000000 in
set_option maxRecDepth 100000 in
theorem refsplit_any (s : ByteArray) (w : World) (hs : s.size ≤ 1099511627776) :
    Calls Try.prog 24 #[.string s] w fun e w' => ∃ v, e = .returned v ∧ w'.ownsRow w.heap.size 59 3 v (splitA s.data.toList 0).length (cells3 (splitA s.data.toList 0)) ∧ Below w.heap.size w w' := by
  obtain ⟨i0, hi, hz0, hz1, hz2⟩ := info_parts infoRune
  go_enter Try.func24, Try.ntmps24
  go_wp2_with fail
  go_loopw [3, 4] (fun s3 s4 wx => ∃ (p : Nat) (pre : List (Nat × Nat × Nat)), p ≤ s.size ∧ s4 = .int .i64 p ∧ Below w.heap.size w wx ∧ wx.ownsRow w.heap.size 59 3 s3 pre.length (cells3 pre) ∧ pre ++ splitA (s.data.toList.drop p) p = splitA s.data.toList 0 ∧ pre.length ≤ p) (fun _ s4 _ => s.size - (RowKit.intOf s4).toNat)
  case atStart => exact ⟨0, [], Nat.zero_le _, rfl, Below.refl _ _, World.ownsRow_nil _ _ _ _, rfl, Nat.le_refl _⟩
  case round =>
    obtain ⟨p, pre, hp, rfl, hbw, hown, hleft, hn⟩ := hrel
    by_cases hps : p < s.size
    · have hwd := dec_pos (s.data.toList.drop p)
      have hcd := dec_code (s.data.toList.drop p)
      have hwl := dec_le (drop_ne s p hps)
      rw [List.length_drop, ← Lib.size_eq] at hwl
      have hst := splitA_step (drop_ne s p hps) p
      rw [List.drop_drop] at hst
      rw [hst] at hleft
      have cF := first_at s p wr hps (by omega)
      obtain ⟨R, hR⟩ : ∃ R, (dec (s.data.toList.drop p)).1 = R := ⟨_, rfl⟩
      obtain ⟨K, hK⟩ : ∃ K, (dec (s.data.toList.drop p)).2 = K := ⟨_, rfl⟩
      rw [hR] at hcd hleft cF
      rw [hK] at hwd hwl hleft cF
      have HL := Lib.hid hleft
      have HF := Lib.hid cF
      have HOWN := Lib.hid hown
      clear hleft hst cF hR hK hown
      go_wp2_with fail
      refine HF.out.mono ?_
      rintro e W ⟨rfl, hb⟩
      have hown2 : W.ownsRow w.heap.size 59 3 u3 pre.length (cells3 pre) := own_below HOWN.out hb
      have hbw2 := hbw.trans (hb.mono hbw.size)
      have hlt := hown2.lt
      have hsz := hbw2.size
      clear HOWN
      go_wp2_with (at_builtin; refine wpList_append_own _ rfl _ _ 54 rfl w.heap.size 59 i0 (.agg #[.int .i64 0, .int .i64 0, .int .i64 0]) 3 24 Try.underlying54 hi hz0 hz1 hz2 rfl (by decide) _ _ _ rfl (hown2.alloc _) ⟨W.heap.size, 0, none⟩ 1 1 [.int .i64 p, .int .i64 K, .int .i64 R] rfl rfl ?c1 ?c2 ?c3 ?c4 ?c5 ?_)
      case c1 =>
        intro j u hj
        match j, hj with
        | 0, hj => simp at hj; subst hj; simp [Addr.add]
        | 1, hj => simp at hj; subst hj; simp [Addr.add]
        | 2, hj => simp at hj; subst hj; simp [Addr.add]
        | (j + 3), hj => simp at hj
      case c2 => intro u hu; simp at hu; rcases hu with rfl | rfl | rfl <;> rfl
      case c3 => unfold maxLen; omega
      case c4 => omega
      case c5 => simp; omega
      intro v' w2 hown' hgrow _
      have HG := Lib.hid hgrow
      have HO := Lib.hid hown'
      clear hgrow hown' hown2
      go_wp2
      go_roundw
      case measure => simp [RowKit.intOf]; omega
      case rel =>
        refine ⟨p + K, pre ++ [(p, K, R)], by omega, by go_num, ?_, ?_, ?_, by simp; omega⟩
        · exact (hbw2.alloc hbw2.size _).grown HG.out (by simp; omega) (fun g hg => (hlt g hg).1)
        · have := HO.out
          rw [cells3_snoc, List.length_append]
          exact this
        · rw [List.append_assoc]
          exact HL.out
    · go_wp2
      go_ret
      rw [drop_end s p hps, splitA_nil, List.append_nil] at hleft
      subst hleft
      exact ⟨_, rfl, hown, hbw⟩

/-- The reference's Split, as its callers read it. -/
theorem refsplit_reads (s : ByteArray) (w : World) (hs : s.size ≤ 1099511627776) :
    Calls Try.prog 24 #[.string s] w fun e w' => ∃ A c, e = .returned (.slice A (splitA s.data.toList 0).length c) ∧ RunesAt w' A (splitA s.data.toList 0) ∧ Below w.heap.size w w' := by
  refine (refsplit_any s w hs).mono ?_
  rintro e w' ⟨v, rfl, hown, hb⟩
  obtain ⟨A, c, rfl, hr⟩ := runesAt_own hown
  exact ⟨A, c, rfl, hr, hb⟩
end Go.Proofs.Ytikjchebffohdaa.Rn
