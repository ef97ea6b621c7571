/-
  Proved here: what the document's own reading of a text's first rune returns where the first byte says 3 bytes.
-/
import Derived.Test.YtikjchebffohdaaRfFirstKit
set_option linter.unusedVariables false
namespace Go.Proofs.Ytikjchebffohdaa.Rn
open Go.RowKit Go.Lib

set_option maxHeartbeats 2000000 in
set_option maxRecDepth 1000000 in
theorem first3 (s : ByteArray) (w : World) (hs0 : 0 < s.size) (hs1 : s.size ≤ 4611686018427387904) (n c0 : Nat) (hn : n = 3) (hc : c0 = s[0].toNat - 224) (hr : 224 ≤ s[0].toNat) (hr' : s[0].toNat < 240) (hlt : s[0].toNat < 256)
    (HNO : Hid (¬ okFirst s.data.toList (accC c0 ((s.data.toList.drop 1).take (n - 1))) n → dec s.data.toList = (65533, 1))) :
    Calls Try.prog 28 #[.string s] w fun e w' => e = .returned (.tuple #[.int .i64 (dec s.data.toList).1, .int .i64 (dec s.data.toList).2]) ∧ Below w.heap.size w w' := by
  have hn1 : 3 ≤ n := by omega
  have hn2 : n ≤ 3 := by omega
  have t240 : decide ((240 : Int) ≤ (s[0].toNat : Int)) = false := by simp; omega
  have t224 : decide ((224 : Int) ≤ (s[0].toNat : Int)) = true := by simp; omega
  have HN := Lib.hid hn
  have HC := Lib.hid hc
  have hc255 : c0 ≤ 255 := by omega
  clear hn hc
  go_enter Try.func28, Try.ntmps28
  go_wp2_with fail
  go_loop [4, 6] (fun s4 s6 => ∃ i : Nat, 1 ≤ i ∧ i ≤ n ∧ i ≤ s.size ∧ s6 = .int .i64 i ∧ s4 = .int .i64 (accC c0 ((s.data.toList.drop 1).take (i - 1)) : Nat)) (fun _ s6 => s.size - (RowKit.intOf s6).toNat)
  case atStart => exact ⟨1, Nat.le_refl _, by omega, by omega, rfl, by rw [HC.out]; show _ = Value.int .i64 ((s[0].toNat - 224 : Nat) : Int); go_num⟩
  case round =>
    obtain ⟨i, hi1, hin, his, rfl, rfl⟩ := hrel
    have hab := accC_bound c0 ((s.data.toList.drop 1).take (i - 1)) hc255 (by rw [List.length_take]; omega)
    by_cases hgo : i < n ∧ i < s.size
    · obtain ⟨hg1, hg2⟩ := hgo
      have hnext : accC c0 ((s.data.toList.drop 1).take (i + 1 - 1)) = 64 * accC c0 ((s.data.toList.drop 1).take (i - 1)) + s[i].toNat % 64 := by
        rw [show i + 1 - 1 = i from by omega, take_next s.data.toList i hi1 (by rw [← Lib.size_eq]; exact hg2), accC_snoc]
        rfl
      have HX := Lib.hid hnext
      have hlti := s[i].toNat_lt
      clear hnext
      generalize accC c0 ((s.data.toList.drop 1).take (i - 1)) = q at *
      go_wp2_with fail
      go_round
      case rel => exact ⟨i + 1, by omega, by omega, by omega, by go_num, by rw [HX.out]; go_num⟩
      case measure => simp [RowKit.intOf]; omega
    · by_cases hle : n ≤ s.size
      · have hE : n = i := by omega
        have hno := HNO.out
        have hyes := @first_yes s.data.toList (accC c0 ((s.data.toList.drop 1).take (i - 1))) i
        unfold okFirst at hno hyes
        rw [hE] at hno
        have hni : n ≤ i := by omega
        have ht4 : decide ((i : Int) < 3) = false := by simp; omega
        clear hE
        have hlen : i ≤ s.data.toList.length := by rw [← Lib.size_eq]; exact his
        generalize accC c0 ((s.data.toList.drop 1).take (i - 1)) = q at *
        cases hp : isPoint (q : Int)
        · have hd := hno (by rw [hp]; simp)
          have HD := Lib.hid hd
          have HP := Lib.hid hp
          clear hno hyes hd HNO hp hlen hgo
          go_wp2_with fail
          have hd4 : decide ((3 : Int) ≤ (s.size : Int)) = true := by simp; omega
          go_quiet ((go_at_call 34; exact Calls.quiet_of_same (code_as _ _ HP.out _)))
          go_wp2_with fail
          go_ret2
          refine ⟨?_, below_drewN _ _⟩
          rw [HD.out]
          rfl
        · have HNO2 := Lib.hid hno
          have HYES := Lib.hid hyes
          have HP := Lib.hid hp
          have HLEN := Lib.hid hlen
          clear hno hyes HNO hp hlen hgo
          go_wp2_with fail
          have hd4 : decide ((3 : Int) ≤ (s.size : Int)) = true := by simp; omega
          have hcv := conv_block (q : Int) w
          have hsl : ∀ W, (Instr.slice 9 (.string s) none (some (.int .i64 3)) none).run Try.prog W = .ok (.string (s.extract 0 3)) W := fun W => by
            rw [run_slice_string_to_if W 9 s .i64 3 Try.underlying9, if_pos ⟨by omega, by omega⟩]
            rfl
          have hq0 : (⟨(Lib.encodeRune (q : Int)).toArray⟩ : ByteArray).toList = Lib.encodeRune (q : Int) := enc_toList _
          have hq1 : (s.extract 0 3).toList = s.data.toList.take i := by rw [ext_toList, show 3 = i from by omega]
          obtain ⟨X, hX⟩ : ∃ X, s.extract 0 3 = X := ⟨_, rfl⟩
          obtain ⟨E, hE⟩ : ∃ E : ByteArray, ⟨(Lib.encodeRune (q : Int)).toArray⟩ = E := ⟨_, rfl⟩
          rw [hX] at hsl hq1
          rw [hE] at hcv hq0
          have HX := Lib.hid hq0
          have HE := Lib.hid hq1
          clear hX hE hq0 hq1
          cases hq : (E.toList == X.toList)
          all_goals go_region_with (first | (go_at_call 34; refine (code_as _ _ HP.out _).mono ?_; rintro e w' ⟨rfl, rfl⟩) | (go_at_call 35; refine (bytes_pt _ HP.out _).mono ?_; rintro e w' ⟨rfl, rfl⟩))
          all_goals go_wp2_with fail
          · go_ret2
            refine ⟨?_, ((Below.refl _ _).alloc (Nat.le_refl _) _).drew⟩
            have hd := HNO2.out (fun h => by rw [HX.out, HE.out, h.2.2] at hq; simp at hq)
            rw [hd]
            rfl
          · go_ret2
            refine ⟨?_, ((Below.refl _ _).alloc (Nat.le_refl _) _).drew⟩
            have hd := HYES.out ⟨HLEN.out, HP.out, by rw [HX.out, HE.out] at hq; simpa using hq⟩
            rw [hd]
            show Ending.returned (.tuple #[.int .i64 (q : Int), .int .i64 3]) = Ending.returned (.tuple #[.int .i64 (q : Int), .int .i64 (i : Int)])
            rw [show (3 : Int) = (i : Int) from by omega]
      · have hd := HNO.out (fun h => hle (by rw [Lib.size_eq]; exact h.1))
        have HD := Lib.hid hd
        clear hd HNO
        have hd4 : decide ((3 : Int) ≤ (s.size : Int)) = false := by simp; omega
        generalize accC c0 ((s.data.toList.drop 1).take (i - 1)) = q at *
        go_wp2_with fail
        go_quiet (fail)
        go_wp2_with fail
        go_ret2
        refine ⟨?_, below_drewN _ _⟩
        rw [HD.out]
        rfl
end Go.Proofs.Ytikjchebffohdaa.Rn
