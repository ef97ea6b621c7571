/-
  Proved here: what the document's own answer for one field (parquetryref08.Field) returns, for every text of at most 1000000 bytes; it leaves what was in memory.
-/
import Derived.Test.YtafpddpeffpnfaaDoorCvField
import Derived.Test.YtafpddpeffpnfaaDoorQuPlain
set_option linter.unusedVariables false
namespace Go.Proofs.YtafpddpeffpnfaaDoor.Qu
open Go Go.RowKit Go.Lib Go.Proofs.YtafpddpeffpnfaaDoor.Cv

theorem special_step {L : Bs} {k : Nat} {b : UInt8} (h : L[k]? = some b) : special (L.take (k + 1)) = (special (L.take k) || spB b) := by
  unfold special
  rw [List.take_add_one, h]
  simp
theorem dbl_step {L : Bs} {k : Nat} {b : UInt8} (h : L[k]? = some b) : dbl (L.take (k + 1)) = dbl (L.take k) ++ (if b = 34 then [34, 34] else [b]) := by
  rw [List.take_add_one, h]
  simp only [Option.toList_some]
  rw [dbl_app]
  congr 1
theorem spB_int (b : UInt8) : spB b = (((b.toNat : Int) == 34) || ((b.toNat : Int) == 44) || ((b.toNat : Int) == 13) || ((b.toNat : Int) == 10)) := by
  have h : ∀ n : UInt8, ((b.toNat : Int) == (n.toNat : Int)) = (b == n) := fun n => by
    rw [Bool.eq_iff_iff]
    simp only [beq_iff_eq]
    constructor
    · intro e; exact UInt8.toNat_inj.1 (by omega)
    · rintro rfl; rfl
  have h1 := h 34
  have h2 := h 44
  have h3 := h 13
  have h4 := h 10
  unfold spB
  rw [← h1, ← h2, ← h3, ← h4]
  rfl
def fldB (s : ByteArray) : ByteArray := ⟨(fieldW (tx s)).toArray⟩

set_option maxHeartbeats 2000000 in
set_option maxRecDepth 1000000 in
theorem refField_any (s : ByteArray) (w : World) (hs : s.size ≤ 1000000) :
    Calls Tryd.prog 11 #[.string s] w fun e w' => e = .returned (.string (fldB s)) ∧ w = w' := by
  go_enter Tryd.func11, Tryd.ntmps11
  go_wp2
  go_loopw [3, 4, 5] (fun s3 s4 s5 wx => wx = w ∧ ∃ k : Nat, k ≤ s.size ∧ s3 = .bool (special ((tx s).take k)) ∧ s4 = .string ⟨(34 :: dbl ((tx s).take k)).toArray⟩ ∧ s5 = .int .i64 k) (fun _ _ s5 _ => s.size - (RowKit.intOf s5).toNat)
  case atStart => exact ⟨rfl, 0, Nat.zero_le _, rfl, rfl, rfl⟩
  case round =>
    obtain ⟨rfl, k, hk, rfl, rfl, rfl⟩ := hrel
    have hdl := (dbl_len ((tx s).take k)).2
    rw [List.length_take, tx_size] at hdl
    obtain ⟨T, hT⟩ : ∃ T, (⟨(34 :: dbl ((tx s).take k)).toArray⟩ : ByteArray) = T := ⟨_, rfl⟩
    have hTs : T.size ≤ 3000000 := by
      rw [← hT]
      show (34 :: dbl ((tx s).take k)).toArray.size ≤ _
      simp
      omega
    obtain ⟨y, hy⟩ : ∃ y, special ((tx s).take k) = y := ⟨_, rfl⟩
    rw [hT, hy]
    have HT := Lib.hid hT
    have HY := Lib.hid hy
    clear hT hy hdl
    by_cases hlt : k < s.size
    · have hat := tx_get s k hlt
      have HSP := Lib.hid (special_step hat)
      have HDB := Lib.hid (dbl_step hat)
      have HI := Lib.hid (spB_int s[k])
      have hsl : ∀ W, (Instr.slice 9 (.string s) (some (.int .i64 (k : Int))) (some (.int .i64 ((k : Int) + 1))) none).run Tryd.prog W = .ok (.string ⟨#[s[k]]⟩) W := fun W => by
        rw [run_slice_string (P := Tryd.prog) W 9 s .i64 .i64 (k : Int) ((k : Int) + 1) Tryd.underlying9 (by omega) (by omega) (by omega)]
        rw [← seg_one s k hat]
        rfl
      have h1s : (⟨#[s[k]]⟩ : ByteArray).size = 1 := rfl
      clear hat
      obtain ⟨U, hU⟩ : ∃ U, (⟨#[s[k]]⟩ : ByteArray) = U := ⟨_, rfl⟩
      rw [hU] at hsl h1s
      have HU := Lib.hid hU
      clear hU
      have H34 : ((s[k].toNat : Int) == 34) = true → s[k] = 34 := fun h => by
        have h' : (s[k].toNat : Int) = 34 := by simpa using h
        exact u8_34 (by omega)
      have H34' : ((s[k].toNat : Int) == 34) = false → s[k] ≠ 34 := fun h => by
        have h' : (s[k].toNat : Int) ≠ 34 := by simpa using h
        exact u8_34' (by omega)
      have HC := Lib.hid (And.intro H34 H34')
      clear H34 H34'
      cases c1 : ((s[k].toNat : Int) == 34)
      · have HN := Lib.hid (HC.out.2 c1)
        cases y
        · cases c2 : ((s[k].toNat : Int) == 44) <;> cases c3 : ((s[k].toNat : Int) == 13) <;> cases c4 : ((s[k].toNat : Int) == 10)
          all_goals
            have HQ := Lib.hid (show special ((tx s).take (k + 1)) = _ by rw [HSP.out, HY.out, HI.out, c1, c2, c3, c4])
            clear HI HSP
            go_wp2
            go_roundw
            case measure => simp [RowKit.intOf]; omega
            refine ⟨trivial, k + 1, by omega, by rw [HQ.out]; rfl, ?_, by go_num⟩
            rw [HDB.out, if_neg HN.out, ← HT.out, ← HU.out, ← List.cons_append, ← bytes_app]
        · have HQ := Lib.hid (show special ((tx s).take (k + 1)) = true by rw [HSP.out, HY.out]; rfl)
          go_wp2
          go_roundw
          case measure => simp [RowKit.intOf]; omega
          refine ⟨trivial, k + 1, by omega, by rw [HQ.out], ?_, by go_num⟩
          rw [HDB.out, if_neg HN.out, ← HT.out, ← HU.out, ← List.cons_append, ← bytes_app]
      · have HN := Lib.hid (HC.out.1 c1)
        have HQ := Lib.hid (show special ((tx s).take (k + 1)) = true by rw [HSP.out, HY.out, HI.out, c1]; cases y <;> rfl)
        obtain ⟨V, hV⟩ : ∃ V, T ++ U = V := ⟨_, rfl⟩
        have hVs : V.size ≤ 3000001 := by rw [← hV, ByteArray.size_append]; omega
        have HV := Lib.hid hV
        cases y
        all_goals
          go_wp2
          go_roundw
          case measure => simp [RowKit.intOf]; omega
          refine ⟨trivial, k + 1, by omega, by rw [HQ.out], ?_, by go_num⟩
          rw [HDB.out, if_pos HN.out, ← HV.out, ← HT.out, ← HU.out, HN.out, ← List.cons_append, show ([34, 34] : Bs) = [34] ++ [34] from rfl, ← List.append_assoc, ← bytes_app, ← bytes_app]
    · have e : (tx s).take k = tx s := List.take_of_length_le (by rw [tx_size]; omega)
      rw [e] at HT HY
      have hlast : fldB s = if y = true then T ++ ⟨#[34]⟩ else s := by
        unfold fldB fieldW
        rw [HY.out]
        cases y
        · rfl
        · simp only [if_true]
          rw [← List.cons_append, ← bytes_app, HT.out]
      have HL := Lib.hid hlast
      clear hlast e
      cases y
      · go_wp2
        go_ret
        exact ⟨by rw [HL.out]; rfl, rfl⟩
      · go_wp2
        go_ret
        exact ⟨by rw [HL.out]; rfl, rfl⟩
end Go.Proofs.YtafpddpeffpnfaaDoor.Qu
