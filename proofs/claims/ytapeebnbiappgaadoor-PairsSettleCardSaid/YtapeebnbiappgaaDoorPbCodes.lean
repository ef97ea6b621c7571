/-
  Proved here: what parquetrylaw14.codes returns: a new row of a text's bytes. It leaves what was in memory.
-/
import Derived.Test.YtapeebnbiappgaaDoorPbSmall
set_option linter.unusedVariables false
namespace Go.Proofs.YtapeebnbiappgaaDoor.Pb
open Go Go.RowKit Go.Lib Go.Proofs.YtapeebnbiappgaaDoor.Cl

def codesZ (s : ByteArray) : List Int := s.data.toList.map fun b => (b.toNat : Int)
theorem codesZ_len (s : ByteArray) : (codesZ s).length = s.size := by unfold codesZ; rw [List.length_map, Array.length_toList]; rfl
theorem codesZ_at {s : ByteArray} {k : Nat} (hk : k < s.size) : (codesZ s).take (k + 1) = (codesZ s).take k ++ [((s[k]'hk).toNat : Int)] := by
  have h : k < (codesZ s).length := by rw [codesZ_len]; exact hk
  rw [List.take_succ_eq_append_getElem h]
  congr 2
  simp only [codesZ, List.getElem_map, Array.getElem_toList]
  rfl

set_option maxHeartbeats 2000000 in
set_option maxRecDepth 100000 in
theorem codes_any (s : ByteArray) (w : World) (hs : s.size ≤ 1000) :
    Calls Tryd.prog 19 #[.string s] w fun e w' => ∃ A c, e = .returned (.slice A s.size c) ∧ w'.ownsRow w.heap.size 3 1 (.slice A s.size c) s.size (icl (codesZ s)) ∧ Below w.heap.size w w' := by
  obtain ⟨n, hn⟩ : ∃ n, s.size = n := ⟨_, rfl⟩
  have HN := Lib.hid hn
  rw [hn] at hs ⊢
  have HL := Lib.hid (show (codesZ s).length = n from by rw [codesZ_len, hn])
  clear hn
  go_enter Tryd.func19, Tryd.ntmps19
  go_wp2_with fail
  go_loopw [3, 4] (fun s3 s4 wx => ∃ k : Nat, k ≤ n ∧ s4 = .int .i64 k ∧ wx.ownsRow w.heap.size 3 1 s3 k (icl ((codesZ s).take k)) ∧ Below w.heap.size w wx) (fun _ s4 _ => n - (RowKit.intOf s4).toNat)
  case atStart => exact ⟨0, Nat.zero_le _, rfl, World.ownsRow_nil _ _ _ _, Below.refl _ _⟩
  case round =>
    obtain ⟨k, hk, rfl, hown, hb⟩ := hrel
    have HO := Lib.hid hown
    have HB := Lib.hid hb
    clear hown hb
    by_cases hlt : k < n
    · have hks : k < s.size := by rw [HN.out]; exact hlt
      have HAT := Lib.hid (codesZ_at hks)
      have hsz := HB.out.size
      have hss : s.size = n := HN.out
      have hk0 : (0 : Int) ≤ (k : Int) := by omega
      have hk1 : (k : Int) < (n : Int) := by omega
      have hbl := (s[k]'hks).toNat_lt
      have hbw : wrap64 (((s[k]'hks).toNat : Nat) : Int) = (((s[k]'hks).toNat : Nat) : Int) := IntWalk.wrap64_in _ (by omega)
      go_wp2_with (at_builtin; refine wpList_add rfl _ _ rfl w.heap.size _ k ((codesZ s).take k) rfl (ownsRow_below HO.out (below_made _ _)) (some ⟨wr.heap.size, 0, none⟩) 1 1 [(((s[k]'hks).toNat : Nat) : Int)] rfl (made_ints [(((s[k]'hks).toNat : Nat) : Int)] _ _ _ rfl) rfl (by omega) (by simp; omega) ?_)
      intro v' w2 hown2 hb2
      have hb3 := (HB.out.trans ((below_made wr (.cells #[.int .i64 (((s[k]'hks).toNat : Nat) : Int)] 3)).mono hsz)).trans hb2
      rw [← HAT.out] at hown2
      have HO2 := Lib.hid hown2
      have HB2 := Lib.hid hb3
      clear hown2 hb2 hb3
      go_wp2_with fail
      go_roundw
      case rel => exact ⟨k + 1, by omega, by go_num, HO2.out, HB2.out⟩
      case measure => simp [RowKit.intOf]; omega
    · obtain rfl : k = n := by omega
      have hss : s.size = k := HN.out
      rw [List.take_of_length_le (by rw [HL.out]; exact Nat.le_refl _)] at HO
      obtain ⟨A, c, rfl, -⟩ := intsAt_icl HO.out HL.out
      go_wp2_with fail
      go_ret
      exact ⟨A, c, rfl, HO.out, HB.out⟩
end Go.Proofs.YtapeebnbiappgaaDoor.Pb
