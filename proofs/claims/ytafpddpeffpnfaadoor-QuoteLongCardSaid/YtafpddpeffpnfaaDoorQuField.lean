/-
  Proved here: what quote.Field returns, for every text of at most 1000000 bytes, where MaxLen stands in memory as it is laid; it leaves what was in memory.
-/
import Derived.Test.YtafpddpeffpnfaaDoorQuCont
import Derived.Test.YtafpddpeffpnfaaDoorQuRefF
import Derived.Test.YtafpddpeffpnfaaDoorCvText
set_option linter.unusedVariables false
namespace Go.Proofs.YtafpddpeffpnfaaDoor.Qu
open Go Go.RowKit Go.Lib Go.Proofs.YtafpddpeffpnfaaDoor.Cv

def rc1 (s : Bs) : Bs := replaceK [34] [34, 34] (count s [34]) s
theorem rc1_hit (l : Bs) : rc1 (34 :: l) = 34 :: 34 :: rc1 l := by
  have hi : index (34 :: l) [34] = ((0 : Nat) : Int) := by simp [index]
  unfold rc1
  rw [count_hit (by decide) hi, Nat.add_comm 1, replaceK_hit _ _ _ _ _ hi]
  simp
theorem rc1_miss {b : UInt8} {t : Bs} (h : b ≠ 34) : rc1 (b :: t) = b :: rc1 t := by
  have hp : ([34] : Bs).isPrefixOf (b :: t) = false := by
    simp [List.isPrefixOf]
    exact fun e => h e.symm
  have hix : index (b :: t) [34] = if index t [34] == -1 then -1 else index t [34] + 1 := by rw [index]; simp only [hp]; rfl
  by_cases hm : index t [34] = -1
  · have h1 : index (b :: t) [34] = -1 := by rw [hix, hm]; rfl
    unfold rc1
    rw [count_miss h1, count_miss hm]
    rfl
  · obtain ⟨i, hi⟩ : ∃ i : Nat, index t [34] = i := ⟨(index t [34]).toNat, by have := index_ge t [34]; omega⟩
    have h1 : index (b :: t) [34] = ((i + 1 : Nat) : Int) := by
      rw [hix, hi, if_neg (by simp)]
      rfl
    unfold rc1
    rw [count_hit (by decide) h1, count_hit (by decide) hi, Nat.add_comm 1, Nat.add_comm 1, replaceK_hit _ _ _ _ _ h1, replaceK_hit _ _ _ _ _ hi]
    have e : i + 1 + ([34] : Bs).length = (i + ([34] : Bs).length) + 1 := by omega
    rw [e]
    simp
theorem rc1_dbl : ∀ s : Bs, rc1 s = dbl s
  | [] => by simp [rc1, dbl, count, countFrom, index, replaceK]
  | b :: l => by
    by_cases hb : b = 34
    · subst hb
      rw [rc1_hit, rc1_dbl l]
      simp [dbl]
    · rw [rc1_miss hb, rc1_dbl l]
      simp [dbl, hb]
theorem replaceAll_dbl (s : Bs) : replaceAll s [34] [34, 34] = dbl s := by
  unfold replaceAll replace
  rw [if_neg (by decide)]
  have : replaceNum s [34] (-1) = count s [34] := by unfold replaceNum; rw [if_pos (.inl (by decide))]
  rw [this]
  exact rc1_dbl s

set_option maxHeartbeats 1000000 in
set_option maxRecDepth 100000 in
theorem field_any (s : ByteArray) (w : World) (hH : Held w) (hs : s.size ≤ 1000000) :
    Calls Tryd.prog 10 #[.string s] w fun e w' => e = .returned (.string (fldB s)) ∧ Below w.heap.size w w' := by
  have HC := Lib.hid (containsAny_any s w hs)
  have hf : fldB s = if special (tx s) = true then ⟨(34 :: (dbl (tx s) ++ [34])).toArray⟩ else s := by
    unfold fldB fieldW
    split <;> rfl
  obtain ⟨y, hy⟩ : ∃ y, special (tx s) = y := ⟨_, rfl⟩
  rw [hy] at HC hf
  have HF := Lib.hid hf
  clear hf hy
  have HH := Lib.hid hH
  have hlen : ∀ W, Held W → Calls Tryd.prog 21 #[.string s, .string ⟨#[34]⟩, .string ⟨#[34, 34]⟩] W fun e w' => e = .returned (.string ⟨(dbl (tx s)).toArray⟩) ∧ Below W.heap.size W w' := by
    intro W hW
    obtain ⟨m, hm⟩ := hW.2
    have hcount : Lib.countB s ⟨#[34]⟩ ≤ s.size + 1 := by
      unfold Lib.countB
      have := count_le s.data.toList (⟨#[34]⟩ : ByteArray).data.toList
      rw [Lib.size_eq]
      exact this
    have hR := Tryd.strings_ReplaceAll s ⟨#[34]⟩ ⟨#[34, 34]⟩ m W (by omega) hm (by decide) (by have e1 : (⟨#[34, 34]⟩ : ByteArray).size = 2 := rfl; rw [e1]; omega)
    have hans : (⟨(Lib.replaceAll s.data.toList (⟨#[34]⟩ : ByteArray).data.toList (⟨#[34, 34]⟩ : ByteArray).data.toList).toArray⟩ : ByteArray) = ⟨(dbl (tx s)).toArray⟩ := by
      show (⟨(Lib.replaceAll (tx s) [34] [34, 34]).toArray⟩ : ByteArray) = _
      rw [replaceAll_dbl]
    rw [hans] at hR
    exact hR
  have HR := Lib.hid hlen
  have hdl := (dbl_len (tx s)).2
  rw [tx_size] at hdl
  obtain ⟨D, hD⟩ : ∃ D, (⟨(dbl (tx s)).toArray⟩ : ByteArray) = D := ⟨_, rfl⟩
  have hDs : D.size ≤ 2000000 := by
    rw [← hD]
    show (dbl (tx s)).toArray.size ≤ _
    simp
    omega
  have hans : (⟨#[34]⟩ : ByteArray) ++ D ++ ⟨#[34]⟩ = ⟨(34 :: (dbl (tx s) ++ [34])).toArray⟩ := by
    rw [← hD]
    show (⟨([34] : Bs).toArray⟩ : ByteArray) ++ ⟨(dbl (tx s)).toArray⟩ ++ ⟨([34] : Bs).toArray⟩ = _
    rw [bytes_app, bytes_app]
    simp
  rw [hD] at HR
  rw [← hans] at HF
  obtain ⟨E, hE⟩ : ∃ E, (⟨#[34]⟩ : ByteArray) ++ D = E := ⟨_, rfl⟩
  have hEs : E.size ≤ 2000001 := by rw [← hE, ByteArray.size_append]; have : (⟨#[34]⟩ : ByteArray).size = 1 := rfl; omega
  have HE := Lib.hid hE
  have h1 : (⟨#[34]⟩ : ByteArray).size = 1 := rfl
  clear hlen hD hans hdl hE hH
  cases y
  · go_enter Tryd.func10, Tryd.ntmps10
    go_wp2_with fail
    refine HC.out.mono ?_
    rintro e w1 ⟨rfl, hb1⟩
    go_wp2
    go_ret
    exact ⟨by rw [HF.out]; rfl, hb1⟩
  · go_enter Tryd.func10, Tryd.ntmps10
    go_wp2_with fail
    refine HC.out.mono ?_
    rintro e w1 ⟨rfl, hb1⟩
    go_wp2_with fail
    refine (HR.out w1 (HH.out.below HH.out.1 hb1)).mono ?_
    rintro e w2 ⟨rfl, hb2⟩
    go_wp2
    go_ret
    exact ⟨by rw [HF.out]; rfl, hb1.trans (hb2.mono hb1.size)⟩
end Go.Proofs.YtafpddpeffpnfaaDoor.Qu
