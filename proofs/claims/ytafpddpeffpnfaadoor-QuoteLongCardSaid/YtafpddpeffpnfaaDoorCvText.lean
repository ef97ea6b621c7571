/-
  Proved here: what csv.text returns, for every field as it may be written, where MaxLen stands in memory as it is laid; it leaves what was in memory.
-/
import Derived.Test.YtafpddpeffpnfaaDoorCvSmall
import Derived.Test.YtafpddpeffpnfaaDoorShelf
set_option linter.unusedVariables false
namespace Go.Proofs.YtafpddpeffpnfaaDoor.Cv
open Go.RowKit Go.Lib

def Held (w : World) : Prop := 0 < w.heap.size ∧ ∃ m, w.cell? ⟨0, 0, none⟩ = some (.int .i64 m)
theorem Held.below {w w' : World} (h : Held w) {B : Nat} (hB : 0 < B) (hb : Below B w w') : Held w' := by
  obtain ⟨h1, m, h3⟩ := h
  exact ⟨Nat.lt_of_lt_of_le h1 hb.size, m, (hb.cell (p := ⟨0, 0, none⟩) hB).trans h3⟩

def rcQ (s : Bs) : Bs := replaceK [34, 34] [34] (count s [34, 34]) s
theorem rcQ_two (l : Bs) : rcQ (34 :: 34 :: l) = 34 :: rcQ l := by
  have hi : index (34 :: 34 :: l) [34, 34] = ((0 : Nat) : Int) := by simp [index]
  unfold rcQ
  rw [count_hit (by decide) hi, Nat.add_comm 1, replaceK_hit _ _ _ _ _ hi]
  simp
theorem rcQ_one {b : UInt8} {t : Bs} (h : ([34, 34] : Bs).isPrefixOf (b :: t) = false) : rcQ (b :: t) = b :: rcQ t := by
  have hix : index (b :: t) [34, 34] = if index t [34, 34] == -1 then -1 else index t [34, 34] + 1 := by rw [index]; simp only [h]; rfl
  by_cases hm : index t [34, 34] = -1
  · have h1 : index (b :: t) [34, 34] = -1 := by rw [hix, hm]; rfl
    unfold rcQ
    rw [count_miss h1, count_miss hm]
    rfl
  · obtain ⟨i, hi⟩ : ∃ i : Nat, index t [34, 34] = i := ⟨(index t [34, 34]).toNat, by have := index_ge t [34, 34]; omega⟩
    have h1 : index (b :: t) [34, 34] = ((i + 1 : Nat) : Int) := by
      rw [hix, hi, if_neg (by simp)]
      rfl
    unfold rcQ
    rw [count_hit (by decide) h1, count_hit (by decide) hi, Nat.add_comm 1, Nat.add_comm 1, replaceK_hit _ _ _ _ _ h1, replaceK_hit _ _ _ _ _ hi]
    have e : i + 1 + ([34, 34] : Bs).length = (i + ([34, 34] : Bs).length) + 1 := by omega
    rw [e]
    simp
theorem rcQ_und : ∀ (n : Nat) (s : Bs), s.length ≤ n → rcQ s = und s
  | _, [], _ => by simp [rcQ, und, count, countFrom, index, replaceK]
  | 0, _ :: _, h => by simp at h
  | n + 1, [b], h => by
    rw [rcQ_one (by simp [List.isPrefixOf]), rcQ_und n [] (by simp)]
    rfl
  | n + 1, b :: c :: l, h => by
    by_cases hb : b = 34 ∧ c = 34
    · obtain ⟨rfl, rfl⟩ := hb
      rw [rcQ_two, rcQ_und n l (by simp at h; omega)]
      simp [und]
    · rw [rcQ_one, rcQ_und n (c :: l) (by simpa using h)]
      · simp [und, hb]
      · rw [Bool.eq_false_iff]
        intro e
        simp [List.isPrefixOf] at e
        exact hb ⟨e.1.symm, e.2.symm⟩
theorem replaceAll_und (s : Bs) : replaceAll s [34, 34] [34] = und s := by
  unfold replaceAll replace
  rw [if_neg (by decide)]
  have : replaceNum s [34, 34] (-1) = count s [34, 34] := by unfold replaceNum; rw [if_pos (.inl (by decide))]
  rw [this]
  exact rcQ_und _ s (Nat.le_refl _)

def txB (x : ByteArray) : ByteArray := ⟨(txt (tx x)).toArray⟩

set_option maxHeartbeats 1000000 in
set_option maxRecDepth 100000 in
theorem text_any (x : ByteArray) (w : World) (hH : Held w) (hs : x.size ≤ 100000) (hw : Wq (tx x)) :
    Calls Tryd.prog 30 #[.string x] w fun e w' => e = .returned (.string (txB x)) ∧ Below w.heap.size w w' := by
  have hB := byteAt_any x 0 w (by omega) (by omega)
  rw [List.drop_zero] at hB
  by_cases hq : (tx x).head? = some 34
  · rcases hw with hw | ⟨i, hi, hp⟩
    · exact absurd hq hw
    have hz : bz (tx x) = 34 := by rw [hi]; rfl
    have hsz : x.size = i.length + 2 := by rw [← tx_size, hi]; simp
    rw [hz] at hB
    have hin : (x.extract 1 (x.size - 1)).data.toList = i := by
      rw [Lib.extract_data]
      show ((tx x).drop 1).take _ = _
      rw [hi, hsz]
      simp
    have hxs : (x.extract 1 (x.size - 1)).size = i.length := by rw [Lib.size_eq, hin]
    obtain ⟨m, hm⟩ := hH.2
    have hcount : Lib.countB (x.extract 1 (x.size - 1)) ⟨#[34, 34]⟩ ≤ (x.extract 1 (x.size - 1)).size + 1 := by
      unfold Lib.countB
      have := count_le (x.extract 1 (x.size - 1)).data.toList (⟨#[34, 34]⟩ : ByteArray).data.toList
      rw [Lib.size_eq]
      exact this
    have hR := Tryd.strings_ReplaceAll (x.extract 1 (x.size - 1)) ⟨#[34, 34]⟩ ⟨#[34]⟩ m w (by omega) hm (by decide) (by have e1 : (⟨#[34]⟩ : ByteArray).size = 1 := rfl; rw [e1]; omega)
    have hans : (⟨(Lib.replaceAll (x.extract 1 (x.size - 1)).data.toList (⟨#[34, 34]⟩ : ByteArray).data.toList (⟨#[34]⟩ : ByteArray).data.toList).toArray⟩ : ByteArray) = txB x := by
      rw [hin]
      show (⟨(Lib.replaceAll i [34, 34] [34]).toArray⟩ : ByteArray) = _
      rw [replaceAll_und, txB, hi, txt_quoted]
    rw [hans] at hR
    have HR := Lib.hid hR
    have HB := Lib.hid hB
    obtain ⟨k, hk⟩ : ∃ k : Nat, x.size - 1 = k := ⟨_, rfl⟩
    rw [hk] at HR
    have hk1 : 1 ≤ k := by omega
    have hk2 : k ≤ x.size := by omega
    have hk3 : (x.size : Int) - 1 = k := by omega
    have h2 : 2 ≤ x.size := by omega
    obtain ⟨y, hy⟩ : ∃ y, x.extract 1 k = y := ⟨_, rfl⟩
    rw [hy] at HR
    have hsl := run_slice_string (P := Tryd.prog) w 9 x .i64 .i64 1 k Tryd.underlying9 (by omega) (by omega) (by omega)
    rw [show (1 : Int).toNat = 1 from rfl, show ((k : Int)).toNat = k from by omega, hy] at hsl
    clear hR hB hi hp hq hz hin hxs hcount hm hans hsz hk
    go_enter Tryd.func30, Tryd.ntmps30
    go_wp2_with (go_at_call 38; refine HB.out.mono ?_; rintro e w' ⟨rfl, rfl⟩)
    refine HR.out.mono ?_
    rintro e w' ⟨rfl, hb⟩
    go_wp2
    go_ret
    exact ⟨rfl, hb⟩
  · have hz : bz (tx x) ≠ 34 := by
      intro e
      cases hl : tx x with
      | nil => rw [hl] at e; simp [bz] at e
      | cons b l =>
        rw [hl] at e hq
        simp only [bz] at e
        exact hq (by rw [u8_34 (b := b) (by omega)]; rfl)
    have ht : txB x = x := by
      unfold txB
      rw [txt_bare hq]
    rw [ht]
    obtain ⟨z, hzz⟩ : ∃ z, bz (tx x) = z := ⟨_, rfl⟩
    rw [hzz] at hB hz
    have HB := Lib.hid hB
    clear hB hzz hq ht hw
    go_enter Tryd.func30, Tryd.ntmps30
    go_wp2_with (go_at_call 38; refine HB.out.mono ?_; rintro e w' ⟨rfl, rfl⟩)
    go_ret
    exact ⟨rfl, Below.refl _ _⟩
end Go.Proofs.YtafpddpeffpnfaaDoor.Cv
