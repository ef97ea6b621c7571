/-
  Proved here: what parquetryref02.Print returns, for every row of at most a million numbers: what class.Print returns; it leaves what was in memory.
-/
import Derived.Test.YtaodaibhhdjdmaaDoorRcName
import Derived.LoopTactic
set_option linter.unusedVariables false
namespace Go.Proofs.YtaodaibhhdjdmaaDoor.Rc
open Go.RowKit Go.Lib Go.Proofs.YtaodaibhhdjdmaaDoor.Cl

/-- The names of numbers with a blank between, from the left. -/
def joinUp : List Int → List UInt8
  | [] => []
  | z :: l => (nameZ z).data.toList ++ l.flatMap fun y => 32 :: (nameZ y).data.toList
theorem joinUp_snoc (l : List Int) (z : Int) (h : l ≠ []) : joinUp (l ++ [z]) = joinUp l ++ 32 :: (nameZ z).data.toList := by
  cases l with
  | nil => exact absurd rfl h
  | cons x l => simp [joinUp]
theorem joinUp_one (z : Int) : joinUp [z] = (nameZ z).data.toList := by simp [joinUp]
theorem join_up (zs : List Int) : printS zs = ⟨(joinUp zs).toArray⟩ := by
  unfold printS
  congr 2
  cases zs with
  | nil => simp [joinUp, Lib.join_nil]
  | cons z l =>
    rw [List.map_cons, Lib.join_cons, joinUp]
    congr 1
    simp [Lib.joinTail, List.flatMap, Function.comp_def]
theorem nameZ_ne {z : Int} (h0 : 0 ≤ z) (h1 : z < 23) : (nameZ z).toList.isEmpty = false := by
  obtain ⟨m, rfl⟩ : ∃ m : Nat, z = m := ⟨z.toNat, by omega⟩
  have : ∀ m : Nat, m < 23 → (nameZ (m : Int)).toList.isEmpty = false := by decide +kernel
  exact this m (by omega)

def joinB (zs : List Int) : ByteArray := ⟨(joinUp zs).toArray⟩
theorem joinB_size (zs : List Int) : (joinB zs).size ≤ 4 * zs.length := by
  show (joinUp zs).toArray.size ≤ _
  rw [List.size_toArray]
  cases zs with
  | nil => simp [joinUp]
  | cons z l =>
    have hl : ∀ l : List Int, (l.flatMap fun y => 32 :: (nameZ y).data.toList).length ≤ 4 * l.length := by
      intro l
      induction l with
      | nil => simp
      | cons y l ih =>
        rw [List.flatMap_cons, List.length_append, List.length_cons, List.length_cons]
        have := nameZ_short y
        omega
    rw [joinUp, List.length_append, List.length_cons]
    have := nameZ_short z
    have := hl l
    omega
theorem nameZ_size (z : Int) : (nameZ z).size ≤ 3 := by
  have := nameZ_short z
  rw [Lib.size_eq]
  exact this

def RpRel (zs : List Int) (w : World) (s4 s5 : Value) (wx : World) : Prop :=
  ∃ k : Nat, k ≤ zs.length ∧ s5 = .int .i64 k ∧ Below w.heap.size w wx ∧ s4 = .string (joinB (zs.take k)) ∧ okAll (zs.take k) = true

theorem str_add (a b : List UInt8) : (⟨a.toArray⟩ : ByteArray) ++ ⟨b.toArray⟩ = ⟨(a ++ b).toArray⟩ := by
  apply ByteArray.ext
  simp
theorem str_of (b : ByteArray) : b = ⟨b.data.toList.toArray⟩ := by obtain ⟨⟨x⟩⟩ := b; rfl

set_option maxHeartbeats 1000000 in
set_option maxRecDepth 100000 in
theorem refprint_any (A : Option Addr) (zs : List Int) (c : Nat) (w : World) (hr : IntsAt w A zs) (hs : zs.length ≤ 1000000) :
    Calls Tryd.prog 18 #[.slice A zs.length c] w fun e w' => e = .returned (printV zs) ∧ Below w.heap.size w w' := by
  have HR := Lib.hid hr
  clear hr
  go_enter Tryd.func18, Tryd.ntmps18
  go_wp2_with fail
  go_loopw [4, 5] (fun s4 s5 wx => RpRel zs w s4 s5 wx) (fun _ s5 _ => zs.length - (RowKit.intOf s5).toNat)
  case atStart => exact ⟨0, Nat.zero_le _, rfl, Below.refl _ _, rfl, rfl⟩
  case round =>
    obtain ⟨k, hk, rfl, hb, rfl, hok⟩ := hrel
    have HOK := Lib.hid hok
    clear hok
    by_cases hlt : k < zs.length
    · obtain ⟨b, off, rfl, hc⟩ := (HR.out.below hb).at_ hlt
      have hstep := Lib.hid (okAll_take hlt HOK.out)
      have hnx : joinUp (zs.take (k + 1)) = (if k = 0 then joinUp (zs.take k) else joinUp (zs.take k) ++ [32]) ++ (nameZ zs[k]).data.toList := by
        rw [List.take_succ_eq_append_getElem hlt]
        by_cases h0 : k = 0
        · subst h0
          rw [if_pos rfl, List.take_zero, List.nil_append, joinUp_one]
          rfl
        · rw [if_neg h0, joinUp_snoc _ _ (by intro e; have := congrArg List.length e; rw [List.length_take, List.length_nil] at this; omega)]
          simp
      have HNX := Lib.hid hnx
      obtain ⟨z, hz⟩ : ∃ z, zs[k] = z := ⟨_, rfl⟩
      rw [hz] at hc
      have HZ := Lib.hid hz
      clear hz hnx
      have hJs := joinB_size (zs.take k)
      rw [List.length_take] at hJs
      have hNs := nameZ_size z
      obtain ⟨J, hJ⟩ : ∃ J, joinB (zs.take k) = J := ⟨_, rfl⟩
      rw [hJ] at hJs ⊢
      have HJ := Lib.hid hJ
      clear hJ
      by_cases hin : 0 ≤ z ∧ z < 23
      · have hnm := Lib.hid (refName_in hin.1 (by omega))
        have hne := nameZ_ne hin.1 hin.2
        obtain ⟨N, hN⟩ : ∃ N, nameZ z = N := ⟨_, rfl⟩
        rw [hN] at hnm hne hNs
        have HN := Lib.hid hN
        clear hN
        by_cases h0 : 0 < k
        · have hkk : (0 : Int) < k := by omega
          go_wp2_with fail
          refine (name_any _ _).mono ?_
          rintro e w1 ⟨rfl, hb1⟩
          have hc1 := (hb1.cell (p := ⟨b, off + k, none⟩) (World.block_lt_of_cell? _ _ hc)).trans hc
          rw [hnm.out]
          go_wp2_with fail
          refine (name_any _ _).mono ?_
          rintro e w2 ⟨rfl, hb2⟩
          rw [hnm.out]
          go_wp2
          go_roundw
          case measure => simp [RowKit.intOf]; omega
          refine ⟨k + 1, by omega, by go_num, hb.trans ((hb1.trans (hb2.mono hb1.size)).mono hb.size), ?_, ?_⟩
          · unfold joinB
            rw [HNX.out, if_neg (by omega), HZ.out, HN.out, ← str_add, ← str_add, ← str_of]
            show _ = Value.string (joinB (zs.take k) ++ _ ++ _)
            rw [HJ.out]
          · rw [hstep.out, HZ.out]
            simp
            omega
        · have hkk : ¬ (0 : Int) < k := by omega
          go_wp2_with fail
          refine (name_any _ _).mono ?_
          rintro e w1 ⟨rfl, hb1⟩
          have hc1 := (hb1.cell (p := ⟨b, off + k, none⟩) (World.block_lt_of_cell? _ _ hc)).trans hc
          rw [hnm.out]
          go_wp2_with fail
          refine (name_any _ _).mono ?_
          rintro e w2 ⟨rfl, hb2⟩
          rw [hnm.out]
          go_wp2
          go_roundw
          case measure => simp [RowKit.intOf]; omega
          refine ⟨k + 1, by omega, by go_num, hb.trans ((hb1.trans (hb2.mono hb1.size)).mono hb.size), ?_, ?_⟩
          · unfold joinB
            rw [HNX.out, if_pos (by omega), HZ.out, HN.out, ← str_add, ← str_of]
            show _ = Value.string (joinB (zs.take k) ++ _)
            rw [HJ.out]
          · rw [hstep.out, HZ.out]
            simp
            omega
      · have hnm := Lib.hid (refName_out (c := z) (by omega))
        go_wp2_with fail
        refine (name_any _ _).mono ?_
        rintro e w1 ⟨rfl, hb1⟩
        rw [hnm.out]
        go_wp2
        go_ret2
        refine ⟨?_, hb.trans (hb1.mono hb.size)⟩
        have : okAll zs = false := okAll_mono (k + 1) (by rw [hstep.out, HZ.out]; simp; omega)
        unfold printV
        rw [this]
        rfl
    · obtain rfl : k = zs.length := by omega
      have hok : okAll zs = true := by simpa using HOK.out
      have HOK' := Lib.hid hok
      clear hok
      rw [List.take_length]
      go_wp2
      go_ret2
      refine ⟨?_, hb⟩
      unfold printV
      rw [HOK'.out, if_pos rfl, join_up]
      rfl
end Go.Proofs.YtaodaibhhdjdmaaDoor.Rc
