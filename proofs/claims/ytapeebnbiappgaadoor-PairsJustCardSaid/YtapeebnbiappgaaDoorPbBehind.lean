/-
  Proved here: what parquetrylaw14.behind returns (the plain marksZ). It leaves what was in memory.
-/
import Derived.Test.YtapeebnbiappgaaDoorPbSmall
import Derived.Test.YtapeebnbiappgaaDoorPrMore
set_option linter.unusedVariables false
namespace Go.Proofs.YtapeebnbiappgaaDoor.Pb
open Go Go.RowKit Go.Lib Go.Proofs.YtapeebnbiappgaaDoor.Cl Go.Proofs.YtapeebnbiappgaaDoor.Pr

set_option maxHeartbeats 1000000 in
set_option maxRecDepth 100000 in
theorem behind_any (A : Option Addr) (own : List Int) (n c a t : Nat) (w : World) (hA : IntsAt w A own) (hl : own.length = n) (hn : n ≤ 1099511627776) (ha : a < n) (ht : t < n) :
    Calls Tryd.prog 16 #[.slice A n c, .int .i64 a, .int .i64 t] w fun e w' => e = .returned (.bool (marksZ own a t)) ∧ w' = w := by
  have HA := Lib.hid hA
  have HL := Lib.hid hl
  obtain ⟨b, hb⟩ : ∃ b, marksZ own a t = b := ⟨_, rfl⟩
  have HB := Lib.hid hb
  have e1 : IntKind.i64.wrap ((a : Int) + 1) = (a : Int) + 1 := IntWalk.i64_in _ (by omega)
  rw [hb]
  clear hA hb hl
  go_enter Tryd.func16, Tryd.ntmps16
  go_wp2_with fail
  go_loopw [7] (fun s7 wx => ∃ i : Nat, a < i ∧ (i ≤ t + 1 ∨ i = a + 1) ∧ s7 = .int .i64 i ∧ (∀ j, a < j → j < i → own[j]? = some 8) ∧ wx = w) (fun s7 _ => n + 1 - (RowKit.intOf s7).toNat)
  case atStart => exact ⟨a + 1, by omega, .inr rfl, by go_num, fun j h1 h2 => by omega, rfl⟩
  case round =>
    obtain ⟨i, hai, hit, rfl, hall, rfl⟩ := hrel
    have HALL := Lib.hid hall
    clear hall
    have e2 : IntKind.i64.wrap ((i : Int) + 1) = (i : Int) + 1 := IntWalk.i64_in _ (by omega)
    by_cases hlt : i ≤ t
    · have hiz : i < own.length := by rw [HL.out]; omega
      obtain ⟨g, off, rfl, hc⟩ := HA.out.at_ hiz
      have HZ := Lib.hid (List.getElem?_eq_getElem hiz)
      generalize own[i] = z at *
      have hk0 : (0 : Int) ≤ (i : Int) := by omega
      have hk1 : (i : Int) < (n : Int) := by omega
      have hd : decide ((i : Int) ≤ (t : Int)) = true := decide_eq_true (by omega)
      have hdi : decide (i ≤ t) = true := decide_eq_true hlt
      clear hiz
      by_cases hz : z = 8
      · subst hz
        go_wp2
        go_roundw
        case rel => exact ⟨i + 1, by omega, .inl (by omega), by go_num, fun j h1 h2 => by
          by_cases e : j = i
          · rw [e]; exact HZ.out
          · exact HALL.out j h1 (by omega), by first | rfl | trivial⟩
        case measure => simp [RowKit.intOf]; omega
      · have hb8 : (z != 8) = true := bne_iff_ne.2 hz
        have hb2 : b = false := by rw [← HB.out]; exact marksZ_no (by rw [HL.out]; exact ht) hai hlt HZ.out hz
        subst hb2
        clear hz
        go_wp2
        go_ret
        exact ⟨rfl, rfl⟩
    · have hd : decide ((i : Int) ≤ (t : Int)) = false := decide_eq_false (by omega)
      have hdi : decide (i ≤ t) = false := decide_eq_false hlt
      by_cases hat : a < t
      · have hb2 : b = true := by rw [← HB.out]; exact (marksZ_iff (by rw [HL.out]; exact ht)).2 ⟨hat, fun j h1 h2 => HALL.out j h1 (by omega)⟩
        have hdt : decide ((a : Int) < (t : Int)) = true := decide_eq_true (by omega)
        have hdn : decide (a < t) = true := decide_eq_true hat
        have hdp : a < t := hat
        subst hb2
        clear hlt hit
        go_wp2
        go_ret
        exact ⟨rfl, rfl⟩
      · have hb2 : b = false := by rw [← HB.out]; exact marksZ_short (by omega)
        have hdt : decide ((a : Int) < (t : Int)) = false := decide_eq_false (by omega)
        subst hb2
        clear hlt hit
        go_wp2
        go_ret
        exact ⟨rfl, rfl⟩
end Go.Proofs.YtapeebnbiappgaaDoor.Pb
