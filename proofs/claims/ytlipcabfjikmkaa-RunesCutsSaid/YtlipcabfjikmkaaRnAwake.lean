/-
  Proved here: the chapter's examples (the function awake of the statements) come out as the document says.
-/
import Derived.Test.YtlipcabfjikmkaaRnText
import Derived.Deep.AppendLies
set_option linter.unusedVariables false
namespace Go.Proofs.Ytlipcabfjikmkaa.Rn
open Go.RowKit Go.Lib

theorem sp1 : splitA [97, 195, 169] 0 = [(0, 1, 97), (1, 2, 233)] := by kernel_rfl
theorem sp2 : splitA [226, 130, 97] 0 = [(0, 1, 65533), (1, 1, 65533), (2, 1, 97)] := by kernel_rfl
theorem pl1 : placeA [97, 195, 169, 98] 3 = (2, true) := by kernel_rfl
theorem pl2 : placeA [97, 195, 169, 98] 2 = (0, false) := by kernel_rfl
theorem tx1 : textB [8364] = [226, 130, 172] := by kernel_rfl
theorem tx2 : textB [-1] = [239, 191, 189] := by kernel_rfl
theorem va1 : validA [239, 191, 189] = true := by kernel_rfl
theorem va2 : validA [192, 128] = false := by kernel_rfl

theorem ex1 (w : World) : Calls Try.prog 12 #[.string ⟨#[97, 195, 169]⟩] w fun e w' => ∃ g cap, e = .returned (.slice (some ⟨g, 0, none⟩) 2 cap) ∧ g < w'.heap.size ∧ w.heap.size ≤ g ∧
    w'.cell? ⟨g, 3, none⟩ = some (.int .i64 1) ∧ w'.cell? ⟨g, 4, none⟩ = some (.int .i64 2) ∧ w'.cell? ⟨g, 5, none⟩ = some (.int .i64 233) ∧ Below w.heap.size w w' := by
  refine (split_any ⟨#[97, 195, 169]⟩ w (by decide)).mono ?_
  rintro e w' ⟨v, rfl, hown, hb⟩
  rw [show (ByteArray.mk #[97, 195, 169]).data.toList = [97, 195, 169] from rfl, sp1] at hown
  obtain ⟨g, cap, rfl, hg, hlt⟩ := hown.form (by decide)
  have hc := hown.cells (g := g) rfl
  exact ⟨g, cap, rfl, hlt, hg, by simpa [Addr.add] using hc 3 _ rfl, by simpa [Addr.add] using hc 4 _ rfl, by simpa [Addr.add] using hc 5 _ rfl, hb⟩
theorem ex2 (w : World) : Calls Try.prog 12 #[.string ⟨#[226, 130, 97]⟩] w fun e w' => ∃ g cap, e = .returned (.slice (some ⟨g, 0, none⟩) 3 cap) ∧ g < w'.heap.size ∧ w.heap.size ≤ g ∧
    w'.cell? ⟨g, 3, none⟩ = some (.int .i64 1) ∧ w'.cell? ⟨g, 4, none⟩ = some (.int .i64 1) ∧ w'.cell? ⟨g, 5, none⟩ = some (.int .i64 65533) ∧ Below w.heap.size w w' := by
  refine (split_any ⟨#[226, 130, 97]⟩ w (by decide)).mono ?_
  rintro e w' ⟨v, rfl, hown, hb⟩
  rw [show (ByteArray.mk #[226, 130, 97]).data.toList = [226, 130, 97] from rfl, sp2] at hown
  obtain ⟨g, cap, rfl, hg, hlt⟩ := hown.form (by decide)
  have hc := hown.cells (g := g) rfl
  exact ⟨g, cap, rfl, hlt, hg, by simpa [Addr.add] using hc 3 _ rfl, by simpa [Addr.add] using hc 4 _ rfl, by simpa [Addr.add] using hc 5 _ rfl, hb⟩
theorem ex3 (w : World) : Calls Try.prog 17 #[.string ⟨#[97, 195, 169, 98]⟩, .int .i64 3] w fun e w' => e = .returned (.tuple #[.int .i64 2, .bool true]) ∧ Below w.heap.size w w' := by
  refine (place_any ⟨#[97, 195, 169, 98]⟩ 3 w (by decide)).mono ?_
  rintro e w' ⟨rfl, hb⟩
  rw [show (ByteArray.mk #[97, 195, 169, 98]).data.toList = [97, 195, 169, 98] from rfl, pl1]
  exact ⟨rfl, hb⟩
theorem ex4 (w : World) : Calls Try.prog 17 #[.string ⟨#[97, 195, 169, 98]⟩, .int .i64 2] w fun e w' => e = .returned (.tuple #[.int .i64 0, .bool false]) ∧ Below w.heap.size w w' := by
  refine (place_any ⟨#[97, 195, 169, 98]⟩ 2 w (by decide)).mono ?_
  rintro e w' ⟨rfl, hb⟩
  rw [show (ByteArray.mk #[97, 195, 169, 98]).data.toList = [97, 195, 169, 98] from rfl, pl2]
  exact ⟨rfl, hb⟩
theorem ex5 (b : Nat) (c : Nat) (w : World) (hb : b < w.heap.size) (hc : w.cell? ⟨b, 0, none⟩ = some (.int .i64 8364)) : Calls Try.prog 15 #[.slice (some ⟨b, 0, none⟩) 1 c] w fun e w' => e = .returned (.string ⟨#[226, 130, 172]⟩) ∧ Below w.heap.size w w' := by
  refine (text_any (some ⟨b, 0, none⟩) [8364] c w (.inr ⟨b, 0, rfl, hb, ?_⟩) (by decide)).mono ?_
  · intro j z hj
    match j, hj with
    | 0, hj => simp at hj; subst hj; exact hc
    | j + 1, hj => simp at hj
  · rintro e w' ⟨rfl, hb⟩
    rw [tx1]
    exact ⟨rfl, hb⟩
theorem ex6 (b : Nat) (c : Nat) (w : World) (hb : b < w.heap.size) (hc : w.cell? ⟨b, 0, none⟩ = some (.int .i64 (-1))) : Calls Try.prog 15 #[.slice (some ⟨b, 0, none⟩) 1 c] w fun e w' => e = .returned (.string ⟨#[239, 191, 189]⟩) ∧ Below w.heap.size w w' := by
  refine (text_any (some ⟨b, 0, none⟩) [-1] c w (.inr ⟨b, 0, rfl, hb, ?_⟩) (by decide)).mono ?_
  · intro j z hj
    match j, hj with
    | 0, hj => simp at hj; subst hj; exact hc
    | j + 1, hj => simp at hj
  · rintro e w' ⟨rfl, hb⟩
    rw [tx2]
    exact ⟨rfl, hb⟩
theorem ex7 (w : World) : Calls Try.prog 14 #[.string ⟨#[239, 191, 189]⟩] w fun e w' => e = .returned (.bool true) ∧ Below w.heap.size w w' := by
  refine (valid_any ⟨#[239, 191, 189]⟩ w (by decide)).mono ?_
  rintro e w' ⟨rfl, hb⟩
  rw [show (ByteArray.mk #[239, 191, 189]).data.toList = [239, 191, 189] from rfl, va1]
  exact ⟨rfl, hb⟩
theorem ex8 (w : World) : Calls Try.prog 14 #[.string ⟨#[192, 128]⟩] w fun e w' => e = .returned (.bool false) ∧ Below w.heap.size w w' := by
  refine (valid_any ⟨#[192, 128]⟩ w (by decide)).mono ?_
  rintro e w' ⟨rfl, hb⟩
  rw [show (ByteArray.mk #[192, 128]).data.toList = [192, 128] from rfl, va2]
  exact ⟨rfl, hb⟩

theorem keep3 {w w' : World} {g : Nat} {x y z : Value} (hb : Below w.heap.size w w') (hg : g < w.heap.size) (h3 : w.cell? ⟨g, 3, none⟩ = some x) (h4 : w.cell? ⟨g, 4, none⟩ = some y) (h5 : w.cell? ⟨g, 5, none⟩ = some z) :
    w'.cell? ⟨g, 3, none⟩ = some x ∧ w'.cell? ⟨g, 4, none⟩ = some y ∧ w'.cell? ⟨g, 5, none⟩ = some z ∧ g < w'.heap.size :=
  ⟨(hb.cell (p := ⟨g, 3, none⟩) hg).trans h3, (hb.cell (p := ⟨g, 4, none⟩) hg).trans h4, (hb.cell (p := ⟨g, 5, none⟩) hg).trans h5, Nat.lt_of_lt_of_le hg hb.size⟩

set_option maxHeartbeats 1000000 in
set_option maxRecDepth 100000 in
theorem awake_any (w : World) : Calls Try.prog 9 #[] w fun e w' => e = .returned (.bool true) ∧ Below w.heap.size w w' := by
  go_enter Try.func9, Try.ntmps9
  go_wp2_with fail
  refine (ex1 _).mono ?_
  rintro e w1 ⟨g1, c1, rfl, l1, _, a3, a4, a5, b1⟩
  go_wp2_with fail
  refine (ex2 _).mono ?_
  rintro e w2 ⟨g2, c2, rfl, l2, hg2, d3, d4, d5, b2⟩
  obtain ⟨a3, a4, a5, l1⟩ := keep3 b2 l1 a3 a4 a5
  go_wp2_with fail
  refine (ex3 _).mono ?_
  rintro e w3 ⟨rfl, b3⟩
  obtain ⟨a3, a4, a5, l1⟩ := keep3 b3 l1 a3 a4 a5
  obtain ⟨d3, d4, d5, l2⟩ := keep3 b3 l2 d3 d4 d5
  go_wp2_with fail
  refine (ex4 _).mono ?_
  rintro e w4 ⟨rfl, b4⟩
  obtain ⟨a3, a4, a5, l1⟩ := keep3 b4 l1 a3 a4 a5
  obtain ⟨d3, d4, d5, l2⟩ := keep3 b4 l2 d3 d4 d5
  go_wp2_with fail
  refine (ex5 _ _ _ (by simp) (by simp)).mono ?_
  rintro e w5 ⟨rfl, b5⟩
  have b5' : Below w4.heap.size w4 w5 := ((Below.refl _ _).alloc (Nat.le_refl _) _).trans (b5.mono (by simp))
  clear b5
  go_wp2_with fail
  refine (ex6 _ _ _ (by simp) (by simp)).mono ?_
  rintro e w6 ⟨rfl, b6⟩
  have b6' : Below w5.heap.size w5 w6 := ((Below.refl _ _).alloc (Nat.le_refl _) _).trans (b6.mono (by simp))
  clear b6
  go_wp2_with fail
  refine (ex7 _).mono ?_
  rintro e w7 ⟨rfl, b7⟩
  go_wp2_with fail
  refine (ex8 _).mono ?_
  rintro e w8 ⟨rfl, b8⟩
  go_wp2_with fail
  go_ret
  refine ⟨rfl, ?_⟩
  have k1 := b1.size
  have k2 := b2.size
  have k3 := b3.size
  have k4 := b4.size
  have k5 := b5'.size
  have k6 := b6'.size
  have k7 := b7.size
  exact ((((((b1.trans (b2.mono (by omega))).trans (b3.mono (by omega))).trans (b4.mono (by omega))).trans (b5'.mono (by omega))).trans (b6'.mono (by omega))).trans (b7.mono (by omega))).trans (b8.mono (by omega))
end Go.Proofs.Ytlipcabfjikmkaa.Rn
