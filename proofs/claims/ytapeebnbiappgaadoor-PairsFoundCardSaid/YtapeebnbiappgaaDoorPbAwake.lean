/-
  Proved here: parquetrylaw14.comes and awake (the chapter's examples) return true, where the names stand in memory as they are laid; they leave what was in memory.
-/
import Derived.Test.YtapeebnbiappgaaDoorPbBrk
import Derived.Test.YtapeebnbiappgaaDoorPbCodes
import Derived.Test.YtapeebnbiappgaaDoorPrRefB
import Derived.Test.YtapeebnbiappgaaDoorClRead
set_option linter.unusedVariables false
namespace Go.Proofs.YtapeebnbiappgaaDoor.Pb
open Go Go.RowKit Go.Lib Go.Proofs.YtapeebnbiappgaaDoor.Cl Go.Proofs.YtapeebnbiappgaaDoor.Pr

theorem ints_of {w : World} {B n c : Nat} {A : Option Addr} {zs : List Int} (h : w.ownsRow B 3 1 (.slice A n c) n (icl zs)) (hn : zs.length = n) : IntsAt w A zs := by
  obtain ⟨A2, c2, e2, hat⟩ := intsAt_icl h hn
  injection e2 with e3 e4 e5
  subst e3
  exact hat
theorem bt {w a b : World} (h : Below w.heap.size w a) (k : Below a.heap.size a b) : Below w.heap.size w b := h.trans (k.mono h.size)
theorem pa_made {W : World} {B : Nat} (i j : Nat) (t : TypeId) (hB : W.heap.size = B) : PaAt (W.alloc (.cells #[.int .i64 i, .int .i64 j] t)) (some ⟨B, 0, none⟩) [(i, j)] := by
  subst hB
  refine .inr ⟨W.heap.size, 0, rfl, by simp, fun k p hk => ?_⟩
  cases k with
  | zero =>
    obtain rfl : (i, j) = p := by simpa using hk
    exact ⟨cell_of_row _ _ 0 _ _ _ (heap_alloc_last _ _), cell_of_row _ _ 1 _ _ _ (heap_alloc_last _ _)⟩
  | succ k => simp at hk

set_option maxHeartbeats 2000000 in
set_option maxRecDepth 100000 in
theorem comes_any (X S T : ByteArray) (level s : Int) (w : World) (hH : Held w) (hX : X.size ≤ 1000) (hs : S.size ≤ 1000) (hcb : Lib.countB S Cl.blank ≤ S.size) (hok : readOk S = true) (hz : (readZ S).length ≤ 1000) (hp : printV (settleZ (readZ S) (codesZ X) (readZ S) level s) = .tuple #[.string T, .bool true]) (hpl : (settleZ (readZ S) (codesZ X) (readZ S) level s).length ≤ 1000) :
    Calls Tryd.prog 20 #[.string X, .string S, .int .i64 level, .int .i64 s, .string T] w fun e w' => e = .returned (.bool true) ∧ Below w.heap.size w w' := by
  have HRD := Lib.hid (show Calls Tryd.prog 35 #[.string S] w fun e w' => ∃ v, e = .returned (.tuple #[v, .bool (readOk S)]) ∧ w'.ownsRow w.heap.size 3 1 v (readZ S).length (icl (readZ S)) ∧ Below w.heap.size w w' from read_any S w hH (by omega) hcb)
  have HH := Lib.hid hH
  have HP := Lib.hid hp
  have HOK := Lib.hid hok
  have HPL := Lib.hid hpl
  clear hH hp hok hcb hs hpl
  generalize readZ S = zs at *
  obtain ⟨n, hn⟩ : ∃ n, zs.length = n := ⟨_, rfl⟩
  have HN := Lib.hid hn
  rw [hn] at hz
  have HCO := Lib.hid (fun (W : World) => codes_any X W hX)
  have HXL := Lib.hid (codesZ_len X)
  generalize codesZ X = cs at *
  generalize X.size = k at *
  clear hn
  go_enter Tryd.func20, Tryd.ntmps20
  go_wp2_with fail
  refine HRD.out.mono ?_
  rintro e w1 ⟨v, rfl, hown, hb⟩
  rw [HOK.out]
  obtain ⟨A, c, rfl, hat⟩ := intsAt_icl (zs := zs) (n := n) (by rw [← HN.out]; exact hown) HN.out
  have HAT := Lib.hid hat
  have HB1 := Lib.hid hb
  clear hown hat hb HRD
  go_wp2_with fail
  refine (HCO.out w1).mono ?_
  rintro e w2 ⟨A2, c2, rfl, hown, hb⟩
  have HB2 := Lib.hid (bt HB1.out hb)
  have HBR := Lib.hid (brackets_any A A2 A zs cs zs n k n c c2 c level s w2 (HAT.out.below hb) (ints_of hown HXL.out) (HAT.out.below hb) HN.out HXL.out HN.out (by omega))
  clear hown hb HCO
  generalize settleZ zs cs zs level s = ys at *
  go_wp2_with fail
  refine HBR.out.mono ?_
  rintro e w3 ⟨A3, c3, rfl, hown, hb⟩
  have HB3 := Lib.hid (bt HB2.out hb)
  have hpr := print_any A3 ys c3 w3 (ints_of hown rfl) (HH.out.below HB3.out) (by have := HPL.out; omega)
  rw [HP.out] at hpr
  have HPR := Lib.hid hpr
  clear hown hb hpr HBR
  go_wp2_with fail
  refine HPR.out.mono ?_
  rintro e w4 ⟨rfl, hb⟩
  have HB4 := Lib.hid (bt HB3.out hb)
  clear hb
  go_wp2
  go_ret
  exact ⟨by first | rfl | simp, HB4.out⟩

theorem ex0_any (w : World) (hH : Held w) : Calls Tryd.prog 20 #[.string ⟨#[120, 40, 120, 41]⟩, .string ⟨#[82, 32, 79, 78, 32, 76, 32, 79, 78]⟩, .int .i64 0, .int .i64 0, .string ⟨#[82, 32, 76, 32, 76, 32, 76]⟩] w fun e w' => e = .returned (.bool true) ∧ Below w.heap.size w w' :=
  comes_any ⟨#[120, 40, 120, 41]⟩ ⟨#[82, 32, 79, 78, 32, 76, 32, 79, 78]⟩ ⟨#[82, 32, 76, 32, 76, 32, 76]⟩ 0 0 w hH (by decide) (by decide) (by decide +kernel) (by kernel_rfl) (by decide +kernel) (by kernel_rfl) (by decide +kernel)
theorem ex1_any (w : World) (hH : Held w) : Calls Tryd.prog 20 #[.string ⟨#[120, 40, 120, 41]⟩, .string ⟨#[76, 32, 79, 78, 32, 82, 32, 79, 78]⟩, .int .i64 0, .int .i64 1, .string ⟨#[76, 32, 76, 32, 82, 32, 76]⟩] w fun e w' => e = .returned (.bool true) ∧ Below w.heap.size w w' :=
  comes_any ⟨#[120, 40, 120, 41]⟩ ⟨#[76, 32, 79, 78, 32, 82, 32, 79, 78]⟩ ⟨#[76, 32, 76, 32, 82, 32, 76]⟩ 0 1 w hH (by decide) (by decide) (by decide +kernel) (by kernel_rfl) (by decide +kernel) (by kernel_rfl) (by decide +kernel)
theorem ex2_any (w : World) (hH : Held w) : Calls Tryd.prog 20 #[.string ⟨#[120, 40, 120, 41]⟩, .string ⟨#[82, 32, 79, 78, 32, 82, 32, 79, 78]⟩, .int .i64 0, .int .i64 0, .string ⟨#[82, 32, 82, 32, 82, 32, 82]⟩] w fun e w' => e = .returned (.bool true) ∧ Below w.heap.size w w' :=
  comes_any ⟨#[120, 40, 120, 41]⟩ ⟨#[82, 32, 79, 78, 32, 82, 32, 79, 78]⟩ ⟨#[82, 32, 82, 32, 82, 32, 82]⟩ 0 0 w hH (by decide) (by decide) (by decide +kernel) (by kernel_rfl) (by decide +kernel) (by kernel_rfl) (by decide +kernel)
theorem ex3_any (w : World) (hH : Held w) : Calls Tryd.prog 20 #[.string ⟨#[40, 120, 41]⟩, .string ⟨#[79, 78, 32, 79, 78, 32, 79, 78]⟩, .int .i64 1, .int .i64 0, .string ⟨#[79, 78, 32, 79, 78, 32, 79, 78]⟩] w fun e w' => e = .returned (.bool true) ∧ Below w.heap.size w w' :=
  comes_any ⟨#[40, 120, 41]⟩ ⟨#[79, 78, 32, 79, 78, 32, 79, 78]⟩ ⟨#[79, 78, 32, 79, 78, 32, 79, 78]⟩ 1 0 w hH (by decide) (by decide) (by decide +kernel) (by kernel_rfl) (by decide +kernel) (by kernel_rfl) (by decide +kernel)
theorem pairs4 : findP [13, 13, 13, 13] (codesZ ⟨#[40, 91, 41, 93]⟩) = [(0, 2)] := by decide +kernel
theorem pairs1 : findP [13] [] = [] := by decide +kernel

set_option maxHeartbeats 4000000 in
set_option maxRecDepth 100000 in
theorem awake_any (w : World) (hH : Held w) : Calls Tryd.prog 8 #[] w fun e w' => e = .returned (.bool true) ∧ Below w.heap.size w w' := by
  have HH := Lib.hid hH
  have HC := Lib.hid (fun (W : World) => codes_any ⟨#[40, 91, 41, 93]⟩ W (by decide))
  clear hH
  go_enter Tryd.func8, Tryd.ntmps8
  go_wp2_with fail
  have hb0 := below_made w (.cells #[.int .i64 13, .int .i64 13, .int .i64 13, .int .i64 13] 3)
  have hat := made_ints [13, 13, 13, 13] #[.int .i64 13, .int .i64 13, .int .i64 13, .int .i64 13] 3 w rfl
  generalize w.alloc (.cells #[.int .i64 13, .int .i64 13, .int .i64 13, .int .i64 13] 3) = w0 at *
  refine (HC.out w0).mono ?_
  rintro e w1 ⟨A1, c1, rfl, hown, hb⟩
  have HB1 := Lib.hid (bt hb0 hb)
  have HF := Lib.hid (find_any (some ⟨w.heap.size, 0, none⟩) A1 [13, 13, 13, 13] (codesZ ⟨#[40, 91, 41, 93]⟩) 4 4 4 c1 w1 (hat.below hb) (ints_of hown rfl) rfl rfl (by decide))
  rw [pairs4] at HF
  clear hb0 hat hown hb HC
  go_wp2_with fail
  refine HF.out.mono ?_
  rintro e w2 ⟨v2, rfl, hown, hb⟩
  obtain ⟨A2, c2, rfl, hpa⟩ := paAt_own hown rfl
  have HB2 := Lib.hid (bt HB1.out hb)
  have HPA := Lib.hid (hpa.below (below_made w2 (.cells #[.int .i64 0, .int .i64 2] 31)))
  have HPB := Lib.hid (pa_made (W := w2) 0 2 31 rfl)
  have HB3 := Lib.hid (bt HB2.out (below_made w2 (.cells #[.int .i64 0, .int .i64 2] 31)))
  have hlen : ([(0, 2)] : List (Nat × Nat)).length = 1 := rfl
  clear hown hpa hb HF
  go_wp2_with fail
  refine (rsame_any A2 (some ⟨w2.heap.size, 0, none⟩) [(0, 2)] 1 c2 1 _ HPA.out HPB.out rfl (by decide)).mono ?_
  rintro e w3 ⟨rfl, hb⟩
  have H0 := Lib.hid (HH.out.below (bt HB3.out hb))
  have B0 := Lib.hid (bt HB3.out hb)
  clear hb hlen HPA HPB
  try clear HB3
  go_wp2_with fail
  refine (ex0_any w3 H0.out).mono ?_
  rintro e v1 ⟨rfl, hb⟩
  have H1 := Lib.hid (H0.out.below hb)
  have B1 := Lib.hid (bt B0.out hb)
  clear hb
  go_wp2_with fail
  refine (ex1_any v1 H1.out).mono ?_
  rintro e v2 ⟨rfl, hb⟩
  have H2 := Lib.hid (H1.out.below hb)
  have B2 := Lib.hid (bt B1.out hb)
  clear hb
  go_wp2_with fail
  refine (ex2_any v2 H2.out).mono ?_
  rintro e v3 ⟨rfl, hb⟩
  have H3 := Lib.hid (H2.out.below hb)
  have B3 := Lib.hid (bt B2.out hb)
  clear hb
  go_wp2_with fail
  refine (ex3_any v3 H3.out).mono ?_
  rintro e v4 ⟨rfl, hb⟩
  have H4 := Lib.hid (H3.out.below hb)
  have B4 := Lib.hid (bt B3.out hb)
  clear hb
  go_wp2_with fail
  have hb5 := below_made v4 (.cells #[.int .i64 13] 3)
  have hat5 := made_ints [13] #[.int .i64 13] 3 v4 rfl
  have HF5 := Lib.hid (find_any (some ⟨v4.heap.size, 0, none⟩) none [13] [] 1 0 1 0 _ hat5 (.inl rfl) rfl rfl (by decide))
  rw [pairs1] at HF5
  have HB5 := Lib.hid (bt B4.out hb5)
  clear hb5 hat5
  refine HF5.out.mono ?_
  rintro e v9 ⟨u, rfl, hown, hb⟩
  obtain ⟨A9, c9, rfl⟩ := own_shape hown
  have HB9 := Lib.hid (bt HB5.out hb)
  clear hown hb
  go_wp2
  go_ret
  exact ⟨by first | rfl | simp, HB9.out⟩
end Go.Proofs.YtapeebnbiappgaaDoor.Pb
