/-
 Proved here: what (bidi.sequence).settled returns: a new row of the levels of the sequence's places, by all rules. It leaves what was in memory.
-/
import Derived.Test.YtfclpecbnailgaaGreatR6
import Derived.Test.YtfclpecbnailgaaGreatR9
import Derived.Test.YtfclpecbnailgaaGreatRPbBrk
import Derived.Test.YtfclpecbnailgaaGreatR14
set_option linter.unusedVariables false
namespace Go.Proofs.YtfclpecbnailgaaGreat.Bi
open Go Go.RowKit Go.Lib Go.Proofs.YtfclpecbnailgaaGreat.Cl Go.Proofs.YtfclpecbnailgaaGreat.Sq Go.Proofs.YtfclpecbnailgaaGreat.Wk Go.Proofs.YtfclpecbnailgaaGreat.Pr Go.Proofs.YtfclpecbnailgaaGreat.Ne Go.Proofs.YtfclpecbnailgaaGreat.Words
def Set1 (a b c : Int) (At B0 B1 B2 B3 : Option Addr) (m ct n0 k0 n1 k1 n2 k2 n3 k3 bx : Nat) (K C tl : List Int) (p : List Nat) : Nat → Value → World → Prop
 | 0, v, w => v = .agg #[.int .i64 a, .int .i64 b, .int .i64 c, .slice At m ct, .slice B0 n0 k0, .slice B1 n1 k1, .slice B2 n2 k2, .slice B3 n3 k3]
 | 1, v, w => v = .pointer (some ⟨bx, 4, none⟩)
 | 2, v, w => v = .pointer (some ⟨bx, 7, none⟩)
 | 3, v, w => v = .slice B3 n3 k3
 | 4, v, w => OkI (pick tl p) m v w
 | 5, v, w => v = .pointer (some ⟨bx, 0, none⟩)
 | 6, v, w => v = .pointer (some ⟨bx, 1, none⟩)
 | 7, v, w => v = .int .i64 b
 | 8, v, w => OkI (weak b (pick tl p)) m v w
 | 9, v, w => OkI (weak b (pick tl p)) m v w
 | _, _, _ => True
theorem Set1.later (a b c : Int) (At B0 B1 B2 B3 : Option Addr) (m ct n0 k0 n1 k1 n2 k2 n3 k3 bx : Nat) (K C tl : List Int) (p : List Nat) : ∀ (i : Nat) (v : Value) (w w' : World), Set1 a b c At B0 B1 B2 B3 m ct n0 k0 n1 k1 n2 k2 n3 k3 bx K C tl p i v w → Below w.heap.size w w' → Set1 a b c At B0 B1 B2 B3 m ct n0 k0 n1 k1 n2 k2 n3 k3 bx K C tl p i v w'
 | 0, _, _, _, h, _ => h
 | 1, _, _, _, h, _ => h
 | 2, _, _, _, h, _ => h
 | 3, _, _, _, h, _ => h
 | 4, _, _, _, h, hb => OkI.later h hb
 | 5, _, _, _, h, _ => h
 | 6, _, _, _, h, _ => h
 | 7, _, _, _, h, _ => h
 | 8, _, _, _, h, hb => OkI.later h hb
 | 9, _, _, _, h, hb => OkI.later h hb
 | _ + 10, _, _, _, _, _ => trivial
def Set2 (A13 : Option Addr) (c13 : Nat) (a b c : Int) (At B0 B1 B2 B3 : Option Addr) (m ct n0 k0 n1 k1 n2 k2 n3 k3 bx : Nat) (K C tl : List Int) (p : List Nat) : Nat → Value → World → Prop
 | 0, v, w => v = .slice A13 m c13
 | 1, v, w => v = .agg #[.int .i64 a, .int .i64 b, .int .i64 c, .slice At m ct, .slice B0 n0 k0, .slice B1 n1 k1, .slice B2 n2 k2, .slice B3 n3 k3]
 | 2, v, w => v = .pointer (some ⟨bx, 4, none⟩)
 | 3, v, w => v = .pointer (some ⟨bx, 4, none⟩)
 | 4, v, w => v = .slice B0 n0 k0
 | 5, v, w => OkI (pick K p) m v w
 | 6, v, w => v = .agg #[.int .i64 a, .int .i64 b, .int .i64 c, .slice At m ct, .slice B0 n0 k0, .slice B1 n1 k1, .slice B2 n2 k2, .slice B3 n3 k3]
 | 7, v, w => v = .pointer (some ⟨bx, 4, none⟩)
 | 8, v, w => v = .pointer (some ⟨bx, 5, none⟩)
 | 9, v, w => v = .slice B1 n1 k1
 | 10, v, w => OkI (pick C p) m v w
 | 11, v, w => v = .pointer (some ⟨bx, 0, none⟩)
 | 12, v, w => v = .pointer (some ⟨bx, 0, none⟩)
 | 13, v, w => v = .int .i64 a
 | 14, v, w => v = .pointer (some ⟨bx, 0, none⟩)
 | 15, v, w => v = .pointer (some ⟨bx, 1, none⟩)
 | 16, v, w => v = .int .i64 b
 | 17, v, w => OkI (settleZ (weak b (pick tl p)) (pick K p) (pick C p) a b) m v w
 | 18, v, w => OkI (settleZ (weak b (pick tl p)) (pick K p) (pick C p) a b) m v w
 | _, _, _ => True
theorem Set2.later (A13 : Option Addr) (c13 : Nat) (a b c : Int) (At B0 B1 B2 B3 : Option Addr) (m ct n0 k0 n1 k1 n2 k2 n3 k3 bx : Nat) (K C tl : List Int) (p : List Nat) : ∀ (i : Nat) (v : Value) (w w' : World), Set2 A13 c13 a b c At B0 B1 B2 B3 m ct n0 k0 n1 k1 n2 k2 n3 k3 bx K C tl p i v w → Below w.heap.size w w' → Set2 A13 c13 a b c At B0 B1 B2 B3 m ct n0 k0 n1 k1 n2 k2 n3 k3 bx K C tl p i v w'
 | 0, _, _, _, h, _ => h
 | 1, _, _, _, h, _ => h
 | 2, _, _, _, h, _ => h
 | 3, _, _, _, h, _ => h
 | 4, _, _, _, h, _ => h
 | 5, _, _, _, h, hb => OkI.later h hb
 | 6, _, _, _, h, _ => h
 | 7, _, _, _, h, _ => h
 | 8, _, _, _, h, _ => h
 | 9, _, _, _, h, _ => h
 | 10, _, _, _, h, hb => OkI.later h hb
 | 11, _, _, _, h, _ => h
 | 12, _, _, _, h, _ => h
 | 13, _, _, _, h, _ => h
 | 14, _, _, _, h, _ => h
 | 15, _, _, _, h, _ => h
 | 16, _, _, _, h, _ => h
 | 17, _, _, _, h, hb => OkI.later h hb
 | 18, _, _, _, h, hb => OkI.later h hb
 | _ + 19, _, _, _, _, _ => trivial
theorem below_bt {w a b : World} (h : Below w.heap.size w a) (k : Below a.heap.size a b) : Below w.heap.size w b := h.trans (k.mono h.size)
set_option maxHeartbeats 2000000 in
set_option maxRecDepth 100000 in
theorem settled_any (a b c : Int) (At B0 B1 B2 B3 : Option Addr) (m ct n0 k0 n1 k1 n2 k2 n3 k3 : Nat) (K C tl : List Int) (p : List Nat) (w : World) (hP : IntsAt w At (ns p)) (h0 : IntsAt w B0 K) (h1 : IntsAt w B1 C) (h3 : IntsAt w B3 tl) (hp : p.length = m) (l0 : K.length = n0) (l1 : C.length = n1) (l3 : tl.length = n3)
  (bm : m ≤ 1099511627776) (b0 : n0 ≤ 1099511627776) (b1 : n1 ≤ 1099511627776) (b3 : n3 ≤ 1099511627776) (p0 : ∀ i ∈ p, i < n0) (p1 : ∀ i ∈ p, i < n1) (p3 : ∀ i ∈ p, i < n3) (ha0 : 0 ≤ a) (ha1 : a ≤ 2147483647) :
  Calls Tryz.prog 28 #[.agg (seqCells a b c At B0 B1 B2 B3 m ct n0 k0 n1 k1 n2 k2 n3 k3)] w fun e w' => ∃ A' c', e = .returned (.slice A' m c') ∧ w'.ownsRow w.heap.size 3 1 (.slice A' m c') m (icl ((settleN a c b (settleZ (weak b (pick tl p)) (pick K p) (pick C p) a b)).map (levN a))) ∧ Below w.heap.size w w' := by
 obtain ⟨W1, hW1⟩ : ∃ W1, w.alloc (.cells #[.int .i64 a, .int .i64 b, .int .i64 c, .slice At m ct, .slice B0 n0 k0, .slice B1 n1 k1, .slice B2 n2 k2, .slice B3 n3 k3] 52) = W1 := ⟨_, rfl⟩
 have hb : Below w.heap.size w W1 := by rw [← hW1]; exact (Below.refl _ _).alloc (Nat.le_refl _) _
 have hbox : W1.heap[w.heap.size]? = some (.cells #[.int .i64 a, .int .i64 b, .int .i64 c, .slice At m ct, .slice B0 n0 k0, .slice B1 n1 k1, .slice B2 n2 k2, .slice B3 n3 k3] 52 (0, 0)) := by rw [← hW1]; exact heap_alloc_last _ _
 have hblt : w.heap.size < W1.heap.size := (Array.getElem?_eq_some_iff.1 hbox).1
 have HBOX := Lib.hid (fun (V : World) (h : Below W1.heap.size W1 V) => show (V.cell? ⟨w.heap.size, 0, none⟩ = some (.int .i64 a) ∧ V.cell? ⟨w.heap.size, 1, none⟩ = some (.int .i64 b) ∧ V.cell? ⟨w.heap.size, 2, none⟩ = some (.int .i64 c) ∧ V.cell? ⟨w.heap.size, 3, none⟩ = some (.slice At m ct) ∧ V.cell? ⟨w.heap.size, 4, none⟩ = some (.slice B0 n0 k0) ∧ V.cell? ⟨w.heap.size, 5, none⟩ = some (.slice B1 n1 k1) ∧ V.cell? ⟨w.heap.size, 6, none⟩ = some (.slice B2 n2 k2) ∧ V.cell? ⟨w.heap.size, 7, none⟩ = some (.slice B3 n3 k3)) ∧ IntsAt V At (ns p) ∧ IntsAt V B0 K ∧ IntsAt V B1 C ∧ IntsAt V B3 tl from by
  have hx := (h.block _ hblt).trans hbox
  have hw := below_bt hb h
  exact ⟨⟨cell_of_row V w.heap.size 0 _ _ _ hx, cell_of_row V w.heap.size 1 _ _ _ hx, cell_of_row V w.heap.size 2 _ _ _ hx, cell_of_row V w.heap.size 3 _ _ _ hx, cell_of_row V w.heap.size 4 _ _ _ hx, cell_of_row V w.heap.size 5 _ _ _ hx, cell_of_row V w.heap.size 6 _ _ _ hx, cell_of_row V w.heap.size 7 _ _ _ hx⟩, hP.below hw, h0.below hw, h1.below hw, h3.below hw⟩)
 have HPM := Lib.hid hp
 have HKL := Lib.hid l0
 have HCL := Lib.hid l1
 have HTL := Lib.hid l3
 have HPK := Lib.hid p0
 have HPC := Lib.hid p1
 have HPtl := Lib.hid p3
 have HB0 := Lib.hid hb
 have HSLEN := Lib.hid (show (settleZ (weak b (pick tl p)) (pick K p) (pick C p) a b).length = m from by rw [settleZ_len a b (by rw [weak_len, pick_len, pick_len]) (by rw [pick_len, pick_len]), weak_len, pick_len, hp])
 clear hP h0 h1 h3 hp l0 l1 l3 p0 p1 p3 hb hbox hblt
 unfold seqCells
 go_enter Tryz.func28, Tryz.ntmps28
 go_wp2_with fail
 clear hW1
 refine wp_region_words (Φ := Set1 a b c At B0 B1 B2 B3 m ct n0 k0 n1 k1 n2 k2 n3 k3 w.heap.size K C tl p) (N := 47) [4, 5, 6, 7, 8, 9, 10, 11, 12, 3] (by kernel_rfl) (by kernel_rfl) (by rfl) (by kernel_rfl) (Set1.later a b c At B0 B1 B2 B3 m ct n0 k0 n1 k1 n2 k2 n3 k3 w.heap.size K C tl p) ?step ?done
 case step =>
  intro i o ho f wx hb hd K9 hK
  have HD := Lib.hid hd
  obtain ⟨⟨q0, q1, q2, q3, q4, q5, q6, q7⟩, ip, iK, iC, it⟩ := HBOX.out wx (hb)
  simp only [setF, List.foldl_cons, List.foldl_nil, List.setIfInBounds_toArray, List.set_cons_zero, List.set_cons_succ] at hK ⊢
  clear hd
  match i, ho, hK, HD with
  | 0, ho, hK, HD =>
   obtain rfl := Option.some.inj ho
   clear ho
   go_simp
   exact hK.out (.agg #[.int .i64 a, .int .i64 b, .int .i64 c, .slice At m ct, .slice B0 n0 k0, .slice B1 n1 k1, .slice B2 n2 k2, .slice B3 n3 k3]) _ rfl (Below.refl _ _)
  | 1, ho, hK, HD =>
   obtain rfl := Option.some.inj ho
   clear ho
   go_simp
   exact hK.out (.pointer (some ⟨w.heap.size, 4, none⟩)) _ rfl (Below.refl _ _)
  | 2, ho, hK, HD =>
   obtain rfl := Option.some.inj ho
   clear ho
   have h5 : f 5 = .pointer (some ⟨w.heap.size, 4, none⟩) := HD.out ⟨1, .data⟩ (by simp) rfl
   simp only [h5] at hK ⊢
   go_simp
   exact hK.out (.pointer (some ⟨w.heap.size, 7, none⟩)) _ rfl (Below.refl _ _)
  | 3, ho, hK, HD =>
   obtain rfl := Option.some.inj ho
   clear ho
   have h6 : f 6 = .pointer (some ⟨w.heap.size, 7, none⟩) := HD.out ⟨2, .data⟩ (by simp) rfl
   simp only [h6] at hK ⊢
   go_simp
   exact hK.out (.slice B3 n3 k3) _ rfl (Below.refl _ _)
  | 4, ho, hK, HD =>
   obtain rfl := Option.some.inj ho
   clear ho
   have h4 : f 4 = .agg #[.int .i64 a, .int .i64 b, .int .i64 c, .slice At m ct, .slice B0 n0 k0, .slice B1 n1 k1, .slice B2 n2 k2, .slice B3 n3 k3] := HD.out ⟨0, .data⟩ (by simp) rfl
   simp only [h4] at hK ⊢
   have h7 : f 7 = .slice B3 n3 k3 := HD.out ⟨3, .data⟩ (by simp) rfl
   simp only [h7] at hK ⊢
   go_simp
   go_at_call 56
   refine (seqof_any a b c At B0 B1 B2 B3 B3 m ct n0 k0 n1 k1 n2 k2 n3 k3 n3 k3 tl p wx it ip HTL.out HPM.out (by omega) (by omega) (by rw [HTL.out]; exact HPtl.out)).mono ?_
   rintro e w2 ⟨A9, c9, rfl, o9, hb9⟩
   exact hK.out _ _ (OkI.of o9 (by rw [pick_len, HPM.out])) hb9
  | 5, ho, hK, HD =>
   obtain rfl := Option.some.inj ho
   clear ho
   go_simp
   exact hK.out (.pointer (some ⟨w.heap.size, 0, none⟩)) _ rfl (Below.refl _ _)
  | 6, ho, hK, HD =>
   obtain rfl := Option.some.inj ho
   clear ho
   have h9 : f 9 = .pointer (some ⟨w.heap.size, 0, none⟩) := HD.out ⟨5, .data⟩ (by simp) rfl
   simp only [h9] at hK ⊢
   go_simp
   exact hK.out (.pointer (some ⟨w.heap.size, 1, none⟩)) _ rfl (Below.refl _ _)
  | 7, ho, hK, HD =>
   obtain rfl := Option.some.inj ho
   clear ho
   have h10 : f 10 = .pointer (some ⟨w.heap.size, 1, none⟩) := HD.out ⟨6, .data⟩ (by simp) rfl
   simp only [h10] at hK ⊢
   go_simp
   exact hK.out (.int .i64 b) _ rfl (Below.refl _ _)
  | 8, ho, hK, HD =>
   obtain rfl := Option.some.inj ho
   clear ho
   obtain ⟨A8, cA8, h8, i8⟩ : OkI (pick tl p) m (f 8) wx := HD.out ⟨4, .data⟩ (by simp) rfl
   simp only [h8] at hK ⊢
   have h11 : f 11 = .int .i64 b := HD.out ⟨7, .data⟩ (by simp) rfl
   simp only [h11] at hK ⊢
   go_simp
   go_at_call 55
   refine (weak_any A8 (pick tl p) m cA8 b wx i8 (by rw [pick_len, HPM.out]) (by omega)).mono ?_
   rintro e w2 ⟨A10, c10, rfl, o10, hb10⟩
   exact hK.out _ _ (OkI.of o10 (by rw [weak_len, pick_len, HPM.out])) hb10
  | 9, ho, hK, HD =>
   obtain rfl := Option.some.inj ho
   clear ho
   obtain ⟨A12, cA12, h12, i12⟩ : OkI (weak b (pick tl p)) m (f 12) wx := HD.out ⟨8, .data⟩ (by simp) rfl
   simp only [h12] at hK ⊢
   go_simp
   exact hK.out _ _ ⟨A12, cA12, rfl, i12⟩ (Below.refl _ _)
  | i + 10, ho, hK, HD => simp at ho
 case done =>
  intro f wx hb hall
  obtain ⟨A13, c13, h13, i13⟩ : OkI (weak b (pick tl p)) m (f 3) wx := hall 9 (by decide)
  have HB13 := Lib.hid hb
  have HI13 := Lib.hid i13
  clear hb hall i13
  simp only [setF, List.foldl_cons, List.foldl_nil, List.setIfInBounds_toArray, List.set_cons_zero, List.set_cons_succ]
  rw [h13]
  clear h13
  generalize f 4 = y4
  generalize f 5 = y5
  generalize f 6 = y6
  generalize f 7 = y7
  generalize f 8 = y8
  generalize f 9 = y9
  generalize f 10 = y10
  generalize f 11 = y11
  generalize f 12 = y12
  clear f
  go_wp2_with fail
  refine wp_region_wordsU (Φ := Set2 A13 c13 a b c At B0 B1 B2 B3 m ct n0 k0 n1 k1 n2 k2 n3 k3 w.heap.size K C tl p) (N := 47) [13, 14, 15, 16, 17, 18, 19, 20, 21, 22, 23, 24, 25, 26, 27, 28, 29, 30, 3] (by kernel_rfl) (by kernel_rfl) (by rfl) (by kernel_rfl) (Set2.later A13 c13 a b c At B0 B1 B2 B3 m ct n0 k0 n1 k1 n2 k2 n3 k3 w.heap.size K C tl p) ?step ?done
  case step =>
   intro i o ho f wx hb hd hun K9 hK
   have HUN := Lib.hid hun
   clear hun
   have HD := Lib.hid hd
   obtain ⟨⟨q0, q1, q2, q3, q4, q5, q6, q7⟩, ip, iK, iC, it⟩ := HBOX.out wx (below_bt HB13.out hb)
   simp only [setF, List.foldl_cons, List.foldl_nil, List.setIfInBounds_toArray, List.set_cons_zero, List.set_cons_succ] at hK ⊢
   clear hd
   match i, ho, hK, HD with
   | 0, ho, hK, HD =>
    obtain rfl := Option.some.inj ho
    clear ho
    have h3 : f 3 = .slice A13 m c13 := HUN.out 4 18 3 (by rfl) (by decide +kernel)
    simp only [h3] at hK ⊢
    go_simp
    exact hK.out (.slice A13 m c13) _ rfl (Below.refl _ _)
   | 1, ho, hK, HD =>
    obtain rfl := Option.some.inj ho
    clear ho
    go_simp
    exact hK.out (.agg #[.int .i64 a, .int .i64 b, .int .i64 c, .slice At m ct, .slice B0 n0 k0, .slice B1 n1 k1, .slice B2 n2 k2, .slice B3 n3 k3]) _ rfl (Below.refl _ _)
   | 2, ho, hK, HD =>
    obtain rfl := Option.some.inj ho
    clear ho
    go_simp
    exact hK.out (.pointer (some ⟨w.heap.size, 4, none⟩)) _ rfl (Below.refl _ _)
   | 3, ho, hK, HD =>
    obtain rfl := Option.some.inj ho
    clear ho
    have h15 : f 15 = .pointer (some ⟨w.heap.size, 4, none⟩) := HD.out ⟨2, .data⟩ (by simp) rfl
    simp only [h15] at hK ⊢
    go_simp
    exact hK.out (.pointer (some ⟨w.heap.size, 4, none⟩)) _ rfl (Below.refl _ _)
   | 4, ho, hK, HD =>
    obtain rfl := Option.some.inj ho
    clear ho
    have h16 : f 16 = .pointer (some ⟨w.heap.size, 4, none⟩) := HD.out ⟨3, .data⟩ (by simp) rfl
    simp only [h16] at hK ⊢
    go_simp
    exact hK.out (.slice B0 n0 k0) _ rfl (Below.refl _ _)
   | 5, ho, hK, HD =>
    obtain rfl := Option.some.inj ho
    clear ho
    have h14 : f 14 = .agg #[.int .i64 a, .int .i64 b, .int .i64 c, .slice At m ct, .slice B0 n0 k0, .slice B1 n1 k1, .slice B2 n2 k2, .slice B3 n3 k3] := HD.out ⟨1, .data⟩ (by simp) rfl
    simp only [h14] at hK ⊢
    have h17 : f 17 = .slice B0 n0 k0 := HD.out ⟨4, .data⟩ (by simp) rfl
    simp only [h17] at hK ⊢
    go_simp
    go_at_call 56
    refine (seqof_any a b c At B0 B1 B2 B3 B0 m ct n0 k0 n1 k1 n2 k2 n3 k3 n0 k0 K p wx iK ip HKL.out HPM.out (by omega) (by omega) (by rw [HKL.out]; exact HPK.out)).mono ?_
    rintro e w2 ⟨A9, c9, rfl, o9, hb9⟩
    exact hK.out _ _ (OkI.of o9 (by rw [pick_len, HPM.out])) hb9
   | 6, ho, hK, HD =>
    obtain rfl := Option.some.inj ho
    clear ho
    go_simp
    exact hK.out (.agg #[.int .i64 a, .int .i64 b, .int .i64 c, .slice At m ct, .slice B0 n0 k0, .slice B1 n1 k1, .slice B2 n2 k2, .slice B3 n3 k3]) _ rfl (Below.refl _ _)
   | 7, ho, hK, HD =>
    obtain rfl := Option.some.inj ho
    clear ho
    go_simp
    exact hK.out (.pointer (some ⟨w.heap.size, 4, none⟩)) _ rfl (Below.refl _ _)
   | 8, ho, hK, HD =>
    obtain rfl := Option.some.inj ho
    clear ho
    have h20 : f 20 = .pointer (some ⟨w.heap.size, 4, none⟩) := HD.out ⟨7, .data⟩ (by simp) rfl
    simp only [h20] at hK ⊢
    go_simp
    exact hK.out (.pointer (some ⟨w.heap.size, 5, none⟩)) _ rfl (Below.refl _ _)
   | 9, ho, hK, HD =>
    obtain rfl := Option.some.inj ho
    clear ho
    have h21 : f 21 = .pointer (some ⟨w.heap.size, 5, none⟩) := HD.out ⟨8, .data⟩ (by simp) rfl
    simp only [h21] at hK ⊢
    go_simp
    exact hK.out (.slice B1 n1 k1) _ rfl (Below.refl _ _)
   | 10, ho, hK, HD =>
    obtain rfl := Option.some.inj ho
    clear ho
    have h19 : f 19 = .agg #[.int .i64 a, .int .i64 b, .int .i64 c, .slice At m ct, .slice B0 n0 k0, .slice B1 n1 k1, .slice B2 n2 k2, .slice B3 n3 k3] := HD.out ⟨6, .data⟩ (by simp) rfl
    simp only [h19] at hK ⊢
    have h22 : f 22 = .slice B1 n1 k1 := HD.out ⟨9, .data⟩ (by simp) rfl
    simp only [h22] at hK ⊢
    go_simp
    go_at_call 56
    refine (seqof_any a b c At B0 B1 B2 B3 B1 m ct n0 k0 n1 k1 n2 k2 n3 k3 n1 k1 C p wx iC ip HCL.out HPM.out (by omega) (by omega) (by rw [HCL.out]; exact HPC.out)).mono ?_
    rintro e w2 ⟨A9, c9, rfl, o9, hb9⟩
    exact hK.out _ _ (OkI.of o9 (by rw [pick_len, HPM.out])) hb9
   | 11, ho, hK, HD =>
    obtain rfl := Option.some.inj ho
    clear ho
    go_simp
    exact hK.out (.pointer (some ⟨w.heap.size, 0, none⟩)) _ rfl (Below.refl _ _)
   | 12, ho, hK, HD =>
    obtain rfl := Option.some.inj ho
    clear ho
    have h24 : f 24 = .pointer (some ⟨w.heap.size, 0, none⟩) := HD.out ⟨11, .data⟩ (by simp) rfl
    simp only [h24] at hK ⊢
    go_simp
    exact hK.out (.pointer (some ⟨w.heap.size, 0, none⟩)) _ rfl (Below.refl _ _)
   | 13, ho, hK, HD =>
    obtain rfl := Option.some.inj ho
    clear ho
    have h25 : f 25 = .pointer (some ⟨w.heap.size, 0, none⟩) := HD.out ⟨12, .data⟩ (by simp) rfl
    simp only [h25] at hK ⊢
    go_simp
    exact hK.out (.int .i64 a) _ rfl (Below.refl _ _)
   | 14, ho, hK, HD =>
    obtain rfl := Option.some.inj ho
    clear ho
    go_simp
    exact hK.out (.pointer (some ⟨w.heap.size, 0, none⟩)) _ rfl (Below.refl _ _)
   | 15, ho, hK, HD =>
    obtain rfl := Option.some.inj ho
    clear ho
    have h27 : f 27 = .pointer (some ⟨w.heap.size, 0, none⟩) := HD.out ⟨14, .data⟩ (by simp) rfl
    simp only [h27] at hK ⊢
    go_simp
    exact hK.out (.pointer (some ⟨w.heap.size, 1, none⟩)) _ rfl (Below.refl _ _)
   | 16, ho, hK, HD =>
    obtain rfl := Option.some.inj ho
    clear ho
    have h28 : f 28 = .pointer (some ⟨w.heap.size, 1, none⟩) := HD.out ⟨15, .data⟩ (by simp) rfl
    simp only [h28] at hK ⊢
    go_simp
    exact hK.out (.int .i64 b) _ rfl (Below.refl _ _)
   | 17, ho, hK, HD =>
    obtain rfl := Option.some.inj ho
    clear ho
    have h13 : f 13 = .slice A13 m c13 := HD.out ⟨0, .data⟩ (by simp) rfl
    simp only [h13] at hK ⊢
    obtain ⟨A18, cA18, h18, i18⟩ : OkI (pick K p) m (f 18) wx := HD.out ⟨5, .data⟩ (by simp) rfl
    simp only [h18] at hK ⊢
    obtain ⟨A23, cA23, h23, i23⟩ : OkI (pick C p) m (f 23) wx := HD.out ⟨10, .data⟩ (by simp) rfl
    simp only [h23] at hK ⊢
    have h26 : f 26 = .int .i64 a := HD.out ⟨13, .data⟩ (by simp) rfl
    simp only [h26] at hK ⊢
    have h29 : f 29 = .int .i64 b := HD.out ⟨16, .data⟩ (by simp) rfl
    simp only [h29] at hK ⊢
    go_simp
    go_at_call 57
    refine (Pb.brackets_like A13 A18 A23 (weak b (pick tl p)) (pick K p) (pick C p) m c13 cA18 cA23 a b wx (HI13.out.below hb) i18 i23 (by rw [weak_len, pick_len, HPM.out]) (by rw [pick_len, HPM.out]) (by rw [pick_len, HPM.out]) (by omega)).mono ?_
    rintro e w2 ⟨A9, c9, rfl, o9, hb9⟩
    exact hK.out _ _ (OkI.of o9 HSLEN.out) hb9
   | 18, ho, hK, HD =>
    obtain rfl := Option.some.inj ho
    clear ho
    obtain ⟨A30, cA30, h30, i30⟩ : OkI (settleZ (weak b (pick tl p)) (pick K p) (pick C p) a b) m (f 30) wx := HD.out ⟨17, .data⟩ (by simp) rfl
    simp only [h30] at hK ⊢
    go_simp
    exact hK.out _ _ ⟨A30, cA30, rfl, i30⟩ (Below.refl _ _)
   | i + 19, ho, hK, HD => simp at ho
  case done =>
   intro f wy hb hall
   obtain ⟨A14, c14, h14, i14⟩ : OkI (settleZ (weak b (pick tl p)) (pick K p) (pick C p) a b) m (f 3) wy := hall 18 (by decide)
   have HB14 := Lib.hid (below_bt HB13.out hb)
   have HST := Lib.hid (settle_any A14 (settleZ (weak b (pick tl p)) (pick K p) (pick C p) a b) m c14 a b c wy i14 HSLEN.out (by omega))
   obtain ⟨⟨q0, q1, q2, q3, q4, q5, q6, q7⟩, -, -, -, -⟩ := HBOX.out wy HB14.out
   clear hb hall i14 HI13 HB13
   simp only [setF, List.foldl_cons, List.foldl_nil, List.setIfInBounds_toArray, List.set_cons_zero, List.set_cons_succ]
   rw [h14]
   clear h14
   generalize f 13 = y13
   generalize f 14 = y14
   generalize f 15 = y15
   generalize f 16 = y16
   generalize f 17 = y17
   generalize f 18 = y18
   generalize f 19 = y19
   generalize f 20 = y20
   generalize f 21 = y21
   generalize f 22 = y22
   generalize f 23 = y23
   generalize f 24 = y24
   generalize f 25 = y25
   generalize f 26 = y26
   generalize f 27 = y27
   generalize f 28 = y28
   generalize f 29 = y29
   generalize f 30 = y30
   clear f
   go_wp2_with fail
   refine HST.out.mono ?_
   rintro e w15 ⟨A15, c15, rfl, o15, hb15⟩
   obtain ⟨A15', c15', e15, i15⟩ := intsAt_icl o15 (by rw [settle_len, HSLEN.out])
   injection e15 with e151 _ e153
   subst e151
   subst e153
   have HLV := Lib.hid (levels_any A15 (settleN a c b (settleZ (weak b (pick tl p)) (pick K p) (pick C p) a b)) m c15 a w15 i15 (by rw [settle_len, HSLEN.out]) (by omega) ha0 ha1)
   have HB15 := Lib.hid (below_bt HB14.out hb15)
   obtain ⟨⟨q0, q1, q2, q3, q4, q5, q6, q7⟩, -, -, -, -⟩ := HBOX.out w15 HB15.out
   clear o15 i15 hb15 HST HB14
   go_wp2_with fail
   refine HLV.out.mono ?_
   rintro e w16 ⟨A16, c16, rfl, o16, hb16⟩
   have HB16 := Lib.hid (below_bt HB15.out hb16)
   have hs0 := HB0.out.size
   have hs1 := HB15.out.size
   have HO16 := Lib.hid (ownsRow_mono o16 (show w.heap.size ≤ w15.heap.size by omega))
   clear o16 hb16
   go_wp2_with fail
   go_ret
   exact ⟨A16, c16, rfl, HO16.out, below_bt HB0.out HB16.out⟩
end Go.Proofs.YtfclpecbnailgaaGreat.Bi
