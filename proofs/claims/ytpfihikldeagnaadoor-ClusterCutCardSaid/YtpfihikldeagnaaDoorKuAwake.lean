/-
  Proved here: what cluster.Split returns, for every text of at most 1000000 bytes; that parquetrylaw06.awake returns true; they leave what was in memory. Condition: the code's row of numbers holds what the program's text lays.
-/
import Derived.Test.YtpfihikldeagnaaDoorKuOf
import Derived.Test.YtpfihikldeagnaaDoorRfText
import Derived.Test.YtpfihikldeagnaaDoorTabInts
set_option linter.unusedVariables false
namespace Go.Proofs.YtpfihikldeagnaaDoor.Ku
open Go.RowKit Go.Lib Go.Proofs.YtpfihikldeagnaaDoor.Arr Go.Proofs.YtpfihikldeagnaaDoor.Gc
open Go.Proofs.YtpfihikldeagnaaDoor.Cl (IntsAt)

/-- The clusters of a text. -/
def ofS (s : ByteArray) : List C6 := ofC (ints3 (Rn.splitA s.data.toList 0))
theorem ofS_len (s : ByteArray) : (ofS s).length ≤ s.size := by
  unfold ofS
  have h1 := ofC_len (ints3 (Rn.splitA s.data.toList 0))
  have h2 := Rn.splitA_len s.data.toList.length s.data.toList 0 (Nat.le_refl _)
  rw [ints3_len] at h1
  rw [← Lib.size_eq] at h2
  omega

set_option maxHeartbeats 1000000 in
set_option maxRecDepth 100000 in
theorem split_any (s : ByteArray) (w : World) (hs : s.size ≤ 1000000) (hH : Held w) :
    Calls Tryd.prog 14 #[.string s] w fun e w' => ∃ v, e = .returned v ∧ w'.ownsRow w.heap.size 32 6 v (ofS s).length (cellsC (ofS s)) ∧ Below w.heap.size w w' := by
  have HH := Lib.hid hH
  have hln := Rn.splitA_len s.data.toList.length s.data.toList 0 (Nat.le_refl _)
  rw [← Lib.size_eq] at hln
  clear hH
  unfold ofS
  have HSP := Lib.hid (fun W => Rn.split_reads s W (by omega))
  have hil := ints3_len (Rn.splitA s.data.toList 0)
  generalize Rn.splitA s.data.toList 0 = rs at *
  have HOF := Lib.hid (fun A c W hR hH => of_any A (ints3 rs) c W hR hH (by omega))
  rw [hil] at HOF
  clear hil
  go_enter Tryd.func14, Tryd.ntmps14
  go_wp2_with fail
  refine (HSP.out _).mono ?_
  rintro e w1 ⟨A, c, rfl, hr, hb1⟩
  have HR := Lib.hid (ruAt_runes hr)
  have HH1 := Lib.hid (HH.out.below hb1)
  have HB1 := Lib.hid hb1
  clear hr hb1
  go_wp2_with fail
  refine (HOF.out A c _ HR.out HH1.out).mono ?_
  rintro e w2 ⟨v, rfl, hown, hb2⟩
  have HO := Lib.hid hown
  clear hown
  go_wp2
  go_ret
  exact ⟨_, rfl, Cl.ownsRow_mono HO.out HB1.out.size, HB1.out.trans (hb2.mono HB1.out.size)⟩

/-- How many code points, and how wide, clusters are, in turns. -/
def shapeB : List C6 → List Int → List Int → Bool
  | [], [], [] => true
  | x :: X, n :: v :: ws, zs => (decide (1 ≤ n) && decide (n.toNat ≤ zs.length)) && ((x.z == (Rn.textB (zs.take n.toNat)).length) && (x.w == v)) && shapeB X ws (zs.drop n.toNat)
  | _, _, _ => false
theorem shapeB_len : ∀ (X : List C6) (ws zs : List Int), shapeB X ws zs = true → ws.length = 2 * X.length
  | [], [], _, _ => rfl
  | [], _ :: _, _, h => by simp [shapeB] at h
  | x :: X, [], _, h => by simp [shapeB] at h
  | x :: X, [_], _, h => by simp [shapeB] at h
  | x :: X, n :: v :: ws, zs, h => by
    simp only [shapeB, Bool.and_eq_true] at h
    have := shapeB_len X ws _ h.2
    simp only [List.length_cons]
    omega
theorem shapeB_end : ∀ (ws zs : List Int), shapeB [] ws zs = true → zs = []
  | [], [], _ => rfl
  | [], _ :: _, h => by simp [shapeB] at h
  | _ :: _, _, h => by simp [shapeB] at h
theorem shapeB_at {X : List C6} {ws zs : List Int} {i a : Nat} (h : shapeB (X.drop i) (ws.drop (2 * i)) (zs.drop a) = true) (hi : i < X.length) (ha : a ≤ zs.length) :
    ∃ (h0 : 2 * i < ws.length) (h1 : 2 * i + 1 < ws.length) (m : Nat), ws[2 * i] = (m : Int) ∧ 1 ≤ m ∧ a + m ≤ zs.length ∧ X[i].z = ((Rn.textB ((zs.drop a).take m)).length : Nat) ∧ X[i].w = ws[2 * i + 1] ∧ shapeB (X.drop (i + 1)) (ws.drop (2 * (i + 1))) (zs.drop (a + m)) = true := by
  have hl := shapeB_len _ _ _ h
  rw [List.length_drop, List.length_drop] at hl
  have h0 : 2 * i < ws.length := by omega
  have h1 : 2 * i + 1 < ws.length := by omega
  rw [List.drop_eq_getElem_cons hi, List.drop_eq_getElem_cons h0, List.drop_eq_getElem_cons h1] at h
  simp only [shapeB, Bool.and_eq_true, decide_eq_true_eq, beq_iff_eq] at h
  obtain ⟨⟨⟨g1, g2⟩, g3, g4⟩, g5⟩ := h
  rw [List.length_drop] at g2
  rw [List.drop_drop] at g5
  exact ⟨h0, h1, ws[2 * i].toNat, by omega, by omega, by omega, g3, g4, by rw [show 2 * (i + 1) = 2 * i + 1 + 1 from by omega]; exact g5⟩

theorem ints_cut {w : World} {g n : Nat} {zs : List Int} (h : IntsAt w (some ⟨g, 0, none⟩) zs) (a m : Nat) (ha : a + m ≤ zs.length) : IntsAt w (some ⟨g, a, none⟩) ((zs.drop a).take m) := by
  rcases h with rfl | ⟨b, off, hA, hlt, hc⟩
  · exact .inl (by simp)
  · injection hA with hA
    injection hA with e1 e2
    subst e1 e2
    refine .inr ⟨g, a, rfl, hlt, fun j z hj => ?_⟩
    have hjm : j < m := by
      have := (List.getElem?_eq_some_iff.1 hj).1
      simp at this
      omega
    rw [List.getElem?_take, if_pos hjm, List.getElem?_drop] at hj
    have := hc (a + j) z hj
    rwa [Nat.zero_add] at this
theorem textB_len : ∀ (zs : List Int), (Rn.textB zs).length ≤ 4 * zs.length
  | [] => by simp [Rn.textB]
  | z :: zs => by
    have h1 := textB_len zs
    have h2 := Rn.encodeRune_len (Rn.fitZ z)
    have h3 : Rn.textB (z :: zs) = Lib.encodeRune (Rn.fitZ z) ++ Rn.textB zs := by simp [Rn.textB]
    rw [h3, List.length_append, List.length_cons]
    omega
theorem cut_len (zs : List Int) (a m : Nat) (ha : a + m ≤ zs.length) : ((zs.drop a).take m).length = m := by simp; omega

set_option maxHeartbeats 2000000 in
set_option maxRecDepth 100000 in
theorem shape_any (g1 g2 n1 n2 : Nat) (ws zs : List Int) (w : World) (hW : IntsAt w (some ⟨g1, 0, none⟩) ws) (hZ : IntsAt w (some ⟨g2, 0, none⟩) zs) (h1 : ws.length = n1) (h2 : zs.length = n2) (hw : ws.length ≤ 1000) (hz : zs.length ≤ 1000) (hH : Held w)
    (hS : shapeB (ofS ⟨(Rn.textB zs).toArray⟩) ws zs = true) (hsz : (ByteArray.mk (Rn.textB zs).toArray).size ≤ 1000000) :
    Calls Tryd.prog 19 #[.slice (some ⟨g1, 0, none⟩) n1 n1, .slice (some ⟨g2, 0, none⟩) n2 n2] w fun e w' => e = .returned (.bool true) ∧ Below w.heap.size w w' := by
  have hlen := shapeB_len _ _ _ hS
  have hXl := ofS_len ⟨(Rn.textB zs).toArray⟩
  have HT := Lib.hid (fun W (h : IntsAt W (some ⟨g2, 0, none⟩) zs) => Rn.reftext_any (some ⟨g2, 0, none⟩) zs n2 W h (by omega))
  have HSP := Lib.hid (fun W h => split_any ⟨(Rn.textB zs).toArray⟩ W hsz h)
  rw [h2] at HT
  generalize ofS ⟨(Rn.textB zs).toArray⟩ = X at *
  have HW := Lib.hid hW
  have HZ := Lib.hid hZ
  have HH := Lib.hid hH
  have HS := Lib.hid hS
  have hlw : n1 = 2 * X.length := by omega
  have hn2 : n2 ≤ 1000 := by omega
  have hX5 : X.length ≤ 500 := by omega
  have H1 := Lib.hid h1
  have H2 := Lib.hid h2
  subst hlw
  clear hW hZ hH hS hlen hXl h1 h2 hw hz hsz
  go_enter Tryd.func19, Tryd.ntmps19
  go_wp2_with fail
  refine (HT.out _ HZ.out).mono ?_
  rintro e w1 ⟨rfl, hb1⟩
  have HH1 := Lib.hid (HH.out.below hb1)
  have HB1 := Lib.hid hb1
  clear hb1
  go_wp2_with fail
  refine (HSP.out _ HH1.out).mono ?_
  rintro e w2 ⟨v, rfl, hown, hb2⟩
  obtain ⟨A, c, rfl, hC⟩ := cuAt_own hown
  have HC := Lib.hid hC
  have HB2 := Lib.hid (HB1.out.trans (hb2.mono HB1.out.size))
  clear hown hC hb2 HB1 HT HSP HH1 HH
  go_wp2_with fail
  go_loopw [6, 7] (fun s6 s7 wx => ∃ i a : Nat, i ≤ X.length ∧ a ≤ n2 ∧ s6 = .int .i64 a ∧ s7 = .int .i64 i ∧ shapeB (X.drop i) (ws.drop (2 * i)) (zs.drop a) = true ∧ Below w2.heap.size w2 wx) (fun _ s7 _ => X.length - (RowKit.intOf s7).toNat)
  case atStart => exact ⟨0, 0, Nat.zero_le _, Nat.zero_le _, rfl, rfl, HS.out, Below.refl _ _⟩
  case round =>
    obtain ⟨i, a, hi, ha, rfl, rfl, hsh, hbw⟩ := hrel
    by_cases hlt : i < X.length
    · obtain ⟨h0, h1, m, e0, hm1, ham, ez, ew, hnx⟩ := shapeB_at hsh hlt (by rw [H2.out]; exact ha)
      have hbz := HB2.out.trans (hbw.mono HB2.out.size)
      obtain ⟨b1, o1, hA1, c0⟩ := (HW.out.below hbz).at_ h0
      injection hA1 with hA1
      injection hA1 with e1 e2
      subst e1 e2
      obtain ⟨b1, o1, hA1, c1⟩ := (HW.out.below hbz).at_ h1
      injection hA1 with hA1
      injection hA1 with e1 e2
      subst e1 e2
      obtain ⟨b2, o2, rfl, hb2lt, q0, q1, q2, q3, q4, q5⟩ := (HC.out.below hbw).at_ hlt
      rw [Nat.zero_add, e0] at c0
      rw [Nat.zero_add, ← ew] at c1
      rw [ez] at q1
      have HTX := Lib.hid (fun W (h : IntsAt W (some ⟨g2, 0, none⟩) zs) => Rn.reftext_any (some ⟨g2, a, none⟩) ((zs.drop a).take m) (n2 - a) W (ints_cut (n := n2) h a m ham) (by rw [cut_len zs a m ham]; have := H2.out; omega))
      rw [cut_len zs a m ham] at HTX
      rw [H2.out] at ham
      have HZ2 := Lib.hid (HZ.out.below hbz)
      have hlw := H1.out
      have hlb : b2 < wr.heap.size := hb2lt
      have hgb := World.block_lt_of_cell? wr _ c0
      have HNX := Lib.hid hnx
      have HBW := Lib.hid hbw
      have htl := textB_len ((zs.drop a).take m)
      rw [cut_len zs a m (by rw [H2.out]; exact ham)] at htl
      clear hsh hnx hbw hbz ez ew e0
      generalize Rn.textB ((zs.drop a).take m) = T at *
      generalize X[i].w = v at *
      obtain ⟨Z, hZ⟩ : ∃ Z, (ByteArray.mk T.toArray).size = Z := ⟨_, rfl⟩
      have hZT : T.length = Z := by rw [← hZ]; rfl
      rw [hZT] at q1 htl
      have hwr1 : wr.heap.size = wr.heap.size := rfl
      have HCC := Lib.hid (fun V (h : Below wr.heap.size wr V) => (⟨(h.cell (p := ⟨g1, 2 * i, none⟩) hgb).trans c0, (h.cell (p := ⟨g1, 2 * i + 1, none⟩) hgb).trans c1, (h.cell (p := ⟨b2, o2 + i * 6 + 1, none⟩) hlb).trans q1, (h.cell (p := ⟨b2, o2 + i * 6 + 4, none⟩) hlb).trans q4⟩ : V.cell? ⟨g1, 2 * i, none⟩ = some (.int .i64 m) ∧ V.cell? ⟨g1, 2 * i + 1, none⟩ = some (.int .i64 v) ∧ V.cell? ⟨b2, o2 + i * 6 + 1, none⟩ = some (.int .i64 Z) ∧ V.cell? ⟨b2, o2 + i * 6 + 4, none⟩ = some (.int .i64 v)))
      clear hwr1 hZT
      go_wp2_with fail
      refine (HTX.out _ HZ2.out).mono ?_
      rintro e w5 ⟨rfl, hb5⟩
      clear c0 c1 q0 q1 q2 q3 q4 q5
      obtain ⟨c0, c1, q1, q4⟩ := HCC.out w5 hb5
      have HB5 := Lib.hid (HBW.out.trans (hb5.mono HBW.out.size))
      have hx1 : IntKind.i64.wrap (2 * (i : Int)) = 2 * (i : Int) := IntWalk.i64_in _ (by omega)
      have hx2 : IntKind.i64.wrap (2 * (i : Int) + 1) = 2 * (i : Int) + 1 := IntWalk.i64_in _ (by omega)
      have hx3 : (2 * (i : Int) + 1) < 2 * (X.length : Int) := by omega
      have hx4 : (0 : Int) ≤ 2 * (i : Int) + 1 := by omega
      have hx5 : (i : Int) < X.length := by omega
      clear hb5 HBW HTX HCC
      go_wp2_with fail
      go_quiet (fail)
      go_wp2
      go_roundw
      case rel => exact ⟨i + 1, a + m, by omega, by omega, by go_num, by go_num, HNX.out, below_drewN HB5.out _⟩
      case measure => simp [RowKit.intOf]; omega
    · obtain rfl : i = X.length := by omega
      rw [List.drop_of_length_le (Nat.le_refl _)] at hsh
      have hwl : ws.drop (2 * X.length) = [] := List.drop_of_length_le (by rw [H1.out]; omega)
      rw [hwl] at hsh
      have hze := shapeB_end _ _ hsh
      have hae : a = n2 := by
        have := congrArg List.length hze
        rw [List.length_drop, H2.out, List.length_nil] at this
        omega
      subst hae
      clear hsh hze hwl
      go_wp2
      go_ret
      exact ⟨rfl, HB2.out.trans (hbw.mono HB2.out.size)⟩
/-- Two rows of literals, made one behind the other. -/
theorem shape_lit (ws zs : List Int) (n1 n2 : Nat) (w : World) (h1 : ws.length = n1) (h2 : zs.length = n2) (hw : ws.length ≤ 1000) (hz : zs.length ≤ 1000) (hH : Held w)
    (hS : shapeB (ofS ⟨(Rn.textB zs).toArray⟩) ws zs = true) (hsz : (ByteArray.mk (Rn.textB zs).toArray).size ≤ 1000000) (b : Nat) (hb : b = w.heap.size + 1) (o1 o2 : Obj) (e1 : o1 = .cells (ws.map (Value.int .i64)).toArray 3) (e2 : o2 = .cells (zs.map (Value.int .i64)).toArray 3) :
    Calls Tryd.prog 19 #[.slice (some ⟨w.heap.size, 0, none⟩) n1 n1, .slice (some ⟨b, 0, none⟩) n2 n2] ((w.alloc o1).alloc o2) fun e w' => e = .returned (.bool true) ∧ Below w.heap.size w w' := by
  subst hb e1 e2
  have hA := Tab.litAt_made ws 3 w
  have hB := Tab.litAt_made zs 3 (w.alloc (.cells (ws.map (Value.int .i64)).toArray 3))
  have hs1 : (w.alloc (.cells (ws.map (Value.int .i64)).toArray 3)).heap.size = w.heap.size + 1 := by simp
  rw [hs1] at hB
  have hb1 : Below w.heap.size w (w.alloc (.cells (ws.map (Value.int .i64)).toArray 3)) := (Below.refl _ _).alloc (Nat.le_refl _) _
  have hb2 : Below (w.alloc (.cells (ws.map (Value.int .i64)).toArray 3)).heap.size (w.alloc (.cells (ws.map (Value.int .i64)).toArray 3)) ((w.alloc (.cells (ws.map (Value.int .i64)).toArray 3)).alloc (.cells (zs.map (Value.int .i64)).toArray 3)) := (Below.refl _ _).alloc (Nat.le_refl _) _
  have hbb := hb1.trans (hb2.mono hb1.size)
  have hIA : IntsAt ((w.alloc (.cells (ws.map (Value.int .i64)).toArray 3)).alloc (.cells (zs.map (Value.int .i64)).toArray 3)) (some ⟨w.heap.size, 0, none⟩) ws := by
    have hA2 := hA.below hb2
    refine .inr ⟨w.heap.size, 0, rfl, hA2.1, fun j z hj => ?_⟩
    obtain ⟨hj', rfl⟩ := List.getElem?_eq_some_iff.1 hj
    rw [Nat.zero_add]
    exact hA2.2 j hj'
  have hIB : IntsAt ((w.alloc (.cells (ws.map (Value.int .i64)).toArray 3)).alloc (.cells (zs.map (Value.int .i64)).toArray 3)) (some ⟨w.heap.size + 1, 0, none⟩) zs := by
    refine .inr ⟨w.heap.size + 1, 0, rfl, hB.1, fun j z hj => ?_⟩
    obtain ⟨hj', rfl⟩ := List.getElem?_eq_some_iff.1 hj
    rw [Nat.zero_add]
    exact hB.2 j hj'
  refine (shape_any _ _ n1 n2 ws zs _ hIA hIB h1 h2 hw hz (hH.below hbb) hS hsz).mono ?_
  rintro e w' ⟨rfl, hb3⟩
  exact ⟨rfl, hbb.trans (hb3.mono hbb.size)⟩
theorem ex0 : shapeB (ofS ⟨(Rn.textB [97, 769, 98]).toArray⟩) [2, 1, 1, 1] [97, 769, 98] = true := by kernel_rfl
theorem ez0 : (ByteArray.mk (Rn.textB [97, 769, 98]).toArray).size ≤ 1000000 := by
  have h := textB_len [97, 769, 98]
  exact Nat.le_trans h (by decide)
theorem ex1 : shapeB (ofS ⟨(Rn.textB [13, 10, 10]).toArray⟩) [2, 0, 1, 0] [13, 10, 10] = true := by kernel_rfl
theorem ez1 : (ByteArray.mk (Rn.textB [13, 10, 10]).toArray).size ≤ 1000000 := by
  have h := textB_len [13, 10, 10]
  exact Nat.le_trans h (by decide)
theorem ex2 : shapeB (ofS ⟨(Rn.textB [128104, 8205, 128105]).toArray⟩) [3, 2] [128104, 8205, 128105] = true := by kernel_rfl
theorem ez2 : (ByteArray.mk (Rn.textB [128104, 8205, 128105]).toArray).size ≤ 1000000 := by
  have h := textB_len [128104, 8205, 128105]
  exact Nat.le_trans h (by decide)
theorem ex3 : shapeB (ofS ⟨(Rn.textB [97, 8205, 128105]).toArray⟩) [2, 1, 1, 2] [97, 8205, 128105] = true := by kernel_rfl
theorem ez3 : (ByteArray.mk (Rn.textB [97, 8205, 128105]).toArray).size ≤ 1000000 := by
  have h := textB_len [97, 8205, 128105]
  exact Nat.le_trans h (by decide)
theorem ex4 : shapeB (ofS ⟨(Rn.textB [127462, 127463, 127464]).toArray⟩) [2, 2, 1, 2] [127462, 127463, 127464] = true := by kernel_rfl
theorem ez4 : (ByteArray.mk (Rn.textB [127462, 127463, 127464]).toArray).size ≤ 1000000 := by
  have h := textB_len [127462, 127463, 127464]
  exact Nat.le_trans h (by decide)
theorem ex5 : shapeB (ofS ⟨(Rn.textB [10084, 65039]).toArray⟩) [2, 2] [10084, 65039] = true := by kernel_rfl
theorem ez5 : (ByteArray.mk (Rn.textB [10084, 65039]).toArray).size ≤ 1000000 := by
  have h := textB_len [10084, 65039]
  exact Nat.le_trans h (by decide)
theorem ex6 : shapeB (ofS ⟨(Rn.textB [4352, 4449, 4520]).toArray⟩) [3, 2] [4352, 4449, 4520] = true := by kernel_rfl
theorem ez6 : (ByteArray.mk (Rn.textB [4352, 4449, 4520]).toArray).size ≤ 1000000 := by
  have h := textB_len [4352, 4449, 4520]
  exact Nat.le_trans h (by decide)
theorem ex7 : shapeB (ofS ⟨(Rn.textB [769]).toArray⟩) [1, 0] [769] = true := by kernel_rfl
theorem ez7 : (ByteArray.mk (Rn.textB [769]).toArray).size ≤ 1000000 := by
  have h := textB_len [769]
  exact Nat.le_trans h (by decide)

set_option maxHeartbeats 4000000 in
set_option maxRecDepth 100000 in
theorem awake_any (w : World) (hH : Held w) :
    Calls Tryd.prog 8 #[] w fun e w' => e = .returned (.bool true) ∧ Below w.heap.size w w' := by
  have HB0 := Lib.hid (Below.refl w.heap.size w)
  have HH0 := Lib.hid hH
  clear hH
  go_enter Tryd.func8, Tryd.ntmps8
  go_wp2_with fail
  refine (shape_lit [2, 1, 1, 1] [97, 769, 98] 4 3 w rfl rfl (by decide) (by decide) HH0.out ex0 ez0 _ rfl _ _ rfl rfl).mono ?_
  rintro e v1 ⟨rfl, hb⟩
  have HB1 := Lib.hid (HB0.out.trans (hb.mono HB0.out.size))
  have HH1 := Lib.hid (HH0.out.below HB1.out)
  clear hb HB0
  go_wp2_with fail
  refine (shape_lit [2, 0, 1, 0] [13, 10, 10] 4 3 v1 rfl rfl (by decide) (by decide) HH1.out ex1 ez1 _ rfl _ _ rfl rfl).mono ?_
  rintro e v2 ⟨rfl, hb⟩
  have HB2 := Lib.hid (HB1.out.trans (hb.mono HB1.out.size))
  have HH2 := Lib.hid (HH0.out.below HB2.out)
  clear hb HB1 HH1
  go_wp2_with fail
  refine (shape_lit [3, 2] [128104, 8205, 128105] 2 3 v2 rfl rfl (by decide) (by decide) HH2.out ex2 ez2 _ rfl _ _ rfl rfl).mono ?_
  rintro e v3 ⟨rfl, hb⟩
  have HB3 := Lib.hid (HB2.out.trans (hb.mono HB2.out.size))
  have HH3 := Lib.hid (HH0.out.below HB3.out)
  clear hb HB2 HH2
  go_wp2_with fail
  refine (shape_lit [2, 1, 1, 2] [97, 8205, 128105] 4 3 v3 rfl rfl (by decide) (by decide) HH3.out ex3 ez3 _ rfl _ _ rfl rfl).mono ?_
  rintro e v4 ⟨rfl, hb⟩
  have HB4 := Lib.hid (HB3.out.trans (hb.mono HB3.out.size))
  have HH4 := Lib.hid (HH0.out.below HB4.out)
  clear hb HB3 HH3
  go_wp2_with fail
  refine (shape_lit [2, 2, 1, 2] [127462, 127463, 127464] 4 3 v4 rfl rfl (by decide) (by decide) HH4.out ex4 ez4 _ rfl _ _ rfl rfl).mono ?_
  rintro e v5 ⟨rfl, hb⟩
  have HB5 := Lib.hid (HB4.out.trans (hb.mono HB4.out.size))
  have HH5 := Lib.hid (HH0.out.below HB5.out)
  clear hb HB4 HH4
  go_wp2_with fail
  refine (shape_lit [2, 2] [10084, 65039] 2 2 v5 rfl rfl (by decide) (by decide) HH5.out ex5 ez5 _ rfl _ _ rfl rfl).mono ?_
  rintro e v6 ⟨rfl, hb⟩
  have HB6 := Lib.hid (HB5.out.trans (hb.mono HB5.out.size))
  have HH6 := Lib.hid (HH0.out.below HB6.out)
  clear hb HB5 HH5
  go_wp2_with fail
  refine (shape_lit [3, 2] [4352, 4449, 4520] 2 3 v6 rfl rfl (by decide) (by decide) HH6.out ex6 ez6 _ rfl _ _ rfl rfl).mono ?_
  rintro e v7 ⟨rfl, hb⟩
  have HB7 := Lib.hid (HB6.out.trans (hb.mono HB6.out.size))
  have HH7 := Lib.hid (HH0.out.below HB7.out)
  clear hb HB6 HH6
  go_wp2_with fail
  refine (shape_lit [1, 0] [769] 2 1 v7 rfl rfl (by decide) (by decide) HH7.out ex7 ez7 _ rfl _ _ rfl rfl).mono ?_
  rintro e v8 ⟨rfl, hb⟩
  have HB8 := Lib.hid (HB7.out.trans (hb.mono HB7.out.size))
  have HH8 := Lib.hid (HH0.out.below HB8.out)
  clear hb HB7 HH7
  go_wp2
  go_ret
  exact ⟨rfl, HB8.out⟩
end Go.Proofs.YtpfihikldeagnaaDoor.Ku
