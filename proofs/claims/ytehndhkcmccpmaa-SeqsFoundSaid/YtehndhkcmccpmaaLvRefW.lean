/-
  Proved here: what the document's own State.With, Without return, for what is open in memory; they leave what was in memory. Condition: what is open is as it may be.
-/
import Derived.Test.YtehndhkcmccpmaaLvRef
import Derived.Test.YtehndhkcmccpmaaLvFns
import Derived.Test.YtehndhkcmccpmaaAppSrc
set_option linter.unusedVariables false
namespace Go.Proofs.Ytehndhkcmccpmaa.Lv
open Go Go.RowKit Go.Lib Go.Proofs.Ytehndhkcmccpmaa.Cl

/-- Three new variables. -/
theorem three_vars (w : World) (o1 o2 o3 : Obj) : (((w.alloc o1).alloc o2).alloc o3).heap[w.heap.size]? = some o1 ∧ (((w.alloc o1).alloc o2).alloc o3).heap[w.heap.size + 1]? = some o2 ∧ (((w.alloc o1).alloc o2).alloc o3).heap[w.heap.size + 1 + 1]? = some o3 ∧ Below w.heap.size w (((w.alloc o1).alloc o2).alloc o3) ∧ (((w.alloc o1).alloc o2).alloc o3).heap.size = w.heap.size + 1 + 1 + 1 := by
  have s1 : (w.alloc o1).heap.size = w.heap.size + 1 := by simp
  have s2 : ((w.alloc o1).alloc o2).heap.size = w.heap.size + 1 + 1 := by simp
  have b1 : Below (w.alloc o1).heap.size (w.alloc o1) (((w.alloc o1).alloc o2).alloc o3) := ((Below.refl _ _).alloc (Nat.le_refl _) _).alloc (by simp) _
  have b2 : Below ((w.alloc o1).alloc o2).heap.size ((w.alloc o1).alloc o2) (((w.alloc o1).alloc o2).alloc o3) := (Below.refl _ _).alloc (Nat.le_refl _) _
  refine ⟨(b1.block _ (by simp)).trans (heap_alloc_last _ _), ?_, ?_, (((Below.refl _ _).alloc (Nat.le_refl _) _).alloc (by simp) _).alloc (by simp; omega) _, by simp⟩
  · have := heap_alloc_last (w.alloc o1) o2
    rw [s1] at this
    exact (b2.block _ (by rw [s2]; omega)).trans this
  · have := heap_alloc_last ((w.alloc o1).alloc o2) o3
    rw [s2] at this
    exact this
theorem news_kept {W w3 : World} {row : Option Nat} (hg : W.grownBy w3 row) {ad : Addr} {news : List Value} (hc : ∀ j u, news[j]? = some u → W.cell? (ad.add j) = some u) (hlt : ad.block < W.heap.size) (hne : some ad.block ≠ row) : ∀ j u, news[j]? = some u → w3.cell? (ad.add j) = some u := by
  intro j u hu
  rw [← hc j u hu]
  have : (ad.add j).block = ad.block := by unfold Addr.add; split <;> rfl
  exact World.cell?_of_block (w := W) (by rw [this]; exact hg.block _ hlt hne)
theorem then_to {K K1 : Act → World → Prop} {Q : Exit → Act → World → Prop} (h : ∀ a w, K1 a w → K a w) : ∀ e a w, Exit.then K1 Q e a w → Exit.then K Q e a w := by
  intro e a w
  cases e <;> first | exact h a w | exact id
theorem row_other {w : World} {B g c : Nat} {t : TypeId} {sz n : Nat} {xs : List Value} (h : w.ownsRow B t sz (.slice (some ⟨g, 0, none⟩) n c) n xs) {a : Addr} (ha : g ≠ a.block) (u : Value) : (w.setCell a u).ownsRow B t sz (.slice (some ⟨g, 0, none⟩) n c) n xs :=
  ownsRow_setCell_other h (fun e => ha (by have e2 : some g = some a.block := e; injection e2)) u
theorem made_own (U : World) (T : TypeId) (base : Nat) (hb : base ≤ U.heap.size) : (U.alloc (.cells #[] T)).ownsRow base T 3 (.slice (some ⟨U.heap.size, 0, none⟩) 0 0) 0 [] := World.ownsRow_made U #[] 0 hb (Nat.zero_le _) rfl
theorem made_at (U : World) (T : TypeId) (base k : Nat) (hk : U.heap.size = k) (hb : base ≤ k := by omega) : (U.alloc (.cells #[] T)).ownsRow base T 3 (.slice (some ⟨k, 0, none⟩) 0 0) 0 [] := by
  subst hk
  exact made_own U T base hb
theorem ns_news {w : World} {g c : Nat} {es : List E} {ad : Addr} (had : some ⟨g, 0, none⟩ = some ad) (h : NsAt w g c es) : ∀ j u, (nsC es)[j]? = some u → w.cell? (ad.add j) = some u := by
  injection had with had
  subst had
  intro j u hu
  rw [show (⟨g, 0, none⟩ : Addr).add j = ⟨g, j, none⟩ from by unfold Addr.add; split <;> simp_all]
  exact h.2.2.1 j u hu
theorem new_cells (U : World) (T : TypeId) (u0 u1 u2 : Value) : ∀ j u, [u0, u1, u2][j]? = some u → (U.alloc (.cells #[u0, u1, u2] T)).cell? ((⟨U.heap.size, 0, none⟩ : Addr).add j) = some u := cells_made U #[u0, u1, u2] T [u0, u1, u2] rfl _ rfl
theorem cells_past {U : World} {ad : Addr} {news : List Value} (o : Obj) (hc : ∀ j u, news[j]? = some u → U.cell? (ad.add j) = some u) (hlt : ad.block < U.heap.size) : ∀ j u, news[j]? = some u → (U.alloc o).cell? (ad.add j) = some u := by
  intro j u hu
  rw [← hc j u hu]
  have : (ad.add j).block = ad.block := by unfold Addr.add; split <;> rfl
  exact World.cell?_of_block (w := U) (Below.heap_alloc _ _ _ (by rw [this]; exact hlt))

set_option maxHeartbeats 4000000 in
set_option maxRecDepth 100000 in
theorem nWith_any (g c n : Nat) (es : List E) (x0 x1 x2 li ld op : Int) (w : World) (hO : NsAt w g c es) (hn : es.length = n) (h0 : 0 < n) (hr : n ≤ 1000) :
    Calls Try.prog 66 #[.agg #[.slice (some ⟨g, 0, none⟩) n c, .int .i64 li, .int .i64 ld, .int .i64 op], .agg #[.int .i64 x0, .int .i64 x1, .int .i64 x2]] w fun x w' =>
      ∃ g' c', x = .returned (.agg #[.slice (some ⟨g', 0, none⟩) (n + 1) c', .int .i64 li, .int .i64 ld, .int .i64 op]) ∧ w'.ownsRow w.heap.size 73 3 (.slice (some ⟨g', 0, none⟩) (n + 1) c') (n + 1) (nsC es ++ [.int .i64 x0, .int .i64 x1, .int .i64 x2]) ∧ Below w.heap.size w w' := by
  obtain ⟨i0, hi, hz0, hz1, hz2⟩ := Cl.info_parts infoN3
  have hg := hO.1
  have HI := Lib.hid infoS
  go_enter Try.func66, Try.ntmps66
  go_wp2_with fail
  obtain ⟨e0, e1, e2, hbV, hsV⟩ := three_vars w (.cells #[.slice (some ⟨g, 0, none⟩) n c, .int .i64 li, .int .i64 ld, .int .i64 op] 76) (.cells #[.int .i64 x0, .int .i64 x1, .int .i64 x2] 73) (.cells #[.slice none 0 0, .int .i64 0, .int .i64 0, .int .i64 0] 76)
  generalize (((w.alloc (.cells #[.slice (some ⟨g, 0, none⟩) n c, .int .i64 li, .int .i64 ld, .int .i64 op] 76)).alloc (.cells #[.int .i64 x0, .int .i64 x1, .int .i64 x2] 73)).alloc (.cells #[.slice none 0 0, .int .i64 0, .int .i64 0, .int .i64 0] 76)) = V at *
  generalize hH : w.heap.size = h at *
  have hltg : g < V.heap.size := by omega
  have lt0 : h < V.heap.size := by omega
  have lt1 : h + 1 < V.heap.size := by omega
  obtain ⟨⟨s0, -, -, -⟩, -⟩ := four e0
  obtain ⟨⟨t0, t1, t2⟩, -⟩ := three e1
  have s0' : ∀ o, (V.alloc o).cell? ⟨h, 0, none⟩ = _ := fun o => (cell_at V o 0 lt0).trans s0
  have s0'' : ∀ o o', ((V.alloc o).alloc o').cell? ⟨h, 0, none⟩ = _ := fun o o' => (cell_at (V.alloc o) o' 0 (by simp; omega)).trans (s0' o)
  have t0' : ∀ o, (V.alloc o).cell? ⟨h + 1, 0, none⟩ = _ := fun o => (cell_at V o 0 lt1).trans t0
  have t1' : ∀ o, (V.alloc o).cell? ⟨h + 1, 1, none⟩ = _ := fun o => (cell_at V o 1 lt1).trans t1
  have t2' : ∀ o, (V.alloc o).cell? ⟨h + 1, 2, none⟩ = _ := fun o => (cell_at V o 2 lt1).trans t2
  have HNV := Lib.hid (show ∀ j u, (nsC es)[j]? = some u → V.cell? ((⟨g, 0, none⟩ : Addr).add j) = some u from fun j u hu => by
    rw [show (⟨g, 0, none⟩ : Addr).add j = ⟨g, j, none⟩ from by unfold Addr.add; split <;> simp_all]
    exact (hbV.cell (p := ⟨g, j, none⟩) hg).trans (hO.2.2.1 j u hu))
  have HLEN := Lib.hid (show (nsC es).length = n * 3 by rw [nsC_len, hn])
  have H0 := Lib.hid e0
  have H1 := Lib.hid e1
  have H2 := Lib.hid e2
  have HB := Lib.hid hbV
  obtain ⟨E0, hE0⟩ : ∃ o, (Obj.cells #[] 73 (0, 0)) = o := ⟨_, rfl⟩
  obtain ⟨E1, hE1⟩ : ∃ o, (Obj.cells #[.int .i64 x0, .int .i64 x1, .int .i64 x2] 73 (0, 0)) = o := ⟨_, rfl⟩
  have sA : (V.alloc E0).heap.size = h + 1 + 1 + 1 + 1 := by simp [hsV]
  have sC : (V.alloc E1).heap.size = h + 1 + 1 + 1 + 1 := by simp [hsV]
  have mA : (V.alloc E0).ownsRow (h + 1 + 1 + 1) 73 3 (.slice (some ⟨h + 1 + 1 + 1, 0, none⟩) 0 0) 0 [] := by
    have := made_own V 73 (h + 1 + 1 + 1) (by omega)
    rw [hsV, hE0] at this
    exact this
  have mC : ((V.alloc E1).alloc E0).ownsRow (h + 1 + 1 + 1) 73 3 (.slice (some ⟨h + 1 + 1 + 1 + 1, 0, none⟩) 0 0) 0 [] := by
    have := made_own (V.alloc E1) 73 (h + 1 + 1 + 1) (by omega)
    rw [sC, hE0] at this
    exact this
  have nC1 : ∀ o, ∀ j u, (nsC es)[j]? = some u → (V.alloc o).cell? ((⟨g, 0, none⟩ : Addr).add j) = some u := fun o => cells_past o HNV.out hltg
  have nC2 : ∀ o o', ∀ j u, (nsC es)[j]? = some u → ((V.alloc o).alloc o').cell? ((⟨g, 0, none⟩ : Addr).add j) = some u := fun o o' => cells_past o' (nC1 o) (by simp; omega)
  have bA : ∀ o, Below V.heap.size V (V.alloc o).drew := fun o => ((Below.refl _ _).alloc (Nat.le_refl _) _).drew
  have bB : ∀ o o', Below V.heap.size V ((V.alloc o).alloc o').drew := fun o o' => (((Below.refl _ _).alloc (Nat.le_refl _) _).alloc (by simp) _).drew
  have eC : ∀ j u, [Value.int .i64 x0, .int .i64 x1, .int .i64 x2][j]? = some u → (V.alloc E1).cell? ((⟨h + 1 + 1 + 1, 0, none⟩ : Addr).add j) = some u := by
    have := new_cells V 73 (.int .i64 x0) (.int .i64 x1) (.int .i64 x2)
    rw [hsV, hE1] at this
    exact this
  have eC2 := cells_past E0 eC (by show h + 1 + 1 + 1 < (V.alloc E1).heap.size; omega)
  have eB : ∀ j u, [Value.int .i64 x0, .int .i64 x1, .int .i64 x2][j]? = some u → ((V.alloc E0).alloc E1).cell? ((⟨h + 1 + 1 + 1 + 1, 0, none⟩ : Addr).add j) = some u := by
    have := new_cells (V.alloc E0) 73 (.int .i64 x0) (.int .i64 x1) (.int .i64 x2)
    rw [sA, hE1] at this
    exact this
  subst hE0 hE1
  have MA := Lib.hid mA
  have MB := Lib.hid (mA.alloc (.cells #[.int .i64 x0, .int .i64 x1, .int .i64 x2] 73))
  have MC := Lib.hid mC
  have N1 := Lib.hid nC1
  have N2 := Lib.hid nC2
  have BA := Lib.hid bA
  have BB := Lib.hid bB
  have EB := Lib.hid eB
  have EC := Lib.hid eC2
  have HLE := Lib.hid (Nat.le_refl V.heap.size)
  clear e0 e1 e2 hbV hO hn mA mC nC1 nC2 bA bB eC eC2 eB sA sC
  rename_i Q0 K0 hK0
  obtain ⟨K1, hQ1⟩ : ∃ K1 : Act → World → Prop, ∀ y Z, K1 y Z ↔ (∃ g4 c4 : Nat, (h + 1 + 1 + 1 ≤ g4 ∧ Z.ownsRow h 73 3 (.slice (some ⟨g4, 0, none⟩) (n + 1) c4) (n + 1) (nsC es ++ [.int .i64 x0, .int .i64 x1, .int .i64 x2]) ∧ Z.heap[h]? = some (.cells #[.slice (some ⟨g4, 0, none⟩) (n + 1) c4, .int .i64 li, .int .i64 ld, .int .i64 op] 76 (0, 0)) ∧ Z.heap[h + 1 + 1]? = some (.cells #[.slice none 0 0, .int .i64 0, .int .i64 0, .int .i64 0] 76 (0, 0)) ∧ Below h w Z) ∧
    ∃ a5 a6 a7 a8 a9 a10 a11 a12, y = ⟨#[.agg #[.slice (some ⟨g, 0, none⟩) n c, .int .i64 li, .int .i64 ld, .int .i64 op], .agg #[.int .i64 x0, .int .i64 x1, .int .i64 x2], .pointer (some ⟨h, 0, none⟩), .pointer (some ⟨h + 1, 0, none⟩), .pointer (some ⟨h + 1 + 1, 0, none⟩), a5, a6, a7, a8, a9, a10, a11, a12, undef], []⟩) := ⟨_, fun _ _ => Iff.rfl⟩
  have HQ := Lib.hid hQ1
  clear hQ1
  refine wp_mono (Q := Exit.then K1 Q0) ?_ (then_to ?_)
  rotate_left
  · rintro y Z hh
    obtain ⟨g4, c4, ⟨hge4, ho4, q0, q2, hbk⟩, a5, a6, a7, a8, a9, a10, a11, a12, rfl⟩ := (HQ.out _ _).1 hh
    clear hh HQ MA MB MC N1 N2 BA BB EB EC HLE H0 H1 H2 HB HNV HLEN t0 t1 t2 t0' t1' t2' s0 s0' s0'' hi hz0 hz1 hz2 i0
    refine hK0 _ _ ?_
    obtain ⟨⟨z0, z1, z2, z3⟩, -⟩ := four q0
    obtain ⟨⟨p0, p1, p2, p3⟩, d0, d1, d2, d3⟩ := four q2
    have HQ2 := Lib.hid q2
    have HBK := Lib.hid hbk
    have HO4 := Lib.hid ho4
    clear hbk ho4 q2 q0
    go_wp2_with fail
    refine bodyPost_ret (results_cell_row Try.results66 _ _ (h + 1 + 1) 76 _ (0, 0) _ rfl (heap_setCell_same _ _ 3 _ _ _ (heap_setCell_same _ _ 2 _ _ _ (heap_setCell_same _ _ 1 _ _ _ (heap_setCell_same _ _ 0 _ _ _ HQ2.out)))) Try.underlying76 rfl HI.out) rfl ?_
    refine ⟨g4, c4, rfl, ?_, ?_⟩
    · rw [hH]
      exact row_other (row_other (row_other (row_other HO4.out (by show g4 ≠ h + 1 + 1; omega) _) (by show g4 ≠ h + 1 + 1; omega) _) (by show g4 ≠ h + 1 + 1; omega) _) (by show g4 ≠ h + 1 + 1; omega) _
    · rw [hH]
      exact (((HBK.out.setCell (by show h ≤ h + 1 + 1; omega) _).setCell (by show h ≤ h + 1 + 1; omega) _).setCell (by show h ≤ h + 1 + 1; omega) _).setCell (by show h ≤ h + 1 + 1; omega) _
  go_region_law
    (first
      | (refine step_append_own rfl (.tmp 5) (.tmp 7) 74 rfl (h + 1 + 1 + 1) 73 i0 (.agg #[.int .i64 0, .int .i64 0, .int .i64 0]) 3 24 Try.underlying74 hi hz0 hz1 hz2 rfl (by decide) _ 0 [] (by rfl) ?c0 ⟨g, 0, none⟩ n c (nsC es) (by rfl) HLEN.out ?c1 (nsC_one es) ?c3 ?c4 ?c5 ?_
         case c0 => first | exact MA.out | exact MB.out | exact MC.out
         case c1 => first | exact N1.out _ | exact N2.out _ _
         case c3 => unfold maxLen; omega
         case c4 => omega
         case c5 => show _ ≤ (_ : World).heap.size; simp; omega
         intro v3 w3 ho3 hg3
         rw [Nat.zero_add, List.nil_append] at ho3
         obtain ⟨g3, c3, rfl, hge3, hgl3⟩ := ho3.form h0
         have hV3 : Below V.heap.size V w3 := by
           first
           | exact (BA.out _).grown hg3 (BA.out _).size (fun k hk => by have := (MA.out.lt k hk).1; omega)
           | exact (BB.out _ _).grown hg3 (BB.out _ _).size (fun k hk => by have := (MA.out.lt k hk).1; omega)
           | exact (BB.out _ _).grown hg3 (BB.out _ _).size (fun k hk => by have := (MC.out.lt k hk).1; omega)
         obtain ⟨⟨y0, y1, y2⟩, -⟩ := three ((hV3.block (h + 1) lt1).trans H1.out))
      | (refine step_append_own rfl (.tmp 8) (.tmp 10) 74 rfl (h + 1 + 1 + 1) 73 i0 (.agg #[.int .i64 0, .int .i64 0, .int .i64 0]) 3 24 Try.underlying74 hi hz0 hz1 hz2 rfl (by decide) _ n (nsC es) (by rfl) ?d0 _ 1 1 [.int .i64 x0, .int .i64 x1, .int .i64 x2] (by rfl) rfl ?d1 ?d2 ?d3 ?d4 ?d5 ?_
         case d0 => first | exact ho3 | exact ho3.alloc _
         case d1 => first | exact new_cells w3 _ _ _ _ | exact news_kept hg3 EB.out (by show _ < (_ : World).heap.size; simp; omega) (fun e => by have e : some (h + 1 + 1 + 1 + 1) = some (h + 1 + 1 + 1) := e; simp at e) | exact news_kept hg3 EC.out (by show _ < (_ : World).heap.size; simp; omega) (fun e => by have e : some (h + 1 + 1 + 1) = some (h + 1 + 1 + 1 + 1) := e; simp at e)
         case d2 => intro u hu; simp only [List.mem_cons, List.not_mem_nil, or_false] at hu; rcases hu with rfl | rfl | rfl <;> rfl
         case d3 => unfold maxLen; omega
         case d4 => omega
         case d5 => have := hV3.size; first | omega | (simp; omega)
         intro v4 w4 ho4 hg4
         obtain ⟨g4, c4, rfl, hge4, hgl4⟩ := ho4.form (by omega)
         have hV4 : Below V.heap.size V w4 := by
           first
           | exact hV3.grown hg4 hV3.size (fun k hk => by have := (ho3.lt k hk).1; omega)
           | exact (hV3.alloc hV3.size _).grown hg4 (hV3.alloc hV3.size _).size (fun k hk => by have := (ho3.lt k hk).1; omega)
         obtain ⟨⟨z0, z1, z2, z3⟩, zf, -⟩ := four ((hV4.block h lt0).trans H0.out)))
  all_goals show K1 _ _
  all_goals refine (HQ.out _ _).2 ?_
  all_goals
    have hbk := HB.out.trans (hV4.mono (by omega))
    have q2 := (hV4.block (h + 1 + 1) (by omega)).trans H2.out
    have q0 := (hV4.block h lt0).trans H0.out
    exact ⟨g4, c4, ⟨hge4, row_other (ho4.mono (base' := h) (by omega)) (a := ⟨h, 0, none⟩) (by show g4 ≠ h; omega) _, heap_setCell_same _ _ 0 _ _ _ q0, (heap_setCell_other _ _ _ _ (by show h + 1 + 1 ≠ h; omega)).trans q2, hbk.setCell (p := ⟨h, 0, none⟩) (Nat.le_refl _) _⟩, _, _, _, _, _, _, _, _, rfl⟩
end Go.Proofs.Ytehndhkcmccpmaa.Lv
