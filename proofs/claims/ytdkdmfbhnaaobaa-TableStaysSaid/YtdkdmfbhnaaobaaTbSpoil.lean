/-
  Proved here: parquetrylaw09.spoil writes over no memory but the table's own; parquetrylaw09.wide tells records that are few and short; parquetryref08.Own answers the same records in memory of its own.
-/
import Derived.Test.YtdkdmfbhnaaobaaTbRefF
import Derived.Test.YtdkdmfbhnaaobaaTbMade
set_option linter.unusedVariables false
namespace Go.Proofs.Ytdkdmfbhnaaobaa.Tb
open Go Go.RowKit Go.Lib Go.Proofs.Ytdkdmfbhnaaobaa.Cv

/-- Nothing changes but blocks from B on, below L. -/
structure Mid (B L : Nat) (w w' : World) : Prop where
  os : w'.os = w.os
  tape : w'.tape = w.tape
  output : w'.output = w.output
  size : w.heap.size ≤ w'.heap.size
  block : ∀ k, k < B ∨ (L ≤ k ∧ k < w.heap.size) → w'.heap[k]? = w.heap[k]?
theorem Mid.refl (B L : Nat) (w : World) : Mid B L w w := ⟨rfl, rfl, rfl, Nat.le_refl _, fun _ _ => rfl⟩
theorem Mid.below {B L : Nat} {w w' : World} (h : Mid B L w w') : Below B w w' := ⟨h.os, h.tape, h.output, h.size, fun k hk => h.block k (.inl hk)⟩
theorem Mid.grown {B L : Nat} {w w1 w2 : World} (h : Mid B L w w1) {row : Option Nat} (hg : w1.grownBy w2 row) (hB : B ≤ w1.heap.size) (hr : ∀ k, row = some k → B ≤ k ∧ k < L) : Mid B L w w2 :=
  ⟨hg.os.trans h.os, hg.tape.trans h.tape, hg.output.trans h.output, Nat.le_trans h.size hg.size, fun k hk => by
    rw [← h.block k hk]
    refine hg.block k ?_ fun e => ?_
    · have := h.size
      omega
    · obtain ⟨h1, h2⟩ := hr k e.symm
      omega⟩
theorem own_mid {B L C : Nat} {w w' : World} {t : TypeId} {sz : Nat} {v : Value} {n : Nat} {xs : List Value} (h : w.ownsRow C t sz v n xs) (hb : Mid B L w w') (hC : L ≤ C) : w'.ownsRow C t sz v n xs := by
  refine ⟨h.1, ?_⟩
  rcases h.2 with hn | ⟨g, cap, cur, rfl, hg, hgg, rest⟩
  · exact .inl hn
  · exact .inr ⟨g, cap, cur, rfl, hg, by rw [hb.block g (.inr ⟨by omega, (Array.getElem?_eq_some_iff.1 hgg).1⟩)]; exact hgg, rest⟩
theorem Tbl.mid {B L C D : Nat} {w w' : World} {A : Option Addr} {c : Nat} {R : Rec} (h : Tbl C D w A c R) (hb : Mid B L w w') (hC : L ≤ C) : Tbl C D w' A c R := by
  obtain ⟨vals, h1, h2, h3⟩ := h
  exact ⟨vals, own_mid h1 hb hC, h2, fun i hi x hx => ⟨own_mid (h3 i hi x hx).1 hb hC, (h3 i hi x hx).2⟩⟩

theorem clr_grown (w : World) (g : Nat) (cs : Array Value) : w.grownBy (w.setRow g cs) (some g) := by
  refine ⟨rfl, rfl, rfl, by simp [World.setRow], fun k _ hne => ?_⟩
  simp only [World.setRow, Array.getElem?_modify]
  rw [if_neg (fun e => hne (by rw [e]))]
theorem clr_one (n : Nat) : ∀ v ∈ (Builtin.zeroCells (Value.string ⟨#[]⟩).cells n).toList, v.oneCell' = true := by
  intro v hv
  simp [Builtin.zeroCells, Value.cells] at hv
  first
  | (obtain ⟨_, rfl⟩ := hv; rfl)
  | (obtain ⟨a, _, rfl⟩ := hv; rw [Nat.mod_one]; rfl)
theorem clr_len (n : Nat) : (Builtin.zeroCells (Value.string ⟨#[]⟩).cells n).toList.length = n := by
  simp [Builtin.zeroCells, Value.cells]
/-- A row of texts that is written over stays a row of texts; so does each other one. -/
theorem clear_strs {w : World} {B : Nat} {v : Value} {n : Nat} {xs : List Value} (h : w.ownsRow B 9 1 v n xs) :
    ∃ w', (∀ ty, (Builtin.clear_ #[31] ty #[v]).run Try.prog w = .ok (.tuple #[]) w') ∧ w.grownBy w' v.ownBlock ∧ ∀ C y m ys, w.ownsRow C 9 1 y m ys → ∃ zs, w'.ownsRow C 9 1 y m zs := by
  rcases h.2 with ⟨rfl, hn⟩ | ⟨g, cap, cur, rfl, _, hg, hnc, _, hsz, _⟩
  · exact ⟨w, fun ty => by simp [Builtin.clear_, run_underlying Try.underlying31], World.grownBy.refl w _, fun C y m ys hy => ⟨ys, hy⟩⟩
  · rcases Nat.eq_zero_or_pos n with h0 | h0
    · subst h0
      exact ⟨w, fun ty => by simp [Builtin.clear_, run_underlying Try.underlying31], World.grownBy.refl w _, fun C y m ys hy => ⟨ys, hy⟩⟩
    · obtain ⟨CS, hCS, hst⟩ : ∃ CS : Array Value, CS.size = cur.size ∧ (storeCells ⟨g, 0, none⟩ (Builtin.zeroCells (Value.string ⟨#[]⟩).cells n).toList 0).run Try.prog w = .ok () (w.setRow g CS) := by
        refine ⟨_, ?_, run_storeCells_at Try.prog g 0 9 _ 0 cur w hg (by rw [clr_len, hsz]; omega) (clr_one n)⟩
        have hl := clr_len n
        simp only [List.size_toArray, List.length_append, List.length_take, List.length_drop, hl, Array.length_toList]
        omega
      have hzv : ∀ w, (zeroValue 9).run Try.prog w = .ok (.string ⟨#[]⟩) w := fun _ => by kernel_rfl
      refine ⟨w.setRow g CS, fun ty => ?_, clr_grown w g CS, fun C y m ys hy => ?_⟩
      · obtain ⟨m, rfl⟩ : ∃ m, n = m + 1 := ⟨n - 1, by omega⟩
        simp [Builtin.clear_, run_underlying Try.underlying31, hzv, hst]
      · rcases hy.2 with ⟨rfl, hm⟩ | ⟨g2, cap2, cur2, rfl, hC2, hg2, hmc, hcm, hs2, ht2⟩
        · exact ⟨ys, hy.1, .inl ⟨rfl, hm⟩⟩
        · by_cases e : g2 = g
          · subst e
            rw [hg] at hg2
            injection hg2 with hg2
            injection hg2 with e1 _ _
            subst e1
            exact ⟨_, by simp; omega, .inr ⟨g2, cap2, CS, rfl, hC2, setRow_heap w g2 cur CS _ _ hg, hmc, hcm, by rw [hCS, hs2], rfl⟩⟩
          · exact ⟨ys, hy.kept (clr_grown w g CS) (.inr (by simp [Value.ownBlock]; exact e))⟩

set_option maxHeartbeats 2000000 in
set_option maxRecDepth 100000 in
theorem spoil_any (B L : Nat) (A : Option Addr) (R : Rec) (n c : Nat) (hn : n = R.length) (w : World) (hT : Tbl B L w A c R) (hl : R.length ≤ 1000000) (hB : B ≤ w.heap.size) :
    Calls Try.prog 21 #[.slice A n c] w fun e w' => e = .returned (.tuple #[]) ∧ Mid B L w w' := by
  obtain ⟨vals, h1, h2, h3⟩ := hT
  have hvl : vals.length = R.length := by have := h1.1; omega
  rw [← hn] at h1 h2 hvl hl
  have hrows : ∀ (i : Nat) (x : Value), vals[i]? = some x → ∃ m ys, w.ownsRow B 9 1 x m ys ∧ ∀ k, x.ownBlock = some k → k < L := fun i x hx => by
    have hi : i < R.length := by
      have := (List.getElem?_eq_some_iff.1 hx).1
      omega
    exact ⟨_, _, (h3 i hi x hx).1, (h3 i hi x hx).2⟩
  have HR := Lib.hid hrows
  have HO := Lib.hid h1
  have HVL := Lib.hid hvl
  clear h1 h2 h3 hvl hn hrows
  go_enter Try.func21, Try.ntmps21
  go_wp2_with fail
  go_loopw [2] (fun s2 wx => ∃ k : Nat, k ≤ n ∧ s2 = .int .i64 k ∧ Mid B L w wx ∧ wx.ownsRow B 31 1 (.slice A n c) n vals ∧ ∀ (i : Nat) (x : Value), vals[i]? = some x → ∃ m ys, wx.ownsRow B 9 1 x m ys ∧ ∀ k, x.ownBlock = some k → k < L) (fun s2 _ => n - (RowKit.intOf s2).toNat)
  case atStart => exact ⟨0, Nat.zero_le _, rfl, Mid.refl _ _ _, HO.out, HR.out⟩
  case round =>
    obtain ⟨k, hk, rfl, hm, ho, hr⟩ := hrel
    by_cases hlt : k < n
    · have hkv : k < vals.length := by rw [HVL.out]; exact hlt
      obtain ⟨A', c', e1, hv, -⟩ := vAt_own ho
      injection e1 with e1 _ _
      subst e1
      obtain ⟨b, off, rfl, hc⟩ := hv.at_ hkv
      obtain ⟨m, ys, hy, hyl⟩ := hr k _ (List.getElem?_eq_getElem hkv)
      obtain ⟨x, hx⟩ : ∃ x, vals[k] = x := ⟨_, rfl⟩
      rw [hx] at hc hy hyl
      obtain ⟨w6, hcl, hgr, hkeep⟩ := clear_strs hy
      have hm6 : Mid B L w w6 := hm.grown hgr (Nat.le_trans hB hm.size) fun q hq => ⟨(hy.lt q hq).1, hyl q hq⟩
      have ho6 : w6.ownsRow B 31 1 (.slice (some ⟨b, off, none⟩) n c) n vals := ho.kept hgr (own_ne ho hy (by decide))
      have HREL := Lib.hid (show Mid B L w w6 ∧ w6.ownsRow B 31 1 (.slice (some ⟨b, off, none⟩) n c) n vals ∧ ∀ (i : Nat) (x : Value), vals[i]? = some x → ∃ m ys, w6.ownsRow B 9 1 x m ys ∧ ∀ k, x.ownBlock = some k → k < L from
        ⟨hm6, ho6, fun i z hz => by
          obtain ⟨m2, ys2, h4, h5⟩ := hr i z hz
          obtain ⟨zs, h6⟩ := hkeep _ _ _ _ h4
          exact ⟨m2, zs, h6, h5⟩⟩)
      obtain ⟨A2, c2, rfl, -, -⟩ := vAt_own hy
      clear hm ho hr hv hy hyl hgr hkeep hm6 ho6 hx hkv
      go_wp2_with fail
      go_roundw
      case rel => exact ⟨k + 1, by omega, by go_num, HREL.out.1, HREL.out.2.1, HREL.out.2.2⟩
      case measure => simp [RowKit.intOf]; omega
    · have HM := Lib.hid hm
      clear hm ho hr
      go_wp2_with fail
      go_end0
      exact ⟨rfl, HM.out⟩
end Go.Proofs.Ytdkdmfbhnaaobaa.Tb
