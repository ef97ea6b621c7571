/-
  Several texts in one, each with its own remark: BiIsoP, BiBytes, NeBits.
-/
import Derived.Deep.Slices
import Derived.Laws.BitsLemmas
import Derived.Test.YtfclpecbnailgaaGreatM26
import Derived.Test.YtfclpecbnailgaaGreatM4
import Derived.Test.YtfclpecbnailgaaGreatM7
import Derived.Test.YtfclpecbnailgaaGreatM25
import Derived.Test.YtfclpecbnailgaaGreatM24

/-
  Small facts for BidiIsolates: rows of runes side by side; the two paragraphs, plainly.
-/
set_option linter.unusedVariables false
namespace Go.Proofs.YtfclpecbnailgaaGreat.Bi
open Go Go.RowKit Go.Lib Go.Proofs.YtfclpecbnailgaaGreat.Cl Go.Proofs.YtfclpecbnailgaaGreat.Ba Go.Proofs.YtfclpecbnailgaaGreat.Sq
open Go.Proofs.YtfclpecbnailgaaGreat.Ku (R3 RuAt cellsR cellsR_len cellsR_one ruAt_own infoR)
theorem ru_own_n {W : World} {B n : Nat} {v : Value} {l : List R3} (h : W.ownsRow B 38 3 v n (cellsR l)) (hl : l.length = n) : ∃ A c, v = .slice A n c ∧ RuAt W A l := by
  subst hl
  exact ruAt_own h
theorem made_nilR (w : World) : (w.alloc (.cells #[] 38)).ownsRow w.heap.size 38 3 (.slice (some ⟨w.heap.size, 0, none⟩) 0 0) 0 (cellsR []) := World.ownsRow_made w #[] 0 (Nat.le_refl _) (Nat.zero_le _) rfl
theorem made_rune (w : World) (z : Int) : RuAt (w.alloc (.cells #[.int .i64 0, .int .i64 3, .int .i64 z] 38)) (some ⟨w.heap.size, 0, none⟩) [((0, 3, z) : R3)] := by
  refine .inr ⟨w.heap.size, 0, rfl, by simp, fun k hk => ?_⟩
  have : k = 0 := by simp at hk; omega
  subst this
  refine ⟨?_, ?_, ?_⟩ <;> simp
/-- The first one grows: the second one stays, and they lie apart. -/
theorem Two.growR {w w' : World} {u u' v : Value} {base n : Nat} {xs : List Value} (h : Two u v) (ho : w.ownsRow base 38 3 v n xs) (hg : w.grownBy w' u.ownBlock) (hu : u'.ownBlock = u.ownBlock ∨ ∃ k, u'.ownBlock = some k ∧ w.heap.size ≤ k) : Two u' v ∧ w'.ownsRow base 38 3 v n xs := by
  refine ⟨?_, ho.kept hg ?_⟩
  · rcases hu with hu | ⟨k, hk, hle⟩
    · rcases h with h | h
      · exact .inl (hu.trans h)
      · exact .inr (by rw [hu]; exact h)
    · refine .inr ?_
      rw [hk]
      intro e
      have := (ho.lt k e.symm).2
      omega
  · rcases h.swap with h | h
    · exact .inl h
    · exact .inr h
theorem cls_iso {r : Int} (h0 : 0 ≤ r) (h1 : r ≤ 2) : isI (cls (8294 + r)) = true := by
  have : r = 0 ∨ r = 1 ∨ r = 2 := by omega
  rcases this with rfl | rfl | rfl <;> decide +kernel
theorem cls_pdi : cls 8297 = 22 := by decide +kernel
/-- The same levels around. -/
theorem iso_same (la li lb : List R3) (r : Int) (h0 : 0 ≤ r) (h1 : r ≤ 2) (b : Nat) (hb : b ≤ 1) (hc : closedL (clsR li) 0 = true) (he : (clsR li).any (fun x => x == 10) = false) (hd : deepL (clsR la) ≤ 60) (i : Nat) :
    (resZ (clsR (la ++ [((0, 3, 8294 + r) : R3)] ++ li ++ [((0, 3, 8297) : R3)] ++ lb)) (codR (la ++ [((0, 3, 8294 + r) : R3)] ++ li ++ [((0, 3, 8297) : R3)] ++ lb)) b)[sh la.length li.length i]? = (resZ (clsR (la ++ [((0, 3, 8294 + r) : R3)] ++ [((0, 3, 8297) : R3)] ++ lb)) (codR (la ++ [((0, 3, 8294 + r) : R3)] ++ [((0, 3, 8297) : R3)] ++ lb)) b)[i]? := by
  have eL : clsR (la ++ [((0, 3, 8294 + r) : R3)] ++ [((0, 3, 8297) : R3)] ++ lb) = clsR la ++ cls (8294 + r) :: (22 :: clsR lb) := by simp [clsR, cls_pdi]
  have eM : clsR (la ++ [((0, 3, 8294 + r) : R3)] ++ li ++ [((0, 3, 8297) : R3)] ++ lb) = clsR la ++ cls (8294 + r) :: (clsR li ++ 22 :: clsR lb) := by simp [clsR, cls_pdi]
  have kL : codR (la ++ [((0, 3, 8294 + r) : R3)] ++ [((0, 3, 8297) : R3)] ++ lb) = codR la ++ (8294 + r) :: (8297 :: codR lb) := by simp [codR]
  have kM : codR (la ++ [((0, 3, 8294 + r) : R3)] ++ li ++ [((0, 3, 8297) : R3)] ++ lb) = codR la ++ (8294 + r) :: (codR li ++ 8297 :: codR lb) := by simp [codR]
  rw [eL, eM, kL, kM, resZ_some _ _ hb, resZ_some _ _ hb]
  have hz : ∀ x ∈ clsR li, x ≠ 10 := fun x hx e => by
    have := List.any_eq_false.1 he x hx
    simp [e] at this
  have := res_isolate rule rule_len rule_pos (clsR la) (clsR li) (clsR lb) (cls (8294 + r)) b hb (cls_iso h0 h1) hc hz hd (kA := codR la) (kz := codR li) (kB := codR lb) (k1 := 8294 + r) (k2 := 8297) (by rw [codR_len, clsR_len]) (by rw [codR_len, clsR_len]) (lv := (b : Int)) (seqsB_all _ b) (seqsB_all _ b) i
  rw [clsR_len, clsR_len] at this
  exact this
theorem resZ_len (c codes : List Int) {b : Nat} (hb : b ≤ 1) : (resZ c codes b).length = c.length := by rw [resZ_some c codes hb, res_len]
end Go.Proofs.YtfclpecbnailgaaGreat.Bi

/-
  A row of bytes that comes in, as numbers from 0 to 255: how it is opened. No program in it but its types.
-/
set_option linter.unusedVariables false
namespace Go.Proofs.YtfclpecbnailgaaGreat.Bi
open Go Go.ChangeShapes Go.WideShapes Go.ChangeAt Go.RowKit Go.Lib
/-- A row of bytes: nothing, or cells below the heap's end. -/
def BytesAt (w : World) (A : Option Addr) (zs : List Int) : Prop :=
  zs = [] ∨ ∃ b off, A = some ⟨b, off, none⟩ ∧ b < w.heap.size ∧ ∀ j z, zs[j]? = some z → w.cell? ⟨b, off + j, none⟩ = some (.int .u8 z)
theorem BytesAt.below {w w' : World} {A : Option Addr} {zs : List Int} (h : BytesAt w A zs) (hb : Below w.heap.size w w') : BytesAt w' A zs := by
  rcases h with h | ⟨b, off, hA, hlt, hc⟩
  · exact .inl h
  · exact .inr ⟨b, off, hA, Nat.lt_of_lt_of_le hlt hb.size, fun j z hz => (hb.cell (p := ⟨b, off + j, none⟩) hlt).trans (hc j z hz)⟩
theorem BytesAt.at_ {w : World} {A : Option Addr} {zs : List Int} (h : BytesAt w A zs) {k : Nat} (hk : k < zs.length) : ∃ b off, A = some ⟨b, off, none⟩ ∧ w.cell? ⟨b, off + k, none⟩ = some (.int .u8 zs[k]) := by
  rcases h with rfl | ⟨b, off, hA, hlt, hc⟩
  · simp at hk
  · exact ⟨b, off, hA, hc k _ (List.getElem?_eq_getElem hk)⟩
set_option maxRecDepth 100000 in
theorem open_bytesw {H : Type} {enc : TypeId × Value → H} {W : World} {r : Reach} {b0 base : Nat} {v : Value} {d : DataW H} {p : List MemPlace}
    (hv : Value.okWide Tryz.prog W r b0 40 v) (h : DataW.Trod enc Tryz.prog W base (fun _ => true) true 40 v d p) :
    ∃ (A : Option Addr) (zs : List Int) (c : Nat), v = .slice A zs.length c ∧ BytesAt W A zs ∧ (A = none → zs = [] ∧ c = 0) ∧ zs.length ≤ 9223372036854775807 ∧ ∀ z ∈ zs, 0 ≤ z ∧ z ≤ 255 := by
  obtain ⟨fuel, hf⟩ := h
  rcases open_ints Tryz.underlying40 Tryz.underlying5 (by kernel_rfl) hf with ⟨hcs, hx⟩ | ⟨a, len, cap, zs, hcs, _, hl, hm, hz, hx, hcell, hwz⟩
  · obtain ⟨a, n, c, rfl⟩ := okWide_slice Tryz.underlying40 hv
    simp [Value.cells] at hcs
    obtain ⟨rfl, rfl, rfl⟩ := hcs
    exact ⟨none, [], 0, rfl, .inl rfl, fun _ => ⟨rfl, rfl⟩, by decide, by simp⟩
  · obtain ⟨a', n, c, rfl⟩ := okWide_slice Tryz.underlying40 hv
    simp [Value.cells] at hcs
    obtain ⟨rfl, rfl, rfl⟩ := hcs
    simp only [if_true] at hz
    unfold maxLen at hm
    have hlen : (zs.take n).length = n := by simp; omega
    refine ⟨some a, zs.take n, c, by rw [hlen], ?_, (fun h => by cases h), by omega, fun z hz' => ?_⟩
    · by_cases h0 : n = 0
      · exact .inl (by subst h0; simp)
      · right
        obtain ⟨b, off, spot⟩ := a
        have hspot : spot = none := by simpa [Addr.add] using World.cell?_spot (hcell 0 (by omega))
        subst hspot
        refine ⟨b, off, rfl, ?_, fun j z hj => ?_⟩
        · have := World.block_lt_of_cell? W _ (hcell 0 (by omega))
          simpa [Addr.add] using this
        · have hj' : j < n := by
            have := (List.getElem?_eq_some_iff.1 hj).1
            omega
          have hadd : (⟨b, off, none⟩ : Addr).add j = ⟨b, off + j, none⟩ := by unfold Addr.add; split <;> simp_all
          rw [← hadd, hcell j (by omega)]
          rw [List.getElem?_take, if_pos hj'] at hj
          simp [List.getD, hj]
    · have := hwz z (List.mem_of_mem_take hz')
      have h1 : IntKind.u8.min = 0 := rfl
      have h2 : IntKind.u8.max = 255 := rfl
      simp only [Lit.wf, Bool.and_eq_true, decide_eq_true_eq] at this
      omega
end Go.Proofs.YtfclpecbnailgaaGreat.Bi

/-
  Bits, plainly: a number's low 31 bits, its lowest bit. No program in it.
-/
namespace Go.Proofs.YtfclpecbnailgaaGreat.Ne
open Go
theorem i64_and1 (n : Int) : bits .and .i64 n 1 = n % 2 := by
  have hm : (BitVec.ofInt 64 1).toNat = 2 ^ 1 - 1 := by decide
  have key : (BitVec.ofInt 64 n &&& BitVec.ofInt 64 1).toNat = (n % ((2 ^ 64 : Nat) : Int)).toNat % 2 ^ 1 := by
    rw [BitVec.toNat_and, BitVec.toNat_ofInt, hm, Nat.and_two_pow_sub_one_eq_mod]
  show IntKind.i64.wrap ((BitVec.ofInt 64 n &&& BitVec.ofInt 64 1).toNat : Nat) = n % 2
  rw [key, IntKind.wrap_i64]
  omega
end Go.Proofs.YtfclpecbnailgaaGreat.Ne
