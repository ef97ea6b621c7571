/-
  Proved here: what slices.SortFunc does at a row of pairs of the call's own, with the closure of pairs.Find: a permutation of what the row held, the first places not falling; nothing else of memory changes. By the library's own contract.
-/
import Derived.Test.YtapeebnbiappgaaDoorPrMore
import Derived.Test.YtapeebnbiappgaaDoorPrRows
import Derived.Test.YtapeebnbiappgaaDoorWkRow
import Derived.Test.YtapeebnbiappgaaDoorSort
import Derived.Shelf.SlSortCmp.NoneTotal
import Derived.Lib.Hide
set_option linter.unusedVariables false
namespace Go.Proofs.YtapeebnbiappgaaDoor.Pb
open Go Go.RowKit Go.Lib Go.Shelf Go.Proofs Go.Proofs.YtapeebnbiappgaaDoor.Cl Go.Proofs.YtapeebnbiappgaaDoor.Pr Go.Proofs.YtapeebnbiappgaaDoor.Wk

def encP (x : Nat × Nat) : List Value := [.int .i64 x.1, .int .i64 x.2]
theorem encP_len (x : Nat × Nat) : (encP x).length = 2 := rfl
theorem encP_one (x : Nat × Nat) : ∀ v ∈ encP x, v.oneCell' = true := by
  intro v hv
  simp [encP] at hv
  rcases hv with rfl | rfl <;> rfl
def cmpZ (a b : Int) : Int := if a < b then -1 else if b < a then 1 else 0
def cfP (x y : Nat × Nat) : Int := cmpZ x.1 y.1
theorem lt_cfP (x y : Nat × Nat) : ltOf cfP x y = decide (x.1 < y.1) := by
  unfold ltOf cfP cmpZ
  rw [decide_eq_decide]
  split
  · omega
  · split <;> omega
theorem swoP : Sort.SWO (ltOf cfP) where
  irrefl x := by rw [lt_cfP]; simp
  trans x y z h1 h2 := by rw [lt_cfP] at *; simp at *; omega
  ntrans x y z h1 h2 := by rw [lt_cfP] at *; simp at *; omega

theorem flat_cells (d : Array (Nat × Nat)) : (Sort.flatK encP 2 d).toList = cellsP d.toList := by
  apply List.ext_getElem?
  intro t
  by_cases ht : t < d.size * 2
  · have hd : t / 2 < d.size := by omega
    have h1 : (Sort.flatK encP 2 d).toList[t]? = some ((encP d[t / 2]!)[t % 2]!) := by
      rw [Array.getElem?_toList, Array.getElem?_eq_getElem (by rw [Sort.size_flatK]; exact ht)]
      congr 1
      have := Sort.get_flatK encP 2 d t ht
      rwa [getElem!_pos _ _ (by rw [Sort.size_flatK]; exact ht)] at this
    obtain ⟨h2, h3⟩ := cellsP_at d.toList (t / 2) d[t / 2] (by rw [Array.getElem?_toList, Array.getElem?_eq_getElem hd])
    rw [h1, getElem!_pos d _ hd]
    have : t = t / 2 * 2 ∨ t = t / 2 * 2 + 1 := by omega
    rcases this with e | e
    · rw [show t % 2 = 0 from by omega]
      conv => rhs; rw [e]
      rw [h2]
      rfl
    · rw [show t % 2 = 1 from by omega]
      conv => rhs; rw [e]
      rw [h3]
      rfl
  · rw [List.getElem?_eq_none (by rw [Array.length_toList, Sort.size_flatK]; omega), List.getElem?_eq_none (by rw [cellsP_len, Array.length_toList]; omega)]

theorem holds_own {w : World} {base g n c : Nat} {t : TypeId} {L : List (Nat × Nat)} (h : w.ownsRow base t 2 (.slice (some ⟨g, 0, none⟩) n c) n (cellsP L)) : Sort.HoldsK encP 2 w g 0 L.toArray := by
  intro j hj
  rw [Sort.size_flatK] at hj
  have hx : (cellsP L)[j]? = some ((Sort.flatK encP 2 L.toArray)[j]!) := by
    have := flat_cells L.toArray
    rw [show L.toArray.toList = L from rfl] at this
    rw [← this, Array.getElem?_toList, getElem!_pos _ _ (by rw [Sort.size_flatK]; exact hj), Array.getElem?_eq_getElem]
  have hc := @World.ownsRow.cells _ _ _ _ _ _ _ h g rfl j _ hx
  rw [add_offP] at hc
  refine ⟨hc, ?_⟩
  have := h.frozenAt j
  rw [Nat.zero_add]
  exact this
theorem own_sorted {w : World} {base g n c m : Nat} {t : TypeId} {L : List (Nat × Nat)} {d' : Array (Nat × Nat)} {os : Array Obj} (h : w.ownsRow base t 2 (.slice (some ⟨g, 0, none⟩) n c) n (cellsP L)) (hd : d'.size = L.length) :
    (sortWorldK encP 2 w g 0 m d' os).ownsRow base t 2 (.slice (some ⟨g, 0, none⟩) n c) n (cellsP d'.toList) ∧ w.grownBy (sortWorldK encP 2 w g 0 m d' os) (some g) := by
  have hl := h.1
  rw [cellsP_len] at hl
  have hg' := h.2
  rcases hg' with ⟨e, -⟩ | ⟨g', cap, cur, e, hB, hg, hle, hmax, hsz, htk⟩
  · cases e
  injection e with e1 e2 e3
  injection e1 with e1
  injection e1 with e1
  subst e1 e3
  have hlt : g < w.heap.size := (Array.getElem?_eq_some_iff.1 hg).1
  have hheap : (sortWorldK encP 2 w g 0 m d' os).heap = w.heap.modify g (Sort.onCells (Sort.putCells id 0 (Sort.flatK encP 2 d'))) ++ os := rfl
  constructor
  · refine ⟨by rw [cellsP_len, Array.length_toList, hd]; omega, .inr ⟨g, c, Sort.putCells id 0 (Sort.flatK encP 2 d') cur, rfl, hB, ?_, hle, hmax, ?_, ?_⟩⟩
    · rw [hheap, Array.getElem?_append, if_pos (by simpa using hlt), Array.getElem?_modify, if_pos rfl, hg]
      rfl
    · simp [Sort.putCells, hsz]
    · rw [← flat_cells]
      apply List.ext_getElem?
      intro k
      rw [List.getElem?_take, Array.getElem?_toList, Array.getElem?_toList]
      unfold Sort.putCells
      rw [Array.getElem?_mapIdx, Sort.size_flatK]
      by_cases hk : k < n * 2
      · have hkc : k < cur.size := by rw [hsz]; omega
        have hkf : k < (Sort.flatK encP 2 d').size := by rw [Sort.size_flatK, hd]; omega
        rw [if_pos hk, Array.getElem?_eq_getElem hkc, Option.map_some, if_pos (by rw [hd]; omega), Array.getElem?_eq_getElem hkf, Nat.sub_zero, getElem!_pos (Sort.flatK encP 2 d') k hkf]
        rfl
      · rw [if_neg hk, Array.getElem?_eq_none (by rw [Sort.size_flatK, hd]; omega)]
  · refine ⟨rfl, rfl, rfl, by rw [hheap]; simp, fun k hk hne => ?_⟩
    rw [hheap, Array.getElem?_append, if_pos (by simpa using hk), Array.getElem?_modify, if_neg (fun e => hne (by rw [e]))]

set_option maxHeartbeats 1000000 in
theorem isNaN_any (a : Int) (W : World) : Calls Tryd.prog 41 #[.int .i64 a] W fun e w' => e = .returned (.bool false) ∧ w' = W := by
  have h : (a != a) = false := by simp
  go_enter Tryd.func41, Tryd.ntmps41
  go_wp2
  go_ret
  simp
set_option maxHeartbeats 1000000 in
theorem compare_any (a b : Int) (W : World) : Calls Tryd.prog 25 #[.int .i64 a, .int .i64 b] W fun e w' => e = .returned (.int .i64 (cmpZ a b)) ∧ w' = W := by
  have HN := Lib.hid (fun (a : Int) (W : World) => isNaN_any a W)
  unfold cmpZ
  by_cases h1 : a < b
  · have d1 : decide (a < b) = true := decide_eq_true h1
    rw [if_pos h1]
    go_enter Tryd.func25, Tryd.ntmps25
    go_wp2_with (go_at_call 41; refine (HN.out _ _).mono ?_; rintro e w' ⟨rfl, rfl⟩)
    go_ret
    exact ⟨rfl, rfl⟩
  · have d1 : decide (a < b) = false := decide_eq_false h1
    rw [if_neg h1]
    by_cases h2 : b < a
    · have d2 : decide (b < a) = true := decide_eq_true h2
      rw [if_pos h2]
      go_enter Tryd.func25, Tryd.ntmps25
      go_wp2_with (go_at_call 41; refine (HN.out _ _).mono ?_; rintro e w' ⟨rfl, rfl⟩)
      go_ret
      exact ⟨rfl, rfl⟩
    · have d2 : decide (b < a) = false := decide_eq_false h2
      rw [if_neg h2]
      go_enter Tryd.func25, Tryd.ntmps25
      go_wp2_with (go_at_call 41; refine (HN.out _ _).mono ?_; rintro e w' ⟨rfl, rfl⟩)
      go_ret
      exact ⟨rfl, rfl⟩
set_option maxHeartbeats 1000000 in
theorem order_any (x y : Nat × Nat) (W : World) : Calls Tryd.prog 24 #[.agg #[.int .i64 x.1, .int .i64 x.2], .agg #[.int .i64 y.1, .int .i64 y.2]] W fun e w' => e = .returned (.int .i64 (cfP x y)) ∧ ∃ q os', w' = Sort.grow (W.drewN q) os' := by
  have HC := Lib.hid (fun (W : World) => compare_any x.1 y.1 W)
  rw [show cfP x y = cmpZ x.1 y.1 from rfl]
  generalize cmpZ x.1 y.1 = r at *
  go_enter Tryd.func24, Tryd.ntmps24
  go_wp2_with (go_at_call 25; refine (HC.out _).mono ?_; rintro e w' ⟨rfl, rfl⟩)
  go_ret
  exact ⟨rfl, 0, _, by rw [Sort.alloc_eq_grow, Sort.alloc_eq_grow, Sort.grow_grow]; rfl⟩
theorem order_lays (blk off size : Nat) (w : World) : CmpLays Tryd.prog 24 #[] encP 2 cfP blk off size w := fun _ _ _ _ x y => order_any x y _
theorem enters_order : ∀ args w, (callFunc 24 args).run Tryd.prog w = .ok (.enter 24 args) w := enters_of Tryd.func24 (by kernel_rfl) rfl

theorem perm_all {d d' : Array (Nat × Nat)} (h : Sort.PermIn 0 d.size d d') : d'.toList.Perm d.toList := by
  have h3 := h.2.2
  have e1 : d'.extract 0 d.size = d' := by rw [← h.1]; simp
  have e2 : d.extract 0 d.size = d := by simp
  rwa [e1, e2] at h3
theorem sorted_all {d' : Array (Nat × Nat)} (h : Sort.SortedIn (ltOf cfP) 0 d'.size d') : d'.toList.Pairwise fun p q => p.1 ≤ q.1 := by
  rw [List.pairwise_iff_getElem]
  intro i j hi hj hij
  rw [Array.length_toList] at hi hj
  have := h i j (Nat.zero_le _) hij hj
  rw [lt_cfP, getElem!_pos d' _ hj, getElem!_pos d' _ hi, decide_eq_false_iff_not] at this
  rw [Array.getElem_toList, Array.getElem_toList]
  omega

/-- The sort of pairs. -/
theorem sort_any (base : Nat) (v : Value) (n : Nat) (L : List (Nat × Nat)) (w : World) (h : w.ownsRow base 31 2 v n (cellsP L)) (hn : n ≤ 1099511627776) :
    Calls Tryd.prog 23 #[v, .func (.func 24) #[] #[]] w fun e w' => e = .returned (.tuple #[]) ∧ ∃ M : List (Nat × Nat), M.Perm L ∧ (M.Pairwise fun p q => p.1 ≤ q.1) ∧ w'.ownsRow base 31 2 v n (cellsP M) ∧ w.grownBy w' v.ownBlock := by
  have hl := h.1
  rw [cellsP_len] at hl
  have hcs := h.2
  rcases hcs with ⟨rfl, hn0⟩ | ⟨g, cap, cur, rfl, hB, hg, -⟩
  · subst hn0
    refine Calls.mono (AnyF.slices_SortFunc_none { Tryd.sortPairs with } none 0 (.func (.func 24) #[] #[]) w) ?_
    rintro e w' ⟨rfl, rfl⟩
    obtain rfl : L = [] := List.eq_nil_of_length_eq_zero (by omega)
    exact ⟨rfl, [], .nil, .nil, h, grown_refl _ _⟩
  · have hs : L.toArray.size = n := by simp; omega
    have hc := AnyQ.slices_SortFunc Tryd.sortPairs 2 Tryd.isAgg31 Tryd.sizeOf31 encP encP_len encP_one cfP swoP 24 #[] g 0 cap L.toArray w enters_order (order_lays g 0 _ w) (holds_own h) (Array.getElem?_eq_some_iff.1 hg).1 (by omega)
    rw [hs] at hc
    refine Calls.mono hc ?_
    rintro e w' ⟨rfl, d', m, os, hp, hso, rfl⟩
    have hd : d'.size = L.length := hp.1.trans (by simp)
    obtain ⟨h1, h2⟩ := own_sorted (m := m) (os := os) (d' := d') h hd
    rw [← hs] at hp hso
    refine ⟨rfl, d'.toList, perm_all hp, sorted_all (by rwa [hp.1]), h1, h2⟩
end Go.Proofs.YtapeebnbiappgaaDoor.Pb
