/-
  Proved here: what pairs' sequence.become makes of the classes that it is handed: the bracket, and the marks right behind it, are set; nothing else of memory changes.
-/
import Derived.Test.YtapeebnbiappgaaDoorPbSet
import Derived.Test.YtapeebnbiappgaaDoorPbOut
import Derived.Test.YtapeebnbiappgaaDoorWkRow
set_option linter.unusedVariables false
namespace Go.Proofs.YtapeebnbiappgaaDoor.Pb
open Go Go.RowKit Go.Lib Go.Shelf Go.Proofs.YtapeebnbiappgaaDoor.Cl Go.Proofs.YtapeebnbiappgaaDoor.Pr Go.Proofs.YtapeebnbiappgaaDoor.Wk

theorem row_idx {bs : Nat} {A : Option Addr} {n c : Nat} {w wx : World} {L : List Int} (h : Row bs A n c w L wx) {k : Nat} (hk : k < n) :
    ∃ g, A = some ⟨g, 0, none⟩ ∧ wx.frozen? ⟨g, k, none⟩ = false ∧ n ≤ c ∧ (∃ x, wx.cell? ⟨g, k, none⟩ = some (.int .i64 x) ∧ L[k]? = some x) ∧ ∀ z : Int, Row bs A n c w (L.set k z) (wx.setCell ⟨g, k, none⟩ (.int .i64 z)) := by
  have hkl : k < L.length := by rw [h.len]; exact hk
  obtain ⟨g, hA, hc, hf, -, hnc, hput⟩ := h.at_ (d := L.take k) (r := L.drop (k + 1)) (x := L[k]) (k := k) (by rw [← List.drop_eq_getElem_cons hkl, List.take_append_drop]) (by rw [List.length_take]; omega)
  refine ⟨g, hA, hf, hnc, ⟨_, hc, List.getElem?_eq_getElem hkl⟩, fun z => ?_⟩
  rw [List.set_eq_take_append_cons_drop, if_pos hkl]
  exact hput z
theorem row_of {bs : Nat} {A : Option Addr} {n c : Nat} {w w1 wx : World} {L : List Int} (hb : Below w.heap.size w w1) (h : Row bs A n c w1 L wx) : Row bs A n c w L wx := ⟨h.own, grown_trans (grown_below _ hb) h.gr⟩

set_option maxHeartbeats 2000000 in
set_option maxRecDepth 100000 in
theorem become_any (bs : Nat) (A A2 : Option Addr) (L own : List Int) (n c c2 a : Nat) (x s d : Int) (w : World) (hrow : w.ownsRow bs 3 1 (.slice A n c) n (icl L)) (hn : n ≤ 1099511627776) (hown : IntsAt w A2 own) (hol : own.length = n) (hne : ∀ p q, A2 = some ⟨p, q, none⟩ → some p ≠ (Value.slice A n c).ownBlock) (ha : a < n) :
    Calls Tryd.prog 31 #[.agg #[.slice A n c, .slice A2 n c2, .int .i64 s, .int .i64 d], .int .i64 a, .int .i64 x] w fun e w' => e = .returned (.tuple #[]) ∧ Row bs A n c w (setOne own a x L) w' := by
  obtain ⟨p, q, rfl, -⟩ := hown.at_ (k := 0) (by omega)
  have hb1 := below_made w (.cells #[.slice A n c, .slice (some ⟨p, q, none⟩) n c2, .int .i64 s, .int .i64 d] 47)
  have hx1 := heap_alloc_last w (.cells #[.slice A n c, .slice (some ⟨p, q, none⟩) n c2, .int .i64 s, .int .i64 d] 47)
  have hr1 := (Row.start hrow).alloc (.cells #[.slice A n c, .slice (some ⟨p, q, none⟩) n c2, .int .i64 s, .int .i64 d] 47)
  have hr2 : Row bs A n c _ L _ := Row.start hr1.own
  have hLl := hr1.len
  have ho1 := hown.below hb1
  have hnb : some w.heap.size ≠ (Value.slice A n c).ownBlock := fun e => by
    have := (hrow.lt w.heap.size (by rw [e])).2
    omega
  have hnp := hne p q rfl
  clear hown hne hr1 hrow
  go_enter Tryd.func31, Tryd.ntmps31
  have HB1 := Lib.hid hb1
  obtain ⟨w1, hw1⟩ : ∃ w1, w.alloc (.cells #[.slice A n c, .slice (some ⟨p, q, none⟩) n c2, .int .i64 s, .int .i64 d] 47) = w1 := ⟨_, rfl⟩
  rw [hw1] at hx1 hr2 ho1 hb1 HB1
  obtain ⟨g, rfl, hfr, hnc, ⟨y, hcy, -⟩, hput⟩ := row_idx hr2 ha
  have HF := Lib.hid (fun (V : World) (M : List Int) (h : Row bs (some ⟨g, 0, none⟩) n c w1 M V) => show V.cell? ⟨w.heap.size, 0, none⟩ = some (.slice (some ⟨g, 0, none⟩) n c) ∧ V.cell? ⟨w.heap.size, 1, none⟩ = some (.slice (some ⟨p, q, none⟩) n c2) from
    ⟨h.cell (cell_of_row w1 w.heap.size 0 _ _ _ hx1) hnb, h.cell (cell_of_row w1 w.heap.size 1 _ _ _ hx1) hnb⟩)
  have HO := Lib.hid (fun (V : World) (M : List Int) (h : Row bs (some ⟨g, 0, none⟩) n c w1 M V) => h.ints ho1 hnp)
  obtain ⟨f0, f1⟩ := HF.out w1 L hr2
  have HP := Lib.hid (hput x)
  have HLL := Lib.hid hLl
  have HOL := Lib.hid hol
  have hpos : (0 : Int) ≤ (a : Int) := by omega
  have hlt : (a : Int) < (n : Int) := by omega
  have e1 : IntKind.i64.wrap ((a : Int) + 1) = (a : Int) + 1 := IntWalk.i64_in _ (by omega)
  clear hput hr2 ho1 hx1 hnp hnb hb1 hLl hol
  have HS1 := Lib.hid (setRun_first a x L)
  go_wp2_with fail
  clear f0 f1 hfr hcy
  rw [← HS1.out] at HP
  go_loopw [1] (fun s1 wy => ∃ t : Nat, a < t ∧ t ≤ n ∧ s1 = .int .i64 t ∧ Row bs (some ⟨g, 0, none⟩) n c w1 (setRun a t x L) wy ∧ ∀ i, a < i → i < t → own[i]? = some 8) (fun s1 _ => n - (RowKit.intOf s1).toNat)
  case atStart => exact ⟨a + 1, by omega, by omega, by go_num, HP.out, fun i h1 h2 => by omega⟩
  case round =>
    obtain ⟨t, hat, htn, rfl, hr, hm⟩ := hrel
    have HR := Lib.hid hr
    have HM := Lib.hid hm
    obtain ⟨f0, f1⟩ := HF.out wr _ hr
    have ht0 : (0 : Int) ≤ (t : Int) := by omega
    have e2 : IntKind.i64.wrap ((t : Int) + 1) = (t : Int) + 1 := IntWalk.i64_in _ (by omega)
    clear hm
    by_cases htl : t < n
    · have hto : t < own.length := by rw [HOL.out]; exact htl
      obtain ⟨p', q', e, hcz⟩ := (HO.out wr _ hr).at_ hto
      obtain ⟨rfl, rfl⟩ : p = p' ∧ q = q' := by injection e with e; injection e with e1 e2; exact ⟨e1, e2⟩
      have htl' : (t : Int) < (n : Int) := by omega
      have hdl : decide ((t : Int) < (n : Int)) = true := decide_eq_true htl'
      have HZ := Lib.hid (List.getElem?_eq_getElem hto)
      generalize own[t] = z at *
      by_cases h8 : z = 8
      · subst h8
        obtain ⟨g', eg, hfr, -, ⟨y, hcy, -⟩, hput⟩ := row_idx hr htl
        obtain rfl : g = g' := by injection eg with e; injection e
        have HP := Lib.hid (hput x)
        have HS := Lib.hid (setRun_step (Nat.le_of_lt hat) x L)
        rw [← HS.out] at HP
        clear hput hr hto htl eg e
        go_wp2_with fail
        go_roundw
        case rel => exact ⟨t + 1, by omega, by omega, by go_num, HP.out, fun i h1 h2 => by
          by_cases e : i = t
          · rw [e]; exact HZ.out
          · exact HM.out i h1 (by omega)⟩
        case measure => simp [RowKit.intOf]; omega
      · have hz8 : (z == 8) = false := by simpa using h8
        have HE := Lib.hid (setRun_end x (by rw [HLL.out, HOL.out]) hat HM.out (.inr ⟨z, HZ.out, h8⟩))
        clear hr hto htl e h8
        go_wp2_with fail
        go_end0
        rw [← HE.out]
        exact ⟨rfl, row_of HB1.out HR.out⟩
    · obtain rfl : t = n := by omega
      have HE := Lib.hid (setRun_end x (by rw [HLL.out, HOL.out]) hat HM.out (.inl (by rw [HOL.out]; exact Nat.le_refl _)))
      have hdl : decide ((t : Int) < (t : Int)) = false := decide_eq_false (by omega)
      clear hr htl
      go_wp2_with fail
      go_end0
      rw [← HE.out]
      exact ⟨rfl, row_of HB1.out HR.out⟩
end Go.Proofs.YtapeebnbiappgaaDoor.Pb
