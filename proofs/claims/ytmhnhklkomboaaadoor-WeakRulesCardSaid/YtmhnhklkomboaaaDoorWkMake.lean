/-
  Proved here: what weak's numbers, become and between return: function values that, called, make of what the row holds what the plain rules say; and that the method values do so.
-/
import Derived.Test.YtmhnhklkomboaaaDoorWkMarks
import Derived.Test.YtmhnhklkomboaaaDoorWkNums
import Derived.Test.YtmhnhklkomboaaaDoorWkBec
import Derived.Test.YtmhnhklkomboaaaDoorWkBtw
import Derived.Test.YtmhnhklkomboaaaDoorWkSigns
set_option linter.unusedVariables false
namespace Go.Proofs.YtmhnhklkomboaaaDoor.Wk
open Go Go.RowKit Go.Lib Go.Proofs.YtmhnhklkomboaaaDoor.Cl

theorem older (w : World) (o : Obj) {p : Addr} {v : Value} (h : w.cell? p = some v) : (w.alloc o).cell? p = some v :=
  ((below_made w o).cell (World.block_lt_of_cell? w _ h)).trans h
theorem newer (w : World) (cs : Array Value) (t : TypeId) (B k : Nat) (v : Value) (hB : w.heap.size = B) (h : cs[k]? = some v) : (w.alloc (.cells cs t)).cell? ⟨B, k, none⟩ = some v := by
  subst hB
  simp [h]
/-- The row's block lies below a number. -/
def Under (A : Option Addr) (n c : Nat) (k : Nat) : Prop := ∀ b, (Value.slice A n c).ownBlock = some b → b < k
theorem Under.ne {A : Option Addr} {n c k b : Nat} (h : Under A n c k) (hb : k ≤ b) : some b ≠ (Value.slice A n c).ownBlock := fun e => by have := h _ e.symm; omega
theorem Under.mono {A : Option Addr} {n c k m : Nat} (h : Under A n c k) (hk : k ≤ m) : Under A n c m := fun b hb => Nat.lt_of_lt_of_le (h b hb) hk

theorem marks_rule (base : Nat) (A : Option Addr) (n c : Nat) (s : Int) (hn : n ≤ 1099511627776) (w : World) :
    RuleOk base A n c (.func (.func 17) #[.agg #[.slice A n c, .int .i64 s]] #[]) (marks s) w :=
  ⟨_, _, _, rfl, fun _ _ => by kernel_rfl, fun W L _ hL => marks_any base A n c s L W hL hn⟩
theorem sbeh_rule (base : Nat) (A : Option Addr) (n c : Nat) (s : Int) (hn : n ≤ 1099511627776) (w : World) :
    RuleOk base A n c (.func (.func 21) #[.agg #[.slice A n c, .int .i64 s]] #[]) (sbeh (-1)) w :=
  ⟨_, _, _, rfl, fun _ _ => by kernel_rfl, fun W L _ hL => sbeh_any base A n c s L W hL hn⟩
theorem sah_rule (base : Nat) (A : Option Addr) (n c : Nat) (s : Int) (hn : n ≤ 1099511627776) (w : World) :
    RuleOk base A n c (.func (.func 22) #[.agg #[.slice A n c, .int .i64 s]] #[]) sah w :=
  ⟨_, _, _, rfl, fun _ _ => by kernel_rfl, fun W L _ hL => sah_any base A n c s L W hL hn⟩

set_option maxHeartbeats 1000000 in
set_option maxRecDepth 100000 in
theorem numbers_any (base : Nat) (A : Option Addr) (n c : Nat) (s x o : Int) (w : World) (hu : Under A n c w.heap.size) (hn : n ≤ 1099511627776) :
    Calls Tryd.prog 18 #[.agg #[.slice A n c, .int .i64 s], .int .i64 x, .int .i64 o] w fun e w' => ∃ fv, e = .returned fv ∧ RuleOk base A n c fv (nums x o s) w' ∧ Below w.heap.size w w' := by
  have HU := Lib.hid hu
  clear hu
  go_enter Tryd.func18, Tryd.ntmps18
  go_wp2
  go_ret
  refine ⟨_, rfl, ⟨_, _, _, rfl, fun _ _ => by kernel_rfl, fun W L hW hL => ?_⟩, ?_⟩
  · simp only [List.append_toArray, List.nil_append]
    refine nums_run base A n c s x o w.heap.size (w.heap.size + 1) (w.heap.size + 2) L W hL hn ?_ ?_ ?_ ?_ (HU.out.ne (by omega)) (HU.out.ne (by omega)) (HU.out.ne (by omega))
    · exact hW.cell (older _ _ (older _ _ (newer w _ _ _ 0 _ rfl rfl))) (HU.out.ne (Nat.le_refl _))
    · exact hW.cell (older _ _ (older _ _ (newer w _ _ _ 1 _ rfl rfl))) (HU.out.ne (Nat.le_refl _))
    · exact hW.cell (older _ _ (newer _ _ _ _ 0 _ (by simp) rfl)) (HU.out.ne (Nat.le_succ _))
    · exact hW.cell (newer _ _ _ _ 0 _ (by simp) rfl) (HU.out.ne (by show w.heap.size ≤ w.heap.size + 2; omega))
  · exact ((below_made w _).alloc (by simp) _).alloc (by simp; omega) _

set_option maxHeartbeats 1000000 in
set_option maxRecDepth 100000 in
theorem become_any (base : Nat) (A : Option Addr) (n c : Nat) (s o : Int) (p m : Nat) (ps : List Int) (w : World) (hu : Under A n c w.heap.size) (hn : n ≤ 1099511627776) (hp : IntsAt w (some ⟨p, 0, none⟩) ps) (hm : ps.length = m) (hm2 : m ≤ 1000) (hnp : some p ≠ (Value.slice A n c).ownBlock) :
    Calls Tryd.prog 19 #[.agg #[.slice A n c, .int .i64 s], .int .i64 o, .slice (some ⟨p, 0, none⟩) m m] w fun e w' => ∃ fv, e = .returned fv ∧ RuleOk base A n c fv (bec o ps) w' ∧ Below w.heap.size w w' := by
  have HU := Lib.hid hu
  have HP := Lib.hid hp
  have HNP := Lib.hid hnp
  clear hu hp hnp
  go_enter Tryd.func19, Tryd.ntmps19
  go_wp2
  go_ret
  have hB : Below w.heap.size w (((w.alloc (.cells #[.slice A n c, .int .i64 s] 32)).alloc (.cells #[.int .i64 o] 3)).alloc (.cells #[.slice (some ⟨p, 0, none⟩) m m] 22)) := ((below_made w _).alloc (by simp) _).alloc (by simp; omega) _
  refine ⟨_, rfl, ⟨_, _, _, rfl, fun _ _ => by kernel_rfl, fun W L hW hL => ?_⟩, hB⟩
  simp only [List.append_toArray, List.nil_append]
  have hpW : IntsAt W (some ⟨p, 0, none⟩) ps := ((show Row base A n c _ L W from ⟨hL, hW⟩).ints (HP.out.below hB) HNP.out)
  refine bec_run base A n c s o w.heap.size (w.heap.size + 2) (w.heap.size + 1) p m ps L W hL hn ?_ ?_ ?_ hpW hm hm2 (HU.out.ne (by omega)) (HU.out.ne (by omega)) (HU.out.ne (by omega)) HNP.out
  · exact hW.cell (older _ _ (older _ _ (newer w _ _ _ 0 _ rfl rfl))) (HU.out.ne (Nat.le_refl _))
  · exact hW.cell (newer _ _ _ _ 0 _ (by simp) rfl) (HU.out.ne (by show w.heap.size ≤ w.heap.size + 2; omega))
  · exact hW.cell (older _ _ (newer _ _ _ _ 0 _ (by simp) rfl)) (HU.out.ne (Nat.le_succ _))

set_option maxHeartbeats 1000000 in
set_option maxRecDepth 100000 in
theorem between_any (base : Nat) (A : Option Addr) (n c : Nat) (s o : Int) (ho : o ≠ -1) (p m : Nat) (ps : List Int) (w : World) (hu : Under A n c w.heap.size) (hn : n ≤ 1099511627776) (hp : IntsAt w (some ⟨p, 0, none⟩) ps) (hm : ps.length = m) (hm2 : m ≤ 1000) (hnp : some p ≠ (Value.slice A n c).ownBlock) :
    Calls Tryd.prog 20 #[.agg #[.slice A n c, .int .i64 s], .int .i64 o, .slice (some ⟨p, 0, none⟩) m m] w fun e w' => ∃ fv, e = .returned fv ∧ RuleOk base A n c fv (btw o ps (-1)) w' ∧ Below w.heap.size w w' := by
  have HU := Lib.hid hu
  have HP := Lib.hid hp
  have HNP := Lib.hid hnp
  have HO := Lib.hid ho
  clear hu hp hnp ho
  go_enter Tryd.func20, Tryd.ntmps20
  go_wp2
  go_ret
  have hB : Below w.heap.size w (((w.alloc (.cells #[.slice A n c, .int .i64 s] 32)).alloc (.cells #[.int .i64 o] 3)).alloc (.cells #[.slice (some ⟨p, 0, none⟩) m m] 22)) := ((below_made w _).alloc (by simp) _).alloc (by simp; omega) _
  refine ⟨_, rfl, ⟨_, _, _, rfl, fun _ _ => by kernel_rfl, fun W L hW hL => ?_⟩, hB⟩
  simp only [List.append_toArray, List.nil_append]
  have hpW : IntsAt W (some ⟨p, 0, none⟩) ps := ((show Row base A n c _ L W from ⟨hL, hW⟩).ints (HP.out.below hB) HNP.out)
  refine btw_run base A n c s o HO.out w.heap.size (w.heap.size + 1) (w.heap.size + 2) p m ps L W hL hn ?_ ?_ ?_ hpW hm hm2 (HU.out.ne (by omega)) (HU.out.ne (by omega)) (HU.out.ne (by omega)) HNP.out
  · exact hW.cell (older _ _ (older _ _ (newer w _ _ _ 0 _ rfl rfl))) (HU.out.ne (Nat.le_refl _))
  · exact hW.cell (older _ _ (newer _ _ _ _ 0 _ (by simp) rfl)) (HU.out.ne (Nat.le_succ _))
  · exact hW.cell (newer _ _ _ _ 0 _ (by simp) rfl) (HU.out.ne (by show w.heap.size ≤ w.heap.size + 2; omega))
end Go.Proofs.YtmhnhklkomboaaaDoor.Wk
