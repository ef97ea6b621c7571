/-
  Proved here: what parquetrylaw12.where returns for sequences no two of which have a place in common: of each place which one has it. It leaves what was in memory.
-/
import Derived.Test.YtehndhkcmccpmaaSqRows
import Derived.Test.YtehndhkcmccpmaaSqFold
import Derived.Test.YtehndhkcmccpmaaAddAt
import Derived.Maps.AppendAt
set_option linter.unusedVariables false
namespace Go.Proofs.Ytehndhkcmccpmaa.Sq
open Go Go.RowKit Go.Lib Go.Proofs.Ytehndhkcmccpmaa.Cl

def wl (n : Nat) (f : Nat → Int) : List Int := (List.range n).map f
theorem wl_len (n : Nat) (f : Nat → Int) : (wl n f).length = n := by simp [wl]
theorem wl_at {n : Nat} {f : Nat → Int} {p : Nat} (h : p < n) : (wl n f)[p]? = some (f p) := by simp [wl, h]
def updF (f : Nat → Int) (p : Nat) (x : Int) : Nat → Int := fun q => if q = p then x else f q
theorem wl_set {n : Nat} {f : Nat → Int} {p : Nat} (x : Int) (h : p < n) : (icl (wl n f)).set p (.int .i64 x) = icl (wl n (updF f p x)) := by
  apply List.ext_getElem?
  intro i
  simp only [icl, wl, List.getElem?_set, List.getElem?_map, List.length_map, List.length_range]
  unfold updF
  by_cases e : p = i
  · subst e
    simp [h]
  · rw [if_neg e]
    by_cases hi : i < n
    · have e2 : ¬ i = p := fun e' => e e'.symm
      simp [hi, e2]
    · simp [hi]
/-- Which one has a place, as far as so many have been gone through, and so many places of the next. -/
structure Wp (T : List S4) (i k : Nat) (f : Nat → Int) : Prop where
  has : ∀ (j : Nat) (s : S4) (p : Nat), T[j]? = some s → p ∈ s.p → (j < i ∨ (j = i ∧ p ∈ s.p.take k)) → f p = (j : Int)
  non : ∀ (p : Nat), f p = -1 ∨ ∃ (j : Nat) (s : S4), T[j]? = some s ∧ p ∈ s.p ∧ (j < i ∨ (j = i ∧ p ∈ s.p.take k)) ∧ f p = (j : Int)
theorem Wp.start (T : List S4) : Wp T 0 0 (fun _ => -1) := ⟨fun j s p _ _ h => by rcases h with h | ⟨_, h⟩ <;> simp at h, fun p => .inl rfl⟩
theorem Wp.next {T : List S4} {i : Nat} {s : S4} {f : Nat → Int} (h : Wp T i s.p.length f) (hs : T[i]? = some s) : Wp T (i + 1) 0 f := by
  refine ⟨fun j s' p h1 h2 h3 => ?_, fun p => ?_⟩
  · rcases h3 with h3 | ⟨_, h3⟩
    · by_cases e : j = i
      · subst e
        rw [hs] at h1
        injection h1 with h1
        subst h1
        exact h.has j s p hs h2 (.inr ⟨rfl, by rw [List.take_length]; exact h2⟩)
      · exact h.has j s' p h1 h2 (.inl (by omega))
    · simp at h3
  · rcases h.non p with h1 | ⟨j, s', h1, h2, h3, h4⟩
    · exact .inl h1
    · exact .inr ⟨j, s', h1, h2, .inl (by omega), h4⟩
theorem mem_take_succ {l : List Nat} {k : Nat} (h : k < l.length) {p : Nat} : p ∈ l.take (k + 1) ↔ p ∈ l.take k ∨ p = l[k] := by
  rw [List.take_succ_eq_append_getElem h, List.mem_append]
  simp
theorem Wp.step {T : List S4} {i k : Nat} {s : S4} {f : Nat → Int} (h : Wp T i k f) (hs : T[i]? = some s) (hk : k < s.p.length) (hu : ∀ (a b : Nat) (s s' : S4) (p : Nat), T[a]? = some s → T[b]? = some s' → p ∈ s.p → p ∈ s'.p → a = b) : Wp T i (k + 1) (updF f s.p[k] (i : Int)) := by
  refine ⟨fun j s' p h1 h2 h3 => ?_, fun p => ?_⟩
  · unfold updF
    by_cases e : p = s.p[k]
    · rw [if_pos e]
      have := hu j i s' s p h1 hs h2 (by rw [e]; exact List.getElem_mem hk)
      rw [this]
    · rw [if_neg e]
      rcases h3 with h3 | ⟨rfl, h3⟩
      · exact h.has j s' p h1 h2 (.inl h3)
      · rw [hs] at h1
        injection h1 with h1
        subst h1
        rcases (mem_take_succ hk).1 h3 with h4 | h4
        · exact h.has j s p hs h2 (.inr ⟨rfl, h4⟩)
        · exact absurd h4 e
  · unfold updF
    by_cases e : p = s.p[k]
    · rw [if_pos e]
      exact .inr ⟨i, s, hs, by rw [e]; exact List.getElem_mem hk, .inr ⟨rfl, (mem_take_succ hk).2 (.inr e)⟩, rfl⟩
    · rw [if_neg e]
      rcases h.non p with h1 | ⟨j, s', h1, h2, h3, h4⟩
      · exact .inl h1
      · refine .inr ⟨j, s', h1, h2, ?_, h4⟩
        rcases h3 with h3 | ⟨rfl, h3⟩
        · exact .inl h3
        · rw [hs] at h1
          injection h1 with h1
          subst h1
          exact .inr ⟨rfl, (mem_take_succ hk).2 (.inl h3)⟩
theorem Wp.free {T : List S4} {i k : Nat} {s : S4} {f : Nat → Int} (h : Wp T i k f) (hs : T[i]? = some s) (hk : k < s.p.length) (hu : ∀ (a b : Nat) (s s' : S4) (p : Nat), T[a]? = some s → T[b]? = some s' → p ∈ s.p → p ∈ s'.p → a = b) (hup : s.p.Pairwise (· < ·)) : f s.p[k] = -1 := by
  rcases h.non s.p[k] with h1 | ⟨j, s', h1, h2, h3, h4⟩
  · exact h1
  · have hj := hu j i s' s _ h1 hs h2 (List.getElem_mem hk)
    subst hj
    rw [hs] at h1
    injection h1 with h1
    subst h1
    rcases h3 with h3 | ⟨_, h3⟩
    · omega
    · obtain ⟨q, hq, e⟩ := List.getElem_of_mem h3
      rw [List.getElem_take] at e
      rw [List.length_take] at hq
      have := List.pairwise_iff_getElem.1 hup q k (by omega) hk (by omega)
      omega

theorem at_val2 {w : World} {A : Option Addr} {zs : List Int} (h : IntsAt w A zs) {k : Nat} {z : Int} (hz : zs[k]? = some z) : ∃ b off, A = some ⟨b, off, none⟩ ∧ w.cell? ⟨b, off + k, none⟩ = some (.int .i64 z) := by
  obtain ⟨hk, rfl⟩ := List.getElem?_eq_some_iff.1 hz
  exact h.at_ hk
theorem own_form2 {V : World} {B : Nat} {t : TypeId} {sz n : Nat} {u : Value} {xs : List Value} (h : V.ownsRow B t sz u n xs) (hn : 0 < n) : ∃ g c, u = .slice (some ⟨g, 0, none⟩) n c := by
  rcases h.2 with ⟨_, h0⟩ | ⟨g, cap, _, rfl, _⟩
  · omega
  · exact ⟨g, cap, rfl⟩
set_option maxHeartbeats 4000000 in
set_option maxRecDepth 100000 in
theorem where_any (A : Option Addr) (T : List S4) (m cp n : Nat) (w : World) (hm : T.length = m) (hR : SqAt w A T) (hn : n ≤ 1000000) (hml : m ≤ 1000000)
    (hu : ∀ (a b : Nat) (s s' : S4) (p : Nat), T[a]? = some s → T[b]? = some s' → p ∈ s.p → p ∈ s'.p → a = b) (hup : ∀ s ∈ T, s.p.Pairwise (· < ·)) (hlt : ∀ s ∈ T, ∀ p ∈ s.p, p < n) (hsl : ∀ s ∈ T, s.p.length ≤ n) :
    Calls Try.prog 20 #[.slice A m cp, .int .i64 n] w fun e w' => ∃ v f, e = .returned v ∧ w'.ownsRow w.heap.size 3 1 v n (icl (wl n f)) ∧ Wp T m 0 f ∧ Below w.heap.size w w' := by
  have HR := Lib.hid hR
  have HM := Lib.hid hm
  have HU := Lib.hid hu
  have HUP := Lib.hid hup
  have HLT := Lib.hid hlt
  have HSL := Lib.hid hsl
  clear hR hm hu hup hlt hsl
  go_enter Try.func20, Try.ntmps20
  go_wp2_with fail
  go_loopw [5, 6] (fun s5 s6 wr => ∃ k : Nat, s6 = .int .i64 k ∧ k ≤ n ∧ wr.ownsRow w.heap.size 3 1 s5 k (icl (wl k (fun _ => -1))) ∧ Below w.heap.size w wr) (fun _ s6 _ => n - (RowKit.intOf s6).toNat)
  case atStart => exact ⟨0, rfl, Nat.zero_le _, World.ownsRow_nil _ _ _ _, Below.refl _ _⟩
  case round =>
    obtain ⟨k, rfl, hk, ho, hb⟩ := hrel
    have HO := Lib.hid ho
    have HB := Lib.hid hb
    have hsz := hb.size
    clear ho hb
    by_cases hlt : k < n
    · go_wp2_with (at_builtin; refine wpList_one rfl _ _ rfl w.heap.size _ k (wl k (fun _ => -1)) (-1) rfl ⟨wr.heap.size, 0, none⟩ rfl (HO.out.alloc _) (cell_of_row _ _ 0 _ _ _ (heap_alloc_last _ _)) rfl (by omega) (by simp; omega) ?_)
      intro v' w1 ho' hg' hw'
      have HO' := Lib.hid (show w1.ownsRow w.heap.size 3 1 v' (k + 1) (icl (wl (k + 1) (fun _ => -1))) from by
        have e : wl (k + 1) (fun _ => (-1 : Int)) = wl k (fun _ => -1) ++ [-1] := by simp [wl, List.range_succ]
        rw [e]
        exact ho')
      have HB' := Lib.hid ((HB.out.alloc hsz _).grown hg' (by simp; omega) (fun j hj => (HO.out.lt j hj).1))
      clear ho' hg' hw'
      go_wp2_with fail
      go_roundw
      case rel => exact ⟨k + 1, by go_num, by omega, HO'.out, HB'.out⟩
      case measure => simp [RowKit.intOf]; omega
    · obtain rfl : k = n := by omega
      go_wp2_with fail
      go_loopw [7] (fun s7 V => ∃ (i : Nat) (f : Nat → Int), s7 = .int .i64 i ∧ i ≤ m ∧ V.ownsRow w.heap.size 3 1 u5 k (icl (wl k f)) ∧ Wp T i 0 f ∧ Below w.heap.size w V) (fun s7 _ => m - (RowKit.intOf s7).toNat)
      case atStart => exact ⟨0, _, rfl, Nat.zero_le _, HO.out, Wp.start T, HB.out⟩
      case round =>
        obtain ⟨i, f, rfl, hi, ho, hwp, hb⟩ := hrel
        have HO1 := Lib.hid ho
        have HB1 := Lib.hid hb
        have HWP := Lib.hid hwp
        clear ho hb hwp
        by_cases hlt2 : i < m
        · have hiT : i < T.length := by rw [HM.out]; exact hlt2
          have hs : T[i]? = some T[i] := List.getElem?_eq_getElem hiT
          obtain ⟨b, off, A', c', rfl, -, -, -, p3, pi⟩ := HR.out.at_ hiT
          have hups := HUP.out T[i] (List.getElem_mem hiT)
          have hlts := HLT.out T[i] (List.getElem_mem hiT)
          have hsls := HSL.out T[i] (List.getElem_mem hiT)
          generalize T[i] = s at *
          obtain ⟨sl, hsl⟩ : ∃ sl, s.p.length = sl := ⟨_, rfl⟩
          rw [hsl] at p3 hsls
          have hblt := World.block_lt_of_cell? w _ p3
          have HP := Lib.hid (fun V (h : Below w.heap.size w V) => (And.intro ((h.cell (p := ⟨b, off + i * 4 + 3, none⟩) hblt).trans p3) (pi.below h)))
          have HS := Lib.hid hs
          have HSl := Lib.hid hsl
          have hii : (0 : Int) ≤ (i : Int) := by omega
          have hii2 : (i : Int) < (m : Int) := by omega
          have HLS := Lib.hid hlts
          have HUS := Lib.hid hups
          clear p3 pi hs hsl hlts hups
          go_wp2_with fail
          go_loopw [8] (fun s8 V => ∃ (q : Nat) (f' : Nat → Int), s8 = .int .i64 q ∧ q ≤ sl ∧ V.ownsRow w.heap.size 3 1 u5 k (icl (wl k f')) ∧ Wp T i q f' ∧ Below w.heap.size w V) (fun s8 _ => sl - (RowKit.intOf s8).toNat)
          case atStart => exact ⟨0, f, rfl, Nat.zero_le _, HO1.out, HWP.out, HB1.out⟩
          case round =>
            obtain ⟨q, f', rfl, hq, ho, hwp, hb⟩ := hrel
            obtain ⟨p3, pi⟩ := HP.out _ hb
            have HO2 := Lib.hid ho
            have HB2 := Lib.hid hb
            have HW2 := Lib.hid hwp
            clear ho hb hwp
            by_cases hlt3 : q < sl
            · have hqs : q < s.p.length := by rw [HSl.out]; exact hlt3
              have hfree := HW2.out.free HS.out hqs HU.out HUS.out
              have hpk := HLS.out _ (List.getElem_mem hqs)
              obtain ⟨b2, o2, rfl, hc2⟩ := at_val2 pi (ns_at hqs)
              have HST := Lib.hid (HW2.out.step HS.out hqs HU.out)
              have hprev : ∀ q', q = q' + 1 → ∃ y : Nat, wr.cell? ⟨b2, o2 + q', none⟩ = some (.int .i64 y) ∧ y < s.p[q] := fun q' e => by
                have hq' : q' < s.p.length := by omega
                obtain ⟨b3, o3, e3, hc3⟩ := at_val2 pi (ns_at hq')
                injection e3 with e3
                injection e3 with e4 e5
                subst e4
                subst e5
                exact ⟨_, hc3, List.pairwise_iff_getElem.1 HUS.out q' q hq' hqs (by omega)⟩
              have hpq : ∃ pq, s.p[q] = pq := ⟨_, rfl⟩
              obtain ⟨pq, hpq⟩ := hpq
              rw [hpq] at hfree hpk hc2 HST hprev
              obtain ⟨g, cap, rfl⟩ := own_form2 HO2.out (by omega)
              have hcell : wr.cell? ⟨g, pq, none⟩ = some (.int .i64 (-1)) := by
                rw [HO2.out.cellAt pq (by omega)]
                unfold icl
                rw [List.getElem?_map, wl_at hpk, hfree]
                rfl
              have hfrz := HO2.out.frozenAt pq
              obtain ⟨hst1, hst2⟩ := HO2.out.stored pq (.int .i64 (i : Int))
              rw [wl_set (i : Int) hpk] at hst1
              have HST1 := Lib.hid hst1
              have hgw := (HO2.out.lt g rfl).1
              have HBS := Lib.hid (HB2.out.setCell (p := ⟨g, pq, none⟩) hgw (.int .i64 (i : Int)))
              have k1 : decide ((pq : Int) < 0) = false := by simp
              have k2 : decide ((k : Int) ≤ (pq : Int)) = false := by simp; omega
              have k3 : (0 : Int) ≤ (pq : Int) := by omega
              have k4 : (pq : Int) < (k : Int) := by omega
              have hqi : (0 : Int) ≤ (q : Int) := by omega
              have hqi2 : (q : Int) < (sl : Int) := by omega
              clear hfree hst1 hst2 hpq
              cases q with
              | zero =>
                clear hprev
                rw [Nat.add_zero] at hc2
                go_wp2_with fail
                all_goals go_roundw
                case rel => exact ⟨1, _, by simp, by omega, HST1.out, HST.out, HBS.out⟩
                case measure => simp [RowKit.intOf]; omega
              | succ q =>
                obtain ⟨y, hy1, hy2⟩ := hprev q rfl
                have k5 : decide ((pq : Int) ≤ (y : Int)) = false := by simp; omega
                have k6 : decide ((0 : Int) < (q : Int) + 1) = true := by (simp; try omega)
                have hw1 : IntKind.i64.wrap ((q : Int) + 1 - 1) = (q : Int) := by rw [IntKind.wrap_i64]; omega
                have hw2 : IntKind.i64.wrap (q : Int) = (q : Int) := by rw [IntKind.wrap_i64]; omega
                have hqj : (0 : Int) ≤ (q : Int) := by omega
                have hqj2 : (q : Int) < (sl : Int) := by omega
                clear hprev
                go_wp2_with fail
                all_goals go_roundw
                case rel => exact ⟨q + 1 + 1, _, by simp, by omega, HST1.out, HST.out, HBS.out⟩
                case measure => simp [RowKit.intOf]; omega
            · obtain rfl : q = sl := by omega
              have HN2 := Lib.hid (show Wp T (i + 1) 0 f' from Wp.next (by rw [HSl.out]; exact HW2.out) HS.out)
              go_wp2_with fail
              go_roundw
              case rel => exact ⟨i + 1, f', by simp, by omega, HO2.out, HN2.out, HB2.out⟩
              case measure => simp [RowKit.intOf]; omega
        · obtain rfl : i = m := by omega
          go_wp2_with fail
          go_ret
          exact ⟨_, f, rfl, HO1.out, HWP.out, HB1.out⟩
end Go.Proofs.Ytehndhkcmccpmaa.Sq
