/-
  Proved here: what pairs' stack.down gives, from the top down: each place with how many stand below it, until a round wants no more. It leaves what was in memory.
-/
import Derived.Test.YtapeebnbiappgaaDoorStopsKit
import Derived.Test.YtapeebnbiappgaaDoorClInts
import Derived.IntWalk
import Derived.Lib.Hide
set_option linter.unusedVariables false
namespace Go.Proofs.YtapeebnbiappgaaDoor.Pb
open Go Go.RowKit Go.Lib Go.Proofs.YtapeebnbiappgaaDoor.Cl Go.Shelf
attribute [local go_sem] Oper.semAt_some

/-- From the top down, those below a height. -/
def downFrom (zs : List Int) : Nat → List (Nat × Int)
  | 0 => []
  | k + 1 => (k, zs.getD k 0) :: downFrom zs k
def downL (zs : List Int) : List (Nat × Int) := downFrom zs zs.length

set_option maxHeartbeats 2000000 in
set_option maxRecDepth 100000 in
theorem down_stops (n : Nat) (h1 : 1 ≤ n) (A : Option Addr) (N cp : Nat) (zs : List Int) (w0 w : World) (hl : zs.length = N) (hR : IntsAt w0 A zs) (hN : N ≤ 1099511627776) (hw : Below w0.heap.size w0 w) :
    Stops n Tryd.prog 22 #[.slice A N cp] (fun x : Nat × Int => #[Value.int .i64 x.1, Value.int .i64 x.2]) w0.heap.size (downL zs) w := by
  intro l J Jx W hbW hJ hY h0
  have HY := Lib.hid hY
  have HR := Lib.hid hR
  have HL := Lib.hid hl
  have HW := Lib.hid (hw.trans (hbW.mono hw.size))
  have H0 := Lib.hid h0
  have e0 : IntKind.i64.wrap ((N : Int) - 1) = (N : Int) - 1 := IntWalk.i64_in _ (by omega)
  clear hY hR hJ hl hw hbW h0
  refine callsIn_of_wp Tryd.func22 rfl trivial ?_ rfl
  simp only [Tryd.ntmps22, List.size_toArray, List.length_cons, List.length_nil, Nat.reduceAdd, Nat.reduceSub, Array.replicate_succ, Array.replicate_zero, List.push_toArray, List.append_toArray, List.nil_append, List.cons_append]
  gi_wp2
  gi_loopw [4] (fun s4 wr => ∃ (k : Nat) (pre : List (Nat × Int)), k ≤ N ∧ s4 = .int .i64 ((k : Int) - 1) ∧ downL zs = pre ++ downFrom zs k ∧ J pre wr ∧ Below w0.heap.size w0 wr) (fun s4 _ => (intOf s4 + 1).toNat)
  case atStart => exact ⟨N, [], Nat.le_refl _, rfl, by rw [← HL.out]; rfl, H0.out, HW.out⟩
  case round =>
    obtain ⟨k, pre, hk, rfl, heq, hJk, hbk⟩ := hrel
    have HB := Lib.hid hbk
    have HK := Lib.hid hJk
    have HE := Lib.hid heq
    clear hbk hJk heq
    cases k with
    | zero =>
      gi_wp2
      go_end0
      refine ⟨⟨_, rfl⟩, .inl ?_⟩
      have h := HE.out
      rw [downFrom, List.append_nil] at h
      rw [h]
      exact HK.out
    | succ k =>
      have hkz : k < zs.length := by rw [HL.out]; omega
      obtain ⟨b, off, hA, hc⟩ := (HR.out.below HB.out).at_ hkz
      subst hA
      have hg : zs.getD k 0 = zs[k] := by simp [List.getD, List.getElem?_eq_getElem hkz]
      have HEQ := Lib.hid (show downL zs = (pre ++ [(k, zs[k])]) ++ downFrom zs k from by rw [HE.out, downFrom, hg]; simp)
      generalize zs[k] = x at *
      have hpre : pre ++ [(k, x)] <+: downL zs := ⟨downFrom zs k, HEQ.out.symm⟩
      obtain ⟨fn, tmps, assign, body, hy, hRn⟩ := HY.out _ (k, x) wr HK.out hpre
      dsimp only at hy
      have e1 : (((k + 1 : Nat) : Int) - 1) = (k : Int) := by omega
      have hx0 : (0 : Int) ≤ (k : Int) := by omega
      have hx1 : (k : Int) < (N : Int) := by omega
      have e2 : IntKind.i64.wrap ((k : Int) - 1) = (k : Int) - 1 := IntWalk.i64_in _ (by omega)
      rw [e1]
      clear hg hkz hpre e1
      gi_wp2
      refine hRn.mono ?_
      rintro e W3 (⟨rfl, hJ3, hk3⟩ | ⟨rfl, hJx3⟩)
      · have HJ3 := Lib.hid hJ3
        have HK3 := Lib.hid hk3
        clear hJ3 hk3
        gi_wp2
        go_roundw
        case rel => exact ⟨k, pre ++ [(k, x)], by omega, rfl, HEQ.out, HJ3.out, HB.out.trans HK3.out⟩
        case measure => simp [intOf]
      · have HJ3 := Lib.hid hJx3
        clear hJx3
        gi_wp2
        refine bodyPost_ret (results_none rfl _ _ _) rfl ?_
        exact ⟨⟨_, rfl⟩, .inr ⟨_, HJ3.out⟩⟩
end Go.Proofs.YtapeebnbiappgaaDoor.Pb
