/-
  Proved here: what seqs' kept gives, one place behind the other: the kept places. It leaves what was in memory.
-/
import Derived.Test.YtehndhkcmccpmaaRangeKit
import Derived.Test.YtehndhkcmccpmaaSqSmall
set_option linter.unusedVariables false
namespace Go.Proofs.Ytehndhkcmccpmaa.Sq
open Go Go.RowKit Go.Lib Go.Proofs.Ytehndhkcmccpmaa.Cl Go.Shelf
attribute [local go_sem] Oper.semAt_some

theorem kf_prefix (z : List Int) (i : Nat) : ∀ (d : Nat), kf z 0 i <+: kf z 0 (i + d)
  | 0 => List.prefix_rfl
  | d + 1 => by
    refine (kf_prefix z i d).trans ?_
    rw [show i + (d + 1) = (i + d) + 1 from by omega, kf_step (Nat.zero_le _)]
    exact List.prefix_append _ _

set_option maxHeartbeats 2000000 in
set_option maxRecDepth 100000 in
theorem kept_gives (n : Nat) (h1 : 1 ≤ n) (lv : Int) (A : Option Addr) (N cp : Nat) (z : List Int) (b3 : Option Addr) (n3 c3 : Nat) (w0 w : World) (hl : z.length = N) (hR : IntsAt w0 A z) (hN : N ≤ 1099511627776) (hw : Below w0.heap.size w0 w) :
    Gives n Try.prog 52 #[.agg #[.int .i64 lv, .slice A N cp, .slice b3 n3 c3]] (fun i : Nat => #[Value.int .i64 i]) w0.heap.size (kept z) w := by
  intro l J W hbW hJ hY h0
  have HY := Lib.hid hY
  have HR := Lib.hid hR
  have HJ := Lib.hid hJ
  have HL := Lib.hid hl
  have HW := Lib.hid (hw.trans (hbW.mono hw.size))
  have H0 := Lib.hid h0
  clear hY hR hJ hl hw hbW h0
  refine callsIn_of_wp Try.func52 rfl trivial ?_ rfl
  simp only [Try.ntmps52, List.size_toArray, List.length_cons, List.length_nil, Nat.reduceAdd, Nat.reduceSub, Array.replicate_succ, Array.replicate_zero, List.push_toArray, List.append_toArray, List.nil_append, List.cons_append]
  gi_wp2
  gi_loopw [9] (fun i wr => ∃ k : Nat, k ≤ N ∧ i = .int .i64 k ∧ J (kf z 0 k) wr ∧ Below w0.heap.size w0 wr) (fun i _ => N - (RowKit.intOf i).toNat)
  case atStart => exact ⟨0, Nat.zero_le _, rfl, HJ.out _ _ _ H0.out, HW.out.trans (((Below.refl _ _).alloc (Nat.le_refl _) _).mono HW.out.size)⟩
  case round =>
    obtain ⟨k, hk, rfl, hJk, hbk⟩ := hrel
    have HB := Lib.hid hbk
    have HK := Lib.hid hJk
    clear hbk hJk
    by_cases hlt : k < N
    · have hkz : k < z.length := by rw [HL.out]; exact hlt
      obtain ⟨b, off, rfl, hc⟩ := (HR.out.below HB.out).at_ hkz
      have hx : L z k = z[k] := L_at hkz
      generalize hxe : z[k] = x at *
      by_cases hx1 : x = -1
      · have kx : (x != -1) = false := by simpa using hx1
        have HS := Lib.hid (show kf z 0 (k + 1) = kf z 0 k from by rw [kf_step (Nat.zero_le _), if_pos (by rw [hx, hx1]), List.append_nil])
        clear hx hxe hx1 hkz
        gi_wp2
        all_goals (try (refine ⟨fun _ h => (by cases h), ?_⟩; gi_wp2))
        go_roundw
        case rel => exact ⟨k + 1, by omega, by simp, by rw [HS.out]; exact HK.out, HB.out⟩
        case measure => simp [RowKit.intOf]; omega
      · have kx : (x != -1) = true := by simpa using hx1
        have hs : kf z 0 (k + 1) = kf z 0 k ++ [k] := by rw [kf_step (Nat.zero_le _), if_neg (by rw [hx]; exact hx1)]
        have hpre : kf z 0 k ++ [k] <+: kept z := by
          rw [← hs]
          have := kf_prefix z (k + 1) (z.length - (k + 1))
          rw [show k + 1 + (z.length - (k + 1)) = z.length from by omega] at this
          exact this
        obtain ⟨fn, tmps, assign, body, hy, hRn⟩ := HY.out _ k wr HK.out hpre
        have HS := Lib.hid hs
        clear hx hxe hx1 hkz hs hpre
        gi_wp2
        refine hRn.mono ?_
        rintro e W3 ⟨rfl, hJ3, hk3⟩
        have HJ3 := Lib.hid hJ3
        have HK3 := Lib.hid hk3
        clear hJ3 hk3
        gi_wp2
        go_roundw
        case rel => exact ⟨k + 1, by omega, by simp, by rw [HS.out]; exact HJ3.out, HB.out.trans HK3.out⟩
        case measure => simp [RowKit.intOf]; omega
    · obtain rfl : k = N := by omega
      gi_wp2
      go_end0
      refine ⟨⟨_, rfl⟩, ?_⟩
      have h := HK.out
      rw [← HL.out] at h
      exact h
end Go.Proofs.Ytehndhkcmccpmaa.Sq
