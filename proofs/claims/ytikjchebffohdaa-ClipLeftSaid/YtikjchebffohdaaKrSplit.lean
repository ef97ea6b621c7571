/-
  Proved here: what parquetryref06.Split returns, for every text of at most 100000 bytes: a new row of its clusters. It leaves what was in memory.
-/
import Derived.Test.YtikjchebffohdaaKrOf
import Derived.Test.YtikjchebffohdaaRfSplit
set_option linter.unusedVariables false
namespace Go.Proofs.Ytikjchebffohdaa.Ku
open Go.RowKit Go.Lib Go.Proofs.Ytikjchebffohdaa.Arr Go.Proofs.Ytikjchebffohdaa.Gc
open Go.Proofs.Ytikjchebffohdaa.Cl (IntsAt)

set_option maxHeartbeats 1000000 in
set_option maxRecDepth 100000 in
theorem rsplit_any (s : ByteArray) (w : World) (hs : s.size ≤ 100000) :
    Calls Try.prog 20 #[.string s] w fun e w' => ∃ v, e = .returned v ∧ w'.ownsRow w.heap.size 49 6 v (ofS s).length (cellsC (ofS s)) ∧ Below w.heap.size w w' := by
  have hln := Rn.splitA_len s.data.toList.length s.data.toList 0 (Nat.le_refl _)
  rw [← Lib.size_eq] at hln
  unfold ofS
  have HSP := Lib.hid (fun W => Rn.refsplit_reads s W (by omega))
  have hil := ints3_len (Rn.splitA s.data.toList 0)
  generalize Rn.splitA s.data.toList 0 = rs at *
  have HOF := Lib.hid (fun A c W hR => rof_any A (ints3 rs) c W hR (by omega))
  rw [hil] at HOF
  clear hil
  go_enter Try.func20, Try.ntmps20
  go_wp2_with fail
  refine (HSP.out _).mono ?_
  rintro e w1 ⟨A, c, rfl, hr, hb1⟩
  have HR := Lib.hid (ruAt_runes hr)
  have HB1 := Lib.hid hb1
  clear hr hb1
  go_wp2_with fail
  refine (HOF.out A c _ HR.out).mono ?_
  rintro e w2 ⟨v, rfl, hown, hb2⟩
  have HO := Lib.hid hown
  clear hown
  go_wp2
  go_ret
  exact ⟨_, rfl, Cl.ownsRow_mono HO.out HB1.out.size, HB1.out.trans (hb2.mono HB1.out.size)⟩
end Go.Proofs.Ytikjchebffohdaa.Ku
