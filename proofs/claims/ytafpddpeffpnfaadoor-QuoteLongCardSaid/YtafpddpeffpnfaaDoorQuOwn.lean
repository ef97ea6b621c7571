/-
  Proved here: parquetryref08.Own of records answers the same records, in memory of its own; it leaves what was in memory. What parquetrylaw08.wide says.
-/
import Derived.Test.YtafpddpeffpnfaaDoorCvRows
import Derived.Test.YtafpddpeffpnfaaDoorCvSame
import Derived.Test.YtafpddpeffpnfaaDoorAppSrc
import Derived.Test.YtafpddpeffpnfaaDoorQuPlain
import Derived.Laws.OwnMore
set_option linter.unusedVariables false
namespace Go.Proofs.YtafpddpeffpnfaaDoor.Qu
open Go Go.RowKit Go.Lib Go.Proofs.YtafpddpeffpnfaaDoor.Cv


theorem below_one' (w : World) (o : Obj) : Below w.heap.size w (w.alloc o) := (Below.refl _ _).alloc (Nat.le_refl _) _
theorem RI.with {B : Nat} {w w1 : World} {vs v : Value} {R : List (List Bs)} {r : List Bs} (h : RI B w vs (.slice none 0 0) R []) (hb : Below w.heap.size w w1) (hv : w1.ownsRow w.heap.size 9 1 v r.length (rowC r)) : RI B w1 vs v R r := by
  obtain ⟨hB, base, vals, h1, h2, h3, h4, h5⟩ := h
  refine ⟨Nat.le_trans hB hb.size, w.heap.size, vals, hB, hb.size, own_below h3 hb fun k hk => (h3.lt k hk).2, ?_, hv⟩
  have h4' : Done B w.heap.size w vals R := h4.lim h2
  exact h4'.carry fun x r hx hl => own_below hx hb hl

set_option maxHeartbeats 2000000 in
set_option maxRecDepth 1000000 in
theorem own_any (A : Option Addr) (R : List (List Bs)) (c : Nat) (w : World) (hA : RecsAt w A R) (hn : R.length ≤ 1000000) (hm : ∀ r ∈ R, r.length ≤ 1000000) :
    Calls Tryd.prog 13 #[.slice A R.length c] w fun e w' => ∃ A' c', e = .returned (.slice A' R.length c') ∧ RecsAt w' A' R ∧ Below w.heap.size w w' := by
  obtain ⟨i0, hi, hz0, hz1, hz2⟩ := Cl.info_parts infoStr
  obtain ⟨i1, hi', hz0', hz1', hz2'⟩ := Cl.info_parts infoRow
  have HA := Lib.hid hA
  have HM := Lib.hid hm
  clear hA hm
  go_enter Tryd.func13, Tryd.ntmps13
  go_wp2_with fail
  go_loopw [3, 4] (fun s3 s4 wx => ∃ (k : Nat) (A' : Option Addr) (c' : Nat), k ≤ R.length ∧ s4 = .int .i64 k ∧ s3 = .slice A' k c' ∧ RI w.heap.size wx (.slice A' k c') (.slice none 0 0) (R.take k) [] ∧ Below w.heap.size w wx) (fun _ s4 _ => R.length - (RowKit.intOf s4).toNat)
  case atStart => exact ⟨0, none, 0, Nat.zero_le _, rfl, rfl, RI.start (Nat.le_refl _), Below.refl _ _⟩
  case round =>
    obtain ⟨k, A', c', hk, rfl, rfl, hri, hbw⟩ := hrel
    have HRI := Lib.hid hri
    have HBW := Lib.hid hbw
    by_cases hlt : k < R.length
    · obtain ⟨b, off, A1, c1, rfl, hc, hv⟩ := (HA.out.below hbw).at_ hlt
      have hr := HM.out R[k] (List.getElem_mem hlt)
      have htk : R.take (k + 1) = R.take k ++ [R[k]] := by rw [List.take_add_one, List.getElem?_eq_getElem hlt]; rfl
      generalize R[k] = r at *
      have HTK := Lib.hid htk
      have hM := World.ownsRow_made (base := wr.heap.size) (e := 9) (size := 1) wr #[] 0 (Nat.le_refl _) (by decide) rfl
      have hV := hv.below (below_one' wr (.cells #[] 9))
      have hnil := hV.nil_len
      have HM2 := Lib.hid hM
      have HV := Lib.hid hV
      have HNIL := Lib.hid hnil
      have hlen : (rowC r).length = r.length := by simp [rowC]
      have hone : ∀ u ∈ rowC r, u.oneCell' = true := fun u hu => by
        simp only [rowC, List.mem_map] at hu
        obtain ⟨x, _, rfl⟩ := hu
        rfl
      have HONE := Lib.hid hone
      have HLEN := Lib.hid hlen
      have hcB : ∀ o, (wr.alloc o).cell? ⟨b, off + k, none⟩ = some (.slice A1 r.length c1) := fun o => (World.cell?_of_block (w := wr) (Below.heap_alloc wr o b (World.block_lt_of_cell? wr _ hc))).trans hc
      clear hri hbw hv hM hV hnil htk hone hlen
      go_wp2_with (at_builtin; refine wpList_append_src _ rfl _ _ 33 rfl wr.heap.size 9 i0 (.string ⟨#[]⟩) 1 16 Tryd.underlying33 hi hz0 hz1 hz2 rfl (by decide) _ _ _ rfl HM2.out A1 r.length c1 (rowC r) rfl (by rw [HLEN.out, Nat.mul_one]) ?c0 ?c1 HONE.out ?c3 ?c4 ?c5 ?_)
      case c0 => intro e; rw [← HLEN.out]; exact HNIL.out e
      case c1 => intro ad had; subst had; exact HV.out.news
      case c3 => unfold maxLen; omega
      case c4 => omega
      case c5 => simp
      intro v2 w2 ho2 hg2
      have hb2 : Below wr.heap.size wr w2 := (below_one' wr (.cells #[] 9)).grown hg2 (by simp) (fun k hk => (HM2.out.lt k hk).1)
      obtain ⟨vals, hB4, hown4, hone4, hclose4⟩ := (RI.with HRI.out hb2 ho2).close
      obtain ⟨A2, c2, rfl, -, -⟩ := vAt_own ho2
      have HOWN := Lib.hid hown4
      have HCL := Lib.hid hclose4
      have HB2 := Lib.hid (HBW.out.trans (hb2.mono HBW.out.size))
      have hkl : (R.take k).length = k := by rw [List.length_take]; omega
      rw [hkl] at HOWN HCL
      clear ho2 hg2 hb2 hown4 hone4 hclose4 hcB hc
      go_wp2_with (at_builtin; refine wpList_append_own _ rfl _ _ 25 rfl w.heap.size 33 i1 (.slice none 0 0) 1 24 Tryd.underlying25 hi' hz0' hz1' hz2' rfl (by decide) _ _ _ rfl (HOWN.out.alloc _) ⟨_, 0, none⟩ 1 1 [.slice A2 r.length c2] rfl rfl ?c1 ?c2 ?c3 ?c4 ?c5 ?_)
      case c1 => exact cell_one_new _ _ _
      case c2 => intro u hu; simp only [List.mem_singleton] at hu; subst hu; rfl
      case c3 => unfold maxLen; omega
      case c4 => omega
      case c5 => have := HB2.out.size; simp; omega
      intro vs' w6 ho6 hg6 _
      obtain ⟨A6, k6, rfl, -, -⟩ := vAt_own ho6
      have hbB : Below w2.heap.size w2 (w2.alloc (.cells #[.slice A2 r.length c2] 33)) := (Below.refl _ _).alloc (Nat.le_refl _) _
      have hb6 : Below w.heap.size w w6 := (HB2.out.alloc HB2.out.size _).grown hg6 (by simp; have := HB2.out.size; omega) (fun k hk => (HOWN.out.lt k hk).1)
      have HRI6 := Lib.hid (HCL.out _ _ w6 hbB ho6 hg6)
      have HB6 := Lib.hid hb6
      clear ho6 hg6 hbB hb6
      go_wp2_with fail
      go_roundw
      case measure => simp [RowKit.intOf]; omega
      case rel =>
        refine ⟨k + 1, A6, k6, by omega, by go_num, rfl, ?_, HB6.out⟩
        rw [HTK.out]
        exact HRI6.out
    · have e : R.take k = R := List.take_of_length_le (by omega)
      have hkl : k = R.length := by omega
      subst hkl
      rw [e] at hri
      obtain ⟨A6, c6, e6, hrec⟩ := hri.reads
      injection e6 with e7 e8 e9
      subst e7
      clear hri hbw HRI
      go_wp2
      go_ret
      exact ⟨A', ⟨c6, rfl⟩, hrec, HBW.out⟩
end Go.Proofs.YtafpddpeffpnfaaDoor.Qu
