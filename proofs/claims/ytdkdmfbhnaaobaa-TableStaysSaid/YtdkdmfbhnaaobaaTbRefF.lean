/-
  Proved here: what the document's answer for Fill is: the records, filled, in memory of its own; it leaves what was in memory.
-/
import Derived.Test.YtdkdmfbhnaaobaaTbRefW
import Derived.Test.YtdkdmfbhnaaobaaAppSrc
import Derived.Test.YtdkdmfbhnaaobaaTbNew
set_option linter.unusedVariables false
namespace Go.Proofs.Ytdkdmfbhnaaobaa.Tb
open Go Go.RowKit Go.Lib Go.Proofs.Ytdkdmfbhnaaobaa.Cv

theorem below_one' (w : World) (o : Obj) : Below w.heap.size w (w.alloc o) := (Below.refl _ _).alloc (Nat.le_refl _) _
theorem RI.with {B : Nat} {w w1 : World} {vs v : Value} {R : Rec} {r : List Bs} {n : Nat} (hn : r.length = n) (h : RI B w vs (.slice none 0 0) R []) (hb : Below w.heap.size w w1) (hv : w1.ownsRow w.heap.size 9 1 v n (rowC r)) : RI B w1 vs v R r := by
  subst hn
  obtain ⟨hB, base, vals, h1, h2, h3, h4, h5⟩ := h
  refine ⟨Nat.le_trans hB hb.size, w.heap.size, vals, hB, hb.size, own_below h3 hb fun k hk => (h3.lt k hk).2, ?_, hv⟩
  have h4' : Done B w.heap.size w vals R := h4.lim h2
  exact h4'.carry fun x r hx hl => own_below hx hb hl
def RecsPost (Q : Rec) (w : World) (e : Ending) (w' : World) : Prop := ∃ A c, e = .returned (.slice A Q.length c) ∧ RecsC w' A Q ∧ Below w.heap.size w w'

/-- A record with fields without text behind. -/
def padT (r : List Bs) (j : Nat) : List Bs := r ++ List.replicate (j - r.length) []
theorem pad_len {r : List Bs} {j : Nat} (h : r.length ≤ j) : (padT r j).length = j := by unfold padT; rw [List.length_append, List.length_replicate]; omega
theorem pad_self (r : List Bs) : padT r r.length = r := by simp [padT]
theorem pad_more {r : List Bs} {j : Nat} (h : r.length ≤ j) : rowC (padT r (j + 1)) = rowC (padT r j) ++ [.string ⟨#[]⟩] := by
  unfold padT rowC
  rw [show j + 1 - r.length = (j - r.length) + 1 by omega, List.replicate_succ', ← List.append_assoc, List.map_append (l₂ := [[]])]
  rfl
theorem fill_row {R : Rec} {k : Nat} (hk : k < R.length) (hk2 : k < (fillT R).length) : (fillT R)[k] = padT R[k] (wideT R) := by
  have hw := len_le_width (List.getElem_mem hk)
  rw [fill_get hk2]
  have hl : R[k].length ≤ wideT R := by unfold wideT; omega
  show _ = R[k] ++ List.replicate (wideT R - R[k].length) []
  refine List.ext_getElem (by have := pad_len hl; unfold padT at this; rw [this]; simp [wideT]) fun j h1 h2 => ?_
  simp only [List.getElem_map, List.getElem_range]
  rw [field_row hk]
  by_cases h : j < R[k].length
  · rw [getD_in _ h, List.getElem_append_left h]
  · rw [getD_off _ (by omega), List.getElem_append_right (by omega), List.getElem_replicate]
theorem take_next {R : Rec} {k : Nat} (h : k < R.length) : R.take (k + 1) = R.take k ++ [R[k]] := by rw [List.take_add_one, List.getElem?_eq_getElem h]; rfl
def lenV : Value → Nat
  | .slice _ n _ => n
  | _ => 0
theorem cell_str_new (w : World) : ∀ j u, [Value.string ⟨#[]⟩][j]? = some u → (w.alloc (.cells #[.string ⟨#[]⟩] 9)).cell? ((⟨w.heap.size, 0, none⟩ : Addr).add j) = some u := cell_one_new _ _ _

set_option maxHeartbeats 4000000 in
set_option maxRecDepth 1000000 in
theorem refFill_pos (A : Option Addr) (R : Rec) (c : Nat) (w : World) (hA : RecsAt w A R) (hF : Few R) (h0 : 0 < R.length) (hz : 1 ≤ widthT R) :
    Calls Try.prog 18 #[.slice A R.length c] w (RecsPost (fillT R) w) := by
  obtain ⟨i0, hi, hz0, hz1, hz2⟩ := Cl.info_parts infoStr
  obtain ⟨i1, hi', hz0', hz1', hz2'⟩ := Cl.info_parts infoRow
  have HA := Lib.hid hA
  have HF := Lib.hid hF
  have hl := hF.num
  have hwd := hF.width
  have hfl : (fillT R).length = R.length := by rw [fill_len]; unfold highT; omega
  obtain ⟨b0, hb0⟩ : ∃ b, widthT R = b := ⟨_, rfl⟩
  have hW : wideT R = b0 := by unfold wideT; omega
  rw [hb0] at hwd hz
  have HW := Lib.hid (refWidth_any A R R.length c rfl w hA hF)
  rw [hb0] at HW
  obtain ⟨Q, hQ⟩ : ∃ Q, fillT R = Q := ⟨_, rfl⟩
  have hrow : ∀ k (hk : k < R.length) (hk2 : k < Q.length), Q[k] = padT R[k] b0 := fun k hk hk2 => by subst hQ; rw [fill_row hk hk2, hW]
  have hle : ∀ r ∈ R, r.length ≤ b0 := fun r hr => by have := len_le_width hr; omega
  rw [hQ] at hfl ⊢
  have HROW := Lib.hid hrow
  have HLE := Lib.hid hle
  have HFL := Lib.hid hfl
  have dn : ((R.length : Int) == 0) = false := by rw [beq_eq_false_iff_ne]; omega
  clear hA hF hb0 hW hQ hrow hle hfl
  go_enter Try.func18, Try.ntmps18
  go_wp2_with fail
  refine HW.out.mono ?_
  rintro e w1 ⟨rfl, rfl⟩
  clear HW
  go_wp2_with fail
  go_loopw [4, 5] (fun s4 s5 wx => ∃ (k : Nat) (A' : Option Addr) (c' : Nat), k ≤ R.length ∧ s5 = .int .i64 k ∧ s4 = .slice A' k c' ∧ RI w.heap.size wx (.slice A' k c') (.slice none 0 0) (Q.take k) [] ∧ Below w.heap.size w wx) (fun _ s5 _ => R.length - (RowKit.intOf s5).toNat)
  case atStart => exact ⟨0, none, 0, Nat.zero_le _, rfl, rfl, RI.start (Nat.le_refl _), Below.refl _ _⟩
  case round =>
    obtain ⟨k, A', c', hk, rfl, rfl, hri, hbw⟩ := hrel
    have HRI := Lib.hid hri
    have HBW := Lib.hid hbw
    by_cases hlt : k < R.length
    · obtain ⟨b, off, A1, c1, rfl, hc, hv⟩ := (HA.out.below hbw).at_ hlt
      have hr := HF.out.each R[k] (List.getElem_mem hlt)
      have hlr := HLE.out R[k] (List.getElem_mem hlt)
      have hk2 : k < Q.length := by rw [HFL.out]; exact hlt
      have htk : Q.take (k + 1) = Q.take k ++ [padT R[k] b0] := by rw [take_next hk2, HROW.out k hlt hk2]
      generalize R[k] = r at *
      have HTK := Lib.hid htk
      have hM := World.ownsRow_made (base := wr.heap.size) (e := 9) (size := 1) wr #[] 0 (Nat.le_refl _) (by decide) rfl
      have hV := hv.below (below_one' wr (.cells #[] 9))
      have HM2 := Lib.hid hM
      have HV := Lib.hid hV
      have HNIL := Lib.hid hV.nil_len
      have hlen : (rowC r).length = r.length := rowC_len r
      have hone : ∀ u ∈ rowC r, u.oneCell' = true := fun u hu => by
        simp only [rowC, List.mem_map] at hu
        obtain ⟨x, _, rfl⟩ := hu
        rfl
      have HONE := Lib.hid hone
      have HLEN := Lib.hid hlen
      have hcB : ∀ o, (wr.alloc o).cell? ⟨b, off + k, none⟩ = some (.slice A1 r.length c1) := fun o => (World.cell?_of_block (w := wr) (Below.heap_alloc wr o b (World.block_lt_of_cell? wr _ hc))).trans hc
      clear hri hbw hv hM hV htk hone hlen hk2
      go_wp2_with (at_builtin; refine wpList_append_src _ rfl _ _ 31 rfl wr.heap.size 9 i0 (.string ⟨#[]⟩) 1 16 Try.underlying31 hi hz0 hz1 hz2 rfl (by decide) _ _ _ rfl HM2.out A1 r.length c1 (rowC r) rfl (by rw [HLEN.out, Nat.mul_one]) ?c0 ?c1 HONE.out ?c3 ?c4 ?c5 ?_)
      case c0 => intro e; rw [← HLEN.out]; exact HNIL.out e
      case c1 => intro ad had; subst had; exact HV.out.news
      case c3 => unfold maxLen; omega
      case c4 => omega
      case c5 => simp
      intro v2 w2 ho2 hg2
      have hb2 : Below wr.heap.size wr w2 := (below_one' wr (.cells #[] 9)).grown hg2 (by simp) (fun k hk => (HM2.out.lt k hk).1)
      have ho3 : w2.ownsRow wr.heap.size 9 1 v2 r.length (rowC (padT r r.length)) := by
        have h := ho2
        rw [pad_self]
        simpa using h
      obtain ⟨A2, c2, rfl, -, -⟩ := vAt_own ho3
      have HO3 := Lib.hid ho3
      have HB2 := Lib.hid hb2
      clear ho2 hg2 ho3 hb2 hcB hc HM2 HV HNIL HONE HLEN
      obtain ⟨wo, hwo⟩ : ∃ wo : World, wo = wr := ⟨_, rfl⟩
      subst hwo
      go_wp2_with fail
      go_loopw [6] (fun s6 wx => ∃ (j : Nat) (A3 : Option Addr) (c3 : Nat), r.length ≤ j ∧ j ≤ b0 ∧ s6 = .slice A3 j c3 ∧ wx.ownsRow wo.heap.size 9 1 (.slice A3 j c3) j (rowC (padT r j)) ∧ Below wo.heap.size wo wx) (fun s6 _ => b0 - lenV s6)
      case atStart => exact ⟨r.length, A2, c2, Nat.le_refl _, hlr, rfl, HO3.out, HB2.out⟩
      case round =>
        obtain ⟨j, A3, c3, hj1, hj2, rfl, hoj, hbj⟩ := hrel
        have HOJ := Lib.hid hoj
        have HBJ := Lib.hid hbj
        have hsz := hbj.size
        clear hoj hbj HO3 HB2
        by_cases hlj : j < b0
        · have HPM := Lib.hid (pad_more hj1)
          have dj : decide (j < b0) = true := decide_eq_true (by omega)
          go_wp2_with (at_builtin; refine wpList_append_own _ rfl _ _ 31 rfl wo.heap.size 9 i0 (.string ⟨#[]⟩) 1 16 Try.underlying31 hi hz0 hz1 hz2 rfl (by decide) _ _ _ rfl (HOJ.out.alloc _) ⟨_, 0, none⟩ 1 1 [.string ⟨#[]⟩] rfl rfl ?c1 ?c2 ?c3 ?c4 ?c5 ?_)
          case c1 => exact cell_one_new _ _ _
          case c2 => intro u hu; simp only [List.mem_singleton] at hu; subst hu; rfl
          case c3 => unfold maxLen; omega
          case c4 => omega
          case c5 => simp; omega
          intro v4 w4 ho4 hg4 _
          obtain ⟨A4, c4, rfl, -, -⟩ := vAt_own ho4
          have hb4 : Below wo.heap.size wo w4 := (HBJ.out.alloc HBJ.out.size _).grown hg4 (by simp; omega) (fun k hk => (HOJ.out.lt k hk).1)
          rw [← HPM.out] at ho4
          have HO4 := Lib.hid ho4
          have HB4 := Lib.hid hb4
          clear ho4 hg4 hb4
          go_wp2_with fail
          go_roundw
          case measure => simp [lenV]; omega
          case rel => exact ⟨j + 1, A4, c4, by omega, by omega, rfl, HO4.out, HB4.out⟩
        · obtain rfl : b0 = j := by omega
          have dj : decide (b0 < b0) = false := decide_eq_false (by omega)
          have hpl := pad_len hj1
          have hoj2 := HOJ.out
          obtain ⟨q, hq⟩ : ∃ q, padT r b0 = q := ⟨_, rfl⟩
          rw [hq] at hoj2 hpl HTK
          obtain ⟨vals, hB4, hown4, hone4, hclose4⟩ := (RI.with hpl HRI.out HBJ.out hoj2).close
          have HOWN := Lib.hid hown4
          have HCL := Lib.hid hclose4
          have HB2 := Lib.hid (HBW.out.trans (HBJ.out.mono HBW.out.size))
          have hkl : (Q.take k).length = k := by rw [List.length_take, HFL.out]; omega
          rw [hkl] at HOWN HCL
          clear hown4 hone4 hclose4 hoj2 hq hpl
          go_wp2_with (at_builtin; refine wpList_append_own _ rfl _ _ 22 rfl w.heap.size 31 i1 (.slice none 0 0) 1 24 Try.underlying22 hi' hz0' hz1' hz2' rfl (by decide) _ _ _ rfl (HOWN.out.alloc _) ⟨_, 0, none⟩ 1 1 [.slice A3 b0 c3] rfl rfl ?c1 ?c2 ?c3 ?c4 ?c5 ?_)
          case c1 => exact cell_one_new _ _ _
          case c2 => intro u hu; simp only [List.mem_singleton] at hu; subst hu; rfl
          case c3 => unfold maxLen; omega
          case c4 => omega
          case c5 => have := HB2.out.size; simp; omega
          intro vs' w6 ho6 hg6 _
          obtain ⟨A6, k6, rfl, -, -⟩ := vAt_own ho6
          have hbB : Below wr.heap.size wr (wr.alloc (.cells #[.slice A3 b0 c3] 31)) := (Below.refl _ _).alloc (Nat.le_refl _) _
          have hb6 : Below w.heap.size w w6 := (HB2.out.alloc HB2.out.size _).grown hg6 (by simp; have := HB2.out.size; omega) (fun k hk => (HOWN.out.lt k hk).1)
          have HRI6 := Lib.hid (HCL.out _ _ w6 hbB ho6 hg6)
          have HB6 := Lib.hid hb6
          clear ho6 hg6 hbB hb6
          go_wp2_with fail
          go_roundw
          case measure => simp [RowKit.intOf]; omega
          case rel =>
            refine ⟨k + 1, A6, k6, by omega, by go_num, rfl, ?_, HB6.out⟩
            rw [HTK.out]
            exact HRI6.out
    · have e : Q.take k = Q := List.take_of_length_le (by rw [HFL.out]; omega)
      obtain rfl : k = R.length := by omega
      rw [e] at hri
      obtain ⟨A6, c6, e6, hrec⟩ := RI.readsC hri
      injection e6 with e7 e8 e9
      subst e7
      subst e9
      have HREC := Lib.hid hrec
      clear hri hbw HRI hrec e
      go_wp2
      go_ret
      exact ⟨A', c', by rw [HFL.out]; rfl, HREC.out, HBW.out⟩

set_option maxHeartbeats 4000000 in
set_option maxRecDepth 1000000 in
theorem refFill_zero (A : Option Addr) (R : Rec) (c : Nat) (w : World) (hA : RecsAt w A R) (hF : Few R) (h0 : 0 < R.length) (hz : widthT R = 0) :
    Calls Try.prog 18 #[.slice A R.length c] w (RecsPost (fillT R) w) := by
  obtain ⟨i0, hi, hz0, hz1, hz2⟩ := Cl.info_parts infoStr
  obtain ⟨i1, hi', hz0', hz1', hz2'⟩ := Cl.info_parts infoRow
  have HA := Lib.hid hA
  have HF := Lib.hid hF
  have hl := hF.num
  have hwd := hF.width
  have hfl : (fillT R).length = R.length := by rw [fill_len]; unfold highT; omega
  obtain ⟨b0, hb0⟩ : ∃ b, widthT R = b := ⟨_, rfl⟩
  have hW : wideT R = 1 := by unfold wideT; omega
  rw [hb0] at hwd hz
  have HW := Lib.hid (refWidth_any A R R.length c rfl w hA hF)
  rw [hb0] at HW
  obtain ⟨Q, hQ⟩ : ∃ Q, fillT R = Q := ⟨_, rfl⟩
  have hrow : ∀ k (hk : k < R.length) (hk2 : k < Q.length), Q[k] = padT R[k] 1 := fun k hk hk2 => by subst hQ; rw [fill_row hk hk2, hW]
  have hle : ∀ r ∈ R, r.length ≤ 1 := fun r hr => by have := len_le_width hr; omega
  rw [hQ] at hfl ⊢
  have HROW := Lib.hid hrow
  have HLE := Lib.hid hle
  have HFL := Lib.hid hfl
  have dn : ((R.length : Int) == 0) = false := by rw [beq_eq_false_iff_ne]; omega
  clear hA hF hb0 hW hQ hrow hle hfl
  subst hz
  go_enter Try.func18, Try.ntmps18
  go_wp2_with fail
  refine HW.out.mono ?_
  rintro e w1 ⟨rfl, rfl⟩
  clear HW
  go_wp2_with fail
  go_loopw [4, 5] (fun s4 s5 wx => ∃ (k : Nat) (A' : Option Addr) (c' : Nat), k ≤ R.length ∧ s5 = .int .i64 k ∧ s4 = .slice A' k c' ∧ RI w.heap.size wx (.slice A' k c') (.slice none 0 0) (Q.take k) [] ∧ Below w.heap.size w wx) (fun _ s5 _ => R.length - (RowKit.intOf s5).toNat)
  case atStart => exact ⟨0, none, 0, Nat.zero_le _, rfl, rfl, RI.start (Nat.le_refl _), Below.refl _ _⟩
  case round =>
    obtain ⟨k, A', c', hk, rfl, rfl, hri, hbw⟩ := hrel
    have HRI := Lib.hid hri
    have HBW := Lib.hid hbw
    by_cases hlt : k < R.length
    · obtain ⟨b, off, A1, c1, rfl, hc, hv⟩ := (HA.out.below hbw).at_ hlt
      have hr := HF.out.each R[k] (List.getElem_mem hlt)
      have hlr := HLE.out R[k] (List.getElem_mem hlt)
      have hk2 : k < Q.length := by rw [HFL.out]; exact hlt
      have htk : Q.take (k + 1) = Q.take k ++ [padT R[k] 1] := by rw [take_next hk2, HROW.out k hlt hk2]
      generalize R[k] = r at *
      have HTK := Lib.hid htk
      have hM := World.ownsRow_made (base := wr.heap.size) (e := 9) (size := 1) wr #[] 0 (Nat.le_refl _) (by decide) rfl
      have hV := hv.below (below_one' wr (.cells #[] 9))
      have HM2 := Lib.hid hM
      have HV := Lib.hid hV
      have HNIL := Lib.hid hV.nil_len
      have hlen : (rowC r).length = r.length := rowC_len r
      have hone : ∀ u ∈ rowC r, u.oneCell' = true := fun u hu => by
        simp only [rowC, List.mem_map] at hu
        obtain ⟨x, _, rfl⟩ := hu
        rfl
      have HONE := Lib.hid hone
      have HLEN := Lib.hid hlen
      have hcB : ∀ o, (wr.alloc o).cell? ⟨b, off + k, none⟩ = some (.slice A1 r.length c1) := fun o => (World.cell?_of_block (w := wr) (Below.heap_alloc wr o b (World.block_lt_of_cell? wr _ hc))).trans hc
      clear hri hbw hv hM hV htk hone hlen hk2
      go_wp2_with (at_builtin; refine wpList_append_src _ rfl _ _ 31 rfl wr.heap.size 9 i0 (.string ⟨#[]⟩) 1 16 Try.underlying31 hi hz0 hz1 hz2 rfl (by decide) _ _ _ rfl HM2.out A1 r.length c1 (rowC r) rfl (by rw [HLEN.out, Nat.mul_one]) ?c0 ?c1 HONE.out ?c3 ?c4 ?c5 ?_)
      case c0 => intro e; rw [← HLEN.out]; exact HNIL.out e
      case c1 => intro ad had; subst had; exact HV.out.news
      case c3 => unfold maxLen; omega
      case c4 => omega
      case c5 => simp
      intro v2 w2 ho2 hg2
      have hb2 : Below wr.heap.size wr w2 := (below_one' wr (.cells #[] 9)).grown hg2 (by simp) (fun k hk => (HM2.out.lt k hk).1)
      have ho3 : w2.ownsRow wr.heap.size 9 1 v2 r.length (rowC (padT r r.length)) := by
        have h := ho2
        rw [pad_self]
        simpa using h
      obtain ⟨A2, c2, rfl, -, -⟩ := vAt_own ho3
      have HO3 := Lib.hid ho3
      have HB2 := Lib.hid hb2
      clear ho2 hg2 ho3 hb2 hcB hc HM2 HV HNIL HONE HLEN
      obtain ⟨wo, hwo⟩ : ∃ wo : World, wo = wr := ⟨_, rfl⟩
      subst hwo
      go_wp2_with fail
      go_loopw [6] (fun s6 wx => ∃ (j : Nat) (A3 : Option Addr) (c3 : Nat), r.length ≤ j ∧ j ≤ 1 ∧ s6 = .slice A3 j c3 ∧ wx.ownsRow wo.heap.size 9 1 (.slice A3 j c3) j (rowC (padT r j)) ∧ Below wo.heap.size wo wx) (fun s6 _ => 1 - lenV s6)
      case atStart => exact ⟨r.length, A2, c2, Nat.le_refl _, hlr, rfl, HO3.out, HB2.out⟩
      case round =>
        obtain ⟨j, A3, c3, hj1, hj2, rfl, hoj, hbj⟩ := hrel
        have HOJ := Lib.hid hoj
        have HBJ := Lib.hid hbj
        have hsz := hbj.size
        clear hoj hbj HO3 HB2
        by_cases hlj : j < 1
        · have HPM := Lib.hid (pad_more hj1)
          have dj : decide ((j : Int) < 1) = true := decide_eq_true (by omega)
          go_wp2_with (at_builtin; refine wpList_append_own _ rfl _ _ 31 rfl wo.heap.size 9 i0 (.string ⟨#[]⟩) 1 16 Try.underlying31 hi hz0 hz1 hz2 rfl (by decide) _ _ _ rfl (HOJ.out.alloc _) ⟨_, 0, none⟩ 1 1 [.string ⟨#[]⟩] rfl rfl ?c1 ?c2 ?c3 ?c4 ?c5 ?_)
          case c1 => exact cell_one_new _ _ _
          case c2 => intro u hu; simp only [List.mem_singleton] at hu; subst hu; rfl
          case c3 => unfold maxLen; omega
          case c4 => omega
          case c5 => simp; omega
          intro v4 w4 ho4 hg4 _
          obtain ⟨A4, c4, rfl, -, -⟩ := vAt_own ho4
          have hb4 : Below wo.heap.size wo w4 := (HBJ.out.alloc HBJ.out.size _).grown hg4 (by simp; omega) (fun k hk => (HOJ.out.lt k hk).1)
          rw [← HPM.out] at ho4
          have HO4 := Lib.hid ho4
          have HB4 := Lib.hid hb4
          clear ho4 hg4 hb4
          go_wp2_with fail
          go_roundw
          case measure => simp [lenV]; omega
          case rel => exact ⟨j + 1, A4, c4, by omega, by omega, rfl, HO4.out, HB4.out⟩
        · obtain rfl : 1 = j := by omega
          have dj : decide ((1 : Int) < 1) = false := decide_eq_false (by omega)
          have hpl := pad_len hj1
          have hoj2 := HOJ.out
          obtain ⟨q, hq⟩ : ∃ q, padT r 1 = q := ⟨_, rfl⟩
          rw [hq] at hoj2 hpl HTK
          obtain ⟨vals, hB4, hown4, hone4, hclose4⟩ := (RI.with hpl HRI.out HBJ.out hoj2).close
          have HOWN := Lib.hid hown4
          have HCL := Lib.hid hclose4
          have HB2 := Lib.hid (HBW.out.trans (HBJ.out.mono HBW.out.size))
          have hkl : (Q.take k).length = k := by rw [List.length_take, HFL.out]; omega
          rw [hkl] at HOWN HCL
          clear hown4 hone4 hclose4 hoj2 hq hpl
          go_wp2_with (at_builtin; refine wpList_append_own _ rfl _ _ 22 rfl w.heap.size 31 i1 (.slice none 0 0) 1 24 Try.underlying22 hi' hz0' hz1' hz2' rfl (by decide) _ _ _ rfl (HOWN.out.alloc _) ⟨_, 0, none⟩ 1 1 [.slice A3 1 c3] rfl rfl ?c1 ?c2 ?c3 ?c4 ?c5 ?_)
          case c1 => exact cell_one_new _ _ _
          case c2 => intro u hu; simp only [List.mem_singleton] at hu; subst hu; rfl
          case c3 => unfold maxLen; omega
          case c4 => omega
          case c5 => have := HB2.out.size; simp; omega
          intro vs' w6 ho6 hg6 _
          obtain ⟨A6, k6, rfl, -, -⟩ := vAt_own ho6
          have hbB : Below wr.heap.size wr (wr.alloc (.cells #[.slice A3 1 c3] 31)) := (Below.refl _ _).alloc (Nat.le_refl _) _
          have hb6 : Below w.heap.size w w6 := (HB2.out.alloc HB2.out.size _).grown hg6 (by simp; have := HB2.out.size; omega) (fun k hk => (HOWN.out.lt k hk).1)
          have HRI6 := Lib.hid (HCL.out _ _ w6 hbB ho6 hg6)
          have HB6 := Lib.hid hb6
          clear ho6 hg6 hbB hb6
          go_wp2_with fail
          go_roundw
          case measure => simp [RowKit.intOf]; omega
          case rel =>
            refine ⟨k + 1, A6, k6, by omega, by go_num, rfl, ?_, HB6.out⟩
            rw [HTK.out]
            exact HRI6.out
    · have e : Q.take k = Q := List.take_of_length_le (by rw [HFL.out]; omega)
      obtain rfl : k = R.length := by omega
      rw [e] at hri
      obtain ⟨A6, c6, e6, hrec⟩ := RI.readsC hri
      injection e6 with e7 e8 e9
      subst e7
      subst e9
      have HREC := Lib.hid hrec
      clear hri hbw HRI hrec e
      go_wp2
      go_ret
      exact ⟨A', c', by rw [HFL.out]; rfl, HREC.out, HBW.out⟩

theorem fill_none : fillT [] = [[[]]] := by decide
set_option maxHeartbeats 1000000 in
set_option maxRecDepth 100000 in
theorem refFill_any (A : Option Addr) (R : Rec) (n c : Nat) (hn : n = R.length) (w : World) (hA : RecsAt w A R) (hF : Few R) :
    Calls Try.prog 18 #[.slice A n c] w (RecsPost (fillT R) w) := by
  subst hn
  by_cases h0 : 0 < R.length
  · by_cases hz : 1 ≤ widthT R
    · exact refFill_pos A R c w hA hF h0 hz
    · exact refFill_zero A R c w hA hF h0 (by omega)
  · obtain rfl : R = [] := List.eq_nil_of_length_eq_zero (by omega)
    have HW := Lib.hid (refWidth_any A [] 0 c rfl w hA hF)
    rw [show widthT [] = 0 from rfl] at HW
    rw [fill_none]
    clear hA hF h0
    show Calls _ _ #[.slice A 0 c] _ _
    go_enter Try.func18, Try.ntmps18
    go_wp2_with fail
    refine HW.out.mono ?_
    rintro e w1 ⟨rfl, rfl⟩
    go_wp2
    go_ret
    exact ⟨_, 1, rfl, recsC_one w [[]] 1 rfl, below_two w _ _⟩
end Go.Proofs.Ytdkdmfbhnaaobaa.Tb
