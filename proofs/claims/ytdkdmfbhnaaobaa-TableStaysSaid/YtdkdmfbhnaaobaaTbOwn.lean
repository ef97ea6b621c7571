/-
  Proved here: parquetryref08.Own of records answers the same records, in memory of its own, with room; it leaves what was in memory. What parquetrylaw09.wide says of records: where it is false, they are few, and short; it leaves memory as it is.
-/
import Derived.Test.YtdkdmfbhnaaobaaCvRows
import Derived.Test.YtdkdmfbhnaaobaaTbSpoil
import Derived.Laws.OwnMore
set_option linter.unusedVariables false
namespace Go.Proofs.Ytdkdmfbhnaaobaa.Tb
open Go Go.RowKit Go.Lib Go.Proofs.Ytdkdmfbhnaaobaa.Cv


set_option maxHeartbeats 2000000 in
set_option maxRecDepth 1000000 in
theorem copy_any (A : Option Addr) (R : List (List Bs)) (c : Nat) (n : Nat) (hn0 : n = R.length) (w : World) (hA : RecsAt w A R) (hF : Few R) :
    Calls Try.prog 13 #[.slice A n c] w (RecsPost R w) := by
  subst hn0
  have hn := hF.num
  have hm := hF.each
  clear hF
  obtain ⟨i0, hi, hz0, hz1, hz2⟩ := Cl.info_parts infoStr
  obtain ⟨i1, hi', hz0', hz1', hz2'⟩ := Cl.info_parts infoRow
  have HA := Lib.hid hA
  have HM := Lib.hid hm
  clear hA hm
  go_enter Try.func13, Try.ntmps13
  go_wp2_with fail
  go_loopw [3, 4] (fun s3 s4 wx => ∃ (k : Nat) (A' : Option Addr) (c' : Nat), k ≤ R.length ∧ s4 = .int .i64 k ∧ s3 = .slice A' k c' ∧ RI w.heap.size wx (.slice A' k c') (.slice none 0 0) (R.take k) [] ∧ Below w.heap.size w wx) (fun _ s4 _ => R.length - (RowKit.intOf s4).toNat)
  case atStart => exact ⟨0, none, 0, Nat.zero_le _, rfl, rfl, RI.start (Nat.le_refl _), Below.refl _ _⟩
  case round =>
    obtain ⟨k, A', c', hk, rfl, rfl, hri, hbw⟩ := hrel
    have HRI := Lib.hid hri
    have HBW := Lib.hid hbw
    by_cases hlt : k < R.length
    · obtain ⟨b, off, A1, c1, rfl, hc, hv⟩ := (HA.out.below hbw).at_ hlt
      have hr := HM.out R[k] (List.getElem_mem hlt)
      have htk : R.take (k + 1) = R.take k ++ [R[k]] := by rw [List.take_add_one, List.getElem?_eq_getElem hlt]; rfl
      generalize R[k] = r at *
      have HTK := Lib.hid htk
      have hM := World.ownsRow_made (base := wr.heap.size) (e := 9) (size := 1) wr #[] 0 (Nat.le_refl _) (by decide) rfl
      have hV := hv.below (below_one' wr (.cells #[] 9))
      have hnil := hV.nil_len
      have HM2 := Lib.hid hM
      have HV := Lib.hid hV
      have HNIL := Lib.hid hnil
      have hlen : (rowC r).length = r.length := by simp [rowC]
      have hone : ∀ u ∈ rowC r, u.oneCell' = true := fun u hu => by
        simp only [rowC, List.mem_map] at hu
        obtain ⟨x, _, rfl⟩ := hu
        rfl
      have HONE := Lib.hid hone
      have HLEN := Lib.hid hlen
      have hcB : ∀ o, (wr.alloc o).cell? ⟨b, off + k, none⟩ = some (.slice A1 r.length c1) := fun o => (World.cell?_of_block (w := wr) (Below.heap_alloc wr o b (World.block_lt_of_cell? wr _ hc))).trans hc
      clear hri hbw hv hM hV hnil htk hone hlen
      go_wp2_with (at_builtin; refine wpList_append_src _ rfl _ _ 31 rfl wr.heap.size 9 i0 (.string ⟨#[]⟩) 1 16 Try.underlying31 hi hz0 hz1 hz2 rfl (by decide) _ _ _ rfl HM2.out A1 r.length c1 (rowC r) rfl (by rw [HLEN.out, Nat.mul_one]) ?c0 ?c1 HONE.out ?c3 ?c4 ?c5 ?_)
      case c0 => intro e; rw [← HLEN.out]; exact HNIL.out e
      case c1 => intro ad had; subst had; exact HV.out.news
      case c3 => unfold maxLen; omega
      case c4 => omega
      case c5 => simp
      intro v2 w2 ho2 hg2
      have hb2 : Below wr.heap.size wr w2 := (below_one' wr (.cells #[] 9)).grown hg2 (by simp) (fun k hk => (HM2.out.lt k hk).1)
      obtain ⟨vals, hB4, hown4, hone4, hclose4⟩ := (RI.with (n := r.length) rfl HRI.out hb2 (by simpa using ho2)).close
      obtain ⟨A2, c2, rfl, -, -⟩ := vAt_own ho2
      have HOWN := Lib.hid hown4
      have HCL := Lib.hid hclose4
      have HB2 := Lib.hid (HBW.out.trans (hb2.mono HBW.out.size))
      have hkl : (R.take k).length = k := by rw [List.length_take]; omega
      rw [hkl] at HOWN HCL
      clear ho2 hg2 hb2 hown4 hone4 hclose4 hcB hc
      go_wp2_with (at_builtin; refine wpList_append_own _ rfl _ _ 22 rfl w.heap.size 31 i1 (.slice none 0 0) 1 24 Try.underlying22 hi' hz0' hz1' hz2' rfl (by decide) _ _ _ rfl (HOWN.out.alloc _) ⟨_, 0, none⟩ 1 1 [.slice A2 r.length c2] rfl rfl ?c1 ?c2 ?c3 ?c4 ?c5 ?_)
      case c1 => exact cell_one_new _ _ _
      case c2 => intro u hu; simp only [List.mem_singleton] at hu; subst hu; rfl
      case c3 => unfold maxLen; omega
      case c4 => omega
      case c5 => have := HB2.out.size; simp; omega
      intro vs' w6 ho6 hg6 _
      obtain ⟨A6, k6, rfl, -, -⟩ := vAt_own ho6
      have hbB : Below w2.heap.size w2 (w2.alloc (.cells #[.slice A2 r.length c2] 31)) := (Below.refl _ _).alloc (Nat.le_refl _) _
      have hb6 : Below w.heap.size w w6 := (HB2.out.alloc HB2.out.size _).grown hg6 (by simp; have := HB2.out.size; omega) (fun k hk => (HOWN.out.lt k hk).1)
      have HRI6 := Lib.hid (HCL.out _ _ w6 hbB ho6 hg6)
      have HB6 := Lib.hid hb6
      clear ho6 hg6 hbB hb6
      go_wp2_with fail
      go_roundw
      case measure => simp [RowKit.intOf]; omega
      case rel =>
        refine ⟨k + 1, A6, k6, by omega, by go_num, rfl, ?_, HB6.out⟩
        rw [HTK.out]
        exact HRI6.out
    · have e : R.take k = R := List.take_of_length_le (by omega)
      have hkl : k = R.length := by omega
      subst hkl
      rw [e] at hri
      obtain ⟨A6, c6, e6, hrec⟩ := RI.readsC hri
      injection e6 with e7 e8 e9
      subst e7
      subst e9
      clear hri hbw HRI
      go_wp2
      go_ret
      exact ⟨A', c', rfl, hrec, HBW.out⟩

/-- Records that are gone through whole. -/
structure Small (R : Rec) : Prop where
  num : R.length ≤ 60
  rows : ∀ r ∈ R, r.length ≤ 60
  each : ∀ r ∈ R, ∀ x ∈ r, x.length ≤ 4000
theorem Small.few {R : Rec} (h : Small R) : Few R := ⟨by have := h.num; omega, fun r hr => by have := h.rows r hr; omega⟩
theorem mem_take {α : Type} {l : List α} {k : Nat} (h : k < l.length) {p : α → Prop} (h1 : ∀ x ∈ l.take k, p x) (h2 : p l[k]) : ∀ x ∈ l.take (k + 1), p x := by
  intro x hx
  rw [List.take_add_one, List.getElem?_eq_getElem h, Option.toList_some, List.mem_append] at hx
  rcases hx with hx | hx
  · exact h1 x hx
  · rw [List.mem_singleton] at hx
    subst hx
    exact h2
def RowSmall (r : List Bs) : Prop := r.length ≤ 60 ∧ ∀ x ∈ r, x.length ≤ 4000
theorem small_of {R : Rec} (h0 : R.length ≤ 60) (h : ∀ r ∈ R, RowSmall r) : Small R := ⟨h0, fun r hr => (h r hr).1, fun r hr => (h r hr).2⟩

def WidePost (R : Rec) (w : World) (e : Ending) (w' : World) : Prop := (∃ b, e = .returned (.bool b) ∧ (b = false → Small R)) ∧ w' = w

set_option maxHeartbeats 2000000 in
set_option maxRecDepth 1000000 in
theorem toowide_any (A : Option Addr) (R : Rec) (n c : Nat) (hn : n = R.length) (w : World) (hA : RecsAt w A R) (hl : R.length ≤ 140737488355328) (hr : ∀ r ∈ R, r.length ≤ 140737488355328) (hx : ∀ r ∈ R, ∀ x ∈ r, x.length ≤ 140737488355328) :
    Calls Try.prog 7 #[.slice A n c] w (WidePost R w) := by
  subst hn
  have HA := Lib.hid hA
  have HR := Lib.hid hr
  have HX := Lib.hid hx
  clear hA hr hx
  go_enter Try.func7, Try.ntmps7
  go_wp2_with fail
  go_loop [3] (fun s3 => ∃ i : Nat, i ≤ R.length ∧ i ≤ 61 ∧ s3 = .int .i64 i ∧ ∀ r ∈ R.take i, RowSmall r) (fun s3 => R.length - (RowKit.intOf s3).toNat)
  case atStart => exact ⟨0, Nat.zero_le _, by omega, rfl, by simp⟩
  case round =>
    obtain ⟨i, hi, h61, rfl, hall⟩ := hrel
    have HALL := Lib.hid hall
    clear hall
    by_cases hlt : i < R.length
    · have dn : decide ((i : Int) < (R.length : Int)) = true := decide_eq_true (by omega)
      by_cases hlt2 : i < 61
      · have d61 : decide ((i : Int) < 61) = true := decide_eq_true (by omega)
        obtain ⟨g, off, A1, c1, rfl, hc, hv⟩ := HA.out.at_ hlt
        have hrl := HR.out R[i] (List.getElem_mem hlt)
        have hxl := HX.out R[i] (List.getElem_mem hlt)
        have HNX := Lib.hid (mem_take (p := RowSmall) hlt HALL.out)
        obtain ⟨r, hre⟩ : ∃ r, R[i] = r := ⟨_, rfl⟩
        rw [hre] at hc hv hrl hxl HNX
        have HV := Lib.hid hv
        have HXL := Lib.hid hxl
        clear hre hv hxl
        by_cases hbig : 60 < r.length
        · have hz : (60 : Int) < (r.length : Int) := by omega
          go_wp2_with fail
          go_ret
          exact ⟨⟨true, rfl, fun h => by cases h⟩, rfl⟩
        · have hz : ¬ (60 : Int) < (r.length : Int) := by omega
          go_wp2_with fail
          go_loop [4] (fun s4 => ∃ j : Nat, j ≤ r.length ∧ s4 = .int .i64 j ∧ ∀ x ∈ r.take j, x.length ≤ 4000) (fun s4 => r.length - (RowKit.intOf s4).toNat)
          case atStart => exact ⟨0, Nat.zero_le _, rfl, by simp⟩
          case round =>
            obtain ⟨j, hj, rfl, hallj⟩ := hrel
            have HALLJ := Lib.hid hallj
            clear hallj
            by_cases hlj : j < r.length
            · obtain ⟨g2, off2, rfl, hc2⟩ := HV.out.at_ (k := j) (by rw [rowC_len]; exact hlj)
              have e2 : (rowC r)[j]'(by rw [rowC_len]; exact hlj) = .string ⟨r[j].toArray⟩ := by simp [rowC, bx]
              rw [e2] at hc2
              have hx1 := HXL.out r[j] (List.getElem_mem hlj)
              have HNJ := Lib.hid (mem_take (p := fun x : Bs => x.length ≤ 4000) hlj HALLJ.out)
              obtain ⟨y, hy⟩ : ∃ y, r[j] = y := ⟨_, rfl⟩
              rw [hy] at hc2 hx1 HNJ
              obtain ⟨Y, hY⟩ : ∃ Y : ByteArray, (⟨y.toArray⟩ : ByteArray) = Y := ⟨_, rfl⟩
              have hYs : Y.size = y.length := by rw [← hY]; show y.toArray.size = _; simp
              rw [hY] at hc2
              clear hy hY e2
              by_cases hy3 : 4000 < y.length
              · have hz3 : (4000 : Int) < (y.length : Int) := by omega
                go_wp2_with fail
                go_ret
                exact ⟨⟨true, rfl, fun h => by cases h⟩, rfl⟩
              · have hz3 : ¬ (4000 : Int) < (y.length : Int) := by omega
                go_wp2_with fail
                go_round
                case measure => simp [RowKit.intOf]; omega
                case rel => exact ⟨j + 1, by omega, by go_num, HNJ.out (by omega)⟩
            · have e : r.take j = r := List.take_of_length_le (by omega)
              have hs := HALLJ.out
              rw [e] at hs
              have HS := Lib.hid (HNX.out ⟨by omega, hs⟩)
              clear e hs
              go_wp2_with fail
              go_round
              case measure => simp [RowKit.intOf]; omega
              case rel => exact ⟨i + 1, by omega, by omega, by go_num, HS.out⟩
      · have d61 : decide ((i : Int) < 61) = false := decide_eq_false (by omega)
        have hb : 60 < R.length := by omega
        have hz : (60 : Int) < (R.length : Int) := by omega
        go_wp2_with fail
        go_ret
        exact ⟨⟨_, rfl, fun h => by simp at h⟩, rfl⟩
    · have dn : decide ((i : Int) < (R.length : Int)) = false := decide_eq_false (by omega)
      have e : R.take i = R := List.take_of_length_le (by omega)
      have hs := HALL.out
      rw [e] at hs
      have HS := Lib.hid hs
      clear e hs
      go_wp2_with fail
      go_ret
      exact ⟨⟨_, rfl, fun h => small_of (by have := of_decide_eq_false h; omega) HS.out⟩, rfl⟩
end Go.Proofs.Ytdkdmfbhnaaobaa.Tb
