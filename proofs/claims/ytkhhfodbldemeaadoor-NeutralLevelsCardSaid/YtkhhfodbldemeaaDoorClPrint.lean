/-
  Proved here: what class.Print and class.Read return, for every row of numbers of at most a million and every text of at most a million bytes, where the names stand in memory as they are laid; they leave what was in memory.
-/
import Derived.Test.YtkhhfodbldemeaaDoorClNamed
import Derived.Test.YtkhhfodbldemeaaDoorShelf
import Derived.Test.YtkhhfodbldemeaaDoorClInts
import Derived.Laws.AppendOwn
import Derived.Laws.OwnMore
import Derived.OwnWalk
set_option linter.unusedVariables false
namespace Go.Proofs.YtkhhfodbldemeaaDoor.Cl
open Go.RowKit Go.Lib

theorem infoStr : (Tryd.prog.info? 9).map (fun i => (i.zero, i.size, i.bytes)) = some (some (.string ⟨#[]⟩), 1, 16) := by kernel_rfl

/-- Whether each number is a class's. -/
def okAll (zs : List Int) : Bool := zs.all fun z => decide (0 ≤ z) && decide (z < 23)
def nameZ (z : Int) : ByteArray := namesB.getD z.toNat ⟨#[]⟩
def printS (zs : List Int) : ByteArray := ⟨(Lib.join (zs.map fun z => (nameZ z).data.toList) [32]).toArray⟩
/-- What class.Print answers. -/
def printV (zs : List Int) : Value := if okAll zs then .tuple #[.string (printS zs), .bool true] else .tuple #[.string ⟨#[]⟩, .bool false]

def strCells (l : List ByteArray) : List Value := l.map Value.string
theorem okAll_take {zs : List Int} {k : Nat} (hk : k < zs.length) (h : okAll (zs.take k) = true) : okAll (zs.take (k + 1)) = (decide (0 ≤ zs[k]) && decide (zs[k] < 23)) := by
  unfold okAll at h ⊢
  rw [List.take_succ_eq_append_getElem hk, List.all_append, h]
  simp
theorem okAll_mono {zs : List Int} (k : Nat) (h : okAll (zs.take k) = false) : okAll zs = false := by
  unfold okAll at h ⊢
  rw [← List.take_append_drop k zs, List.all_append, h]
  rfl
def PrRel (zs : List Int) (w : World) (s4 s9 : Value) (wx : World) : Prop :=
  ∃ k : Nat, k ≤ zs.length ∧ s9 = .int .i64 k ∧ Below w.heap.size w wx ∧ wx.ownsRow w.heap.size 9 1 s4 k (strCells ((zs.take k).map nameZ)) ∧ okAll (zs.take k) = true

theorem names_short : ∀ (m : Nat) (hm : m < namesB.length), namesB[m].data.toList.length ≤ 3 := by decide
theorem join_len : ∀ (l : List ByteArray), (∀ n ∈ l, n.data.toList.length ≤ 3) → (Lib.join (l.map (·.data.toList)) [32]).length ≤ 4 * l.length
  | [], _ => by simp [Lib.join_nil]
  | x :: r, h => by
    rw [List.map_cons, Lib.join_cons, List.length_append, List.length_cons]
    have hx := h x (by simp)
    have hr : ∀ (r : List ByteArray), (∀ n ∈ r, n.data.toList.length ≤ 3) → (Lib.joinTail [32] (r.map (·.data.toList))).length ≤ 4 * r.length := by
      intro r
      induction r with
      | nil => intro _; simp [Lib.joinTail]
      | cons y r ih =>
        intro hr
        have h1 := hr y (by simp)
        have h2 := ih (fun n hn => hr n (by simp [hn]))
        simp only [Lib.joinTail, List.map_cons, List.flatten_cons, List.length_append, List.length_cons, List.length_nil] at h2 ⊢
        omega
    have := hr r (fun n hn => h n (by simp [hn]))
    omega
theorem nameZ_short (z : Int) : (nameZ z).data.toList.length ≤ 3 := by
  unfold nameZ
  by_cases h : z.toNat < namesB.length
  · rw [List.getD_eq_getElem?_getD, List.getElem?_eq_getElem h]; exact names_short _ h
  · rw [List.getD_eq_getElem?_getD, List.getElem?_eq_none (by omega)]; decide

set_option maxHeartbeats 1000000 in
set_option maxRecDepth 100000 in
theorem print_any (A : Option Addr) (zs : List Int) (c : Nat) (w : World) (hr : IntsAt w A zs) (hH : Held w) (hs : zs.length ≤ 1000000) :
    Calls Tryd.prog 26 #[.slice A zs.length c] w fun e w' => e = .returned (printV zs) ∧ Below w.heap.size w w' := by
  obtain ⟨i0, hi, hz0, hz1, hz2⟩ := info_parts infoStr
  have HR := Lib.hid hr
  have HH := Lib.hid hH
  clear hr hH
  go_enter Tryd.func26, Tryd.ntmps26
  go_wp2
  go_loopw [4, 9] (fun s4 s9 wx => PrRel zs w s4 s9 wx) (fun _ s9 _ => zs.length - (RowKit.intOf s9).toNat)
  case atStart => exact ⟨0, Nat.zero_le _, rfl, Below.refl _ _, World.ownsRow_nil _ _ _ _, rfl⟩
  case round =>
    obtain ⟨k, hk, rfl, hb, hown, hok⟩ := hrel
    have HOK := Lib.hid hok
    clear hok
    by_cases hlt : k < zs.length
    · obtain ⟨b, off, hA, hc⟩ := (HR.out.below hb).at_ hlt
      subst hA
      have hstep := Lib.hid (okAll_take hlt HOK.out)
      obtain ⟨z, hz⟩ : ∃ z, zs[k] = z := ⟨_, rfl⟩
      rw [hz] at hc
      have HZ := Lib.hid hz
      clear hz
      by_cases h0 : z < 0
      · go_wp2
        go_ret2
        refine ⟨?_, hb⟩
        have : okAll zs = false := okAll_mono (k + 1) (by rw [hstep.out, HZ.out]; simp; omega)
        unfold printV
        rw [this]
        rfl
      · by_cases h1 : 23 ≤ z
        · go_wp2
          go_ret2
          refine ⟨?_, hb⟩
          have : okAll zs = false := okAll_mono (k + 1) (by rw [hstep.out, HZ.out]; simp; omega)
          unfold printV
          rw [this]
          rfl
        · obtain ⟨m, rfl⟩ : ∃ m : Nat, z = m := ⟨z.toNat, by omega⟩
          have hm : m < 23 := by omega
          have hcn := (HH.out.below hb).2.1 m hm
          obtain ⟨n, hn⟩ : ∃ n, namesB[m] = n := ⟨_, rfl⟩
          have hcn' : wr.cell? ⟨0, m, none⟩ = some (.string n) := by rw [← hn]; exact hcn
          have HN := Lib.hid hn
          clear hn hcn
          go_wp2_with (at_builtin; refine wpList_append_own _ rfl _ _ 44 rfl w.heap.size 9 i0 (.string ⟨#[]⟩) 1 16 Tryd.underlying44 hi hz0 hz1 hz2 rfl (by decide) _ _ _ rfl (hown.alloc _) ⟨wr.heap.size, 0, none⟩ 1 1 [.string n] rfl rfl ?c1 ?c2 ?c3 ?c4 ?c5 ?_)
          case c2 => rfl
          case c3 => unfold maxLen; omega
          case c4 => omega
          case c5 => have := hb.size; omega
          intro v' w2 hown' hgrow _
          have hlt2 := hown.lt
          have HG := Lib.hid hgrow
          have HO := Lib.hid hown'
          clear hgrow hown'
          go_wp2
          go_roundw
          case measure => simp [RowKit.intOf]; omega
          case rel =>
            refine ⟨k + 1, by omega, by go_num, ?_, ?_, ?_⟩
            · exact (hb.alloc hb.size _).grown HG.out (by simp; have := hb.size; omega) (fun g hg => by have := (hlt2 g hg).1; omega)
            · have h := HO.out
              have e : strCells ((zs.take (k + 1)).map nameZ) = strCells ((zs.take k).map nameZ) ++ [.string n] := by
                rw [List.take_succ_eq_append_getElem hlt, HZ.out]
                have : nameZ (m : Int) = n := by
                  unfold nameZ
                  rw [Int.toNat_natCast, List.getD_eq_getElem?_getD, List.getElem?_eq_getElem (show m < namesB.length from hm)]
                  exact HN.out
                simp [strCells, this]
              rw [e]
              rw [← List.map_take] at h
              exact h
            · rw [hstep.out, HZ.out]
              simp
              omega
    · obtain rfl : k = zs.length := by omega
      have hok : okAll zs = true := by simpa using HOK.out
      rw [List.take_length] at hown
      have HO := Lib.hid hown
      have HOK' := Lib.hid hok
      rcases hown.2 with ⟨rfl, hn⟩ | ⟨g, cap, cur, rfl, hg1, hg2, hg3, _, _, _⟩
      · have hzs : zs = [] := List.eq_nil_of_length_eq_zero hn
        clear hown hok hn HO
        subst hzs
        go_wp2_with (go_at_call 29; refine (Tryd.strings_Join_none _ _ _ _).mono ?_; rintro e w' ⟨rfl, rfl⟩)
        go_ret2
        exact ⟨rfl, hb⟩
      · have hcell : ∀ (j : Nat) x, (zs.map nameZ)[j]? = some x → wr.cell? ⟨g, 0 + j, none⟩ = some (.string x) := by
          intro j x hj
          have := @World.ownsRow.cells _ _ _ _ _ _ _ HO.out g rfl j (.string x) (by simp only [strCells, List.getElem?_map, hj]; rfl)
          have hadd : (⟨g, 0, none⟩ : Addr).add j = ⟨g, 0 + j, none⟩ := by unfold Addr.add; split <;> simp_all
          rw [← hadd]
          exact this
        have hgs : g < wr.heap.size := (Array.getElem?_eq_some_iff.1 hg2).1
        have hjl := join_len (zs.map nameZ) (fun n hn => by obtain ⟨z, _, rfl⟩ := List.mem_map.1 hn; exact nameZ_short z)
        have hc0 := Tryd.strings_Join g 0 cap (zs.map nameZ) ⟨#[32]⟩ wr hcell hgs (by rw [List.length_map]; omega) (by rw [List.length_map]; exact hg3) (by rw [List.length_map] at hjl; have : ((⟨#[32]⟩ : ByteArray).data.toList) = [32] := rfl; rw [this]; omega)
        rw [List.length_map] at hc0
        have HC := Lib.hid hc0
        clear hc0 hcell hg2 hown hok HO hjl
        go_wp2_with (go_at_call 29; refine HC.out.mono ?_; rintro e w' ⟨rfl, hb2⟩)
        go_ret2
        refine ⟨?_, hb.trans (hb2.mono hb.size)⟩
        unfold printV printS
        rw [HOK'.out, if_pos rfl]
        rfl
end Go.Proofs.YtkhhfodbldemeaaDoor.Cl
