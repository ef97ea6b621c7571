/-
  Proved here: what class.Read returns, for every text of at most a million bytes, where the names stand in memory as they are laid; it leaves what was in memory.
-/
import Derived.Test.YtkhhfodbldemeaaDoorClPrint
import Derived.Lib.SplitLaws
set_option linter.unusedVariables false
namespace Go.Proofs.YtkhhfodbldemeaaDoor.Cl
open Go.RowKit Go.Lib

def blank : ByteArray := ⟨#[32]⟩
def wordsOf (s : ByteArray) : List ByteArray := Lib.splitB blank 0 (Lib.countB s blank) s
theorem words_len (s : ByteArray) : (wordsOf s).length = Lib.countB s blank + 1 := Lib.splitB_all blank (by decide) 0 _ s rfl
def readOk (s : ByteArray) : Bool := decide (s = ⟨#[]⟩) || (wordsOf s).all fun x => decide (nameNo x < 23)
def noInts (l : List ByteArray) : List Int := l.map fun x => (nameNo x : Int)
def readZ (s : ByteArray) : List Int := if s = ⟨#[]⟩ then [] else if readOk s then noInts (wordsOf s) else []
def intCells (zs : List Int) : List Value := zs.map (Value.int .i64)
/-- What class.Read answers. -/
def ReadPost (s : ByteArray) (w : World) (e : Ending) (w' : World) : Prop :=
  ∃ v, e = .returned (.tuple #[v, .bool (readOk s)]) ∧ w'.ownsRow w.heap.size 3 1 v (readZ s).length (intCells (readZ s)) ∧ Below w.heap.size w w'
theorem namedV_yes {x : ByteArray} (h : nameNo x < 23) : namedV x = .tuple #[.int .i64 (nameNo x), .bool true] := by
  unfold namedV; rw [if_pos h, decide_eq_true h]
theorem namedV_no {x : ByteArray} (h : ¬ nameNo x < 23) : namedV x = .tuple #[.int .i64 0, .bool false] := by
  unfold namedV; rw [if_neg h, decide_eq_false h]
theorem readOk_empty : readOk ⟨#[]⟩ = true := rfl
theorem readZ_empty : readZ ⟨#[]⟩ = [] := rfl
theorem readOk_no {s : ByteArray} (hs : s ≠ ⟨#[]⟩) {k : Nat} (hk : k < (wordsOf s).length) (h : ¬ nameNo (wordsOf s)[k] < 23) : readOk s = false ∧ readZ s = [] := by
  have e : readOk s = false := by
    unfold readOk
    rw [decide_eq_false hs, Bool.false_or]
    rw [Bool.eq_false_iff]
    intro ha
    exact h (by simpa using List.all_eq_true.1 ha _ (List.getElem_mem hk))
  exact ⟨e, by unfold readZ; rw [if_neg hs, e]; rfl⟩
theorem readOk_yes {s : ByteArray} (hs : s ≠ ⟨#[]⟩) (h : ∀ x ∈ wordsOf s, nameNo x < 23) : readOk s = true ∧ readZ s = noInts (wordsOf s) := by
  have e : readOk s = true := by
    unfold readOk
    rw [decide_eq_false hs, Bool.false_or]
    exact List.all_eq_true.2 fun x hx => by simpa using h x hx
  exact ⟨e, by unfold readZ; rw [if_neg hs, e]; rfl⟩

def RdRel (s : ByteArray) (w1 : World) (s4 s14 : Value) (wx : World) : Prop :=
  ∃ k : Nat, k ≤ (wordsOf s).length ∧ s14 = .int .i64 k ∧ Below w1.heap.size w1 wx ∧ wx.ownsRow w1.heap.size 3 1 s4 k (intCells (noInts ((wordsOf s).take k))) ∧ ∀ x ∈ (wordsOf s).take k, nameNo x < 23
theorem strCells_made (l : List ByteArray) (t : TypeId) (w : World) (k : Nat) (hk : k < l.length) : (w.alloc (.cells (l.map Value.string).toArray t)).cell? ⟨w.heap.size, k, none⟩ = some (.string l[k]) := by
  simp [hk]
theorem intCells_one (zs : List Int) : ∀ u ∈ intCells zs, u.oneCell' = true := ints_one zs

set_option maxHeartbeats 1000000 in
set_option maxRecDepth 100000 in
theorem read_any (s : ByteArray) (w : World) (hH : Held w) (hs : s.size ≤ 1000000) (hcb : Lib.countB s blank ≤ s.size) :
    Calls Tryd.prog 25 #[.string s] w (ReadPost s w) := by
  by_cases h0 : s = ⟨#[]⟩
  · subst h0
    go_enter Tryd.func25, Tryd.ntmps25
    go_wp2
    go_ret2
    exact ⟨_, rfl, World.ownsRow_nil _ _ _ _, Below.refl _ _⟩
  · have hq := str_ne h0
    have hq1 : ¬ s.toList = [] := by
      rw [ByteArray.toList_eq]
      intro e
      exact h0 (by obtain ⟨⟨x⟩⟩ := s; simp only at e; rw [e])
    have hq2 : s.toList.isEmpty = false := by simpa using hq1
    obtain ⟨i0, hi, hz0, hz1, hz2⟩ := info_parts infoInt
    obtain ⟨m, hm⟩ := hH.2.2
    have hsp := Tryd.strings_Split s blank m w (by omega) hm (by decide)
    have hl := words_len s
    have hsp' : Calls Tryd.prog 27 #[.string s, .string blank] w fun e w' => e = .returned (.slice (some ⟨w.heap.size, 0, none⟩) (wordsOf s).length (wordsOf s).length) ∧ w' = w.alloc (.cells ((wordsOf s).map Value.string).toArray 9) := by
      rw [hl]; exact hsp
    have hN : (wordsOf s).length ≤ 1000001 := by omega
    have HSP := Lib.hid hsp'
    have HH := Lib.hid hH
    have H0 := Lib.hid h0
    clear hsp hsp' hl hH h0 hm hcb
    go_enter Tryd.func25, Tryd.ntmps25
    go_wp2_with fail
    refine HSP.out.mono ?_
    rintro e w1 ⟨rfl, rfl⟩
    have hcells := Lib.hid (strCells_made (wordsOf s) 9 w)
    have hb1 : Below w.heap.size w (w.alloc (.cells ((wordsOf s).map Value.string).toArray 9)) := (Below.refl _ _).alloc (Nat.le_refl _) _
    have hH1 := Lib.hid (HH.out.below hb1)
    have hsz : (w.alloc (.cells ((wordsOf s).map Value.string).toArray 9)).heap.size = w.heap.size + 1 := by simp
    have HSZ := Lib.hid hsz
    generalize w.alloc (.cells ((wordsOf s).map Value.string).toArray 9) = w1 at *
    clear hsz HSP hq hq1 hq2
    go_wp2
    go_loopw [4, 14] (fun s4 s14 wx => RdRel s w1 s4 s14 wx) (fun _ s14 _ => (wordsOf s).length - (RowKit.intOf s14).toNat)
    case atStart => exact ⟨0, Nat.zero_le _, rfl, Below.refl _ _, World.ownsRow_nil _ _ _ _, by simp⟩
    case round =>
      obtain ⟨k, hk, rfl, hb, hown, hok⟩ := hrel
      have HOK := Lib.hid hok
      clear hok
      by_cases hlt : k < (wordsOf s).length
      · have hc : wr.cell? ⟨w.heap.size, k, none⟩ = some (.string (wordsOf s)[k]) := (hb.cell (p := ⟨w.heap.size, k, none⟩) (by simp only; rw [HSZ.out]; omega)).trans (hcells.out k hlt)
        have hHr := Lib.hid (hH1.out.below hb)
        obtain ⟨x, hx⟩ : ∃ x, (wordsOf s)[k] = x := ⟨_, rfl⟩
        rw [hx] at hc
        have HX := Lib.hid hx
        clear hx
        by_cases hn : nameNo x < 23
        · have hnv := Lib.hid (namedV_yes hn)
          have hn' := Lib.hid hn
          clear hn
          have hcn := named_any x wr hHr.out
          rw [hnv.out] at hcn
          obtain ⟨j, hj⟩ : ∃ j, nameNo x = j := ⟨_, rfl⟩
          rw [hj] at hcn
          have HCN := Lib.hid hcn
          have HJ := Lib.hid hj
          clear hcn hj
          go_wp2_with (first
            | (go_at_call 28; refine HCN.out.mono ?_; rintro e w' ⟨rfl, rfl⟩)
            | (at_builtin; refine wpList_append_own _ rfl _ _ 22 rfl w1.heap.size 3 i0 (.int .i64 0) 1 8 Tryd.underlying22 hi hz0 hz1 hz2 rfl (by decide) _ _ _ rfl (hown.alloc _) ⟨wr.heap.size, 0, none⟩ 1 1 [.int .i64 j] rfl rfl ?c1 ?c2 ?c3 ?c4 ?c5 ?_))
          case c1 => exact cell_one_new _ _ _
          case c2 => intro u hu; simp only [List.mem_singleton] at hu; subst hu; rfl
          case c3 => unfold maxLen; omega
          case c4 => omega
          case c5 => have := hb.size; simp; omega
          intro v' w2 hown' hgrow _
          have hlt2 := hown.lt
          have HG := Lib.hid hgrow
          have HO := Lib.hid hown'
          clear hgrow hown'
          go_wp2
          go_roundw
          case measure => simp [RowKit.intOf]; omega
          case rel =>
            refine ⟨k + 1, by omega, by go_num, ?_, ?_, ?_⟩
            · exact (hb.alloc hb.size _).grown HG.out (by simp; have := hb.size; omega) (fun g hg => by have := (hlt2 g hg).1; omega)
            · have h := HO.out
              have e : intCells (noInts ((wordsOf s).take (k + 1))) = intCells (noInts ((wordsOf s).take k)) ++ [.int .i64 j] := by
                rw [List.take_succ_eq_append_getElem hlt, HX.out]
                simp [intCells, noInts, HJ.out]
              rw [e]
              exact h
            · intro y hy
              rw [List.take_succ_eq_append_getElem hlt, HX.out] at hy
              rcases List.mem_append.1 hy with h | h
              · exact HOK.out y h
              · rw [List.mem_singleton] at h
                subst h
                exact hn'.out
        · have hnv := Lib.hid (namedV_no hn)
          have hno := Lib.hid (readOk_no H0.out hlt (by rw [HX.out]; exact hn))
          clear hn
          have hcn := named_any x wr hHr.out
          rw [hnv.out] at hcn
          have HCN := Lib.hid hcn
          clear hcn
          go_wp2_with (go_at_call 28; refine HCN.out.mono ?_; rintro e w' ⟨rfl, rfl⟩)
          go_ret2
          refine ⟨.slice none 0 0, ?_, ?_, hb1.trans (hb.mono hb1.size)⟩
          · rw [hno.out.1]; rfl
          · rw [hno.out.2]; exact World.ownsRow_nil _ _ _ _
      · obtain rfl : k = (wordsOf s).length := by omega
        rw [List.take_length] at hown
        have hyes := Lib.hid (readOk_yes H0.out (by simpa using HOK.out))
        have HO := Lib.hid hown
        clear hown
        go_wp2
        go_ret2
        refine ⟨u4, ?_, ?_, hb1.trans (hb.mono hb1.size)⟩
        · rw [hyes.out.1]; rfl
        · rw [hyes.out.2]
          have h := HO.out
          have e : (noInts (wordsOf s)).length = (wordsOf s).length := by simp [noInts]
          rw [e]
          exact ownsRow_mono h hb1.size
end Go.Proofs.YtkhhfodbldemeaaDoor.Cl
