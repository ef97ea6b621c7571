/-
  Proved here: what quote.Print and quote.Tidy return, for records whose text is put together to its end; they leave what was in memory.
-/
import Derived.Test.YtafpddpeffpnfaaDoorQuJoinR
import Derived.Test.YtafpddpeffpnfaaDoorQuSmall
import Derived.Test.YtafpddpeffpnfaaDoorCvParse
set_option linter.unusedVariables false
namespace Go.Proofs.YtafpddpeffpnfaaDoor.Qu
open Go Go.RowKit Go.Lib Go.Proofs.YtafpddpeffpnfaaDoor.Cv Go.Proofs.YtafpddpeffpnfaaDoor.Bd

/-- Records that Print goes through to their end. -/
structure RecsOk (R : List (List Bs)) : Prop where
  fit : fits [] (R.map recW)
  num : R.length ≤ 1000000
  each : ∀ r ∈ R, RecOk r
  len : (textW R).length ≤ 1000000000

def bad (R : List (List Bs)) : Bool := decide (R.length = 0) || anyEmpty R
/-- The text, and the error. -/
def prT (R : List (List Bs)) : Bs := if bad R then [] else if 65536 < (textW R).length then [] else textW R
def prE (R : List (List Bs)) : Int := if bad R then 1 else if 65536 < (textW R).length then 3 else 0
def PrintPost (R : List (List Bs)) (w : World) (e : Ending) (w' : World) : Prop := e = .returned (.tuple #[.string ⟨(prT R).toArray⟩, .int .i64 (prE R)]) ∧ Below w.heap.size w w'

set_option maxHeartbeats 1000000 in
set_option maxRecDepth 100000 in
theorem print_any (A : Option Addr) (R : List (List Bs)) (n c : Nat) (hn : n = R.length) (w : World) (hH : Held w) (hA : RecsAt w A R) (h : RecsOk R) :
    Calls Tryd.prog 14 #[.slice A n c] w (PrintPost R w) := by
  subst hn
  have HC := Lib.hid (contains_any A R c w hA h.num)
  have HJ := Lib.hid (joinR_any A R c w hH hA h.fit h.num h.each)
  have hlen := h.len
  obtain ⟨T, hT⟩ : ∃ T, (⟨(textW R).toArray⟩ : ByteArray) = T := ⟨_, rfl⟩
  have hTs : T.size = (textW R).length := by
    rw [← hT]
    show (textW R).toArray.size = _
    simp
  change Hid (Calls _ _ _ _ fun e w' => e = .returned (.string ⟨(textW R).toArray⟩) ∧ _) at HJ
  rw [hT] at HJ
  have HT := Lib.hid hT
  clear hT hA hH h
  unfold PrintPost prT prE bad
  by_cases h0 : R.length = 0
  · rw [decide_eq_true h0]
    rw [h0] at HC HJ
    rw [h0]
    simp only [Bool.true_or, if_true]
    go_enter Tryd.func14, Tryd.ntmps14
    go_wp2_with fail
    go_ret2
    exact ⟨rfl, Below.refl _ _⟩
  · rw [decide_eq_false h0, Bool.false_or]
    have hz : ((R.length : Int) == 0) = false := by rw [beq_eq_false_iff_ne]; omega
    cases hy : anyEmpty R with
    | true =>
      rw [hy] at HC
      simp only [if_true]
      go_enter Tryd.func14, Tryd.ntmps14
      go_wp2_with fail
      refine HC.out.mono ?_
      rintro e w1 ⟨rfl, rfl⟩
      go_wp2_with fail
      go_ret2
      exact ⟨rfl, Below.refl _ _⟩
    | false =>
      rw [hy] at HC
      simp only [Bool.false_eq_true, if_false]
      by_cases hl : 65536 < (textW R).length
      · have hl' : (65536 : Int) < (T.size : Int) := by omega
        rw [if_pos hl, if_pos hl]
        go_enter Tryd.func14, Tryd.ntmps14
        go_wp2_with fail
        refine HC.out.mono ?_
        rintro e w1 ⟨rfl, hw1⟩
        rw [hw1]
        go_wp2_with fail
        refine HJ.out.mono ?_
        rintro e w2 ⟨rfl, hb2⟩
        go_wp2_with fail
        go_ret2
        exact ⟨rfl, hb2⟩
      · have hl' : ¬ (65536 : Int) < (T.size : Int) := by omega
        rw [if_neg hl, if_neg hl]
        go_enter Tryd.func14, Tryd.ntmps14
        go_wp2_with fail
        refine HC.out.mono ?_
        rintro e w1 ⟨rfl, hw1⟩
        rw [hw1]
        go_wp2_with fail
        refine HJ.out.mono ?_
        rintro e w2 ⟨rfl, hb2⟩
        go_wp2_with fail
        go_ret2
        exact ⟨by rw [HT.out]; rfl, hb2⟩

def tdT (s : ByteArray) : Bs := if erP s = 0 then prT (recsP s) else []
def tdA (s : ByteArray) : Int := if erP s = 0 then 0 else atP s
def tdE (s : ByteArray) : Int := if erP s = 0 then prE (recsP s) else erP s
def TidyPost (s : ByteArray) (w : World) (e : Ending) (w' : World) : Prop := e = .returned (.tuple #[.string ⟨(tdT s).toArray⟩, .int .i64 (tdA s), .int .i64 (tdE s)]) ∧ Below w.heap.size w w'

set_option maxHeartbeats 1000000 in
set_option maxRecDepth 100000 in
theorem tidy_any (s : ByteArray) (w : World) (hH : Held w) (h : erP s = 0 → RecsOk (recsP s)) :
    Calls Tryd.prog 17 #[.string s] w (TidyPost s w) := by
  have HP := Lib.hid (parse_any s w hH)
  have HH := Lib.hid hH
  have HK := Lib.hid h
  unfold TidyPost tdT tdA tdE
  clear hH h
  by_cases h0 : erP s = 0
  · rw [if_pos h0, if_pos h0, if_pos h0]
    have HOK := Lib.hid (HK.out h0)
    have HE := Lib.hid h0
    obtain ⟨T, hT⟩ : ∃ T, prT (recsP s) = T := ⟨_, rfl⟩
    obtain ⟨E, hE⟩ : ∃ E, prE (recsP s) = E := ⟨_, rfl⟩
    rw [hT, hE]
    have HT := Lib.hid hT
    have HE2 := Lib.hid hE
    clear h0 HK hT hE
    go_enter Tryd.func17, Tryd.ntmps17
    go_wp2_with fail
    refine HP.out.mono ?_
    rintro e w1 ⟨A, c, rfl, hR, hb1⟩
    rw [HE.out]
    have HR := Lib.hid hR
    have HHW := Lib.hid (HH.out.below HH.out.1 hb1)
    obtain ⟨n, hn⟩ : ∃ n, (recsP s).length = n := ⟨_, rfl⟩
    obtain ⟨z, hz⟩ : ∃ z, atP s = z := ⟨_, rfl⟩
    rw [hn, hz]
    have HN := Lib.hid hn.symm
    clear hn hz hR
    go_wp2_with fail
    refine (print_any A (recsP s) n c HN.out w1 HHW.out HR.out HOK.out).mono ?_
    rintro e w2 ⟨rfl, hb2⟩
    rw [HT.out, HE2.out]
    go_wp2_with fail
    go_ret3
    exact ⟨rfl, hb1.trans (hb2.mono hb1.size)⟩
  · rw [if_neg h0, if_neg h0, if_neg h0]
    obtain ⟨z, hz⟩ : ∃ z, atP s = z := ⟨_, rfl⟩
    obtain ⟨x, hx⟩ : ∃ x, erP s = x := ⟨_, rfl⟩
    rw [hx] at h0
    rw [hz, hx]
    have hne : (x != 0) = true := by simpa using h0
    have HZ := Lib.hid hz
    have HX := Lib.hid hx
    clear hz hx h0 HK
    go_enter Tryd.func17, Tryd.ntmps17
    go_wp2_with fail
    refine HP.out.mono ?_
    rintro e w1 ⟨A, c, rfl, hR, hb1⟩
    obtain ⟨n, hn⟩ : ∃ n, (recsP s).length = n := ⟨_, rfl⟩
    rw [hn, HZ.out, HX.out]
    clear hn hR HP
    go_wp2_with fail
    go_ret3
    exact ⟨rfl, hb1⟩
end Go.Proofs.YtafpddpeffpnfaaDoor.Qu
