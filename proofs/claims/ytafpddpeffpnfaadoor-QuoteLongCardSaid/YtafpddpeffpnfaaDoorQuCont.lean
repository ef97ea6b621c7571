/-
  Proved here: strings.IndexAny and strings.ContainsAny of any text (of at most 1000000 bytes) and of quote, comma, CR, LF tell whether the text has one of them; they leave what was in memory below the heap's end.
-/
import Derived.Test.YtafpddpeffpnfaaDoorQuAny
import Derived.Test.YtafpddpeffpnfaaDoorCvSmall
import Derived.Lib.DecodeN
import Derived.Lib.TrimAscii
import Derived.Lib.TrimUEq
set_option linter.unusedVariables false
namespace Go.Proofs.YtafpddpeffpnfaaDoor.Qu
open Go Go.RowKit Go.Lib Go.Proofs.YtafpddpeffpnfaaDoor.Cv

theorem getD_at {l : List UInt8} {j : Nat} {b : UInt8} (h : l[j]? = some b) : l.getD j 0 = b := by simp [List.getD, h]
/-- A first rune that begins with a byte of 128 at least has but such bytes, and a code of 128 at least. -/
theorem dec_high (l : List UInt8) (h : 128 ≤ (l.getD 0 0).toNat) : 128 ≤ (Lib.decodeL l).1 ∧ ∀ j b, j < (Lib.decodeL l).2 → l[j]? = some b → 128 ≤ b.toNat := by
  rw [Lib.decodeL_N]
  have hj : ∀ j b n, n ≤ 4 → (1 < n → 128 ≤ (l.getD 1 0).toNat) → (2 < n → 128 ≤ (l.getD 2 0).toNat) → (3 < n → 128 ≤ (l.getD 3 0).toNat) → j < n → l[j]? = some b → 128 ≤ b.toNat := by
    intro j b n hn h1 h2 h3 hjn hb
    have e := getD_at hb
    match j, hjn with
    | 0, _ => rw [← e]; exact h
    | 1, h' => rw [← e]; exact h1 h'
    | 2, h' => rw [← e]; exact h2 h'
    | 3, h' => rw [← e]; exact h3 h'
    | j + 4, h' => omega
  unfold Lib.decodeN
  generalize (l.getD 0 0).toNat = b0 at *
  generalize (l.getD 1 0).toNat = b1 at *
  generalize (l.getD 2 0).toNat = b2 at *
  generalize (l.getD 3 0).toNat = b3 at *
  rw [if_neg (by omega)]
  split
  · split
    · exact ⟨by dsimp only; omega, fun j b h1 h2 => hj j b 2 (by omega) (fun _ => by omega) (by omega) (by omega) h1 h2⟩
    · exact ⟨by dsimp only; omega, fun j b h1 h2 => hj j b 1 (by omega) (by omega) (by omega) (by omega) h1 h2⟩
  · split
    · split
      · exact ⟨by dsimp only; omega, fun j b h1 h2 => hj j b 3 (by omega) (fun _ => by omega) (fun _ => by omega) (by omega) h1 h2⟩
      · exact ⟨by dsimp only; omega, fun j b h1 h2 => hj j b 1 (by omega) (by omega) (by omega) (by omega) h1 h2⟩
    · split
      · split
        · exact ⟨by dsimp only; omega, fun j b h1 h2 => hj j b 4 (by omega) (fun _ => by omega) (fun _ => by omega) (fun _ => by omega) h1 h2⟩
        · exact ⟨by dsimp only; omega, fun j b h1 h2 => hj j b 1 (by omega) (by omega) (by omega) (by omega) h1 h2⟩
      · exact ⟨by dsimp only; omega, fun j b h1 h2 => hj j b 1 (by omega) (by omega) (by omega) (by omega) h1 h2⟩

theorem spB_contains (b : UInt8) : CH.data.toList.contains b = spB b := by
  have e : CH.data.toList = [34, 44, 13, 10] := rfl
  rw [e]
  simp only [List.contains_cons, List.contains_nil, Bool.or_false, spB, Bool.or_assoc]
theorem spB_high {b : UInt8} (h : 128 ≤ b.toNat) : spB b = false := by
  rw [Bool.eq_false_iff]
  intro e
  simp [spB] at e
  rcases e with ((rfl | rfl) | rfl) | rfl <;> simp at h
theorem special_high {L : Bs} {p n : Nat} (hb : ∀ j b, j < n → (L.drop p)[j]? = some b → 128 ≤ b.toNat) : special (L.take (p + n)) = special (L.take p) := by
  unfold special
  rw [List.take_add, List.any_append]
  have : ((L.drop p).take n).any spB = false := by
    rw [List.any_eq_false]
    intro b hm
    obtain ⟨j, hj, rfl⟩ := List.getElem_of_mem hm
    have hjn : j < n := by simp at hj; omega
    have := hb j _ hjn (by rw [← List.getElem?_take_of_lt hjn, List.getElem?_eq_getElem hj])
    rw [spB_high this]
    simp
  rw [this, Bool.or_false]
theorem special_step' {L : Bs} {k : Nat} {b : UInt8} (h : L[k]? = some b) (h0 : special (L.take k) = false) (hb : spB b = false) : special (L.take (k + 1)) = false := by
  unfold special at *
  rw [List.take_add_one, h, List.any_append, h0]
  simpa using hb
theorem index_contains (b : UInt8) : decide (0 ≤ Lib.indexByte CH.data.toList b) = spB b := by
  rw [← Lib.contains_iff_indexByte, spB_contains]
theorem special_hit {L : Bs} {p : Nat} {b : UInt8} (h : L[p]? = some b) (hs : spB b = true) : special L = true := by
  unfold special
  rw [List.any_eq_true]
  exact ⟨b, List.mem_of_getElem? h, hs⟩
theorem anyZ_special : ∀ L : Bs, decide (0 ≤ Lib.indexAny L CH.data.toList) = special L
  | [] => rfl
  | b :: l => by
    have ih := anyZ_special l
    have hge := Lib.indexAny_ge CH.data.toList l
    have e : special (b :: l) = (spB b || special l) := rfl
    rw [e, ← spB_contains, Lib.indexAny, ← ih]
    cases hc : CH.data.toList.contains b
    · simp only [Bool.false_eq_true, if_false, Bool.false_or]
      by_cases hm : Lib.indexAny l CH.data.toList = -1
      · rw [hm]
        rfl
      · rw [if_neg (by simpa using hm)]
        rw [Bool.eq_iff_iff]
        simp only [decide_eq_true_eq]
        omega
    · rfl

def AnyPost (s : ByteArray) (w : World) (e : Ending) (w' : World) : Prop := (∃ z : Int, e = .returned (.int .i64 z) ∧ decide (0 ≤ z) = special (tx s)) ∧ Below w.heap.size w w'

set_option maxHeartbeats 4000000 in
set_option maxRecDepth 1000000 in
theorem indexAny_short (s : ByteArray) (w : World) (h8 : s.size ≤ 8) :
    Calls Tryd.prog 31 #[.string s, .string CH] w (AnyPost s w) := by
  have h8z : decide ((8 : Int) < (s.size : Int)) = false := decide_eq_false (by omega)
  have hSh := fun W => Tryd.strings_shouldUseASCIISet (s.size : Int) W
  rw [h8z] at hSh
  have HSh := Lib.hid hSh
  have hemp : CH.toList.isEmpty = false := by rw [Lib.toList_data]; rfl
  have hCs : CH.size = 4 := rfl
  have hn1 : ((4 : Int) == 1) = false := rfl
  clear hSh h8z
  go_enter Tryd.func31, Tryd.ntmps31
  go_wp2_with (go_at_call 41; refine (HSh.out _).mono ?_; rintro e w0 ⟨rfl, hw0⟩; rw [hw0])
  go_loopg [] s.size (fun gf wx => ∃ pos : Nat, wx.heap[w.heap.size]? = some (.stringIter s pos) ∧ Below w.heap.size w wx ∧ special ((tx s).take pos) = false ∧ s.size ≤ pos + gf)
  case atStart => exact ⟨0, World.iter_heap _ s 0, (Below.refl _ _).alloc (Nat.le_refl _) _, rfl, by omega⟩
  case round =>
    obtain ⟨pos, hit, hbw, hno, hfu⟩ := hrel
    by_cases hps : pos < s.size
    · obtain ⟨g', rfl⟩ : ∃ g', gk = g' + 1 := ⟨gk - 1, by omega⟩
      have hnx : ∀ ty, (Instr.next (.pointer (some ⟨w.heap.size, 0, none⟩)) true ty).run Tryd.prog wr = _ := fun ty => Lib.run_next_any_at wr w.heap.size s pos ty hit hps
      rw [← Lib.decodeL_drop] at hnx
      change ∀ ty, _ = Result.ok (Value.tuple #[Value.bool true, Value.int .i64 pos, Value.int .i32 ((Lib.decodeL ((tx s).drop pos)).1 : Int)]) (wr.iterAt w.heap.size s (pos + (Lib.decodeL ((tx s).drop pos)).2)) at hnx
      have hat := tx_get s pos hps
      have hdr := Cv.drop_at hat
      have hwd := Lib.decodeL_width ((tx s).drop pos)
      have hcd := Lib.decodeL_rune ((tx s).drop pos)
      have hit2 := Lib.iterAt_heap wr w.heap.size s pos (pos + (Lib.decodeL ((tx s).drop pos)).2) hit
      have hbw2 := Lib.below_iterAt hbw (k := w.heap.size) (Nat.le_refl _) s (pos + (Lib.decodeL ((tx s).drop pos)).2)
      obtain ⟨R, hR⟩ : ∃ R, (Lib.decodeL ((tx s).drop pos)).1 = R := ⟨_, rfl⟩
      obtain ⟨K, hK⟩ : ∃ K, (Lib.decodeL ((tx s).drop pos)).2 = K := ⟨_, rfl⟩
      rw [hR] at hcd hnx
      rw [hK] at hwd hnx hit2 hbw2
      by_cases hlow : s[pos].toNat < 128
      · have hd := Lib.decodeL_ascii s[pos] ((tx s).drop (pos + 1)) hlow
        rw [← hdr] at hd
        rw [hd] at hR hK
        dsimp only at hR hK
        subst hR
        subst hK
        obtain ⟨W, hWd⟩ : ∃ W, wr.iterAt w.heap.size s (pos + 1) = W := ⟨_, rfl⟩
        rw [hWd] at hnx hit2 hbw2
        have HI := Lib.hid (Tryd.strings_IndexRune_ascii CH (s[pos].toNat : Int) W (by omega) (by omega))
        have hix := index_contains s[pos]
        rw [show ((s[pos].toNat : Int)).toNat.toUInt8 = s[pos] by simp] at HI
        obtain ⟨z, hz⟩ : ∃ z, Lib.indexByte CH.data.toList s[pos] = z := ⟨_, rfl⟩
        rw [hz] at HI hix
        have HN := Lib.hid hno
        have HAT := Lib.hid hat
        have HIX := Lib.hid hix
        have HIT := Lib.hid hit2
        clear hno hat hix hdr hd hz hit hit2 hWd
        cases hs : spB s[pos]
        · have hz0 : ¬ (0 ≤ z) := of_decide_eq_false (HIX.out.trans hs)
          have HSP := Lib.hid (special_step' HAT.out HN.out hs)
          clear hs
          go_wp2_with (go_at_call 40; refine HI.out.mono ?_; rintro e w5 ⟨rfl, hw5⟩; rw [hw5])
          go_roundg g'
          case measure => omega
          case rel => exact ⟨pos + 1, HIT.out, hbw2, HSP.out, by omega⟩
        · have hz0 : 0 ≤ z := of_decide_eq_true (HIX.out.trans hs)
          have HSP := Lib.hid (special_hit HAT.out hs)
          clear hs
          go_wp2_with (go_at_call 40; refine HI.out.mono ?_; rintro e w5 ⟨rfl, hw5⟩; rw [hw5])
          go_ret
          exact ⟨⟨(pos : Int), rfl, by rw [HSP.out]; simp⟩, hbw2⟩
      · have hg0 : ((tx s).drop pos).getD 0 0 = s[pos] := by rw [hdr]; rfl
        obtain ⟨hhi, hby⟩ := dec_high ((tx s).drop pos) (by rw [hg0]; omega)
        rw [hR] at hhi
        rw [hK] at hby
        have HSP := Lib.hid ((special_high hby).trans hno)
        obtain ⟨W, hWd⟩ : ∃ W, wr.iterAt w.heap.size s (pos + K) = W := ⟨_, rfl⟩
        rw [hWd] at hnx hit2 hbw2
        have HI := Lib.hid (indexRune_high (R : Int) W (by omega) (by omega))
        have HIT := Lib.hid hit2
        clear hno hat hdr hg0 hby hit hit2 hWd hR hK
        go_wp2_with fail
        refine HI.out.mono ?_
        rintro e w5 ⟨rfl, hb5⟩
        go_wp2_with fail
        go_roundg g'
        case measure => omega
        case rel =>
          refine ⟨pos + K, ?_, hbw2.trans (hb5.mono hbw2.size), HSP.out, by omega⟩
          rw [hb5.block _ (Array.getElem?_eq_some_iff.1 HIT.out).1]
          exact HIT.out
    · have hnx : ∀ ty, (Instr.next (.pointer (some ⟨w.heap.size, 0, none⟩)) true ty).run Tryd.prog wr = _ := fun ty => Lib.run_next_end_at wr w.heap.size s pos ty hit hps
      have e : (tx s).take pos = tx s := List.take_of_length_le (by rw [tx_size]; omega)
      rw [e] at hno
      have HN := Lib.hid hno
      clear hno
      go_wp2_with fail
      go_ret
      exact ⟨⟨-1, rfl, by rw [HN.out]; rfl⟩, hbw⟩

theorem indexAny_any (s : ByteArray) (w : World) (hs : s.size ≤ 1000000) :
    Calls Tryd.prog 31 #[.string s, .string CH] w (AnyPost s w) := by
  by_cases h8 : s.size ≤ 8
  · exact indexAny_short s w h8
  · refine (Tryd.strings_IndexAny_long (zero_of_info (P := Tryd.prog) (t := 70) (n := 256) (by kernel_rfl)).1 s CH w (by decide) (by omega) (by omega) (by decide) ?_).mono ?_
    · intro j b hb
      exact CH_mem b (List.mem_of_getElem? hb)
    · rintro e w' ⟨rfl, rfl⟩
      exact ⟨⟨_, rfl, anyZ_special _⟩, ((Below.refl _ _).alloc (Nat.le_refl _) _).alloc (by simp) _⟩

set_option maxRecDepth 100000 in
theorem containsAny_any (s : ByteArray) (w : World) (hs : s.size ≤ 1000000) :
    Calls Tryd.prog 20 #[.string s, .string CH] w fun e w' => e = .returned (.bool (special (tx s))) ∧ Below w.heap.size w w' := by
  have hI := indexAny_any s w hs
  unfold AnyPost at hI
  obtain ⟨y, hy⟩ : ∃ y, special (tx s) = y := ⟨_, rfl⟩
  rw [hy] at hI
  rw [hy]
  have HI := Lib.hid hI
  clear hI hy
  go_enter Tryd.func20, Tryd.ntmps20
  go_wp2_with fail
  refine HI.out.mono ?_
  rintro e w4 ⟨⟨z, rfl, hz⟩, hb⟩
  subst hz
  clear HI
  go_wp2
  go_ret
  exact ⟨rfl, hb⟩
end Go.Proofs.YtafpddpeffpnfaaDoor.Qu
