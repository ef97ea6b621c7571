/-
  Proved here: what parquetryref02.Read returns, for every text of at most a million bytes: what class.Read returns; it leaves what was in memory.
-/
import Derived.Test.YtaodaibhhdjdmaaDoorRcWords
import Derived.Test.YtaodaibhhdjdmaaDoorRcName
import Derived.LoopTactic
set_option linter.unusedVariables false
namespace Go.Proofs.YtaodaibhhdjdmaaDoor.Rc
open Go.RowKit Go.Lib Go.Proofs.YtaodaibhhdjdmaaDoor.Cl

def RrInv (s : ByteArray) (i : Nat) (pre : List ByteArray) (W : ByteArray) : Prop :=
  (i ≤ s.size ∧ pre ++ (headPre W.data.toList (wordsR (s.data.toList.drop i))).map mkB = wordsOf s) ∨ (i = s.size + 1 ∧ pre = wordsOf s)
theorem inv_other {s : ByteArray} {i : Nat} {pre : List ByteArray} {W : ByteArray} (hi : i < s.size) (h : RrInv s i pre W) (hb : s[i].toNat ≠ 32) : RrInv s (i + 1) pre (W ++ s.extract i (i + 1)) := by
  have hl : i < s.data.toList.length := by rw [← Lib.size_eq]; exact hi
  rcases h with ⟨_, h⟩ | ⟨h, _⟩
  · refine .inl ⟨hi, ?_⟩
    rw [← h, wordsR_other hl (fun e => hb (by have : s[i] = 32 := e; rw [this]; rfl)), headPre_app _ _ _ (wordsR_ne _)]
    have e : (W ++ s.extract i (i + 1)).data.toList = W.data.toList ++ [s.data.toList[i]] := by
      rw [ByteArray.data_append, Array.toList_append, Lib.extract_data, Nat.add_sub_cancel_left, List.take_one, List.head?_drop, List.getElem?_eq_getElem hl]
      rfl
    rw [e]
  · omega
theorem inv_blank {s : ByteArray} {i : Nat} {pre : List ByteArray} {W : ByteArray} (hi : i < s.size) (h : RrInv s i pre W) (hb : s[i].toNat = 32) : RrInv s (i + 1) (pre ++ [W]) ⟨#[]⟩ ∧ ∃ r, wordsOf s = pre ++ W :: r := by
  have hl : i < s.data.toList.length := by rw [← Lib.size_eq]; exact hi
  have hb' : s.data.toList[i] = 32 := by
    have : s[i] = 32 := UInt8.toNat_inj.1 hb
    exact this
  rcases h with ⟨_, h⟩ | ⟨h, _⟩
  · rw [wordsR_blank hl hb', headPre, List.append_nil, List.map_cons, mkB_data] at h
    refine ⟨.inl ⟨hi, ?_⟩, _, h.symm⟩
    rw [show headPre (⟨#[]⟩ : ByteArray).data.toList (wordsR (s.data.toList.drop (i + 1))) = wordsR (s.data.toList.drop (i + 1)) from headPre_nil (wordsR_ne _), List.append_assoc]
    exact h
  · omega
theorem inv_end {s : ByteArray} {i : Nat} {pre : List ByteArray} {W : ByteArray} (hi : i = s.size) (h : RrInv s i pre W) : RrInv s (i + 1) (pre ++ [W]) ⟨#[]⟩ ∧ ∃ r, wordsOf s = pre ++ W :: r := by
  rcases h with ⟨_, h⟩ | ⟨h, _⟩
  · rw [List.drop_of_length_le (by rw [← Lib.size_eq]; omega), wordsR, headPre, List.append_nil, List.map_cons, List.map_nil, mkB_data] at h
    exact ⟨.inr ⟨by omega, h⟩, _, h.symm⟩
  · omega

def RrRel (s : ByteArray) (w : World) (s4 s5 s6 : Value) (wx : World) : Prop :=
  ∃ (i : Nat) (pre : List ByteArray) (W : ByteArray), i ≤ s.size + 1 ∧ s6 = .int .i64 i ∧ s5 = .string W ∧ W.size ≤ i ∧ pre.length ≤ i ∧ Below w.heap.size w wx ∧
    wx.ownsRow w.heap.size 3 1 s4 pre.length (intCells (noInts pre)) ∧ (∀ x ∈ pre, nameNo x < 23) ∧
    RrInv s i pre W

theorem name_in {k : Nat} (hk : k < 23) : refName (k : Int) = namesB[k]'(by rw [names_len]; exact hk) := by
  rw [refName_in (by omega) (by omega)]
  unfold nameZ
  rw [Int.toNat_natCast, List.getD_eq_getElem?_getD, List.getElem?_eq_getElem]
  rfl

/-- The search for a word's class, as the text goes: from 0 on. -/
theorem look_end {W : ByteArray} {c : Nat} (hc : c ≤ 23) (hlo : ∀ j (hj : j < namesB.length), j < c → namesB[j] ≠ W) (hend : c = 23 ∨ ∃ h : c < namesB.length, namesB[c] = W) : nameNo W = c := by
  rcases hend with rfl | ⟨h, e⟩
  · exact nameNo_none (fun j hj => hlo j hj (by rw [names_len] at hj; exact hj))
  · exact nameNo_found h hlo e

set_option maxHeartbeats 2000000 in
set_option maxRecDepth 100000 in
theorem refread_any (s : ByteArray) (w : World) (hs : s.size ≤ 1000000) :
    Calls Tryd.prog 20 #[.string s] w (ReadPost s w) := by
  obtain ⟨i0, hi, hz0, hz1, hz2⟩ := info_parts infoInt
  by_cases h0 : s = ⟨#[]⟩
  · subst h0
    go_enter Tryd.func20, Tryd.ntmps20
    go_wp2_with fail
    go_loopw [4, 6] (fun s4 s6 wx => s4 = .slice none 0 0 ∧ s6 = .int .i64 0 ∧ wx = w) (fun _ _ _ => 0)
    case atStart => exact ⟨rfl, rfl, rfl⟩
    case round =>
      obtain ⟨rfl, rfl, rfl⟩ := hrel
      go_wp2
      go_ret2
      exact ⟨_, rfl, World.ownsRow_nil _ _ _ _, Below.refl _ _⟩
  · have hq1 : ¬ s.toList = [] := by
      rw [ByteArray.toList_eq]
      intro e
      exact h0 (by obtain ⟨⟨x⟩⟩ := s; simp only at e; rw [e])
    have hq2 : s.toList.isEmpty = false := by simpa using hq1
    have H0 := Lib.hid h0
    clear h0
    go_enter Tryd.func20, Tryd.ntmps20
    go_wp2_with fail
    go_loopw [4, 5, 6] (fun s4 s5 s6 wx => RrRel s w s4 s5 s6 wx) (fun _ _ s6 _ => s.size + 1 - (RowKit.intOf s6).toNat)
    case atStart => exact ⟨0, [], ⟨#[]⟩, by omega, rfl, rfl, Nat.le_refl _, Nat.le_refl _, Below.refl _ _, World.ownsRow_nil _ _ _ _, by simp, .inl ⟨by omega, by rw [words_are, List.nil_append, List.drop_zero]; congr 1; exact headPre_nil (wordsR_ne _)⟩⟩
    case round =>
      obtain ⟨i, pre, W, hi1, rfl, rfl, hW, hpl, hb, hown, hpre, hinv⟩ := hrel
      have HINV := Lib.hid hinv
      have HPRE := Lib.hid hpre
      have HOWN := Lib.hid hown
      clear hinv hpre hown
      by_cases hle : i ≤ s.size
      · by_cases hlt : i < s.size
        · by_cases hbl : s[i].toNat = 32
          · have HGO := Lib.hid (inv_blank hlt HINV.out hbl)
            go_wp2_with fail
            generalize wr = wo at *
            go_loopw [7] (fun s7 wx => ∃ c : Nat, c ≤ 23 ∧ s7 = .int .i64 c ∧ Below wo.heap.size wo wx ∧ ∀ j (hj : j < namesB.length), j < c → namesB[j] ≠ W) (fun s7 _ => 23 - (RowKit.intOf s7).toNat)
            case atStart => exact ⟨0, by omega, rfl, Below.refl _ _, fun j _ h => by omega⟩
            case round =>
              obtain ⟨c, hc, rfl, hb2, hlo⟩ := hrel
              have HLO := Lib.hid hlo
              clear hlo
              by_cases hc23 : c < 23
              · have hcI : (c : Int) < 23 := by omega
                go_wp2_with fail
                refine (name_any _ _).mono ?_
                rintro e w3 ⟨rfl, hb3⟩
                rw [name_in hc23]
                obtain ⟨n, hn⟩ : ∃ n, namesB[c]'(by rw [names_len]; exact hc23) = n := ⟨_, rfl⟩
                rw [hn]
                have HN := Lib.hid hn
                clear hn
                by_cases hnw : n = W
                · have HNO := Lib.hid (look_end (W := W) hc HLO.out (.inr ⟨by rw [names_len]; exact hc23, HN.out.trans hnw⟩))
                  subst hnw
                  have hown3 : w3.ownsRow w.heap.size 3 1 u4 pre.length (intCells (noInts pre)) := ownsRow_below (ownsRow_below HOWN.out hb2) hb3
                  have hb13 : Below w.heap.size w w3 := hb.trans ((hb2.trans (hb3.mono hb2.size)).mono hb.size)
                  have hs13 := hb13.size
                  have hlt2 := hown3.lt
                  have hc0 : ((c : Int) == 23) = false := beq_eq_false_iff_ne.2 (by omega)
                  clear hb2 hb3
                  go_wp2_with (at_builtin; refine wpList_append_own _ rfl _ _ 28 rfl w.heap.size 3 i0 (.int .i64 0) 1 8 Tryd.underlying28 hi hz0 hz1 hz2 rfl (by decide) _ _ _ rfl (hown3.alloc _) ⟨w3.heap.size, 0, none⟩ 1 1 [.int .i64 c] rfl rfl ?c1 ?c2 ?c3 ?c4 ?c5 ?_)
                  case c1 => exact cell_one_new _ _ _
                  case c2 => intro u hu; simp only [List.mem_singleton] at hu; subst hu; rfl
                  case c3 => unfold maxLen; omega
                  case c4 => omega
                  case c5 => simp; omega
                  intro v' w4 hown' hgrow _
                  have HG := Lib.hid hgrow
                  have HO := Lib.hid hown'
                  clear hgrow hown' hown3
                  go_wp2
                  go_roundw
                  case measure => simp [RowKit.intOf]; omega
                  refine ⟨i + 1, pre ++ [n], ⟨#[]⟩, by omega, by go_num, rfl, Nat.zero_le _, by simp; omega, ?_, ?_, ?_, HGO.out.1⟩
                  · exact (hb13.alloc hs13 _).grown HG.out (by simp; omega) (fun g hg => (hlt2 g hg).1)
                  · have e1 : intCells (noInts (pre ++ [n])) = intCells (noInts pre) ++ [.int .i64 c] := by simp [intCells, noInts, HNO.out]
                    rw [e1, List.length_append]
                    exact HO.out
                  · intro x hx
                    rcases List.mem_append.1 hx with h | h
                    · exact HPRE.out x h
                    · rw [List.mem_singleton] at h
                      subst h
                      rw [HNO.out]
                      exact hc23
                · have hq := str_ne hnw
                  go_wp2
                  go_roundw
                  case measure => simp [RowKit.intOf]; omega
                  refine ⟨c + 1, by omega, by go_num, hb2.trans (hb3.mono hb2.size), fun j hj hjc => ?_⟩
                  rcases Nat.lt_or_eq_of_le (Nat.le_of_lt_succ hjc) with h | h
                  · exact HLO.out j hj h
                  · subst h
                    exact fun e => hnw (HN.out.symm.trans e)
              · obtain rfl : c = 23 := by omega
                have HNO := Lib.hid (look_end (W := W) hc HLO.out (.inl rfl))
                go_wp2
                go_ret2
                obtain ⟨_, r, hr⟩ := HGO.out
                have hk : pre.length < (wordsOf s).length := by rw [hr]; simp
                have hno := readOk_no H0.out hk (by
                  have : (wordsOf s)[pre.length] = W := by simp [hr]
                  rw [this, HNO.out]
                  omega)
                refine ⟨.slice none 0 0, ?_, ?_, hb.trans (hb2.mono hb.size)⟩
                · rw [hno.1]; rfl
                · rw [hno.2]; exact World.ownsRow_nil _ _ _ _
          · have HGO := Lib.hid (inv_other hlt HINV.out hbl)
            have hbl2 : ((s[i].toNat : Int) != 32) = true := by rw [bne_iff_ne]; omega
            have hsl : ∀ wx, (Instr.slice 9 (.string s) (some (.int .i64 (i : Int))) (some (.int .i64 ((i : Int) + 1))) none).run Tryd.prog wx = .ok (.string (s.extract i (i + 1))) wx := fun wx => by
              have := run_slice_string (P := Tryd.prog) wx 9 s .i64 .i64 (i : Int) ((i : Int) + 1) Tryd.underlying9 (by omega) (by omega) (by omega)
              rw [this]
              rfl
            have hes : (s.extract i (i + 1)).size ≤ 1 := by rw [ByteArray.size_extract]; omega
            obtain ⟨E, hE⟩ : ∃ E, s.extract i (i + 1) = E := ⟨_, rfl⟩
            rw [hE] at hsl hes HGO
            clear hE
            go_wp2
            go_roundw
            case measure => simp [RowKit.intOf]; omega
            refine ⟨i + 1, pre, W ++ E, by omega, by go_num, rfl, ?_, by omega, hb, HOWN.out, HPRE.out, HGO.out⟩
            rw [ByteArray.size_append]
            omega
        · have HGO := Lib.hid (inv_end (by omega) HINV.out)
          go_wp2_with fail
          generalize wr = wo at *
          go_loopw [7] (fun s7 wx => ∃ c : Nat, c ≤ 23 ∧ s7 = .int .i64 c ∧ Below wo.heap.size wo wx ∧ ∀ j (hj : j < namesB.length), j < c → namesB[j] ≠ W) (fun s7 _ => 23 - (RowKit.intOf s7).toNat)
          case atStart => exact ⟨0, by omega, rfl, Below.refl _ _, fun j _ h => by omega⟩
          case round =>
            obtain ⟨c, hc, rfl, hb2, hlo⟩ := hrel
            have HLO := Lib.hid hlo
            clear hlo
            by_cases hc23 : c < 23
            · have hcI : (c : Int) < 23 := by omega
              go_wp2_with fail
              refine (name_any _ _).mono ?_
              rintro e w3 ⟨rfl, hb3⟩
              rw [name_in hc23]
              obtain ⟨n, hn⟩ : ∃ n, namesB[c]'(by rw [names_len]; exact hc23) = n := ⟨_, rfl⟩
              rw [hn]
              have HN := Lib.hid hn
              clear hn
              by_cases hnw : n = W
              · have HNO := Lib.hid (look_end (W := W) hc HLO.out (.inr ⟨by rw [names_len]; exact hc23, HN.out.trans hnw⟩))
                subst hnw
                have hown3 : w3.ownsRow w.heap.size 3 1 u4 pre.length (intCells (noInts pre)) := ownsRow_below (ownsRow_below HOWN.out hb2) hb3
                have hb13 : Below w.heap.size w w3 := hb.trans ((hb2.trans (hb3.mono hb2.size)).mono hb.size)
                have hs13 := hb13.size
                have hlt2 := hown3.lt
                have hc0 : ((c : Int) == 23) = false := beq_eq_false_iff_ne.2 (by omega)
                clear hb2 hb3
                go_wp2_with (at_builtin; refine wpList_append_own _ rfl _ _ 28 rfl w.heap.size 3 i0 (.int .i64 0) 1 8 Tryd.underlying28 hi hz0 hz1 hz2 rfl (by decide) _ _ _ rfl (hown3.alloc _) ⟨w3.heap.size, 0, none⟩ 1 1 [.int .i64 c] rfl rfl ?c1 ?c2 ?c3 ?c4 ?c5 ?_)
                case c1 => exact cell_one_new _ _ _
                case c2 => intro u hu; simp only [List.mem_singleton] at hu; subst hu; rfl
                case c3 => unfold maxLen; omega
                case c4 => omega
                case c5 => simp; omega
                intro v' w4 hown' hgrow _
                have HG := Lib.hid hgrow
                have HO := Lib.hid hown'
                clear hgrow hown' hown3
                go_wp2
                go_roundw
                case measure => simp [RowKit.intOf]; omega
                refine ⟨i + 1, pre ++ [n], ⟨#[]⟩, by omega, by go_num, rfl, Nat.zero_le _, by simp; omega, ?_, ?_, ?_, HGO.out.1⟩
                · exact (hb13.alloc hs13 _).grown HG.out (by simp; omega) (fun g hg => (hlt2 g hg).1)
                · have e1 : intCells (noInts (pre ++ [n])) = intCells (noInts pre) ++ [.int .i64 c] := by simp [intCells, noInts, HNO.out]
                  rw [e1, List.length_append]
                  exact HO.out
                · intro x hx
                  rcases List.mem_append.1 hx with h | h
                  · exact HPRE.out x h
                  · rw [List.mem_singleton] at h
                    subst h
                    rw [HNO.out]
                    exact hc23
              · have hq := str_ne hnw
                go_wp2
                go_roundw
                case measure => simp [RowKit.intOf]; omega
                refine ⟨c + 1, by omega, by go_num, hb2.trans (hb3.mono hb2.size), fun j hj hjc => ?_⟩
                rcases Nat.lt_or_eq_of_le (Nat.le_of_lt_succ hjc) with h | h
                · exact HLO.out j hj h
                · subst h
                  exact fun e => hnw (HN.out.symm.trans e)
            · obtain rfl : c = 23 := by omega
              have HNO := Lib.hid (look_end (W := W) hc HLO.out (.inl rfl))
              go_wp2
              go_ret2
              obtain ⟨_, r, hr⟩ := HGO.out
              have hk : pre.length < (wordsOf s).length := by rw [hr]; simp
              have hno := readOk_no H0.out hk (by
                have : (wordsOf s)[pre.length] = W := by simp [hr]
                rw [this, HNO.out]
                omega)
              refine ⟨.slice none 0 0, ?_, ?_, hb.trans (hb2.mono hb.size)⟩
              · rw [hno.1]; rfl
              · rw [hno.2]; exact World.ownsRow_nil _ _ _ _
      · obtain rfl : i = s.size + 1 := by omega
        have hwd : pre = wordsOf s := by
          rcases HINV.out with h | h
          · omega
          · exact h.2
        subst hwd
        have hyes := Lib.hid (readOk_yes H0.out HPRE.out)
        go_wp2_with fail
        go_ret2
        refine ⟨u4, ?_, ?_, hb⟩
        · rw [hyes.out.1]; rfl
        · rw [hyes.out.2]
          have e : (noInts (wordsOf s)).length = (wordsOf s).length := by simp [noInts]
          rw [e]
          exact HOWN.out
end Go.Proofs.YtaodaibhhdjdmaaDoor.Rc
