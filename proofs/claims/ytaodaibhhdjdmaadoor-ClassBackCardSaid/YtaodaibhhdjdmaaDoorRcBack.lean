/-
  Plain: classes that were printed are read as they were; what was read is printed as it was.
-/
import Derived.Test.YtaodaibhhdjdmaaDoorRcWords
import Derived.Test.YtaodaibhhdjdmaaDoorRcPrint
set_option linter.unusedVariables false
namespace Go.Proofs.YtaodaibhhdjdmaaDoor.Rc
open Go.RowKit Go.Lib Go.Proofs.YtaodaibhhdjdmaaDoor.Cl

/-- Words with a blank between. -/
def joinW : List (List UInt8) → List UInt8
  | [] => []
  | x :: r => x ++ r.flatMap fun y => 32 :: y
theorem joinW_head (a : List UInt8) (l : List (List UInt8)) (h : l ≠ []) : joinW (headPre a l) = a ++ joinW l := by
  cases l with
  | nil => exact absurd rfl h
  | cons x r => simp [joinW, headPre]
theorem joinW_words : ∀ l : List UInt8, joinW (wordsR l) = l
  | [] => rfl
  | b :: l => by
    unfold wordsR
    split
    · rename_i h
      subst h
      have := joinW_words l
      have hne := wordsR_ne l
      cases hw : wordsR l with
      | nil => exact absurd hw hne
      | cons x r =>
        rw [hw] at this
        simp only [joinW, List.nil_append, List.flatMap_cons] at this ⊢
        rw [List.cons_append, this]
    · rw [joinW_head _ _ (wordsR_ne l), joinW_words l]
      rfl
theorem words_plain : ∀ (x : List UInt8), (∀ b ∈ x, b ≠ 32) → wordsR x = [x]
  | [], _ => rfl
  | b :: x, h => by
    rw [wordsR, if_neg (h b (by simp)), words_plain x (fun c hc => h c (by simp [hc]))]
    rfl
theorem words_app : ∀ (x l : List UInt8), (∀ b ∈ x, b ≠ 32) → wordsR (x ++ 32 :: l) = x :: wordsR l
  | [], l, _ => by rw [List.nil_append, wordsR, if_pos rfl]
  | b :: x, l, h => by
    rw [List.cons_append, wordsR, if_neg (h b (by simp)), words_app x l (fun c hc => h c (by simp [hc]))]
    rfl
theorem words_join : ∀ (x : List UInt8) (r : List (List UInt8)), (∀ y ∈ x :: r, ∀ b ∈ y, b ≠ 32) → wordsR (joinW (x :: r)) = x :: r
  | x, [], h => by
    rw [show joinW [x] = x from by simp [joinW]]
    exact words_plain x (h x (by simp))
  | x, y :: r, h => by
    have e : joinW (x :: y :: r) = x ++ 32 :: joinW (y :: r) := by simp [joinW]
    rw [e, words_app x _ (h x (by simp)), words_join y r (fun z hz => h z (by simp at hz ⊢; right; exact hz))]

theorem join_is (zs : List Int) : joinUp zs = joinW (zs.map fun z => (nameZ z).data.toList) := by
  cases zs with
  | nil => rfl
  | cons z l => simp [joinUp, joinW, List.flatMap_map]
theorem name_facts : ∀ m : Nat, m < 23 → nameNo (nameZ (m : Int)) = m ∧ (∀ b ∈ (nameZ (m : Int)).data.toList, b ≠ 32) ∧ (nameZ (m : Int)).data.toList ≠ [] := by decide +kernel
theorem takeWhile_stop {α : Type} (p : α → Bool) : ∀ (l : List α) (h : (l.takeWhile p).length < l.length), p (l[(l.takeWhile p).length]) = false
  | x :: l, h => by
    by_cases hx : p x = true
    · have e : ((x :: l).takeWhile p).length = (l.takeWhile p).length + 1 := by simp [hx]
      have := takeWhile_stop p l (by rw [e] at h; simpa using h)
      simp only [e, List.getElem_cons_succ]
      exact this
    · have e : ((x :: l).takeWhile p).length = 0 := by simp [hx]
      simp only [e, List.getElem_cons_zero]
      simpa using hx
theorem name_back : ∀ m : Nat, m < 23 → ∀ x : ByteArray, nameNo x = m → nameZ (m : Int) = x := by
  intro m hm x hx
  have h1 : nameNo x < namesB.length := by rw [names_len]; omega
  have h2 : namesB[nameNo x]'h1 = x := by
    have := takeWhile_stop (fun n => decide (n ≠ x)) namesB h1
    exact Decidable.of_not_not (of_decide_eq_false this)
  unfold nameZ
  rw [Int.toNat_natCast, ← hx, List.getD_eq_getElem?_getD, List.getElem?_eq_getElem h1]
  exact h2

theorem okAll_mem {zs : List Int} (h : okAll zs = true) {z : Int} (hz : z ∈ zs) : 0 ≤ z ∧ z < 23 := by
  have := List.all_eq_true.1 h z hz
  simpa using this

theorem read_print {zs : List Int} (h : okAll zs = true) : readOk (printS zs) = true ∧ readZ (printS zs) = zs := by
  cases zs with
  | nil => exact ⟨rfl, rfl⟩
  | cons z l =>
    have hw : wordsR (joinUp (z :: l)) = (z :: l).map fun z => (nameZ z).data.toList := by
      rw [join_is, List.map_cons]
      refine words_join _ _ ?_
      intro y hy
      rw [← List.map_cons (f := fun z => (nameZ z).data.toList)] at hy
      obtain ⟨u, hu, rfl⟩ := List.mem_map.1 hy
      obtain ⟨h0, h1⟩ := okAll_mem h hu
      obtain ⟨m, rfl⟩ : ∃ m : Nat, u = m := ⟨u.toNat, by omega⟩
      exact (name_facts m (by omega)).2.1
    have hws : wordsOf (printS (z :: l)) = (z :: l).map nameZ := by
      rw [words_are, join_up]
      show (wordsR (joinUp (z :: l))).map mkB = _
      rw [hw, List.map_map]
      rfl
    have hne : printS (z :: l) ≠ ⟨#[]⟩ := by
      intro e
      have h2 : wordsOf (printS (z :: l)) = [⟨#[]⟩] := by rw [e]; rfl
      rw [hws, List.map_cons] at h2
      injection h2 with h3 _
      obtain ⟨h0, h1⟩ := okAll_mem h (List.mem_cons_self)
      obtain ⟨m, rfl⟩ : ∃ m : Nat, z = m := ⟨z.toNat, by omega⟩
      exact (name_facts m (by omega)).2.2 (by rw [h3])
    have hall : ∀ x ∈ wordsOf (printS (z :: l)), nameNo x < 23 := by
      rw [hws]
      intro x hx
      obtain ⟨u, hu, rfl⟩ := List.mem_map.1 hx
      obtain ⟨h0, h1⟩ := okAll_mem h hu
      obtain ⟨m, rfl⟩ : ∃ m : Nat, u = m := ⟨u.toNat, by omega⟩
      rw [(name_facts m (by omega)).1]
      omega
    obtain ⟨e1, e2⟩ := readOk_yes hne hall
    refine ⟨e1, e2.trans ?_⟩
    rw [hws]
    unfold noInts
    rw [List.map_map]
    conv => rhs; rw [← List.map_id (z :: l)]
    refine List.map_congr_left fun u hu => ?_
    obtain ⟨h0, h1⟩ := okAll_mem h hu
    obtain ⟨m, rfl⟩ : ∃ m : Nat, u = m := ⟨u.toNat, by omega⟩
    simp [(name_facts m (by omega)).1]

theorem print_read {s : ByteArray} (h : readOk s = true) : okAll (readZ s) = true ∧ printS (readZ s) = s := by
  by_cases h0 : s = ⟨#[]⟩
  · subst h0; exact ⟨rfl, rfl⟩
  · have hall : ∀ x ∈ wordsOf s, nameNo x < 23 := by
      unfold readOk at h
      rw [decide_eq_false h0, Bool.false_or] at h
      intro x hx
      simpa using List.all_eq_true.1 h x hx
    have e2 := (readOk_yes h0 hall).2
    rw [e2]
    refine ⟨?_, ?_⟩
    · unfold okAll noInts
      rw [List.all_map]
      refine List.all_eq_true.2 fun x hx => ?_
      have := hall x hx
      simp
      omega
    · rw [join_up, join_is]
      unfold noInts
      rw [List.map_map]
      have e : (wordsOf s).map ((fun z => (nameZ z).data.toList) ∘ fun x => ((nameNo x : Nat) : Int)) = wordsR s.data.toList := by
        rw [show wordsR s.data.toList = (wordsOf s).map (fun x => x.data.toList) from by
          rw [words_are, List.map_map]
          conv => lhs; rw [← List.map_id (wordsR s.data.toList)]
          rfl]
        refine List.map_congr_left fun x hx => ?_
        simp only [Function.comp_apply]
        rw [name_back _ (hall x hx) x rfl]
      rw [e, joinW_words]
theorem read_not {s : ByteArray} (h : readOk s = false) : readZ s = [] := by
  unfold readZ
  rw [h]
  split <;> rfl
theorem printV_yes {zs : List Int} (h : okAll zs = true) : printV zs = .tuple #[.string (printS zs), .bool true] := by unfold printV; rw [if_pos h]
theorem printV_no {zs : List Int} (h : okAll zs = false) : printV zs = .tuple #[.string ⟨#[]⟩, .bool false] := by unfold printV; rw [h]; rfl
theorem printV_form (zs : List Int) : ∃ S b, printV zs = .tuple #[.string S, .bool b] := by
  cases h : okAll zs
  · exact ⟨_, _, printV_no h⟩
  · exact ⟨_, _, printV_yes h⟩
theorem printS_size (zs : List Int) : (printS zs).size ≤ 4 * zs.length := by rw [join_up]; exact joinB_size zs
theorem readZ_size (s : ByteArray) : (readZ s).length ≤ s.size + 1 := by
  unfold readZ
  split
  · simp
  · split
    · simp only [noInts, List.length_map, words_len]
      have := Lib.countB_le Cl.blank (by decide) s.size s (Nat.le_refl _)
      omega
    · simp
end Go.Proofs.YtaodaibhhdjdmaaDoor.Rc
