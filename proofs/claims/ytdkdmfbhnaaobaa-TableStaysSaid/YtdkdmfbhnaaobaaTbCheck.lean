/-
  Proved here: what table.Check answers: whether records are a table that fits; it leaves memory as it was.
-/
import Derived.Test.YtdkdmfbhnaaobaaTbFill
set_option linter.unusedVariables false
namespace Go.Proofs.Ytdkdmfbhnaaobaa.Tb
open Go Go.RowKit Go.Lib Go.Proofs.Ytdkdmfbhnaaobaa.Cv

theorem any_take {α : Type} {p : α → Bool} {l : List α} {k : Nat} (h : k < l.length) : (l.take (k + 1)).any p = ((l.take k).any p || p l[k]) := by
  rw [List.take_add_one, List.getElem?_eq_getElem h, Option.toList_some, List.any_append]
  simp
theorem any_at {α : Type} {p : α → Bool} {l : List α} {k : Nat} (h : k < l.length) (hp : p l[k] = true) : l.any p = true := List.any_eq_true.2 ⟨_, List.getElem_mem h, hp⟩
theorem ret_bool {a b : Bool} (h : a = b) : Ending.returned (.bool a) = .returned (.bool b) := by rw [h]
def IdxPost (b : Bool) (w : World) (e : Ending) (w' : World) : Prop := ∃ z : Int, e = .returned (.int .i64 z) ∧ decide (0 ≤ z) = b ∧ w = w'

set_option maxHeartbeats 1000000 in
set_option maxRecDepth 100000 in
theorem index_rec1 (f : FuncId) (hf : ∀ args w, (callFunc f args).run Try.prog w = .ok (.enter f args) w) (p1 : Value) (p : List Bs → Bool) (A : Option Addr) (R : Rec) (c : Nat) (w : World) (hA : RecsAt w A R) (hF : Few R)
    (call : ∀ (B : Option Addr) r d, r ∈ R → VAt w B (rowC r) → Calls Try.prog f #[.slice B r.length d, p1] w fun e w' => e = .returned (.bool (p r)) ∧ w = w') :
    Calls Try.prog 29 #[.slice A R.length c, .func (.func f) #[] #[p1]] w (IdxPost (R.any p) w) := by
  have HA := Lib.hid hA
  have HC := Lib.hid call
  have hl := hF.num
  obtain ⟨b, hb⟩ : ∃ b, R.any p = b := ⟨_, rfl⟩
  have HB := Lib.hid hb
  rw [hb]
  clear hA call hb hF
  go_enter Try.func29, Try.ntmps29
  go_wp2_with fail
  go_loop [8] (fun s8 => ∃ k : Nat, k ≤ R.length ∧ s8 = .int .i64 k ∧ (R.take k).any p = false) (fun s8 => R.length - (RowKit.intOf s8).toNat)
  case atStart => exact ⟨0, Nat.zero_le _, rfl, rfl⟩
  case round =>
    obtain ⟨k, hk, rfl, hno⟩ := hrel
    have HNO := Lib.hid hno
    clear hno
    by_cases hlt : k < R.length
    · obtain ⟨g, off, A1, c1, rfl, hc, hv⟩ := HA.out.at_ hlt
      have HK := Lib.hid (HC.out A1 R[k] c1 (List.getElem_mem hlt) hv)
      have hs := any_take (p := p) hlt
      have hat := any_at (p := p) hlt
      obtain ⟨r, hr⟩ : ∃ r, R[k] = r := ⟨_, rfl⟩
      rw [hr] at hc HK hs hat
      rw [HNO.out, Bool.false_or] at hs
      have HS := Lib.hid hs
      have HT := Lib.hid hat
      clear hr hs hat hv
      go_wp2_with fail
      refine HK.out.mono ?_
      rintro e w1 ⟨rfl, rfl⟩
      cases hp : p r with
      | true =>
        have hb2 : b = true := by rw [← HB.out]; exact HT.out hp
        subst hb2
        clear hp
        go_wp2_with fail
        go_ret
        exact ⟨k, rfl, by simp, rfl⟩
      | false =>
        rw [hp] at HS
        clear hp
        go_wp2_with fail
        go_round
        case rel => exact ⟨k + 1, by omega, by go_num, HS.out⟩
        case measure => simp [RowKit.intOf]; omega
    · have e : R.take k = R := List.take_of_length_le (by omega)
      have hb2 : b = false := by rw [← HB.out, ← e]; exact HNO.out
      subst hb2
      clear e
      go_wp2_with fail
      go_ret
      exact ⟨-1, rfl, by decide, rfl⟩

set_option maxHeartbeats 1000000 in
set_option maxRecDepth 100000 in
theorem has_rec1 (f : FuncId) (hf : ∀ args w, (callFunc f args).run Try.prog w = .ok (.enter f args) w) (p1 : Value) (p : List Bs → Bool) (A : Option Addr) (R : Rec) (c : Nat) (w : World) (hA : RecsAt w A R) (hF : Few R)
    (call : ∀ (B : Option Addr) r d, r ∈ R → VAt w B (rowC r) → Calls Try.prog f #[.slice B r.length d, p1] w fun e w' => e = .returned (.bool (p r)) ∧ w = w') :
    Calls Try.prog 23 #[.slice A R.length c, .func (.func f) #[] #[p1]] w fun e w' => e = .returned (.bool (R.any p)) ∧ w = w' := by
  have HI := Lib.hid (index_rec1 f hf p1 p A R c w hA hF call)
  obtain ⟨b, hb⟩ : ∃ b, R.any p = b := ⟨_, rfl⟩
  rw [hb] at HI ⊢
  clear hA call hb hF
  go_enter Try.func23, Try.ntmps23
  go_wp2_with fail
  refine HI.out.mono ?_
  rintro e w1 ⟨z, rfl, hz, rfl⟩
  have HZ := Lib.hid hz
  clear hz
  go_wp2
  go_ret
  rw [← HZ.out]
  exact ⟨rfl, rfl⟩

set_option maxHeartbeats 1000000 in
set_option maxRecDepth 100000 in
theorem index_rec0 (f : FuncId) (hf : ∀ args w, (callFunc f args).run Try.prog w = .ok (.enter f args) w) (p : List Bs → Bool) (A : Option Addr) (R : Rec) (c : Nat) (w : World) (hA : RecsAt w A R) (hF : Few R)
    (call : ∀ (B : Option Addr) r d, r ∈ R → VAt w B (rowC r) → Calls Try.prog f #[.slice B r.length d] w fun e w' => e = .returned (.bool (p r)) ∧ w = w') :
    Calls Try.prog 29 #[.slice A R.length c, .func (.func f) #[] #[]] w (IdxPost (R.any p) w) := by
  have HA := Lib.hid hA
  have HC := Lib.hid call
  have hl := hF.num
  obtain ⟨b, hb⟩ : ∃ b, R.any p = b := ⟨_, rfl⟩
  have HB := Lib.hid hb
  rw [hb]
  clear hA call hb hF
  go_enter Try.func29, Try.ntmps29
  go_wp2_with fail
  go_loop [8] (fun s8 => ∃ k : Nat, k ≤ R.length ∧ s8 = .int .i64 k ∧ (R.take k).any p = false) (fun s8 => R.length - (RowKit.intOf s8).toNat)
  case atStart => exact ⟨0, Nat.zero_le _, rfl, rfl⟩
  case round =>
    obtain ⟨k, hk, rfl, hno⟩ := hrel
    have HNO := Lib.hid hno
    clear hno
    by_cases hlt : k < R.length
    · obtain ⟨g, off, A1, c1, rfl, hc, hv⟩ := HA.out.at_ hlt
      have HK := Lib.hid (HC.out A1 R[k] c1 (List.getElem_mem hlt) hv)
      have hs := any_take (p := p) hlt
      have hat := any_at (p := p) hlt
      obtain ⟨r, hr⟩ : ∃ r, R[k] = r := ⟨_, rfl⟩
      rw [hr] at hc HK hs hat
      rw [HNO.out, Bool.false_or] at hs
      have HS := Lib.hid hs
      have HT := Lib.hid hat
      clear hr hs hat hv
      go_wp2_with fail
      refine HK.out.mono ?_
      rintro e w1 ⟨rfl, rfl⟩
      cases hp : p r with
      | true =>
        have hb2 : b = true := by rw [← HB.out]; exact HT.out hp
        subst hb2
        clear hp
        go_wp2_with fail
        go_ret
        exact ⟨k, rfl, by simp, rfl⟩
      | false =>
        rw [hp] at HS
        clear hp
        go_wp2_with fail
        go_round
        case rel => exact ⟨k + 1, by omega, by go_num, HS.out⟩
        case measure => simp [RowKit.intOf]; omega
    · have e : R.take k = R := List.take_of_length_le (by omega)
      have hb2 : b = false := by rw [← HB.out, ← e]; exact HNO.out
      subst hb2
      clear e
      go_wp2_with fail
      go_ret
      exact ⟨-1, rfl, by decide, rfl⟩

set_option maxHeartbeats 1000000 in
set_option maxRecDepth 100000 in
theorem has_rec0 (f : FuncId) (hf : ∀ args w, (callFunc f args).run Try.prog w = .ok (.enter f args) w) (p : List Bs → Bool) (A : Option Addr) (R : Rec) (c : Nat) (w : World) (hA : RecsAt w A R) (hF : Few R)
    (call : ∀ (B : Option Addr) r d, r ∈ R → VAt w B (rowC r) → Calls Try.prog f #[.slice B r.length d] w fun e w' => e = .returned (.bool (p r)) ∧ w = w') :
    Calls Try.prog 23 #[.slice A R.length c, .func (.func f) #[] #[]] w fun e w' => e = .returned (.bool (R.any p)) ∧ w = w' := by
  have HI := Lib.hid (index_rec0 f hf p A R c w hA hF call)
  obtain ⟨b, hb⟩ : ∃ b, R.any p = b := ⟨_, rfl⟩
  rw [hb] at HI ⊢
  clear hA call hb hF
  go_enter Try.func23, Try.ntmps23
  go_wp2_with fail
  refine HI.out.mono ?_
  rintro e w1 ⟨z, rfl, hz, rfl⟩
  have HZ := Lib.hid hz
  clear hz
  go_wp2
  go_ret
  rw [← HZ.out]
  exact ⟨rfl, rfl⟩
set_option maxHeartbeats 1000000 in
set_option maxRecDepth 100000 in
theorem index_str (f : FuncId) (hf : ∀ args w, (callFunc f args).run Try.prog w = .ok (.enter f args) w) (p : Bs → Bool) (A : Option Addr) (R : List Bs) (c : Nat) (w : World) (hA : VAt w A (rowC R)) (hl : R.length ≤ 1000000)
    (call : ∀ x, x ∈ R → Calls Try.prog f #[bx x] w fun e w' => e = .returned (.bool (p x)) ∧ w = w') :
    Calls Try.prog 36 #[.slice A R.length c, .func (.func f) #[] #[]] w (IdxPost (R.any p) w) := by
  have HA := Lib.hid hA
  have HC := Lib.hid call
  obtain ⟨b, hb⟩ : ∃ b, R.any p = b := ⟨_, rfl⟩
  have HB := Lib.hid hb
  rw [hb]
  clear hA call hb
  go_enter Try.func36, Try.ntmps36
  go_wp2_with fail
  go_loop [8] (fun s8 => ∃ k : Nat, k ≤ R.length ∧ s8 = .int .i64 k ∧ (R.take k).any p = false) (fun s8 => R.length - (RowKit.intOf s8).toNat)
  case atStart => exact ⟨0, Nat.zero_le _, rfl, rfl⟩
  case round =>
    obtain ⟨k, hk, rfl, hno⟩ := hrel
    have HNO := Lib.hid hno
    clear hno
    by_cases hlt : k < R.length
    · obtain ⟨g, off, rfl, hc⟩ := HA.out.at_ (k := k) (by rw [rowC_len]; exact hlt)
      have e2 : (rowC R)[k]'(by rw [rowC_len]; exact hlt) = bx R[k] := by simp [rowC]
      rw [e2] at hc
      have HK := Lib.hid (HC.out R[k] (List.getElem_mem hlt))
      have hs := any_take (p := p) hlt
      have hat := any_at (p := p) hlt
      obtain ⟨r, hr⟩ : ∃ r, R[k] = r := ⟨_, rfl⟩
      rw [hr] at hc HK hs hat
      rw [HNO.out, Bool.false_or] at hs
      have HS := Lib.hid hs
      have HT := Lib.hid hat
      obtain ⟨X, hX⟩ : ∃ X, bx r = .string X := ⟨_, rfl⟩
      rw [hX] at hc HK
      clear hr hs hat e2 hX
      go_wp2_with fail
      refine HK.out.mono ?_
      rintro e w1 ⟨rfl, rfl⟩
      cases hp : p r with
      | true =>
        have hb2 : b = true := by rw [← HB.out]; exact HT.out hp
        subst hb2
        clear hp
        go_wp2_with fail
        go_ret
        exact ⟨k, rfl, by simp, rfl⟩
      | false =>
        rw [hp] at HS
        clear hp
        go_wp2_with fail
        go_round
        case rel => exact ⟨k + 1, by omega, by go_num, HS.out⟩
        case measure => simp [RowKit.intOf]; omega
    · have e : R.take k = R := List.take_of_length_le (by omega)
      have hb2 : b = false := by rw [← HB.out, ← e]; exact HNO.out
      subst hb2
      clear e
      go_wp2_with fail
      go_ret
      exact ⟨-1, rfl, by decide, rfl⟩

set_option maxHeartbeats 1000000 in
set_option maxRecDepth 100000 in
theorem has_str (f : FuncId) (hf : ∀ args w, (callFunc f args).run Try.prog w = .ok (.enter f args) w) (p : Bs → Bool) (A : Option Addr) (R : List Bs) (c : Nat) (w : World) (hA : VAt w A (rowC R)) (hl : R.length ≤ 1000000)
    (call : ∀ x, x ∈ R → Calls Try.prog f #[bx x] w fun e w' => e = .returned (.bool (p x)) ∧ w = w') :
    Calls Try.prog 30 #[.slice A R.length c, .func (.func f) #[] #[]] w fun e w' => e = .returned (.bool (R.any p)) ∧ w = w' := by
  have HI := Lib.hid (index_str f hf p A R c w hA hl call)
  obtain ⟨b, hb⟩ : ∃ b, R.any p = b := ⟨_, rfl⟩
  rw [hb] at HI ⊢
  clear hA call hb
  go_enter Try.func30, Try.ntmps30
  go_wp2_with fail
  refine HI.out.mono ?_
  rintro e w1 ⟨z, rfl, hz, rfl⟩
  have HZ := Lib.hid hz
  clear hz
  go_wp2
  go_ret
  rw [← HZ.out]
  exact ⟨rfl, rfl⟩

set_option maxHeartbeats 1000000 in
set_option maxRecDepth 100000 in
theorem islong_any (x : Bs) (w : World) (hx : x.length ≤ 140737488355328) :
    Calls Try.prog 31 #[bx x] w fun e w' => e = .returned (.bool (decide (1024 < x.length))) ∧ w = w' := by
  have e : x.length = (⟨x.toArray⟩ : ByteArray).size := by show _ = x.toArray.size; simp
  rw [e] at hx ⊢
  show Calls _ _ #[.string ⟨x.toArray⟩] _ _
  clear e
  generalize (⟨x.toArray⟩ : ByteArray) = X at *
  go_enter Try.func31, Try.ntmps31
  go_wp2
  go_ret
  exact ⟨ret_bool (by rw [decide_eq_decide]; omega), rfl⟩
set_option maxHeartbeats 1000000 in
set_option maxRecDepth 100000 in
theorem long_any (A : Option Addr) (r : List Bs) (c : Nat) (w : World) (hA : VAt w A (rowC r)) (hl : r.length ≤ 1000000) (hx : ∀ x ∈ r, x.length ≤ 140737488355328) :
    Calls Try.prog 24 #[.slice A r.length c] w fun e w' => e = .returned (.bool (longT r)) ∧ w = w' := by
  have HH := Lib.hid (has_str 31 (enters_of Try.func31 (by kernel_rfl) rfl) (fun x => decide (1024 < x.length)) A r c w hA hl fun x hm => islong_any x w (hx x hm))
  obtain ⟨b, hb⟩ : ∃ b, longT r = b := ⟨_, rfl⟩
  rw [show r.any (fun x => decide (1024 < x.length)) = b from hb] at HH
  rw [hb]
  clear hA hx hb
  go_enter Try.func24, Try.ntmps24
  go_wp2_with fail
  refine HH.out.mono ?_
  rintro e w1 ⟨rfl, rfl⟩
  go_wp2
  go_ret
  exact ⟨rfl, rfl⟩

set_option maxHeartbeats 1000000 in
set_option maxRecDepth 100000 in
theorem unlike_any (A : Option Addr) (r : List Bs) (c b m : Nat) (w : World) (hb : w.cell? ⟨b, 0, none⟩ = some (.int .i64 m)) (hl : r.length ≤ 1000000) :
    Calls Try.prog 28 #[.slice A r.length c, .pointer (some ⟨b, 0, none⟩)] w fun e w' => e = .returned (.bool (r.length != m)) ∧ w = w' := by
  go_enter Try.func28, Try.ntmps28
  go_wp2
  go_ret
  exact ⟨ret_bool (by rw [Bool.eq_iff_iff, bne_iff_ne, bne_iff_ne]; omega), rfl⟩

set_option maxHeartbeats 1000000 in
set_option maxRecDepth 100000 in
theorem may_any (A : Option Addr) (R : Rec) (c : Nat) (w : World) (hA : RecsAt w A R) (hF : Few R) :
    Calls Try.prog 22 #[.slice A R.length c] w fun e w' => e = .returned (.bool (mayT R)) ∧ Below w.heap.size w w' := by
  have HW := Lib.hid (width_any A R R.length c rfl w hA hF)
  have hw := hF.width
  obtain ⟨b0, hb0⟩ : ∃ b, widthT R = b := ⟨_, rfl⟩
  have hm : mayT R = (decide (0 < b0) && !(R.any fun r => r.length != b0)) := by rw [← hb0]; rfl
  rw [hb0] at HW hw
  rw [hm]
  have hb1 := below_one w (.cells #[.int .i64 b0] 3)
  have HB1 := Lib.hid hb1
  have hcell : (w.alloc (.cells #[.int .i64 b0] 3)).cell? ⟨w.heap.size, 0, none⟩ = some (.int .i64 b0) := boxed_cell (heap_alloc_new w (.cells #[.int .i64 b0] 3))
  have HI := Lib.hid (has_rec1 28 (enters_of Try.func28 (by kernel_rfl) rfl) (.pointer (some ⟨w.heap.size, 0, none⟩)) (fun r => r.length != b0) A R c _ (hA.below hb1) hF
    fun B r d hr hv => unlike_any B r d w.heap.size b0 _ hcell (hF.each r hr))
  generalize (R.any fun r => r.length != b0) = u at *
  clear hA hF hb0 hm hb1 hcell
  by_cases h0 : 0 < b0
  · have d0 : decide (0 < b0) = true := decide_eq_true h0
    rw [d0]
    go_enter Try.func22, Try.ntmps22
    go_wp2_with fail
    refine HW.out.mono ?_
    rintro e w1 ⟨rfl, rfl⟩
    go_wp2_with fail
    refine HI.out.mono ?_
    rintro e w2 ⟨rfl, rfl⟩
    go_wp2
    go_ret
    exact ⟨rfl, HB1.out⟩
  · have d0 : decide (0 < b0) = false := decide_eq_false h0
    rw [d0]
    go_enter Try.func22, Try.ntmps22
    go_wp2_with fail
    refine HW.out.mono ?_
    rintro e w1 ⟨rfl, rfl⟩
    go_wp2
    go_ret
    exact ⟨rfl, HB1.out⟩

set_option maxHeartbeats 1000000 in
set_option maxRecDepth 100000 in
theorem check_any (A : Option Addr) (R : Rec) (n c : Nat) (hn : n = R.length) (w : World) (hA : RecsAt w A R) (hF : Few R) (hx : ∀ r ∈ R, ∀ x ∈ r, x.length ≤ 140737488355328) :
    Calls Try.prog 11 #[.slice A n c] w fun e w' => e = .returned (.int .i64 (checkT R)) ∧ Below w.heap.size w w' := by
  subst hn
  have HM := Lib.hid (may_any A R c w hA hF)
  have HW := Lib.hid (fun W hW => width_any A R R.length c rfl W (hA.below hW) hF)
  have HI := Lib.hid (fun W hW => has_rec0 24 (enters_of Try.func24 (by kernel_rfl) rfl) longT A R c W (hA.below hW) hF
    fun B r d hr hv => long_any B r d W hv (hF.each r hr) (hx r hr))
  have hl := hF.num
  have hw := hF.width
  unfold checkT
  generalize mayT R = m at *
  generalize widthT R = b0 at *
  generalize R.any longT = u at *
  generalize R.length = n at *
  clear hA hF hx
  cases m with
  | false =>
    go_enter Try.func11, Try.ntmps11
    go_wp2_with fail
    refine HM.out.mono ?_
    rintro e w1 ⟨rfl, hb1⟩
    go_wp2
    go_ret
    exact ⟨rfl, hb1⟩
  | true =>
    by_cases h1 : 24 < n
    · have d1 : decide (24 < n) = true := decide_eq_true h1
      rw [if_pos rfl, if_pos (Or.inl h1)]
      go_enter Try.func11, Try.ntmps11
      go_wp2_with fail
      refine HM.out.mono ?_
      rintro e w1 ⟨rfl, hb1⟩
      go_wp2
      go_ret
      exact ⟨rfl, hb1⟩
    · have d1 : decide (24 < n) = false := decide_eq_false h1
      by_cases h2 : 16 < b0
      · have d2 : decide (16 < b0) = true := decide_eq_true h2
        rw [if_pos rfl, if_pos (Or.inr (Or.inl h2))]
        go_enter Try.func11, Try.ntmps11
        go_wp2_with fail
        refine HM.out.mono ?_
        rintro e w1 ⟨rfl, hb1⟩
        have HW1 := Lib.hid (HW.out w1 hb1)
        go_wp2_with fail
        refine HW1.out.mono ?_
        rintro e w2 ⟨rfl, rfl⟩
        go_wp2
        go_ret
        exact ⟨rfl, hb1⟩
      · have d2 : decide (16 < b0) = false := decide_eq_false h2
        have e3 : (if 24 < n ∨ 16 < b0 ∨ u = true then 3 else 0) = (if u = true then 3 else 0 : Nat) := by cases u <;> simp [h1, h2]
        rw [if_pos rfl, e3]
        clear e3
        cases u with
        | true =>
          go_enter Try.func11, Try.ntmps11
          go_wp2_with fail
          refine HM.out.mono ?_
          rintro e w1 ⟨rfl, hb1⟩
          have HW1 := Lib.hid (HW.out w1 hb1)
          have HI1 := Lib.hid (HI.out w1 hb1)
          go_wp2_with fail
          refine HW1.out.mono ?_
          rintro e w2 ⟨rfl, rfl⟩
          go_wp2_with fail
          refine HI1.out.mono ?_
          rintro e w2 ⟨rfl, rfl⟩
          go_wp2
          go_ret
          exact ⟨rfl, hb1⟩
        | false =>
          go_enter Try.func11, Try.ntmps11
          go_wp2_with fail
          refine HM.out.mono ?_
          rintro e w1 ⟨rfl, hb1⟩
          have HW1 := Lib.hid (HW.out w1 hb1)
          have HI1 := Lib.hid (HI.out w1 hb1)
          go_wp2_with fail
          refine HW1.out.mono ?_
          rintro e w2 ⟨rfl, rfl⟩
          go_wp2_with fail
          refine HI1.out.mono ?_
          rintro e w2 ⟨rfl, rfl⟩
          go_wp2
          go_ret
          exact ⟨rfl, hb1⟩
end Go.Proofs.Ytdkdmfbhnaaobaa.Tb
