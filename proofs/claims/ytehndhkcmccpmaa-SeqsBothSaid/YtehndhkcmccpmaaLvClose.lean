/-
  Proved here: what (*level.opened).closeEmbedding, closeIsolate and close do to what is open in memory. Condition: what is open is as it may be; counts of at most 2^40.
-/
import Derived.Test.YtehndhkcmccpmaaLvFns
set_option linter.unusedVariables false
namespace Go.Proofs.Ytehndhkcmccpmaa.Lv
open Go Go.RowKit Go.Lib Go.Proofs.Ytehndhkcmccpmaa.Cl

theorem OpAt.row {w : World} {B : Nat} {s : St} (h : OpAt w B s) : ∃ g c, w.cell? ⟨B, 2, none⟩ = some (.slice (some ⟨g, 0, none⟩) s.es.length c) := by
  obtain ⟨g, c, h1, h2⟩ := h
  obtain ⟨⟨-, -, c2, -⟩, -⟩ := four h1
  exact ⟨g, c, c2⟩
theorem field_iso (x0 x1 : Int) (i : Bool) (w : World) : (Instr.field 62 (.agg #[.int .i64 x0, .int .i64 x1, .bool i]) 2).run Try.prog w = .ok (.bool i) w := by kernel_rfl
/-- How many are open, in a world. -/
def openN (W : World) (B : Nat) : Nat := match W.cell? ⟨B, 2, none⟩ with
  | some (.slice _ n _) => n
  | _ => 0
theorem OpAt.many {w : World} {B : Nat} {s : St} (h : OpAt w B s) : openN w B = s.es.length := by
  obtain ⟨g, c, h⟩ := h.row
  simp [openN, h]

set_option maxHeartbeats 1000000 in
set_option maxRecDepth 100000 in
theorem closeEmbedding_any (b B : Nat) (s : St) (w : World) (hb : b ≤ 1) (hc : Chain b s.es) (hO : OpAt w B s) (h1 : s.li ≤ 1099511627776) (h2 : s.ld ≤ 1099511627776) :
    Calls Try.prog 44 #[.pointer (some ⟨B, 0, none⟩)] w fun x w' => x = .returned (.tuple #[]) ∧ OpAt w' B (popS s) ∧ Below (B - 1) w w' := by
  have hB := hO.lt
  obtain ⟨⟨c0, c1, -⟩, -, f1, -⟩ := hO.at_
  have hs := hc.small hb
  have HO := Lib.hid hO
  have HC := Lib.hid hc
  have HF := Lib.hid field_iso
  clear hO hc
  obtain ⟨es, li, ld, op⟩ := s
  simp only at *
  unfold popS
  simp only
  by_cases h0 : 0 < li
  · rw [if_pos h0]
    have k0 : decide (0 < li) = true := by simpa using h0
    go_enter Try.func44, Try.ntmps44
    go_wp2
    go_end0
    exact ⟨rfl, HO.out, Below.refl _ _⟩
  · rw [if_neg h0]
    obtain rfl : li = 0 := by omega
    by_cases hd : 0 < ld
    · rw [if_pos hd]
      obtain ⟨ld', rfl⟩ : ∃ ld', ld = ld' + 1 := ⟨ld - 1, by omega⟩
      have k1 : decide (0 < ld' + 1) = true := by simp
      have HO1 := Lib.hid (HO.out.deep ld')
      clear HO
      go_enter Try.func44, Try.ntmps44
      go_wp2
      go_end0
      exact ⟨rfl, HO1.out, (Below.refl _ _).setCell (p := ⟨B, 1, none⟩) (Nat.sub_le _ _) _⟩
    · rw [if_neg hd]
      obtain rfl : ld = 0 := by omega
      cases es with
      | nil => exact HC.out.elim
      | cons e r =>
        have HL := Lib.hid (last_any B e r 0 0 op w HO.out (by simp at hs; omega))
        obtain ⟨lev, ov, iso⟩ := e
        simp only at HL
        cases iso with
        | true =>
          rw [if_pos (.inl rfl)]
          have hf := fun W => field_iso lev ov true W
          go_enter Try.func44, Try.ntmps44
          go_wp2_with fail
          refine HL.out.mono ?_
          rintro x w1 ⟨rfl, hb1⟩
          go_wp2
          go_end0
          exact ⟨rfl, HO.out.below hb1, hb1.mono (B' := B - 1) (by omega)⟩
        | false =>
          have hf := fun W => field_iso lev ov false W
          cases r with
          | nil =>
            rw [if_pos (.inr rfl)]
            go_enter Try.func44, Try.ntmps44
            go_wp2_with fail
            refine HL.out.mono ?_
            rintro x w1 ⟨rfl, hb1⟩
            have ho1 := HO.out.below hb1
            obtain ⟨g, c, q2⟩ := ho1.row
            simp only [List.length_cons, List.length_nil] at q2
            have HO1 := Lib.hid ho1
            have HB1 := Lib.hid (hb1.mono (B' := B - 1) (by omega))
            clear ho1 hb1
            go_wp2
            go_end0
            exact ⟨rfl, HO1.out, HB1.out⟩
          | cons t r =>
            rw [if_neg (by simp [top])]
            simp only [List.length_cons] at hs
            go_enter Try.func44, Try.ntmps44
            go_wp2_with fail
            refine HL.out.mono ?_
            rintro x w1 ⟨rfl, hb1⟩
            have ho1 := HO.out.below hb1
            obtain ⟨g, c, q2⟩ := ho1.row
            simp only [List.length_cons] at q2
            have HT := Lib.hid (takeOff_any B _ t r 0 0 op w1 ho1 (by omega))
            have HB1 := Lib.hid (hb1.mono (B' := B - 1) (by omega))
            have kl : decide (1 < r.length + 1 + 1) = true := by simp
            clear ho1 hb1
            go_wp2_with fail
            refine HT.out.mono ?_
            rintro x w2 ⟨rfl, ho2, hb2⟩
            go_wp2
            go_end0
            exact ⟨rfl, ho2, HB1.out.trans hb2⟩

set_option maxHeartbeats 1000000 in
set_option maxRecDepth 100000 in
theorem closeIsolate_any (b B : Nat) (s : St) (w : World) (hb : b ≤ 1) (hk : Ok b s) (hO : OpAt w B s) (h1 : s.li ≤ 1099511627776) (h2 : s.ld ≤ 1099511627776) (h3 : s.op ≤ 1099511627776) :
    Calls Try.prog 45 #[.pointer (some ⟨B, 0, none⟩)] w fun x w' => x = .returned (.tuple #[]) ∧ OpAt w' B (endS s) ∧ Below (B - 1) w w' := by
  have hB := hO.lt
  obtain ⟨⟨c0, c1, c3⟩, f0, f1, f3⟩ := hO.at_
  obtain ⟨hc, hop⟩ := hk
  have HO := Lib.hid hO
  have HC := Lib.hid hc
  clear hO hc
  obtain ⟨es, li, ld, op⟩ := s
  simp only at *
  unfold endS
  simp only
  by_cases h0 : 0 < li
  · rw [if_pos h0]
    obtain ⟨li', rfl⟩ : ∃ li', li = li' + 1 := ⟨li - 1, by omega⟩
    have k0 : decide (0 < li' + 1) = true := by simp
    have HO1 := Lib.hid (HO.out.lost li')
    clear HO
    go_enter Try.func45, Try.ntmps45
    go_wp2
    try simp only [Exit.inBlock, Exit.then]
    refine bodyPost_ret (results_none rfl _ _ _) rfl ?_
    exact ⟨rfl, HO1.out, (Below.refl _ _).setCell (p := ⟨B, 0, none⟩) (Nat.sub_le _ _) _⟩
  · rw [if_neg h0]
    obtain rfl : li = 0 := by omega
    clear h0
    by_cases hz : op = 0
    · rw [if_pos hz]
      subst hz
      clear hop
      go_enter Try.func45, Try.ntmps45
      go_wp2
      try simp only [Exit.inBlock, Exit.then]
      refine bodyPost_ret (results_none rfl _ _ _) rfl ?_
      exact ⟨rfl, HO.out, Below.refl _ _⟩
    · rw [if_neg hz]
      have kz : ((op : Int) == 0) = false := by simpa using hz
      have HP := Lib.hid (show 0 < isos es by omega)
      have HO1 := Lib.hid (HO.out.deep 0)
      clear HO hop
      obtain ⟨op', rfl⟩ : ∃ op', op = op' + 1 := ⟨op - 1, by omega⟩
      have kz2 : ((op' : Int) + 1 == 0) = false := by simp; omega
      clear hz
      go_enter Try.func45, Try.ntmps45
      go_wp2_with fail
      go_loopw [26] (fun _ wx => ∃ xs, Chain b xs ∧ 0 < isos xs ∧ cutI xs = cutI es ∧ OpAt wx B ⟨xs, 0, 0, op' + 1⟩ ∧ Below (B - 1) w wx) (fun _ wx => openN wx B)
      case atStart => exact ⟨es, HC.out, HP.out, rfl, HO1.out, (Below.refl _ _).setCell (p := ⟨B, 1, none⟩) (Nat.sub_le _ _) _⟩
      case round =>
        obtain ⟨xs, hc, hp, hcut, ho, hbw⟩ := hrel
        have hs := hc.small hb
        have hmany := ho.many
        clear HP HO1 HC
        cases xs with
        | nil => exact hc.elim
        | cons e r =>
          cases r with
          | nil =>
            have hc : e = ⟨b, -1, false⟩ := hc
            subst hc
            simp [isos] at hp
          | cons t r =>
            simp only [List.length_cons] at hs hmany
            obtain ⟨lev, ov, iso⟩ := e
            have hBr := ho.lt
            have HL := Lib.hid (last_any B _ (t :: r) 0 0 (op' + 1) wr ho (by simp; omega))
            simp only at HL
            have HO := Lib.hid ho
            have HB := Lib.hid hbw
            have HCH := Lib.hid hc.2.2.2
            have HCU := Lib.hid hcut
            have HP := Lib.hid hp
            have HM := Lib.hid hmany
            clear ho hbw hc hcut hp hmany
            cases iso with
            | true =>
              have hf := fun W => field_iso lev ov true W
              go_wp2_with fail
              refine HL.out.mono ?_
              rintro x w1 ⟨rfl, hb1⟩
              have ho1 := HO.out.below hb1
              have HT := Lib.hid (takeOff_any B _ t r 0 0 (op' + 1) w1 ho1 (by omega))
              have HB1 := Lib.hid (HB.out.trans (hb1.mono (B' := B - 1) (by omega)))
              clear ho1 hb1
              go_wp2_with fail
              refine HT.out.mono ?_
              rintro x w2 ⟨rfl, ho2, hb2⟩
              obtain ⟨⟨-, -, q3⟩, -, -, z3⟩ := ho2.at_
              have HO2 := Lib.hid (ho2.count op')
              have HB2 := Lib.hid (HB1.out.trans hb2)
              clear ho2 hb2
              go_wp2
              go_end0
              refine ⟨rfl, ?_, HB2.out.setCell (p := ⟨B, 3, none⟩) (Nat.sub_le _ _) _⟩
              rw [← HCU.out]
              exact HO2.out
            | false =>
              have hf := fun W => field_iso lev ov false W
              go_wp2_with fail
              refine HL.out.mono ?_
              rintro x w1 ⟨rfl, hb1⟩
              have ho1 := HO.out.below hb1
              have HT := Lib.hid (takeOff_any B _ t r 0 0 (op' + 1) w1 ho1 (by omega))
              have HB1 := Lib.hid (HB.out.trans (hb1.mono (B' := B - 1) (by omega)))
              clear ho1 hb1
              go_wp2_with fail
              refine HT.out.mono ?_
              rintro x w2 ⟨rfl, ho2, hb2⟩
              go_wp2
              go_roundw
              case measure =>
                rw [HM.out, ho2.many]
                simp
              case rel =>
                refine ⟨t :: r, HCH.out, ?_, ?_, ho2, HB1.out.trans hb2⟩
                · have := HP.out
                  unfold isos at this
                  rw [if_neg (fun h => by cases h)] at this
                  exact this
                · have h1 : cutI (⟨lev, ov, false⟩ :: t :: r) = cutI (t :: r) := by
                    conv => lhs; unfold cutI
                    rw [if_neg (fun h => by cases h)]
                  rw [← h1]
                  exact HCU.out

set_option maxHeartbeats 1000000 in
theorem close_any (c : Int) (b B : Nat) (s : St) (w : World) (hb : b ≤ 1) (hk : Ok b s) (hO : OpAt w B s) (h1 : s.li ≤ 1099511627776) (h2 : s.ld ≤ 1099511627776) (h3 : s.op ≤ 1099511627776) :
    Calls Try.prog 24 #[.pointer (some ⟨B, 0, none⟩), .int .i64 c] w fun x w' => x = .returned (.tuple #[]) ∧ OpAt w' B (closeS c s) ∧ Below (B - 1) w w' := by
  have HE := Lib.hid (closeEmbedding_any b B s w hb hk.chain hO h1 h2)
  have HI := Lib.hid (closeIsolate_any b B s w hb hk hO h1 h2 h3)
  have HO := Lib.hid hO
  clear hk hO
  unfold closeS
  by_cases e1 : c = 18
  · rw [if_pos e1]
    subst e1
    go_enter Try.func24, Try.ntmps24
    go_wp2_with fail
    refine HE.out.mono ?_
    rintro x w1 ⟨rfl, ho1, hb1⟩
    go_wp2
    go_end0
    exact ⟨rfl, ho1, hb1⟩
  · rw [if_neg e1]
    have k1 : (c == 18) = false := by simpa using e1
    by_cases e2 : c = 22
    · rw [if_pos e2]
      subst e2
      go_enter Try.func24, Try.ntmps24
      go_wp2_with fail
      refine HI.out.mono ?_
      rintro x w1 ⟨rfl, ho1, hb1⟩
      go_wp2
      go_end0
      exact ⟨rfl, ho1, hb1⟩
    · rw [if_neg e2]
      have k2 : (c == 22) = false := by simpa using e2
      go_enter Try.func24, Try.ntmps24
      go_wp2
      go_end0
      exact ⟨rfl, HO.out, Below.refl _ _⟩
end Go.Proofs.Ytehndhkcmccpmaa.Lv
