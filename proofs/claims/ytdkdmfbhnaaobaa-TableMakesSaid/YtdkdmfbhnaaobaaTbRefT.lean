/-
  Proved here: what the document's answer for Trim is: the records, filled, but for what has no text at the end; it leaves what was in memory.
-/
import Derived.Test.YtdkdmfbhnaaobaaTbRefU
set_option linter.unusedVariables false
namespace Go.Proofs.Ytdkdmfbhnaaobaa.Tb
open Go Go.RowKit Go.Lib Go.Proofs.Ytdkdmfbhnaaobaa.Cv

/-- What has been seen of a table, row by row, up to a field: how many rows, columns have a text. -/
structure Seen (F : Nat → Nat → Bs) (H W i k rows cols : Nat) : Prop where
  r1 : 1 ≤ rows
  c1 : 1 ≤ cols
  rH : rows ≤ H
  cW : cols ≤ W
  all : ∀ a b, (a < i ∨ (a = i ∧ b < k)) → F a b ≠ [] → a < rows ∧ b < cols
  rQ : rows = 1 ∨ RowQ F (rows - 1)
  cQ : cols = 1 ∨ ColQ F (cols - 1)
theorem Seen.start {F : Nat → Nat → Bs} {H W : Nat} (h : 1 ≤ H) (w : 1 ≤ W) : Seen F H W 0 0 1 1 :=
  ⟨Nat.le_refl _, Nat.le_refl _, h, w, fun a b h => by omega, .inl rfl, .inl rfl⟩
theorem Seen.blank {F : Nat → Nat → Bs} {H W i k rows cols : Nat} (h : Seen F H W i k rows cols) (e : F i k = []) : Seen F H W i (k + 1) rows cols :=
  ⟨h.r1, h.c1, h.rH, h.cW, fun a b hab hne => by
    by_cases hk : a = i ∧ b = k
    · obtain ⟨rfl, rfl⟩ := hk
      exact absurd e hne
    · exact h.all a b (by omega) hne, h.rQ, h.cQ⟩
theorem Seen.text {F : Nat → Nat → Bs} {H W i k rows cols : Nat} (h : Seen F H W i k rows cols) (hi : i < H) (hk : k < W) (e : F i k ≠ []) : Seen F H W i (k + 1) (max rows (i + 1)) (max cols (k + 1)) := by
  have h1 := h.r1
  have h2 := h.c1
  have h3 := h.rH
  have h4 := h.cW
  refine ⟨by omega, by omega, by omega, by omega, fun a b hab hne => ?_, ?_, ?_⟩
  · by_cases hk : a = i ∧ b = k
    · omega
    · have := h.all a b (by omega) hne
      omega
  · by_cases hr : rows ≤ i
    · right
      rw [show max rows (i + 1) - 1 = i by omega]
      exact ⟨k, e⟩
    · rw [show max rows (i + 1) = rows by omega]
      exact h.rQ
  · by_cases hr : cols ≤ k
    · right
      rw [show max cols (k + 1) - 1 = k by omega]
      exact ⟨i, e⟩
    · rw [show max cols (k + 1) = cols by omega]
      exact h.cQ
theorem Seen.next {F : Nat → Nat → Bs} {H W i rows cols : Nat} (h : Seen F H W i W rows cols) (e : ∀ b, W ≤ b → F i b = []) : Seen F H W (i + 1) 0 rows cols :=
  ⟨h.r1, h.c1, h.rH, h.cW, fun a b hab hne => by
    by_cases hb : a = i ∧ W ≤ b
    · obtain ⟨rfl, hb⟩ := hb
      exact absurd (e b hb) hne
    · exact h.all a b (by omega) hne, h.rQ, h.cQ⟩
theorem Seen.tops {F : Nat → Nat → Bs} {H W rows cols : Nat} (h : Seen F H W H 0 rows cols) (e : ∀ a b, H ≤ a → F a b = []) : Top (RowQ F) rows ∧ Top (ColQ F) cols := by
  have all : ∀ a b, F a b ≠ [] → a < rows ∧ b < cols := fun a b hne => by
    by_cases ha : a < H
    · exact h.all a b (.inl ha) hne
    · exact absurd (e a b (by omega)) hne
  exact ⟨⟨h.r1, fun a ⟨b, hb⟩ => (all a b hb).1, h.rQ⟩, ⟨h.c1, fun b ⟨a, hb⟩ => (all a b hb).2, h.cQ⟩⟩
theorem off_rows {R : Rec} {H : Nat} (hH : highT R = H) : ∀ a b, H ≤ a → fieldT R a b = [] := fun a b h => field_off (by unfold highT at hH; omega) b
theorem off_cols {R : Rec} {W : Nat} (hW : wideT R = W) : ∀ a b, W ≤ b → fieldT R a b = [] := fun a b h => by
  by_cases e : fieldT R a b = []
  · exact e
  · have := (field_blank e).2
    unfold wideT at hW
    omega
theorem trim_row {R : Rec} {h w : Nat} (e : trimT R = tab h w (fieldT R)) (hw : w ≤ wideT R) {i : Nat} (hi : i < (trimT R).length) (hi2 : i < (fillT R).length) : (trimT R)[i] = (fillT R)[i].take w := by
  have e1 : (trimT R)[i] = (List.range w).map fun k => fieldT R i k := by
    have := List.getElem_of_eq e hi
    rw [this]
    exact tab_get _
  rw [e1, fill_get hi2, ← List.map_take, List.take_range]
  congr 2
  unfold wideT at hw
  omega
/-- A row of rows of another one's memory, while it is made. -/
def Out (w1 : World) (T : Rec) (B : Nat) (w : World) (vs : Value) (k : Nat) : Prop :=
  ∃ vals, w.ownsRow B 31 1 vs k vals ∧ ∀ i x, vals[i]? = some x → ∀ h : i < T.length, RecC w1 x T[i]
theorem Out.start (w1 w : World) (T : Rec) (B : Nat) : Out w1 T B w (.slice none 0 0) 0 := ⟨[], World.ownsRow_nil _ _ _ _, fun i x h => by simp at h⟩
theorem Out.more {w1 : World} {T : Rec} {B : Nat} {w : World} {vs : Value} {k : Nat} (h : Out w1 T B w vs k) : ∃ vals, w.ownsRow B 31 1 vs k vals ∧
    ∀ (hk : k < T.length) x vs' w', RecC w1 x T[k] → w'.ownsRow B 31 1 vs' (k + 1) (vals ++ [x]) → Out w1 T B w' vs' (k + 1) := by
  obtain ⟨vals, h1, h2⟩ := h
  have hl : vals.length = k := by have := h1.1; omega
  refine ⟨vals, h1, fun hk x vs' w' hx ho => ⟨_, ho, fun i y hy hi => ?_⟩⟩
  by_cases e : i < k
  · rw [List.getElem?_append_left (by omega)] at hy
    exact h2 i y hy hi
  · rw [List.getElem?_append_right (by omega)] at hy
    have e0 : i - vals.length = 0 := by
      by_cases hz : i - vals.length = 0
      · exact hz
      · rw [List.getElem?_eq_none (by simp; omega)] at hy
        cases hy
    rw [e0] at hy
    simp at hy
    subst hy
    obtain rfl : i = k := by omega
    exact hx
theorem Out.recs {w1 : World} {T : Rec} {B : Nat} {w : World} {A : Option Addr} {n c : Nat} (hn : n = T.length) (h : Out w1 T B w (.slice A n c) n) (hb : Below w1.heap.size w1 w) : RecsC w A T := by
  subst hn
  obtain ⟨vals, h1, h2⟩ := h
  obtain ⟨A', c', e, _, hv, hl⟩ := vAt_ownC h1
  injection e with e1 _ _
  subst e1
  exact ⟨vals, hl, hv, fun i hi x hx => (h2 i x hx hi).below hb⟩
set_option maxHeartbeats 4000000 in
set_option maxRecDepth 1000000 in
theorem refTrim_any (A : Option Addr) (R : Rec) (n c : Nat) (hn : n = R.length) (w : World) (hA : RecsAt w A R) (hF : Few R) :
    Calls Try.prog 19 #[.slice A n c] w (RecsPost (trimT R) w) := by
  obtain ⟨i1, hi', hz0', hz1', hz2'⟩ := Cl.info_parts infoRow
  have HFI := Lib.hid (refFill_any A R n c hn w hA hF)
  have hH1 := hF.num
  have hW1 := hF.width
  obtain ⟨H, hH⟩ : ∃ H, highT R = H := ⟨_, rfl⟩
  obtain ⟨W, hW⟩ : ∃ W, wideT R = W := ⟨_, rfl⟩
  have hh0 : 1 ≤ H := by rw [← hH]; exact high_pos R
  have hw0 : 1 ≤ W := by rw [← hW]; exact wide_pos R
  have hh1 : H ≤ 1000000 := by rw [← hH]; unfold highT; omega
  have hw1 : W ≤ 1000000 := by rw [← hW]; unfold wideT; omega
  have HFL := Lib.hid (show (fillT R).length = H by rw [fill_len, hH])
  have HROW := Lib.hid (show ∀ i (h : i < (fillT R).length), (fillT R)[i].length = W from fun i h => by rw [fill_mem (List.getElem_mem h), hW])
  have HOR := Lib.hid (off_rows hH)
  have HOC := Lib.hid (off_cols hW)
  have HWW := Lib.hid hW
  clear hA hF hH hW hH1 hW1 hn
  go_enter Try.func19, Try.ntmps19
  go_wp2_with fail
  refine HFI.out.mono ?_
  rintro e w1 ⟨A1, c1, rfl, hq, hb1⟩
  rw [HFL.out]
  have HQ := Lib.hid hq
  have HB1 := Lib.hid hb1
  clear hq hb1 HFI
  go_wp2_with fail
  go_loop [4, 5, 6] (fun s4 s5 s6 => ∃ i rows cols : Nat, i ≤ H ∧ s6 = .int .i64 i ∧ s4 = .int .i64 rows ∧ s5 = .int .i64 cols ∧ Seen (fieldT R) H W i 0 rows cols) (fun _ _ s6 => H - (RowKit.intOf s6).toNat)
  case atStart => exact ⟨0, 1, 1, Nat.zero_le _, rfl, rfl, rfl, Seen.start hh0 hw0⟩
  case round =>
    obtain ⟨i, rows, cols, hi, rfl, rfl, rfl, hs⟩ := hrel
    have HS := Lib.hid hs
    have hr1 := hs.rH
    have hc1 := hs.cW
    clear hs
    by_cases hli : i < H
    · have hi2 : i < (fillT R).length := by rw [HFL.out]; exact hli
      obtain ⟨b5, off5, A5, c5, rfl, hc5, -, hv5⟩ := HQ.out.at_ hi2
      have hrl := HROW.out i hi2
      have HAT := Lib.hid (show ∀ k (hk : k < (fillT R)[i].length), (fillT R)[i][k] = fieldT R i k from fun k hk => fill_at hi2 hk)
      obtain ⟨q, hq⟩ : ∃ q, (fillT R)[i] = q := ⟨_, rfl⟩
      rw [hrl] at hc5
      have HV := Lib.hid hv5
      rw [hq] at HV hrl
      have HRL := Lib.hid hrl
      have HQQ := Lib.hid (show ∀ k (hk : k < q.length), q[k] = fieldT R i k from fun k hk => by subst hq; exact HAT.out k hk)
      clear hv5 hrl hq HAT hi2
      go_wp2_with fail
      go_loop [4, 5, 7] (fun s4 s5 s7 => ∃ k rows cols : Nat, k ≤ W ∧ s7 = .int .i64 k ∧ s4 = .int .i64 rows ∧ s5 = .int .i64 cols ∧ Seen (fieldT R) H W i k rows cols) (fun _ _ s7 => W - (RowKit.intOf s7).toNat)
      case atStart => exact ⟨0, rows, cols, Nat.zero_le _, rfl, rfl, rfl, HS.out⟩
      case round =>
        clear HS hr1 hc1
        obtain ⟨k, r2, q2, hk, rfl, rfl, rfl, hs⟩ := hrel
        have HS := Lib.hid hs
        have hr1 := hs.rH
        have hc1 := hs.cW
        clear hs
        by_cases hlk : k < W
        · have hkq : k < q.length := by rw [HRL.out]; exact hlk
          obtain ⟨b6, off6, rfl, hc6⟩ := HV.out.at_ (k := k) (by rw [rowC_len]; exact hkq)
          have e6 : (rowC q)[k]'(by rw [rowC_len]; exact hkq) = .string ⟨(fieldT R i k).toArray⟩ := by
            rw [← HQQ.out k hkq]
            simp [rowC, bx]
          rw [e6] at hc6
          have hbl := blank_iff (fieldT R i k)
          obtain ⟨X, hX⟩ : ∃ X : ByteArray, (⟨(fieldT R i k).toArray⟩ : ByteArray) = X := ⟨_, rfl⟩
          rw [hX] at hc6 hbl
          by_cases he : fieldT R i k = []
          · have dX : X.toList.isEmpty = true := hbl.2 he
            have HS2 := Lib.hid (HS.out.blank he)
            clear hbl e6 hX he hkq
            go_wp2_with fail
            go_round
            case rel => exact ⟨k + 1, r2, q2, by omega, by go_num, rfl, rfl, HS2.out⟩
            case measure => simp [RowKit.intOf]; omega
          · have dX : X.toList.isEmpty = false := by
              cases hx : X.toList.isEmpty
              · rfl
              · exact absurd (hbl.1 hx) he
            have HS2 := Lib.hid (HS.out.text hli hlk he)
            clear hbl e6 hX he hkq
            go_wp2_with fail
            all_goals
              go_round
              case rel => exact ⟨k + 1, max r2 (i + 1), max q2 (k + 1), by omega, by go_num, by congr 1; omega, by congr 1; omega, HS2.out⟩
              case measure => simp [RowKit.intOf]; omega
        · obtain rfl : W = k := by omega
          have HS2 := Lib.hid (HS.out.next (HOC.out i))
          go_wp2_with fail
          go_round
          case rel => exact ⟨i + 1, r2, q2, by omega, by go_num, rfl, rfl, HS2.out⟩
          case measure => simp [RowKit.intOf]; omega
    · obtain rfl : H = i := by omega
      have htops := HS.out.tops HOR.out
      have htr := trim_tops htops.1 htops.2
      have hr0 := HS.out.r1
      have hlen : (trimT R).length = rows := by rw [htr, tab_len]
      have HLEN := Lib.hid hlen
      have HTR := Lib.hid (show ∀ i (hi : i < (trimT R).length) (hi2 : i < (fillT R).length), (trimT R)[i] = (fillT R)[i].take cols from fun i hi hi2 => trim_row htr (by rw [HWW.out]; exact hc1) hi hi2)
      clear htops htr hlen HS HOR HOC
      go_wp2_with fail
      go_loopw [8, 9] (fun s8 s9 wx => ∃ (k : Nat) (A' : Option Addr) (c' : Nat), k ≤ rows ∧ s9 = .int .i64 k ∧ s8 = .slice A' k c' ∧ Out w1 (trimT R) w1.heap.size wx (.slice A' k c') k ∧ Below w1.heap.size w1 wx) (fun _ s9 _ => rows - (RowKit.intOf s9).toNat)
      case atStart => exact ⟨0, none, 0, Nat.zero_le _, rfl, rfl, Out.start _ _ _ _, Below.refl _ _⟩
      case round =>
        obtain ⟨k, A', c', hk, rfl, rfl, hout, hbw⟩ := hrel
        have HOUT := Lib.hid hout
        have HBW := Lib.hid hbw
        have hsz := hbw.size
        by_cases hlk : k < rows
        · have hk2 : k < (fillT R).length := by rw [HFL.out]; omega
          have hk3 : k < (trimT R).length := by rw [HLEN.out]; exact hlk
          obtain ⟨b5, off5, A5, c5, rfl, hc0, hcap, hv5⟩ := HQ.out.at_ hk2
          have hc5 := (hbw.cell (p := ⟨b5, off5 + k, none⟩) (World.block_lt_of_cell? w1 _ hc0)).trans hc0
          have hrl := HROW.out k hk2
          have hx : RecC w1 (.slice A5 cols c5) (trimT R)[k] := by
            have hl : ((fillT R)[k].take cols).length = cols := by rw [List.length_take, hrl]; omega
            rw [HTR.out k hk3 hk2]
            refine ⟨A5, c5, by rw [hl], by omega, ?_⟩
            rw [rowC_take]
            exact VAt.take hv5 _
          rw [hrl] at hc5 hcap
          obtain ⟨vals, hown, hmore⟩ := HOUT.out.more
          have HOWN := Lib.hid hown
          have HM := Lib.hid (fun vs' w' => hmore hk3 (.slice A5 cols c5) vs' w' hx)
          clear hout hbw hc0 hv5 hrl hx hown hmore hk2 hk3
          go_wp2_with (at_builtin; refine wpList_append_own _ rfl _ _ 22 rfl w1.heap.size 31 i1 (.slice none 0 0) 1 24 Try.underlying22 hi' hz0' hz1' hz2' rfl (by decide) _ _ _ rfl (HOWN.out.alloc _) ⟨_, 0, none⟩ 1 1 [.slice A5 cols c5] rfl rfl ?d1 ?d2 ?d3 ?d4 ?d5 ?_)
          try case d1 => exact cell_one_new _ _ _
          case d2 => first | rfl | (intro u hu; simp only [List.mem_singleton] at hu; subst hu; rfl)
          case d3 => unfold maxLen; omega
          case d4 => omega
          case d5 => first | omega | (simp; omega)
          intro vs' w6 ho6 hg6 _
          obtain ⟨A6, k6, rfl, -, -⟩ := vAt_own ho6
          have hb6 : Below w1.heap.size w1 w6 := (HBW.out.alloc HBW.out.size _).grown hg6 (by simp; omega) (fun k hk => (HOWN.out.lt k hk).1)
          have HO6 := Lib.hid (HM.out _ w6 ho6)
          have HB6 := Lib.hid hb6
          clear ho6 hg6 hb6
          go_wp2_with fail
          go_roundw
          case measure => simp [RowKit.intOf]; omega
          case rel => exact ⟨k + 1, A6, k6, by omega, by go_num, rfl, HO6.out, HB6.out⟩
        · obtain rfl : rows = k := by omega
          have HREC := Lib.hid (Out.recs HLEN.out.symm hout hbw)
          clear hout hbw HOUT
          go_wp2_with fail
          go_ret
          exact ⟨A', c', by rw [HLEN.out]; rfl, HREC.out, HB1.out.trans (HBW.out.mono HB1.out.size)⟩
end Go.Proofs.Ytdkdmfbhnaaobaa.Tb
