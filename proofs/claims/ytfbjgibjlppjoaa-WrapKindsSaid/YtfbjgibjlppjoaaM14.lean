/-
  Several texts in one, each with its own remark: WrLinesR, KrSame, WrLaws, ClOf, WoSmall, WoBack.
-/
import Derived.BigQuiet
import Derived.Deep.QuietTactic
import Derived.Shelf.Abstract
import Derived.Test.YtfbjgibjlppjoaaM13
import Derived.Test.YtfbjgibjlppjoaaM12
import Derived.Test.YtfbjgibjlppjoaaM0
import Derived.Test.YtfbjgibjlppjoaaM10

/-
  Proved here: what parquetryref17.Lines returns, for every row of clusters of at most 2^40: the plain lines; that parquetryref17.Same of two rows of the same lines is true. They leave what was in memory.
-/
set_option linter.unusedVariables false
namespace Go.Proofs.Ytfbjgibjlppjoaa.Wr
open Go Go.RowKit Go.Lib Go.Proofs.Ytfbjgibjlppjoaa.Ku Go.Proofs.Ytfbjgibjlppjoaa.Arr

set_option maxHeartbeats 1000000 in
set_option maxRecDepth 1000000 in
theorem rlsame_yes (A B : Option Addr) (l : List L5) (n c d : Nat) (w : World) (hl : l.length = n) (ha : LiAt w A l) (hb : LiAt w B l) (hn : n ≤ 1099511627776) :
    Calls Try.prog 18 #[.slice A n c, .slice B n d] w fun e w' => e = .returned (.bool true) ∧ Below w.heap.size w w' := by
  have HA := Lib.hid ha
  have HB := Lib.hid hb
  have HL := Lib.hid hl
  clear ha hb hl
  go_enter Try.func18, Try.ntmps18
  go_wp2_with fail
  go_loopw [5] (fun s5 wx => ∃ k : Nat, k ≤ n ∧ s5 = .int .i64 k ∧ Below w.heap.size w wx) (fun s5 _ => n - (RowKit.intOf s5).toNat)
  case atStart => exact ⟨0, Nat.zero_le _, rfl, Below.refl _ _⟩
  case round =>
    obtain ⟨k, hk, rfl, hbw⟩ := hrel
    by_cases hlt : k < n
    · have hkl : k < l.length := by rw [HL.out]; exact hlt
      obtain ⟨g, off, rfl, hg, c0, c1, c2, c3, c4⟩ := (HA.out.below hbw).at_ hkl
      obtain ⟨g', off', rfl, hg', d0, d1, d2, d3, d4⟩ := (HB.out.below hbw).at_ hkl
      clear HA HB
      generalize l[k] = r at *
      go_wp2_with fail
      go_quiet (fail)
      go_wp2_with fail
      go_roundw
      case rel => exact ⟨k + 1, by omega, by go_num, hbw.trans ((below_drewN (Below.refl _ _) _).mono hbw.size)⟩
      case measure => simp [RowKit.intOf]; omega
    · go_wp2
      go_ret
      exact ⟨rfl, hbw⟩

theorem take_cu {w : World} {A : Option Addr} {l : List C6} (h : CuAt w A l) {n : Nat} (hn : n ≤ l.length) : CuAt w A (l.take n) := by
  rcases h with rfl | ⟨b, off, hA, hlt, hc⟩
  · exact .inl (by simp)
  · refine .inr ⟨b, off, hA, hlt, fun k hk => ?_⟩
    have hkn : k < n := by rw [List.length_take] at hk; omega
    rw [List.getElem_take]
    exact hc k (by omega)

theorem made_line (w : World) (x : L5) (e : TypeId) : (w.alloc (.cells #[.int .i64 x.f, .int .i64 x.t, .int .i64 x.s, .int .i64 x.h, .int .i64 x.d] e)).ownsRow w.heap.size e 5 (.slice (some ⟨w.heap.size, 0, none⟩) 1 1) 1 (cellsL [x]) :=
  ⟨by simp [cellsL], .inr ⟨w.heap.size, 1, _, rfl, Nat.le_refl _, heap_alloc_new w _, Nat.le_refl _, by unfold maxLen; omega, rfl, rfl⟩⟩
theorem line_news (w : World) (x : L5) (e : TypeId) : ∀ j u, ([.int .i64 x.f, .int .i64 x.t, .int .i64 x.s, .int .i64 x.h, .int .i64 x.d] : List Value)[j]? = some u → (w.alloc (.cells #[.int .i64 x.f, .int .i64 x.t, .int .i64 x.s, .int .i64 x.h, .int .i64 x.d] e)).cell? ((⟨w.heap.size, 0, none⟩ : Addr).add j) = some u := by
  intro j u hu
  rcases j with _ | _ | _ | _ | _ | j <;> simp at hu <;> subst hu <;> simp [Addr.add]
theorem line_news' {W : World} {B : Nat} (x : L5) (e : TypeId) (hB : W.heap.size = B) : ∀ j u, ([.int .i64 x.f, .int .i64 x.t, .int .i64 x.s, .int .i64 x.h, .int .i64 x.d] : List Value)[j]? = some u → (W.alloc (.cells #[.int .i64 x.f, .int .i64 x.t, .int .i64 x.s, .int .i64 x.h, .int .i64 x.d] e)).cell? ((⟨B, 0, none⟩ : Addr).add j) = some u := by
  subst hB
  exact line_news W x e
theorem line_one (x : L5) : ∀ u ∈ ([.int .i64 x.f, .int .i64 x.t, .int .i64 x.s, .int .i64 x.h, .int .i64 x.d] : List Value), u.oneCell' = true := by
  intro u hu
  simp at hu
  rcases hu with rfl | rfl | rfl | rfl | rfl <;> rfl

set_option maxHeartbeats 2000000 in
set_option maxRecDepth 100000 in
theorem rlines_any (A : Option Addr) (l : List C6) (m c : Nat) (s how : Int) (w : World) (hR : CuAt w A l) (hl : l.length = m) (hn : m ≤ 1099511627776) (hc : m ≤ c) (hs : s ≤ 9223372036854775807) :
    Calls Try.prog 19 #[.slice A m c, .int .i64 s, .int .i64 how] w fun e w' => ∃ A' c', e = .returned (.slice A' (linesP l s how).length c') ∧ w'.ownsRow w.heap.size 36 5 (.slice A' (linesP l s how).length c') (linesP l s how).length (cellsL (linesP l s how)) ∧ Below w.heap.size w w' := by
  obtain ⟨i0, hi, hz0, hz1, hz2⟩ := Cl.info_parts infoL
  have HS := Lib.hid (fun (V : World) (h : Below w.heap.size w V) => rshown_any A l m c V (hR.below h) hl hn)
  have HSN := Lib.hid (shownN_le l)
  have hnm : shownN l ≤ m := by rw [← hl]; exact HSN.out
  by_cases h1 : how = 0 ∨ shownN l = 0
  · rw [linesP_one h1, hl]
    generalize shownN l = n at *
    have hfin : ∀ (W : World), Below w.heap.size w W → ∃ A' c', (Ending.returned (.slice (some ⟨W.heap.size, 0, none⟩) 1 1)) = .returned (.slice A' ([(⟨0, m, n, 1, 0⟩ : L5)]).length c') ∧ (W.alloc (.cells #[.int .i64 0, .int .i64 m, .int .i64 n, .int .i64 1, .int .i64 0] 36)).ownsRow w.heap.size 36 5 (.slice A' ([(⟨0, m, n, 1, 0⟩ : L5)]).length c') ([(⟨0, m, n, 1, 0⟩ : L5)]).length (cellsL [⟨0, m, n, 1, 0⟩]) ∧ Below w.heap.size w (W.alloc (.cells #[.int .i64 0, .int .i64 m, .int .i64 n, .int .i64 1, .int .i64 0] 36)) := fun W hW =>
      ⟨_, _, rfl, (made_line W ⟨0, m, n, 1, 0⟩ _).mono hW.size, hW.trans ((Cl.below_made W _).mono hW.size)⟩
    have HFIN := Lib.hid hfin
    clear hfin
    by_cases hh : how = 0
    · subst hh
      clear h1
      go_enter Try.func19, Try.ntmps19
      go_wp2_with fail
      refine (HS.out _ (Below.refl _ _)).mono ?_
      rintro e w1 ⟨rfl, hb1⟩
      have HB1 := Lib.hid hb1
      clear hb1
      go_wp2_with fail
      go_ret
      exact HFIN.out _ HB1.out
    · obtain rfl : n = 0 := by omega
      have k1 : (how == 0) = false := by simpa using hh
      clear h1
      go_enter Try.func19, Try.ntmps19
      go_wp2_with fail
      refine (HS.out _ (Below.refl _ _)).mono ?_
      rintro e w1 ⟨rfl, hb1⟩
      have HB1 := Lib.hid hb1
      clear hb1
      go_wp2_with fail
      go_ret
      exact HFIN.out _ HB1.out
  · have HP := Lib.hid (fun R h => linesP_of (l := l) (w := s) (how := how) h1 (R := R) h)
    rw [hl] at HP
    have h0 : ¬ how = 0 := fun e => h1 (.inl e)
    have h2 : 0 < shownN l := by omega
    have HCU := Lib.hid (fun (V : World) (h : Below w.heap.size w V) => take_cu (hR.below h) HSN.out)
    have hlen : (l.take (shownN l)).length = shownN l := by rw [List.length_take]; omega
    generalize linesP l s how = P at *
    generalize hV : l.take (shownN l) = V at *
    generalize shownN l = n at *
    have k1 : (how == 0) = false := by simpa using h0
    have k2 : ((n : Int) == 0) = false := beq_eq_false_iff_ne.2 (by omega)
    have k3 : (n == 0) = false := beq_eq_false_iff_ne.2 (by omega)
    have jn0 : (0 : Int) ≤ (n : Int) := by omega
    have jn1 : (n : Int) ≤ (c : Int) := by omega
    have HRF := Lib.hid (fun (z : Int) (hz : z ≤ 9223372036854775807) (f : Nat) (hf : f < n) (U : World) (h : Below w.heap.size w U) => rfirst_any A V n c f z U (HCU.out U h) hlen (by omega) (by omega) hz hf)
    have HI := Lib.hid hi
    have HZ0 := Lib.hid hz0
    have HZ1 := Lib.hid hz1
    have HZ2 := Lib.hid hz2
    clear hR hl h1 hV hlen hi hz0 hz1 hz2 HCU
    by_cases hs1 : s < 1
    · rw [show max s 1 = 1 from by omega] at HP
      have HRF1 := Lib.hid (fun f hf U h => HRF.out 1 (by omega) f hf U h)
      clear HRF
      go_enter Try.func19, Try.ntmps19
      go_wp2_with fail
      refine (HS.out _ (Below.refl _ _)).mono ?_
      rintro e w1 ⟨rfl, hb1⟩
      have HB1 := Lib.hid hb1
      clear hb1 HS
      go_wp2_with fail
      go_loopw [8, 9] (fun s8 s9 wx => ∃ (f k : Nat) (R : List (Nat × Nat × Nat)), f ≤ n ∧ s9 = .int .i64 f ∧ R.length = k ∧ k ≤ f ∧ ((f < n ∧ ∀ r, Lns (Wd V) (Bl V) n 1 f r → Lns (Wd V) (Bl V) n 1 0 (R ++ r)) ∨ (f = n ∧ Lns (Wd V) (Bl V) n 1 0 R)) ∧ wx.ownsRow w.heap.size 36 5 s8 k (cellsL (R.map (lineOf m n))) ∧ Below w.heap.size w wx) (fun _ s9 _ => n - (RowKit.intOf s9).toNat)
      case atStart => exact ⟨0, 0, [], Nat.zero_le _, rfl, rfl, Nat.le_refl _, .inl ⟨h2, fun r h => h⟩, World.ownsRow_nil _ _ _ _, HB1.out⟩
      case round =>
        obtain ⟨f, k, R, hfn, rfl, hRk, hkf, hcase, hown, hb⟩ := hrel
        have HO := Lib.hid hown
        have HB := Lib.hid hb
        have HRK := Lib.hid hRk
        have HCS := Lib.hid hcase
        clear hown hRk hcase
        by_cases hlt : f < n
        · have HF := Lib.hid (HRF1.out f hlt wr hb)
          have hgo : ∀ r, Lns (Wd V) (Bl V) n 1 f r → Lns (Wd V) (Bl V) n 1 0 (R ++ r) := by
            rcases HCS.out with ⟨_, h⟩ | ⟨h, _⟩
            · exact h
            · omega
          have HGO := Lib.hid hgo
          have jf0 : (0 : Int) ≤ (f : Int) := by omega
          have jf1 : decide ((f : Int) < (n : Int)) = true := decide_eq_true (by omega)
          clear hgo hb HCS
          go_wp2_with fail
          refine HF.out.mono ?_
          rintro e w2 ⟨t, sh, rfl, hfst, hb2⟩
          have hgs := hfst.goes hlt
          have HFST := Lib.hid hfst
          have HB2 := Lib.hid (HB.out.trans (hb2.mono HB.out.size))
          have HO2 := Lib.hid (Cl.ownsRow_below HO.out hb2)
          have hsz2 := HB2.out.size
          clear hfst hb2 HF
          by_cases htn : t = n
          · have e1 : ((t : Int) == (n : Int)) = true := by rw [htn]; simp
            have e2 : (t == n) = true := by rw [htn]; simp
            go_wp2_with (at_builtin; refine wpList_append_own _ rfl _ _ 31 rfl w.heap.size 36 i0 (.agg #[.int .i64 0, .int .i64 0, .int .i64 0, .int .i64 0, .int .i64 0]) 5 40 Try.underlying31 HI.out HZ0.out HZ1.out HZ2.out rfl (by decide) _ _ _ rfl ((HO2.out.alloc _).alloc _) ⟨w2.heap.size + 1, 0, none⟩ 1 1 [.int .i64 f, .int .i64 m, .int .i64 sh, .int .i64 1, .int .i64 0] rfl rfl (line_news' ⟨f, m, sh, 1, 0⟩ _ (World.size_alloc _ _)) (line_one ⟨f, m, sh, 1, 0⟩) (by unfold maxLen; omega) (by omega) (by simp; omega) ?_)
            intro v' w4 hown' hgrow _
            have HB4 := Lib.hid (((HB2.out.trans ((Cl.below_made w2 (.cells #[.int .i64 f, .int .i64 m, .int .i64 sh, .int .i64 1, .int .i64 0] 36)).mono HB2.out.size)).trans ((Cl.below_made (w2.alloc (.cells #[.int .i64 f, .int .i64 m, .int .i64 sh, .int .i64 1, .int .i64 0] 36)) (.cells #[.int .i64 f, .int .i64 m, .int .i64 sh, .int .i64 1, .int .i64 0] 36)).mono (by simp; omega))).grown hgrow (by simp; omega) (fun q hq => (HO2.out.lt q hq).1))
            have HO4 := Lib.hid (show w4.ownsRow w.heap.size 36 5 v' (k + 1) (cellsL ((R ++ [(f, n, sh)]).map (lineOf m n))) from by
              rw [List.map_append, List.map_cons, List.map_nil, show lineOf m n (f, n, sh) = ⟨f, m, sh, 1, 0⟩ from by first | exact if_pos rfl | exact if_neg htn, cellsL_snoc]
              exact hown')
            clear hown' hgrow
            go_wp2_with fail
            go_roundw
            case rel => exact ⟨n, k + 1, R ++ [(f, n, sh)], Nat.le_refl _, by first | rfl | go_num, by rw [List.length_append, HRK.out]; rfl, by omega, .inr ⟨rfl, HGO.out _ (.last f sh (by have h := HFST.out; rw [htn] at h; exact h))⟩, HO4.out, HB4.out⟩
            case measure => simp [RowKit.intOf] <;> omega
          · have e1 : ((t : Int) == (n : Int)) = false := beq_eq_false_iff_ne.2 (by omega)
            have e2 : (t == n) = false := beq_eq_false_iff_ne.2 htn
            go_wp2_with (at_builtin; refine wpList_append_own _ rfl _ _ 31 rfl w.heap.size 36 i0 (.agg #[.int .i64 0, .int .i64 0, .int .i64 0, .int .i64 0, .int .i64 0]) 5 40 Try.underlying31 HI.out HZ0.out HZ1.out HZ2.out rfl (by decide) _ _ _ rfl ((HO2.out.alloc _).alloc _) ⟨w2.heap.size + 1, 0, none⟩ 1 1 [.int .i64 f, .int .i64 t, .int .i64 sh, .int .i64 0, .int .i64 0] rfl rfl (line_news' ⟨f, t, sh, 0, 0⟩ _ (World.size_alloc _ _)) (line_one ⟨f, t, sh, 0, 0⟩) (by unfold maxLen; omega) (by omega) (by simp; omega) ?_)
            intro v' w4 hown' hgrow _
            have HB4 := Lib.hid (((HB2.out.trans ((Cl.below_made w2 (.cells #[.int .i64 f, .int .i64 t, .int .i64 sh, .int .i64 0, .int .i64 0] 36)).mono HB2.out.size)).trans ((Cl.below_made (w2.alloc (.cells #[.int .i64 f, .int .i64 t, .int .i64 sh, .int .i64 0, .int .i64 0] 36)) (.cells #[.int .i64 f, .int .i64 t, .int .i64 sh, .int .i64 0, .int .i64 0] 36)).mono (by simp; omega))).grown hgrow (by simp; omega) (fun q hq => (HO2.out.lt q hq).1))
            have HO4 := Lib.hid (show w4.ownsRow w.heap.size 36 5 v' (k + 1) (cellsL ((R ++ [(f, t, sh)]).map (lineOf m n))) from by
              rw [List.map_append, List.map_cons, List.map_nil, show lineOf m n (f, t, sh) = ⟨f, t, sh, 0, 0⟩ from by first | exact if_pos rfl | exact if_neg htn, cellsL_snoc]
              exact hown')
            clear hown' hgrow
            go_wp2_with fail
            go_roundw
            case rel => exact ⟨t, k + 1, R ++ [(f, t, sh)], by omega, by first | rfl | go_num, by rw [List.length_append, HRK.out]; rfl, by omega, .inl ⟨by omega, fun r h => by rw [List.append_assoc]; exact HGO.out _ (.more f t sh r HFST.out (by omega) h)⟩, HO4.out, HB4.out⟩
            case measure => simp [RowKit.intOf] <;> omega
        · have jf1 : decide ((f : Int) < (n : Int)) = false := decide_eq_false (by omega)
          have HPE := Lib.hid (show P = R.map (lineOf m n) from by
            rcases HCS.out with ⟨h, _⟩ | ⟨_, h⟩
            · omega
            · exact HP.out R h)
          have hPk : P.length = k := by rw [HPE.out, List.length_map, HRK.out]
          have ho : wr.ownsRow w.heap.size 36 5 u8 P.length (cellsL P) := by rw [hPk, HPE.out]; exact HO.out
          obtain ⟨A', c', rfl, -⟩ := liAt_own ho
          have HO5 := Lib.hid ho
          clear ho hPk hb
          go_wp2_with fail
          go_ret
          exact ⟨A', c', rfl, HO5.out, HB.out⟩
    · rw [show max s 1 = s from by omega] at HP
      have HRF1 := Lib.hid (fun f hf U h => HRF.out s hs f hf U h)
      clear HRF
      go_enter Try.func19, Try.ntmps19
      go_wp2_with fail
      refine (HS.out _ (Below.refl _ _)).mono ?_
      rintro e w1 ⟨rfl, hb1⟩
      have HB1 := Lib.hid hb1
      clear hb1 HS
      go_wp2_with fail
      go_loopw [8, 9] (fun s8 s9 wx => ∃ (f k : Nat) (R : List (Nat × Nat × Nat)), f ≤ n ∧ s9 = .int .i64 f ∧ R.length = k ∧ k ≤ f ∧ ((f < n ∧ ∀ r, Lns (Wd V) (Bl V) n s f r → Lns (Wd V) (Bl V) n s 0 (R ++ r)) ∨ (f = n ∧ Lns (Wd V) (Bl V) n s 0 R)) ∧ wx.ownsRow w.heap.size 36 5 s8 k (cellsL (R.map (lineOf m n))) ∧ Below w.heap.size w wx) (fun _ s9 _ => n - (RowKit.intOf s9).toNat)
      case atStart => exact ⟨0, 0, [], Nat.zero_le _, rfl, rfl, Nat.le_refl _, .inl ⟨h2, fun r h => h⟩, World.ownsRow_nil _ _ _ _, HB1.out⟩
      case round =>
        obtain ⟨f, k, R, hfn, rfl, hRk, hkf, hcase, hown, hb⟩ := hrel
        have HO := Lib.hid hown
        have HB := Lib.hid hb
        have HRK := Lib.hid hRk
        have HCS := Lib.hid hcase
        clear hown hRk hcase
        by_cases hlt : f < n
        · have HF := Lib.hid (HRF1.out f hlt wr hb)
          have hgo : ∀ r, Lns (Wd V) (Bl V) n s f r → Lns (Wd V) (Bl V) n s 0 (R ++ r) := by
            rcases HCS.out with ⟨_, h⟩ | ⟨h, _⟩
            · exact h
            · omega
          have HGO := Lib.hid hgo
          have jf0 : (0 : Int) ≤ (f : Int) := by omega
          have jf1 : decide ((f : Int) < (n : Int)) = true := decide_eq_true (by omega)
          clear hgo hb HCS
          go_wp2_with fail
          refine HF.out.mono ?_
          rintro e w2 ⟨t, sh, rfl, hfst, hb2⟩
          have hgs := hfst.goes hlt
          have HFST := Lib.hid hfst
          have HB2 := Lib.hid (HB.out.trans (hb2.mono HB.out.size))
          have HO2 := Lib.hid (Cl.ownsRow_below HO.out hb2)
          have hsz2 := HB2.out.size
          clear hfst hb2 HF
          by_cases htn : t = n
          · have e1 : ((t : Int) == (n : Int)) = true := by rw [htn]; simp
            have e2 : (t == n) = true := by rw [htn]; simp
            go_wp2_with (at_builtin; refine wpList_append_own _ rfl _ _ 31 rfl w.heap.size 36 i0 (.agg #[.int .i64 0, .int .i64 0, .int .i64 0, .int .i64 0, .int .i64 0]) 5 40 Try.underlying31 HI.out HZ0.out HZ1.out HZ2.out rfl (by decide) _ _ _ rfl ((HO2.out.alloc _).alloc _) ⟨w2.heap.size + 1, 0, none⟩ 1 1 [.int .i64 f, .int .i64 m, .int .i64 sh, .int .i64 1, .int .i64 0] rfl rfl (line_news' ⟨f, m, sh, 1, 0⟩ _ (World.size_alloc _ _)) (line_one ⟨f, m, sh, 1, 0⟩) (by unfold maxLen; omega) (by omega) (by simp; omega) ?_)
            intro v' w4 hown' hgrow _
            have HB4 := Lib.hid (((HB2.out.trans ((Cl.below_made w2 (.cells #[.int .i64 f, .int .i64 m, .int .i64 sh, .int .i64 1, .int .i64 0] 36)).mono HB2.out.size)).trans ((Cl.below_made (w2.alloc (.cells #[.int .i64 f, .int .i64 m, .int .i64 sh, .int .i64 1, .int .i64 0] 36)) (.cells #[.int .i64 f, .int .i64 m, .int .i64 sh, .int .i64 1, .int .i64 0] 36)).mono (by simp; omega))).grown hgrow (by simp; omega) (fun q hq => (HO2.out.lt q hq).1))
            have HO4 := Lib.hid (show w4.ownsRow w.heap.size 36 5 v' (k + 1) (cellsL ((R ++ [(f, n, sh)]).map (lineOf m n))) from by
              rw [List.map_append, List.map_cons, List.map_nil, show lineOf m n (f, n, sh) = ⟨f, m, sh, 1, 0⟩ from by first | exact if_pos rfl | exact if_neg htn, cellsL_snoc]
              exact hown')
            clear hown' hgrow
            go_wp2_with fail
            go_roundw
            case rel => exact ⟨n, k + 1, R ++ [(f, n, sh)], Nat.le_refl _, by first | rfl | go_num, by rw [List.length_append, HRK.out]; rfl, by omega, .inr ⟨rfl, HGO.out _ (.last f sh (by have h := HFST.out; rw [htn] at h; exact h))⟩, HO4.out, HB4.out⟩
            case measure => simp [RowKit.intOf] <;> omega
          · have e1 : ((t : Int) == (n : Int)) = false := beq_eq_false_iff_ne.2 (by omega)
            have e2 : (t == n) = false := beq_eq_false_iff_ne.2 htn
            go_wp2_with (at_builtin; refine wpList_append_own _ rfl _ _ 31 rfl w.heap.size 36 i0 (.agg #[.int .i64 0, .int .i64 0, .int .i64 0, .int .i64 0, .int .i64 0]) 5 40 Try.underlying31 HI.out HZ0.out HZ1.out HZ2.out rfl (by decide) _ _ _ rfl ((HO2.out.alloc _).alloc _) ⟨w2.heap.size + 1, 0, none⟩ 1 1 [.int .i64 f, .int .i64 t, .int .i64 sh, .int .i64 0, .int .i64 0] rfl rfl (line_news' ⟨f, t, sh, 0, 0⟩ _ (World.size_alloc _ _)) (line_one ⟨f, t, sh, 0, 0⟩) (by unfold maxLen; omega) (by omega) (by simp; omega) ?_)
            intro v' w4 hown' hgrow _
            have HB4 := Lib.hid (((HB2.out.trans ((Cl.below_made w2 (.cells #[.int .i64 f, .int .i64 t, .int .i64 sh, .int .i64 0, .int .i64 0] 36)).mono HB2.out.size)).trans ((Cl.below_made (w2.alloc (.cells #[.int .i64 f, .int .i64 t, .int .i64 sh, .int .i64 0, .int .i64 0] 36)) (.cells #[.int .i64 f, .int .i64 t, .int .i64 sh, .int .i64 0, .int .i64 0] 36)).mono (by simp; omega))).grown hgrow (by simp; omega) (fun q hq => (HO2.out.lt q hq).1))
            have HO4 := Lib.hid (show w4.ownsRow w.heap.size 36 5 v' (k + 1) (cellsL ((R ++ [(f, t, sh)]).map (lineOf m n))) from by
              rw [List.map_append, List.map_cons, List.map_nil, show lineOf m n (f, t, sh) = ⟨f, t, sh, 0, 0⟩ from by first | exact if_pos rfl | exact if_neg htn, cellsL_snoc]
              exact hown')
            clear hown' hgrow
            go_wp2_with fail
            go_roundw
            case rel => exact ⟨t, k + 1, R ++ [(f, t, sh)], by omega, by first | rfl | go_num, by rw [List.length_append, HRK.out]; rfl, by omega, .inl ⟨by omega, fun r h => by rw [List.append_assoc]; exact HGO.out _ (.more f t sh r HFST.out (by omega) h)⟩, HO4.out, HB4.out⟩
            case measure => simp [RowKit.intOf] <;> omega
        · have jf1 : decide ((f : Int) < (n : Int)) = false := decide_eq_false (by omega)
          have HPE := Lib.hid (show P = R.map (lineOf m n) from by
            rcases HCS.out with ⟨h, _⟩ | ⟨_, h⟩
            · omega
            · exact HP.out R h)
          have hPk : P.length = k := by rw [HPE.out, List.length_map, HRK.out]
          have ho : wr.ownsRow w.heap.size 36 5 u8 P.length (cellsL P) := by rw [hPk, HPE.out]; exact HO.out
          obtain ⟨A', c', rfl, -⟩ := liAt_own ho
          have HO5 := Lib.hid ho
          clear ho hPk hb
          go_wp2_with fail
          go_ret
          exact ⟨A', c', rfl, HO5.out, HB.out⟩
end Go.Proofs.Ytfbjgibjlppjoaa.Wr

/-
  Proved here: parquetryref06.Same of two rows of the same clusters is true. They leave what was in memory.
-/
set_option linter.unusedVariables false
namespace Go.Proofs.Ytfbjgibjlppjoaa.Ku
open Go.RowKit Go.Lib Go.Proofs.Ytfbjgibjlppjoaa.Arr

set_option maxHeartbeats 1000000 in
set_option maxRecDepth 1000000 in
theorem csame_yes (A B : Option Addr) (l : List C6) (n c d : Nat) (w : World) (hl : l.length = n) (ha : CuAt w A l) (hb : CuAt w B l) (hn : n ≤ 1099511627776) :
    Calls Try.prog 20 #[.slice A n c, .slice B n d] w fun e w' => e = .returned (.bool true) ∧ Below w.heap.size w w' := by
  have HA := Lib.hid ha
  have HB := Lib.hid hb
  have HL := Lib.hid hl
  clear ha hb hl
  go_enter Try.func20, Try.ntmps20
  go_wp2_with fail
  go_loopw [5] (fun s5 wx => ∃ k : Nat, k ≤ n ∧ s5 = .int .i64 k ∧ Below w.heap.size w wx) (fun s5 _ => n - (RowKit.intOf s5).toNat)
  case atStart => exact ⟨0, Nat.zero_le _, rfl, Below.refl _ _⟩
  case round =>
    obtain ⟨k, hk, rfl, hbw⟩ := hrel
    by_cases hlt : k < n
    · have hkl : k < l.length := by rw [HL.out]; exact hlt
      obtain ⟨g, off, rfl, hg, c0, c1, c2, c3, c4, c5⟩ := (HA.out.below hbw).at_ hkl
      obtain ⟨g', off', rfl, hg', d0, d1, d2, d3, d4, d5⟩ := (HB.out.below hbw).at_ hkl
      clear HA HB
      generalize l[k] = r at *
      go_wp2_with fail
      go_quiet (fail)
      go_wp2_with fail
      go_roundw
      case rel => exact ⟨k + 1, by omega, by go_num, hbw.trans ((below_drewN (Below.refl _ _) _).mono hbw.size)⟩
      case measure => simp [RowKit.intOf]; omega
    · go_wp2
      go_ret
      exact ⟨rfl, hbw⟩

end Go.Proofs.Ytfbjgibjlppjoaa.Ku

/-
  Proved here: what parquetrylaw17.WrapKinds, WrapFits and WrapLines return for every row of clusters: true; for any program of wrapping that keeps to the plain one (BreakOk, BlankOk, ShownOk, FitsOk, LinesOk). They leave what was in memory.
-/
set_option linter.unusedVariables false
namespace Go.Proofs.Ytfbjgibjlppjoaa.Wr
open Go Go.RowKit Go.Lib Go.Proofs.Ytfbjgibjlppjoaa.Ku Go.Proofs.Ytfbjgibjlppjoaa.Arr

theorem step_below17 {wr V W : World} (h : Below wr.heap.size wr V) (hb : Below V.heap.size V W) : Below wr.heap.size wr W := h.trans (hb.mono h.size)
/-- What wrap.Break, Blank, Shown and Fits answer. -/
def BreakOk : Prop := ∀ (x : C6) (w : World), Calls Try.prog 9 #[.agg #[.int .i64 x.a, .int .i64 x.z, .int .i64 x.f, .int .i64 x.t, .int .i64 x.w, .int .i64 x.c]] w fun e w' => e = .returned (.bool (brk x)) ∧ Below w.heap.size w w'
def BlankOk : Prop := ∀ (x : C6) (w : World), Calls Try.prog 11 #[.agg #[.int .i64 x.a, .int .i64 x.z, .int .i64 x.f, .int .i64 x.t, .int .i64 x.w, .int .i64 x.c]] w fun e w' => e = .returned (.bool (x.c == 32)) ∧ Below w.heap.size w w'
def ShownOk : Prop := ∀ (A : Option Addr) (l : List C6) (n c : Nat) (w : World), CuAt w A l → l.length = n → n ≤ 1099511627776 →
  Calls Try.prog 13 #[.slice A n c] w fun e w' => e = .returned (.int .i64 (shownN l)) ∧ Below w.heap.size w w'
def FitsOk : Prop := ∀ (A : Option Addr) (l : List C6) (n c : Nat) (x s : Int) (w : World), CuAt w A l → l.length = n → n ≤ 1099511627776 → n ≤ c → s ≤ 9223372036854775807 →
  Calls Try.prog 15 #[.slice A n c, .int .i64 x, .int .i64 s] w fun e w' => e = .returned (.int .i64 (fitsN l x s)) ∧ Below w.heap.size w w'

set_option maxHeartbeats 4000000 in
set_option maxRecDepth 100000 in
theorem fits_law (HF : FitsOk) (HLN : LinesOk) (A : Option Addr) (l : List C6) (n c : Nat) (x s : Int) (w : World) (hR : CuAt w A l) (hl : l.length = n) (hc : n ≤ c) (hs : s ≤ 9223372036854775807) :
    Calls Try.prog 4 #[.slice A n c, .int .i64 x, .int .i64 s] w fun e w' => e = .returned (.bool true) ∧ Below w.heap.size w w' := by
  have HA := Lib.hid (fun V => awake_of HLN V)
  clear HLN
  by_cases h300 : 300 < n
  · have d0 : decide ((300 : Int) < (n : Int)) = true := decide_eq_true (by omega)
    have e0 : decide (300 < n) = true := decide_eq_true h300
    clear HF hR hl
    go_enter Try.func4, Try.ntmps4
    go_wp2_with fail
    refine (HA.out _).mono ?_
    rintro e w1 ⟨rfl, hb1⟩
    go_wp2_with fail
    go_ret
    exact ⟨rfl, hb1⟩
  · have d0 : decide ((300 : Int) < (n : Int)) = false := decide_eq_false (by omega)
    have e0 : decide (300 < n) = false := decide_eq_false h300
    have HF1 := Lib.hid (HF A l n c x s w hR hl (by omega) hc hs)
    have HF2 := Lib.hid (fun V (h : Below w.heap.size w V) => rfits_any A l n c x s V (hR.below h) hl (by omega) hc hs)
    clear HF hR hl
    go_enter Try.func4, Try.ntmps4
    go_wp2_with fail
    refine HF1.out.mono ?_
    rintro e w1 ⟨rfl, hb1⟩
    have HB1 := Lib.hid hb1
    clear hb1
    go_wp2_with fail
    refine (HF2.out _ HB1.out).mono ?_
    rintro e w2 ⟨rfl, rfl⟩
    go_wp2_with fail
    refine (HA.out _).mono ?_
    rintro e w3 ⟨rfl, hb3⟩
    go_wp2_with fail
    go_ret
    exact ⟨rfl, HB1.out.trans (hb3.mono HB1.out.size)⟩

set_option maxHeartbeats 4000000 in
set_option maxRecDepth 100000 in
theorem kinds_law (HBR : BreakOk) (HBL : BlankOk) (HSH : ShownOk) (HLN : LinesOk) (A : Option Addr) (l : List C6) (n c : Nat) (w : World) (hR : CuAt w A l) (hl : l.length = n) :
    Calls Try.prog 3 #[.slice A n c] w fun e w' => e = .returned (.bool true) ∧ Below w.heap.size w w' := by
  have HA := Lib.hid (fun V => awake_of HLN V)
  clear HLN
  by_cases h300 : 300 < n
  · have d0 : decide ((300 : Int) < (n : Int)) = true := decide_eq_true (by omega)
    have e0 : decide (300 < n) = true := decide_eq_true h300
    clear HBR HBL HSH hR hl
    go_enter Try.func3, Try.ntmps3
    go_wp2_with fail
    refine (HA.out _).mono ?_
    rintro e w1 ⟨rfl, hb1⟩
    go_wp2_with fail
    go_ret
    exact ⟨rfl, hb1⟩
  · have d0 : decide ((300 : Int) < (n : Int)) = false := decide_eq_false (by omega)
    have e0 : decide (300 < n) = false := decide_eq_false h300
    have HS1 := Lib.hid (fun V (h : Below w.heap.size w V) => HSH A l n c V (hR.below h) hl (by omega))
    have HS2 := Lib.hid (fun V (h : Below w.heap.size w V) => rshown_any A l n c V (hR.below h) hl (by omega))
    have H1 := Lib.hid (fun (x : C6) V => HBR x V)
    have H2 := Lib.hid (fun (x : C6) V => HBL x V)
    have H3 := Lib.hid (fun x V => rbreak_any x V)
    have H4 := Lib.hid (fun x V => rblank_any x V)
    have HR := Lib.hid hR
    have HL := Lib.hid hl
    clear HBR HBL HSH hR hl
    go_enter Try.func3, Try.ntmps3
    go_wp2_with fail
    go_loopw [3] (fun s3 wx => ∃ i : Nat, i ≤ n ∧ s3 = .int .i64 i ∧ Below w.heap.size w wx) (fun s3 _ => n - (RowKit.intOf s3).toNat)
    case atStart => exact ⟨0, Nat.zero_le _, rfl, Below.refl _ _⟩
    case round =>
      obtain ⟨i, hi, rfl, hb⟩ := hrel
      have HB := Lib.hid hb
      by_cases hlt : i < n
      · have hil : i < l.length := by rw [HL.out]; exact hlt
        obtain ⟨g, o, rfl, hg, q0, q1, q2, q3, q4, q5⟩ := (HR.out.below hb).at_ hil
        generalize l[i] = x at *
        have jj0 : (0 : Int) ≤ (i : Int) := by omega
        have jj1 : (i : Int) < (n : Int) := by omega
        have HC := Lib.hid (fun V (h : Below wr.heap.size wr V) => (⟨(h.cell (p := ⟨g, o + i * 6, none⟩) hg).trans q0, (h.cell (p := ⟨g, o + i * 6 + 1, none⟩) hg).trans q1, (h.cell (p := ⟨g, o + i * 6 + 2, none⟩) hg).trans q2, (h.cell (p := ⟨g, o + i * 6 + 3, none⟩) hg).trans q3, (h.cell (p := ⟨g, o + i * 6 + 4, none⟩) hg).trans q4, (h.cell (p := ⟨g, o + i * 6 + 5, none⟩) hg).trans q5, h⟩ : V.cell? ⟨g, o + i * 6, none⟩ = some (.int .i64 x.a) ∧ V.cell? ⟨g, o + i * 6 + 1, none⟩ = some (.int .i64 x.z) ∧ V.cell? ⟨g, o + i * 6 + 2, none⟩ = some (.int .i64 x.f) ∧ V.cell? ⟨g, o + i * 6 + 3, none⟩ = some (.int .i64 x.t) ∧ V.cell? ⟨g, o + i * 6 + 4, none⟩ = some (.int .i64 x.w) ∧ V.cell? ⟨g, o + i * 6 + 5, none⟩ = some (.int .i64 x.c) ∧ Below wr.heap.size wr V))
        clear hb q0 q1 q2 q3 q4 q5
        go_wp2_with fail
        go_region_held3 (fun V => V.cell? ⟨g, o + i * 6, none⟩ = some (.int .i64 x.a) ∧ V.cell? ⟨g, o + i * 6 + 1, none⟩ = some (.int .i64 x.z) ∧ V.cell? ⟨g, o + i * 6 + 2, none⟩ = some (.int .i64 x.f) ∧ V.cell? ⟨g, o + i * 6 + 3, none⟩ = some (.int .i64 x.t) ∧ V.cell? ⟨g, o + i * 6 + 4, none⟩ = some (.int .i64 x.w) ∧ V.cell? ⟨g, o + i * 6 + 5, none⟩ = some (.int .i64 x.c) ∧ Below wr.heap.size wr V) (first | exact HC.out _ (Below.refl _ _) | exact HC.out _ (below_drew (Below.refl _ _)) | exact HC.out _ (by assumption))
          (first | (go_at_call 9; ((with_reducible refine (H1.out x _).mono ?_); rintro e w7 ⟨rfl, hb7⟩; have hbx := step_below17 (wr := wr) (by first | assumption | exact below_drew (Below.refl _ _)) hb7; clear hb7)) | (go_at_call 11; ((with_reducible refine (H2.out x _).mono ?_); rintro e w7 ⟨rfl, hb7⟩; have hbx := step_below17 (wr := wr) (by first | assumption | exact below_drew (Below.refl _ _)) hb7; clear hb7)) | (go_at_call 10; ((with_reducible refine (H3.out x _).mono ?_); rintro e w7 ⟨rfl, hb7⟩; have hbx := step_below17 (wr := wr) (by first | assumption | exact below_drew (Below.refl _ _)) hb7; clear hb7)) | (go_at_call 12; ((with_reducible refine (H4.out x _).mono ?_); rintro e w7 ⟨rfl, hb7⟩; have hbx := step_below17 (wr := wr) (by first | assumption | exact below_drew (Below.refl _ _)) hb7; clear hb7)))
        all_goals (rename_i hh8; have HB8 := Lib.hid hh8.2.2.2.2.2.2; clear hh8)
        all_goals go_wp2_with fail
        all_goals go_roundw
        case rel => exact ⟨i + 1, by omega, by go_num, HB.out.trans (HB8.out.mono HB.out.size)⟩
        case measure => simp [RowKit.intOf]; omega
      · obtain rfl : i = n := by omega
        have jj2 : decide ((i : Int) < (i : Int)) = false := decide_eq_false (by omega)
        clear hb
        go_wp2_with fail
        refine (HS1.out _ HB.out).mono ?_
        rintro e w1 ⟨rfl, hb1⟩
        have HB1 := Lib.hid (HB.out.trans (hb1.mono HB.out.size))
        clear hb1
        go_wp2_with fail
        refine (HS2.out _ HB1.out).mono ?_
        rintro e w2 ⟨rfl, hb2⟩
        have HB2 := Lib.hid (HB1.out.trans (hb2.mono HB1.out.size))
        clear hb2
        go_wp2_with fail
        refine (HA.out _).mono ?_
        rintro e w3 ⟨rfl, hb3⟩
        go_wp2_with fail
        go_ret
        exact ⟨rfl, HB2.out.trans (hb3.mono HB2.out.size)⟩
end Go.Proofs.Ytfbjgibjlppjoaa.Wr

/-
  Proved here: what class.Of returns, for every number; it leaves what was in memory. No condition.
-/
set_option linter.unusedVariables false
namespace Go.Proofs.Ytfbjgibjlppjoaa.Cl
open Go.RowKit Go.Lib

set_option maxHeartbeats 1000000 in
theorem of_any (c : Int) (w : World) :
    Calls Try.prog 23 #[.int .i64 c] w fun e w' => e = .returned (.int .i64 (cls c)) ∧ Below w.heap.size w w' := by
  have hl : spansL.length ≤ 1000 := by rw [spans_len]; decide
  have HR := Lib.hid rises_spans
  go_enter Try.func23, Try.ntmps23
  go_wp2_with fail
  refine (spans_reads _).mono ?_
  rintro e w1 ⟨rfl, hS, hb⟩
  have HS := Lib.hid hS
  clear hS
  go_wp2_with fail
  refine (classIn_any _ _ _ _ HS.out hl HR.out).mono ?_
  rintro e w2 ⟨rfl, hb2⟩
  go_wp2
  go_ret
  exact ⟨rfl, hb.trans (hb2.mono hb.size)⟩
end Go.Proofs.Ytfbjgibjlppjoaa.Cl

/-
  Proved here: what wrap.Break, Blank, Shown return, for every cluster, every row of clusters of at most 2^40: the plain ones. They leave what was in memory.
-/
set_option linter.unusedVariables false
namespace Go.Proofs.Ytfbjgibjlppjoaa.Wr
open Go Go.RowKit Go.Lib Go.Proofs.Ytfbjgibjlppjoaa.Ku

set_option maxHeartbeats 1000000 in
set_option maxRecDepth 100000 in
theorem break_any (x : C6) (w : World) : Calls Try.prog 9 #[.agg #[.int .i64 x.a, .int .i64 x.z, .int .i64 x.f, .int .i64 x.t, .int .i64 x.w, .int .i64 x.c]] w fun e w' => e = .returned (.bool (brk x)) ∧ Below w.heap.size w w' := by
  have HO := Lib.hid (fun W => Cl.of_any x.c W)
  have hb := (Below.refl w.heap.size w).alloc (Nat.le_refl _) (.cells #[.int .i64 x.a, .int .i64 x.z, .int .i64 x.f, .int .i64 x.t, .int .i64 x.w, .int .i64 x.c] 26)
  have HB := Lib.hid hb
  unfold brk
  generalize Cl.cls x.c = v at *
  clear hb
  go_enter Try.func9, Try.ntmps9
  go_wp2_with fail
  refine (HO.out _).mono ?_
  rintro e w1 ⟨rfl, hb1⟩
  go_wp2_with fail
  go_ret
  exact ⟨rfl, HB.out.trans (hb1.mono HB.out.size)⟩

set_option maxHeartbeats 1000000 in
set_option maxRecDepth 100000 in
theorem blank_any (x : C6) (w : World) : Calls Try.prog 11 #[.agg #[.int .i64 x.a, .int .i64 x.z, .int .i64 x.f, .int .i64 x.t, .int .i64 x.w, .int .i64 x.c]] w fun e w' => e = .returned (.bool (x.c == 32)) ∧ Below w.heap.size w w' := by
  have hb := (Below.refl w.heap.size w).alloc (Nat.le_refl _) (.cells #[.int .i64 x.a, .int .i64 x.z, .int .i64 x.f, .int .i64 x.t, .int .i64 x.w, .int .i64 x.c] 26)
  have HB := Lib.hid hb
  clear hb
  go_enter Try.func11, Try.ntmps11
  go_wp2_with fail
  go_ret
  exact ⟨rfl, HB.out⟩

set_option maxHeartbeats 1000000 in
set_option maxRecDepth 100000 in
theorem shown_any (A : Option Addr) (l : List C6) (n c : Nat) (w : World) (hR : CuAt w A l) (hl : l.length = n) (hn : n ≤ 1099511627776) :
    Calls Try.prog 13 #[.slice A n c] w fun e w' => e = .returned (.int .i64 (shownN l)) ∧ Below w.heap.size w w' := by
  have HR := Lib.hid hR
  cases n with
  | zero =>
    have e : l = [] := List.eq_nil_of_length_eq_zero hl
    subst e
    rw [shownN_nil]
    clear hR hl
    go_enter Try.func13, Try.ntmps13
    go_wp2
    go_ret
    exact ⟨rfl, Below.refl _ _⟩
  | succ m =>
    have hm : m < l.length := by omega
    obtain ⟨g, off, rfl, hg, c0, c1, c2, c3, c4, c5⟩ := hR.at_ hm
    have HBK := Lib.hid (fun W => break_any l[m] W)
    have hs : shownN l = if brk l[m] = true then m else m + 1 := by
      unfold shownN
      rw [hl, Nat.add_sub_cancel, getD_at hm]
    have hw1 : IntKind.i64.wrap (((m + 1 : Nat) : Int) - 1) = (m : Int) := by rw [IntKind.wrap_i64]; omega
    have hw2 : IntKind.i64.wrap ((m : Int) + 1 - 1) = (m : Int) := by rw [IntKind.wrap_i64]; omega
    have hw3 : IntKind.i64.wrap (m : Int) = (m : Int) := by rw [IntKind.wrap_i64]; omega
    have hmi : (0 : Int) ≤ (m : Int) := by omega
    have hmi2 : (m : Int) < (m : Int) + 1 := by omega
    have hmi3 : (m : Int) < ((m + 1 : Nat) : Int) := by omega
    have hmi4 : decide ((0 : Int) < (m : Int) + 1) = true := decide_eq_true (by omega)
    rw [hs]
    generalize l[m] = x at *
    cases hb : brk x with
    | true =>
      rw [hb] at HBK
      rw [if_pos rfl]
      clear hs hm hR hb
      go_enter Try.func13, Try.ntmps13
      go_wp2_with fail
      refine (HBK.out _).mono ?_
      rintro e w1 ⟨rfl, hb1⟩
      go_wp2_with fail
      go_ret
      exact ⟨rfl, hb1⟩
    | false =>
      rw [hb] at HBK
      rw [if_neg (by decide)]
      clear hs hm hR hb
      go_enter Try.func13, Try.ntmps13
      go_wp2_with fail
      refine (HBK.out _).mono ?_
      rintro e w1 ⟨rfl, hb1⟩
      go_wp2_with fail
      go_ret
      exact ⟨rfl, hb1⟩
end Go.Proofs.Ytfbjgibjlppjoaa.Wr

/-
  Proved here: what wrap's back and on return, for any closure of one captured variable that answers whether a place is asked for: the place behind the last one ahead of another one; the first one from one on. And what the two closures of parted answer: whether a cluster is blank, or is none. They leave what was in memory.
-/
set_option linter.unusedVariables false
namespace Go.Proofs.Ytfbjgibjlppjoaa.Wr
open Go Go.RowKit Go.Lib Go.Proofs.Ytfbjgibjlppjoaa.Ku

/-- The place behind the last one ahead of e that is asked for; f, if there is none. -/
def backQ (Q : Nat → Bool) (f : Nat) : Nat → Nat
  | 0 => 0
  | e + 1 => if f ≤ e then (if Q e = true then e + 1 else backQ Q f e) else e + 1
theorem backQ_is (Q : Nat → Bool) (f : Nat) : ∀ e, f ≤ e → f ≤ backQ Q f e ∧ backQ Q f e ≤ e ∧ (∀ k, backQ Q f e ≤ k → k < e → Q k = false) ∧ (f < backQ Q f e → Q (backQ Q f e - 1) = true)
  | 0, h => by
    obtain rfl : f = 0 := by omega
    exact ⟨Nat.le_refl _, Nat.le_refl _, fun k h1 h2 => by omega, fun h => by simp [backQ] at h⟩
  | e + 1, h => by
    unfold backQ
    by_cases hf : f ≤ e
    · rw [if_pos hf]
      cases hq : Q e with
      | true =>
        rw [if_pos rfl]
        exact ⟨by omega, Nat.le_refl _, fun k h1 h2 => by omega, fun _ => hq⟩
      | false =>
        rw [if_neg (by decide)]
        obtain ⟨h1, h2, h3, h4⟩ := backQ_is Q f e hf
        refine ⟨h1, by omega, fun k k1 k2 => ?_, h4⟩
        by_cases hk : k = e
        · rw [hk]; exact hq
        · exact h3 k k1 (by omega)
    · rw [if_neg hf]
      exact ⟨by omega, Nat.le_refl _, fun k h1 h2 => by omega, fun h => by omega⟩

set_option maxHeartbeats 2000000 in
set_option maxRecDepth 100000 in
theorem back_of (f : FuncId) (hf : ∀ args w, (callFunc f args).run Try.prog w = .ok (.enter f args) w) (Q : Nat → Bool) (p1 : Value) (A : Option Addr) (n c : Nat) (sh : Int) (fr e : Nat) (w : World) (hfe : fr ≤ e) (he : e ≤ 1099511627777)
    (call : ∀ k W, fr ≤ k → k < e → Below w.heap.size w W → Calls Try.prog f #[.int .i64 k, p1] W fun e W' => e = .returned (.bool (Q k)) ∧ Below W.heap.size W W') :
    Calls Try.prog 46 #[.agg #[.slice A n c, .int .i64 sh, .int .i64 fr], .int .i64 e, .func (.func f) #[] #[p1]] w fun e' w' => e' = .returned (.int .i64 (backQ Q fr e)) ∧ Below w.heap.size w w' := by
  obtain ⟨R, hR⟩ : ∃ R, backQ Q fr e = R := ⟨_, rfl⟩
  have HR := Lib.hid hR
  have CL := Lib.hid call
  rw [hR]
  clear hR call
  have hV : (w.alloc (.cells #[.slice A n c, .int .i64 sh, .int .i64 fr] 61)).cell? ⟨w.heap.size, 2, none⟩ = some (.int .i64 fr) := by simp
  have HB0 := Lib.hid ((Below.refl w.heap.size w).alloc (Nat.le_refl _) (.cells #[.slice A n c, .int .i64 sh, .int .i64 fr] 61))
  have hlt : w.heap.size < (w.alloc (.cells #[.slice A n c, .int .i64 sh, .int .i64 fr] 61)).heap.size := by rw [World.size_alloc]; omega
  go_enter Try.func46, Try.ntmps46
  go_wp2_with fail
  generalize (w.alloc (.cells #[.slice A n c, .int .i64 sh, .int .i64 fr] 61)) = V at *
  go_loopw [1] (fun s1 wx => ∃ k : Nat, fr ≤ k ∧ k ≤ e ∧ s1 = .int .i64 k ∧ backQ Q fr k = R ∧ Below V.heap.size V wx) (fun s1 _ => (RowKit.intOf s1).toNat)
  case atStart => exact ⟨e, hfe, Nat.le_refl _, rfl, HR.out, Below.refl _ _⟩
  case round =>
    obtain ⟨k, h1, h2, rfl, hr, hb⟩ := hrel
    have q := (hb.cell (p := ⟨w.heap.size, 2, none⟩) hlt).trans hV
    have HY := Lib.hid hb
    clear hb
    by_cases hk : fr < k
    · obtain ⟨j, hj⟩ : ∃ j, k = j + 1 := ⟨k - 1, by omega⟩
      have hr2 : (if Q j = true then j + 1 else backQ Q fr j) = R := by
        rw [hj] at hr
        unfold backQ at hr
        rwa [if_pos (show fr ≤ j by omega)] at hr
      have HCK := Lib.hid (CL.out j wr (by omega) (by omega) (HB0.out.trans (HY.out.mono HB0.out.size)))
      have t1 : decide ((fr : Int) < (k : Int)) = true := decide_eq_true (by omega)
      have t2 : decide (fr < k) = true := decide_eq_true hk
      have t3 : IntKind.i64.wrap ((k : Int) - 1) = (j : Int) := by rw [IntKind.wrap_i64]; omega
      have HJ := Lib.hid hj
      have HR2 := Lib.hid hr2
      clear hr hr2 hj
      cases hq : Q j with
      | true =>
        rw [hq] at HCK HR2
        go_wp2_with fail
        refine HCK.out.mono ?_
        rintro e' w5 ⟨rfl, hb5⟩
        have HB5 := Lib.hid (HY.out.trans (hb5.mono HY.out.size))
        clear hb5
        go_wp2_with fail
        go_ret
        refine ⟨?_, HB0.out.trans (HB5.out.mono HB0.out.size)⟩
        have hRk : R = k := by
          have h : j + 1 = R := by simpa using HR2.out
          have := HJ.out
          omega
        rw [hRk]
        rfl
      | false =>
        rw [hq] at HCK HR2
        go_wp2_with fail
        refine HCK.out.mono ?_
        rintro e' w5 ⟨rfl, hb5⟩
        have HB5 := Lib.hid (HY.out.trans (hb5.mono HY.out.size))
        clear hb5
        go_wp2_with fail
        go_roundw
        case rel => exact ⟨j, by have := HJ.out; omega, by have := HJ.out; omega, rfl, by simpa using HR2.out, HB5.out⟩
        case measure =>
          have hj2 := HJ.out
          simp only [RowKit.intOf]
          omega
    · obtain rfl : k = fr := by omega
      have t1 : decide ((k : Int) < (k : Int)) = false := decide_eq_false (by omega)
      have t2 : decide (k < k) = false := decide_eq_false (by omega)
      have HE := Lib.hid (show k = R from by
        rw [← hr]
        cases k with
        | zero => rfl
        | succ j => unfold backQ; rw [if_neg (by omega)])
      clear hr
      go_wp2_with fail
      go_ret
      refine ⟨?_, HB0.out.trans (HY.out.mono HB0.out.size)⟩
      rw [← HE.out]
      rfl

set_option maxHeartbeats 2000000 in
set_option maxRecDepth 100000 in
theorem on_of (f : FuncId) (hf : ∀ args w, (callFunc f args).run Try.prog w = .ok (.enter f args) w) (Q : Nat → Bool) (p1 : Value) (A : Option Addr) (n c sh : Nat) (fr : Int) (a : Nat) (w : World) (ha : a ≤ sh) (hs : sh ≤ 1099511627777)
    (call : ∀ k W, a ≤ k → k < sh → Below w.heap.size w W → Calls Try.prog f #[.int .i64 k, p1] W fun e W' => e = .returned (.bool (!(Q k))) ∧ Below W.heap.size W W') :
    Calls Try.prog 47 #[.agg #[.slice A n c, .int .i64 sh, .int .i64 fr], .int .i64 a, .func (.func f) #[] #[p1]] w fun e' w' => e' = .returned (.int .i64 (fwdB Q (sh - a) a)) ∧ Below w.heap.size w w' := by
  obtain ⟨R, hR⟩ : ∃ R, fwdB Q (sh - a) a = R := ⟨_, rfl⟩
  have HR := Lib.hid hR
  have CL := Lib.hid call
  rw [hR]
  clear hR call
  have hV : (w.alloc (.cells #[.slice A n c, .int .i64 sh, .int .i64 fr] 61)).cell? ⟨w.heap.size, 1, none⟩ = some (.int .i64 sh) := by simp
  have HB0 := Lib.hid ((Below.refl w.heap.size w).alloc (Nat.le_refl _) (.cells #[.slice A n c, .int .i64 sh, .int .i64 fr] 61))
  have hlt : w.heap.size < (w.alloc (.cells #[.slice A n c, .int .i64 sh, .int .i64 fr] 61)).heap.size := by rw [World.size_alloc]; omega
  go_enter Try.func47, Try.ntmps47
  go_wp2_with fail
  generalize (w.alloc (.cells #[.slice A n c, .int .i64 sh, .int .i64 fr] 61)) = V at *
  go_loopw [1] (fun s1 wx => ∃ k : Nat, a ≤ k ∧ k ≤ sh ∧ s1 = .int .i64 k ∧ fwdB Q (sh - k) k = R ∧ Below V.heap.size V wx) (fun s1 _ => sh - (RowKit.intOf s1).toNat)
  case atStart => exact ⟨a, Nat.le_refl _, ha, rfl, HR.out, Below.refl _ _⟩
  case round =>
    obtain ⟨k, h1, h2, rfl, hr, hb⟩ := hrel
    have q := (hb.cell (p := ⟨w.heap.size, 1, none⟩) hlt).trans hV
    have HY := Lib.hid hb
    clear hb
    by_cases hk : k < sh
    · have hr2 : (if Q k = true then fwdB Q (sh - (k + 1)) (k + 1) else k) = R := by
        rw [show sh - k = (sh - (k + 1)) + 1 from by omega] at hr
        unfold fwdB at hr
        exact hr
      have HCK := Lib.hid (CL.out k wr h1 hk (HB0.out.trans (HY.out.mono HB0.out.size)))
      have t1 : decide ((k : Int) < (sh : Int)) = true := decide_eq_true (by omega)
      have t2 : decide (k < sh) = true := decide_eq_true hk
      have HR2 := Lib.hid hr2
      clear hr hr2
      cases hq : Q k with
      | true =>
        rw [hq] at HCK HR2
        go_wp2_with fail
        refine HCK.out.mono ?_
        rintro e' w5 ⟨rfl, hb5⟩
        have HB5 := Lib.hid (HY.out.trans (hb5.mono HY.out.size))
        clear hb5
        go_wp2_with fail
        go_roundw
        case rel => exact ⟨k + 1, by omega, by omega, by go_num, by simpa using HR2.out, HB5.out⟩
        case measure => simp [RowKit.intOf]; omega
      | false =>
        rw [hq] at HCK HR2
        go_wp2_with fail
        refine HCK.out.mono ?_
        rintro e' w5 ⟨rfl, hb5⟩
        have HB5 := Lib.hid (HY.out.trans (hb5.mono HY.out.size))
        clear hb5
        go_wp2_with fail
        go_ret
        refine ⟨?_, HB0.out.trans (HB5.out.mono HB0.out.size)⟩
        rw [show R = k from (show k = R by simpa using HR2.out).symm]
        rfl
    · obtain rfl : k = sh := by omega
      have t1 : decide ((k : Int) < (k : Int)) = false := decide_eq_false (by omega)
      have t2 : decide (k < k) = false := decide_eq_false (by omega)
      have HE := Lib.hid (show k = R from by rw [← hr, Nat.sub_self]; rfl)
      clear hr
      go_wp2_with fail
      go_ret
      refine ⟨?_, HB0.out.trans (HY.out.mono HB0.out.size)⟩
      rw [← HE.out]
      rfl

theorem enters_blank : ∀ args w, (callFunc 44 args).run Try.prog w = .ok (.enter 44 args) w := enters_of Try.func44 (by kernel_rfl) rfl
theorem enters_word : ∀ args w, (callFunc 45 args).run Try.prog w = .ok (.enter 45 args) w := enters_of Try.func45 (by kernel_rfl) rfl

set_option maxHeartbeats 1000000 in
set_option maxRecDepth 100000 in
theorem blank_at (A : Option Addr) (l : List C6) (n c k g : Nat) (w : World) (hR : CuAt w A l) (hl : l.length = n) (hk : k < n) (hg : w.cell? ⟨g, 0, none⟩ = some (.slice A n c)) :
    Calls Try.prog 44 #[.int .i64 k, .pointer (some ⟨g, 0, none⟩)] w fun e w' => e = .returned (.bool (Bl l k)) ∧ Below w.heap.size w w' := by
  have hkl : k < l.length := by omega
  obtain ⟨b, off, rfl, hb, c0, c1, c2, c3, c4, c5⟩ := hR.at_ hkl
  rw [Bl_at hkl]
  have HX := Lib.hid (fun W => blank_any l[k] W)
  generalize l[k] = x at *
  have j0 : (0 : Int) ≤ (k : Int) := by omega
  have j1 : (k : Int) < (n : Int) := by omega
  clear hR hl hkl
  go_enter Try.func44, Try.ntmps44
  go_wp2_with fail
  refine (HX.out _).mono ?_
  rintro e w1 ⟨rfl, hb1⟩
  go_wp2_with fail
  go_ret
  exact ⟨rfl, hb1⟩

set_option maxHeartbeats 1000000 in
set_option maxRecDepth 100000 in
theorem word_at (A : Option Addr) (l : List C6) (n c k g g2 : Nat) (w : World) (hR : CuAt w A l) (hl : l.length = n) (hk : k < n) (hg : w.cell? ⟨g, 0, none⟩ = some (.slice A n c)) (hg2 : w.cell? ⟨g2, 0, none⟩ = some (.func (.func 44) #[] #[.pointer (some ⟨g, 0, none⟩)])) :
    Calls Try.prog 45 #[.int .i64 k, .pointer (some ⟨g2, 0, none⟩)] w fun e w' => e = .returned (.bool (!(Bl l k))) ∧ Below w.heap.size w w' := by
  have HX := Lib.hid (blank_at A l n c k g w hR hl hk hg)
  generalize Bl l k = q at *
  have hf := enters_blank
  clear hR hl hg
  go_enter Try.func45, Try.ntmps45
  go_wp2_with fail
  refine HX.out.mono ?_
  rintro e w1 ⟨rfl, hb1⟩
  go_wp2_with fail
  go_ret
  exact ⟨rfl, hb1⟩
end Go.Proofs.Ytfbjgibjlppjoaa.Wr
