/-
 Proved here: what weak's rules returns for a sequence: nine function values, each of which makes of what the row holds what a plain rule says, in whatever order they and what they look for are made. It leaves what was in memory.
-/
import Derived.Deep.RegionHeld
import Derived.Test.YtfclpecbnailgaaGreatR7
import Derived.Test.YtfclpecbnailgaaGreatR6
set_option linter.unusedVariables false
namespace Go.Proofs.YtfclpecbnailgaaGreat.Wk
open Go Go.RowKit Go.Lib Go.Proofs.YtfclpecbnailgaaGreat.Cl Go.Proofs.YtfclpecbnailgaaGreat.Slots
theorem list26 (l : List Value) (h : l.length = 26) : ∃ x0 x1 x2 x3 x4 x5 x6 x7 x8 x9 x10 x11 x12 x13 x14 x15 x16 x17 x18 x19 x20 x21 x22 x23 x24 x25, l = [x0, x1, x2, x3, x4, x5, x6, x7, x8, x9, x10, x11, x12, x13, x14, x15, x16, x17, x18, x19, x20, x21, x22, x23, x24, x25] := by
 obtain _ | ⟨x0, l⟩ := l
 ·simp at h
 obtain _ | ⟨x1, l⟩ := l
 ·simp at h
 obtain _ | ⟨x2, l⟩ := l
 ·simp at h
 obtain _ | ⟨x3, l⟩ := l
 ·simp at h
 obtain _ | ⟨x4, l⟩ := l
 ·simp at h
 obtain _ | ⟨x5, l⟩ := l
 ·simp at h
 obtain _ | ⟨x6, l⟩ := l
 ·simp at h
 obtain _ | ⟨x7, l⟩ := l
 ·simp at h
 obtain _ | ⟨x8, l⟩ := l
 ·simp at h
 obtain _ | ⟨x9, l⟩ := l
 ·simp at h
 obtain _ | ⟨x10, l⟩ := l
 ·simp at h
 obtain _ | ⟨x11, l⟩ := l
 ·simp at h
 obtain _ | ⟨x12, l⟩ := l
 ·simp at h
 obtain _ | ⟨x13, l⟩ := l
 ·simp at h
 obtain _ | ⟨x14, l⟩ := l
 ·simp at h
 obtain _ | ⟨x15, l⟩ := l
 ·simp at h
 obtain _ | ⟨x16, l⟩ := l
 ·simp at h
 obtain _ | ⟨x17, l⟩ := l
 ·simp at h
 obtain _ | ⟨x18, l⟩ := l
 ·simp at h
 obtain _ | ⟨x19, l⟩ := l
 ·simp at h
 obtain _ | ⟨x20, l⟩ := l
 ·simp at h
 obtain _ | ⟨x21, l⟩ := l
 ·simp at h
 obtain _ | ⟨x22, l⟩ := l
 ·simp at h
 obtain _ | ⟨x23, l⟩ := l
 ·simp at h
 obtain _ | ⟨x24, l⟩ := l
 ·simp at h
 obtain _ | ⟨x25, l⟩ := l
 ·simp at h
 obtain rfl : l = [] := by
  simp only [List.length_cons] at h
  exact List.eq_nil_of_length_eq_zero (by omega)
 exact ⟨x0, x1, x2, x3, x4, x5, x6, x7, x8, x9, x10, x11, x12, x13, x14, x15, x16, x17, x18, x19, x20, x21, x22, x23, x24, x25, rfl⟩
/-- A row of ints that lies elsewhere than the row of classes. -/
def SliceOk (A : Option Addr) (n c : Nat) (ps : List Int) (v : Value) (w : World) : Prop :=
 ∃ p, v = .slice (some ⟨p, 0, none⟩) ps.length ps.length ∧ IntsAt w (some ⟨p, 0, none⟩) ps ∧ some p ≠ (Value.slice A n c).ownBlock
/-- The rules, in order. -/
def theRules (s : Int) : List (List Int → List Int) := [marks s, nums 2 6 s, bec 1 [2], btw 3 [4, 7] (-1), btw 6 [7] (-1), sbeh (-1), sah, bec 13 [4, 5, 7], nums 0 0 s]
/-- Function values in a row, each for its rule. -/
structure RulesAt (base : Nat) (A : Option Addr) (n c : Nat) (h : Nat) (fs : List Value) (rs : List (List Int → List Int)) (w : World) : Prop where
 len : fs.length = rs.length
 lt : h < w.heap.size
 cell : ∀ (j : Nat) (v : Value), fs[j]? = some v → w.cell? ⟨h, j, none⟩ = some v
 rule : ∀ (j : Nat) (v : Value) (r : List Int → List Int), fs[j]? = some v → rs[j]? = some r → RuleOk base A n c v r w
def FinalOk (base : Nat) (A : Option Addr) (n c : Nat) (s : Int) (b0 : Nat) (v : Value) (w : World) : Prop :=
 ∃ h fs, v = .slice (some ⟨h, 0, none⟩) 9 9 ∧ b0 ≤ h ∧ RulesAt base A n c h fs (theRules s) w
theorem RulesAt.later {base : Nat} {A : Option Addr} {n c h : Nat} {fs : List Value} {rs : List (List Int → List Int)} {w w' : World} (hr : RulesAt base A n c h fs rs w) (hg : w.grownBy w' (Value.slice A n c).ownBlock) (hne : some h ≠ (Value.slice A n c).ownBlock) : RulesAt base A n c h fs rs w' :=
 ⟨hr.len, Nat.lt_of_lt_of_le hr.lt hg.size, fun j v hj => hg.cell (hr.cell j v hj) hne, fun j v r hj hrj => (hr.rule j v r hj hrj).later hg⟩
/-- What the slot of each operation holds. -/
def Phi (base : Nat) (A : Option Addr) (n c : Nat) (s : Int) (b0 : Nat) : Nat → Value → World → Prop
 | 0, v, _ => v = .agg #[.slice A n c, .int .i64 s]
 | 1, v, w => RuleOk base A n c v (marks s) w
 | 2, v, _ => v = .agg #[.slice A n c, .int .i64 s]
 | 3, v, w => RuleOk base A n c v (nums 2 6 s) w
 | 4, v, _ => v = .agg #[.slice A n c, .int .i64 s]
 | 5, v, w => SliceOk A n c [2] v w
 | 6, v, w => RuleOk base A n c v (bec 1 [2]) w
 | 7, v, _ => v = .agg #[.slice A n c, .int .i64 s]
 | 8, v, w => SliceOk A n c [4, 7] v w
 | 9, v, w => RuleOk base A n c v (btw 3 [4, 7] (-1)) w
 | 10, v, _ => v = .agg #[.slice A n c, .int .i64 s]
 | 11, v, w => SliceOk A n c [7] v w
 | 12, v, w => RuleOk base A n c v (btw 6 [7] (-1)) w
 | 13, v, _ => v = .agg #[.slice A n c, .int .i64 s]
 | 14, v, w => RuleOk base A n c v (sbeh (-1)) w
 | 15, v, _ => v = .agg #[.slice A n c, .int .i64 s]
 | 16, v, w => RuleOk base A n c v (sah) w
 | 17, v, _ => v = .agg #[.slice A n c, .int .i64 s]
 | 18, v, w => SliceOk A n c [4, 5, 7] v w
 | 19, v, w => RuleOk base A n c v (bec 13 [4, 5, 7]) w
 | 20, v, _ => v = .agg #[.slice A n c, .int .i64 s]
 | 21, v, w => RuleOk base A n c v (nums 0 0 s) w
 | 22, v, w => FinalOk base A n c s b0 v w
 | 23, v, w => FinalOk base A n c s b0 v w
 | _, _, _ => True
theorem SliceOk.later {A : Option Addr} {n c : Nat} {ps : List Int} {v : Value} {w w' : World} (h : SliceOk A n c ps v w) (hb : Below w.heap.size w w') : SliceOk A n c ps v w' := by
 obtain ⟨p, e, h1, h2⟩ := h
 exact ⟨p, e, h1.below hb, h2⟩
theorem FinalOk.later {base : Nat} {A : Option Addr} {n c : Nat} {s : Int} {b0 : Nat} {v : Value} {w w' : World} (hu : Under A n c b0) (h : FinalOk base A n c s b0 v w) (hb : Below w.heap.size w w') : FinalOk base A n c s b0 v w' := by
 obtain ⟨k, fs, e, h1, h2⟩ := h
 exact ⟨k, fs, e, h1, h2.later (grown_below _ hb) (hu.ne h1)⟩
theorem Phi.later {base : Nat} {A : Option Addr} {n c : Nat} {s : Int} {b0 : Nat} (hu : Under A n c b0) : ∀ (i : Nat) (v : Value) (w w' : World), Phi base A n c s b0 i v w → Below w.heap.size w w' → Phi base A n c s b0 i v w'
 | 0, _, _, _, h, _ => h
 | 1, _, _, _, h, hb => RuleOk.later h (grown_below _ hb)
 | 2, _, _, _, h, _ => h
 | 3, _, _, _, h, hb => RuleOk.later h (grown_below _ hb)
 | 4, _, _, _, h, _ => h
 | 5, _, _, _, h, hb => SliceOk.later h hb
 | 6, _, _, _, h, hb => RuleOk.later h (grown_below _ hb)
 | 7, _, _, _, h, _ => h
 | 8, _, _, _, h, hb => SliceOk.later h hb
 | 9, _, _, _, h, hb => RuleOk.later h (grown_below _ hb)
 | 10, _, _, _, h, _ => h
 | 11, _, _, _, h, hb => SliceOk.later h hb
 | 12, _, _, _, h, hb => RuleOk.later h (grown_below _ hb)
 | 13, _, _, _, h, _ => h
 | 14, _, _, _, h, hb => RuleOk.later h (grown_below _ hb)
 | 15, _, _, _, h, _ => h
 | 16, _, _, _, h, hb => RuleOk.later h (grown_below _ hb)
 | 17, _, _, _, h, _ => h
 | 18, _, _, _, h, hb => SliceOk.later h hb
 | 19, _, _, _, h, hb => RuleOk.later h (grown_below _ hb)
 | 20, _, _, _, h, _ => h
 | 21, _, _, _, h, hb => RuleOk.later h (grown_below _ hb)
 | 22, _, _, _, h, hb => FinalOk.later hu h hb
 | 23, _, _, _, h, hb => FinalOk.later hu h hb
 | _ + 24, _, _, _, _, _ => trivial
set_option maxHeartbeats 8000000 in
set_option maxRecDepth 100000 in
theorem rules_any (base : Nat) (A : Option Addr) (n c : Nat) (s : Int) (w : World) (hu : Under A n c w.heap.size) (hn : n ≤ 1099511627776) :
  Calls Tryz.prog 98 #[.agg #[.slice A n c, .int .i64 s]] w fun e w' => ∃ fv, e = .returned fv ∧ FinalOk base A n c s w.heap.size fv w' ∧ Below w.heap.size w w' := by
 have HU := Lib.hid hu
 have HN := Lib.hid hn
 clear hu hn
 go_enter Tryz.func98, Tryz.ntmps98
 go_wp2_with fail
 have C0 := Lib.hid (newer w #[.slice A n c, .int .i64 s] 119 w.heap.size 0 _ rfl rfl)
 have C1 := Lib.hid (newer w #[.slice A n c, .int .i64 s] 119 w.heap.size 1 _ rfl rfl)
 have HB1 := Lib.hid (below_made w (.cells #[.slice A n c, .int .i64 s] 119))
 generalize w.alloc (.cells #[.slice A n c, .int .i64 s] 119) = w1 at *
 refine wp_region_slots (Φ := Phi base A n c s w.heap.size) (N := 26) (by kernel_rfl) (by kernel_rfl) (by rfl) (Phi.later HU.out) ?step ?done
 case step =>
  intro i o ho a wx hs hb hd K hK
  obtain ⟨⟨l⟩, ds⟩ := a
  obtain rfl : ds = [] := hs.defers
  obtain ⟨x0, x1, x2, x3, x4, x5, x6, x7, x8, x9, x10, x11, x12, x13, x14, x15, x16, x17, x18, x19, x20, x21, x22, x23, x24, x25, rfl⟩ := list26 l hs.size
  have hx1 : x1 = .pointer (some ⟨w.heap.size, 0, none⟩) := hs.slot 1 (by kernel_rfl)
  subst hx1
  have HBW := Lib.hid (HB1.out.trans (hb.mono HB1.out.size))
  have HUX := Lib.hid (HU.out.mono HBW.out.size)
  have hc0 := (hb.cell (World.block_lt_of_cell? w1 _ C0.out)).trans C0.out
  have hc1 := (hb.cell (World.block_lt_of_cell? w1 _ C1.out)).trans C1.out
  have HD := Lib.hid hd
  have HHB := Lib.hid hb
  clear hs hb hd
  match i, ho, hK, HD with
  | 0, ho, hK, HD =>
   obtain rfl := Option.some.inj ho
   clear ho
   go_simp
   exact hK.out (.agg #[.slice A n c, .int .i64 s]) _ rfl (Below.refl _ _)
  | 1, ho, hK, HD =>
   obtain rfl := Option.some.inj ho
   clear ho
   have h0 : x3 = .agg #[.slice A n c, .int .i64 s] := HD.out ⟨0, .data⟩ (by simp) rfl
   subst h0
   go_simp
   exact hK.out _ _ (marks_rule base A n c s HN.out wx) (Below.refl _ _)
  | 2, ho, hK, HD =>
   obtain rfl := Option.some.inj ho
   clear ho
   go_simp
   exact hK.out (.agg #[.slice A n c, .int .i64 s]) _ rfl (Below.refl _ _)
  | 3, ho, hK, HD =>
   obtain rfl := Option.some.inj ho
   clear ho
   have h0 : x5 = .agg #[.slice A n c, .int .i64 s] := HD.out ⟨2, .data⟩ (by simp) rfl
   subst h0
   go_simp
   go_at_call 135
   refine (numbers_any base A n c s 2 6 wx HUX.out HN.out).mono ?_
   rintro e w2 ⟨fv, rfl, hr, hb2⟩
   exact hK.out _ _ hr hb2
  | 4, ho, hK, HD =>
   obtain rfl := Option.some.inj ho
   clear ho
   go_simp
   exact hK.out (.agg #[.slice A n c, .int .i64 s]) _ rfl (Below.refl _ _)
  | 5, ho, hK, HD =>
   obtain rfl := Option.some.inj ho
   clear ho
   go_simp
   exact hK.out _ _ ⟨wx.heap.size, rfl, made_ints [2] _ _ wx rfl, HUX.out.ne (Nat.le_refl _)⟩ (below_made wx _)
  | 6, ho, hK, HD =>
   obtain rfl := Option.some.inj ho
   clear ho
   have h0 : x7 = .agg #[.slice A n c, .int .i64 s] := HD.out ⟨4, .data⟩ (by simp) rfl
   subst h0
   obtain ⟨p, hv, hp, hpn⟩ : SliceOk A n c _ x8 wx := HD.out ⟨5, .data⟩ (by simp) rfl
   subst hv
   go_simp
   go_at_call 136
   refine (become_any base A n c s 1 p _ [2] wx HUX.out HN.out hp rfl (by decide) hpn).mono ?_
   rintro e w2 ⟨fv, rfl, hr, hb2⟩
   exact hK.out _ _ hr hb2
  | 7, ho, hK, HD =>
   obtain rfl := Option.some.inj ho
   clear ho
   go_simp
   exact hK.out (.agg #[.slice A n c, .int .i64 s]) _ rfl (Below.refl _ _)
  | 8, ho, hK, HD =>
   obtain rfl := Option.some.inj ho
   clear ho
   go_simp
   exact hK.out _ _ ⟨wx.heap.size, rfl, made_ints [4, 7] _ _ wx rfl, HUX.out.ne (Nat.le_refl _)⟩ (below_made wx _)
  | 9, ho, hK, HD =>
   obtain rfl := Option.some.inj ho
   clear ho
   have h0 : x10 = .agg #[.slice A n c, .int .i64 s] := HD.out ⟨7, .data⟩ (by simp) rfl
   subst h0
   obtain ⟨p, hv, hp, hpn⟩ : SliceOk A n c _ x11 wx := HD.out ⟨8, .data⟩ (by simp) rfl
   subst hv
   go_simp
   go_at_call 137
   refine (between_any base A n c s 3 (by decide) p _ [4, 7] wx HUX.out HN.out hp rfl (by decide) hpn).mono ?_
   rintro e w2 ⟨fv, rfl, hr, hb2⟩
   exact hK.out _ _ hr hb2
  | 10, ho, hK, HD =>
   obtain rfl := Option.some.inj ho
   clear ho
   go_simp
   exact hK.out (.agg #[.slice A n c, .int .i64 s]) _ rfl (Below.refl _ _)
  | 11, ho, hK, HD =>
   obtain rfl := Option.some.inj ho
   clear ho
   go_simp
   exact hK.out _ _ ⟨wx.heap.size, rfl, made_ints [7] _ _ wx rfl, HUX.out.ne (Nat.le_refl _)⟩ (below_made wx _)
  | 12, ho, hK, HD =>
   obtain rfl := Option.some.inj ho
   clear ho
   have h0 : x13 = .agg #[.slice A n c, .int .i64 s] := HD.out ⟨10, .data⟩ (by simp) rfl
   subst h0
   obtain ⟨p, hv, hp, hpn⟩ : SliceOk A n c _ x14 wx := HD.out ⟨11, .data⟩ (by simp) rfl
   subst hv
   go_simp
   go_at_call 137
   refine (between_any base A n c s 6 (by decide) p _ [7] wx HUX.out HN.out hp rfl (by decide) hpn).mono ?_
   rintro e w2 ⟨fv, rfl, hr, hb2⟩
   exact hK.out _ _ hr hb2
  | 13, ho, hK, HD =>
   obtain rfl := Option.some.inj ho
   clear ho
   go_simp
   exact hK.out (.agg #[.slice A n c, .int .i64 s]) _ rfl (Below.refl _ _)
  | 14, ho, hK, HD =>
   obtain rfl := Option.some.inj ho
   clear ho
   have h0 : x16 = .agg #[.slice A n c, .int .i64 s] := HD.out ⟨13, .data⟩ (by simp) rfl
   subst h0
   go_simp
   exact hK.out _ _ (sbeh_rule base A n c s HN.out wx) (Below.refl _ _)
  | 15, ho, hK, HD =>
   obtain rfl := Option.some.inj ho
   clear ho
   go_simp
   exact hK.out (.agg #[.slice A n c, .int .i64 s]) _ rfl (Below.refl _ _)
  | 16, ho, hK, HD =>
   obtain rfl := Option.some.inj ho
   clear ho
   have h0 : x18 = .agg #[.slice A n c, .int .i64 s] := HD.out ⟨15, .data⟩ (by simp) rfl
   subst h0
   go_simp
   exact hK.out _ _ (sah_rule base A n c s HN.out wx) (Below.refl _ _)
  | 17, ho, hK, HD =>
   obtain rfl := Option.some.inj ho
   clear ho
   go_simp
   exact hK.out (.agg #[.slice A n c, .int .i64 s]) _ rfl (Below.refl _ _)
  | 18, ho, hK, HD =>
   obtain rfl := Option.some.inj ho
   clear ho
   go_simp
   exact hK.out _ _ ⟨wx.heap.size, rfl, made_ints [4, 5, 7] _ _ wx rfl, HUX.out.ne (Nat.le_refl _)⟩ (below_made wx _)
  | 19, ho, hK, HD =>
   obtain rfl := Option.some.inj ho
   clear ho
   have h0 : x20 = .agg #[.slice A n c, .int .i64 s] := HD.out ⟨17, .data⟩ (by simp) rfl
   subst h0
   obtain ⟨p, hv, hp, hpn⟩ : SliceOk A n c _ x21 wx := HD.out ⟨18, .data⟩ (by simp) rfl
   subst hv
   go_simp
   go_at_call 136
   refine (become_any base A n c s 13 p _ [4, 5, 7] wx HUX.out HN.out hp rfl (by decide) hpn).mono ?_
   rintro e w2 ⟨fv, rfl, hr, hb2⟩
   exact hK.out _ _ hr hb2
  | 20, ho, hK, HD =>
   obtain rfl := Option.some.inj ho
   clear ho
   go_simp
   exact hK.out (.agg #[.slice A n c, .int .i64 s]) _ rfl (Below.refl _ _)
  | 21, ho, hK, HD =>
   obtain rfl := Option.some.inj ho
   clear ho
   have h0 : x23 = .agg #[.slice A n c, .int .i64 s] := HD.out ⟨20, .data⟩ (by simp) rfl
   subst h0
   go_simp
   go_at_call 135
   refine (numbers_any base A n c s 0 0 wx HUX.out HN.out).mono ?_
   rintro e w2 ⟨fv, rfl, hr, hb2⟩
   exact hK.out _ _ hr hb2
  | 22, ho, hK, HD =>
   obtain rfl := Option.some.inj ho
   clear ho
   have r1 : RuleOk base A n c x4 (marks s) wx := HD.out ⟨1, .data⟩ (by simp) rfl
   obtain ⟨k1, m1, c1, e1, -⟩ := id r1
   subst e1
   have r3 : RuleOk base A n c x6 (nums 2 6 s) wx := HD.out ⟨3, .data⟩ (by simp) rfl
   obtain ⟨k3, m3, c3, e3, -⟩ := id r3
   subst e3
   have r6 : RuleOk base A n c x9 (bec 1 [2]) wx := HD.out ⟨6, .data⟩ (by simp) rfl
   obtain ⟨k6, m6, c6, e6, -⟩ := id r6
   subst e6
   have r9 : RuleOk base A n c x12 (btw 3 [4, 7] (-1)) wx := HD.out ⟨9, .data⟩ (by simp) rfl
   obtain ⟨k9, m9, c9, e9, -⟩ := id r9
   subst e9
   have r12 : RuleOk base A n c x15 (btw 6 [7] (-1)) wx := HD.out ⟨12, .data⟩ (by simp) rfl
   obtain ⟨k12, m12, c12, e12, -⟩ := id r12
   subst e12
   have r14 : RuleOk base A n c x17 (sbeh (-1)) wx := HD.out ⟨14, .data⟩ (by simp) rfl
   obtain ⟨k14, m14, c14, e14, -⟩ := id r14
   subst e14
   have r16 : RuleOk base A n c x19 (sah) wx := HD.out ⟨16, .data⟩ (by simp) rfl
   obtain ⟨k16, m16, c16, e16, -⟩ := id r16
   subst e16
   have r19 : RuleOk base A n c x22 (bec 13 [4, 5, 7]) wx := HD.out ⟨19, .data⟩ (by simp) rfl
   obtain ⟨k19, m19, c19, e19, -⟩ := id r19
   subst e19
   have r21 : RuleOk base A n c x24 (nums 0 0 s) wx := HD.out ⟨21, .data⟩ (by simp) rfl
   obtain ⟨k21, m21, c21, e21, -⟩ := id r21
   subst e21
   go_simp
   refine hK.out _ _ ⟨wx.heap.size, [.func (.func k1) m1 c1, .func (.func k3) m3 c3, .func (.func k6) m6 c6, .func (.func k9) m9 c9, .func (.func k12) m12 c12, .func (.func k14) m14 c14, .func (.func k16) m16 c16, .func (.func k19) m19 c19, .func (.func k21) m21 c21], rfl, HBW.out.size, ⟨rfl, by simp, fun j v hj => ?_, fun j v r hj hr => ?_⟩⟩ (below_made wx _)
   ·exact newer wx _ _ _ j v rfl (by simpa using hj)
   ·have hg := grown_below (Value.slice A n c).ownBlock (below_made wx (.cells #[.func (.func k1) m1 c1, .func (.func k3) m3 c3, .func (.func k6) m6 c6, .func (.func k9) m9 c9, .func (.func k12) m12 c12, .func (.func k14) m14 c14, .func (.func k16) m16 c16, .func (.func k19) m19 c19, .func (.func k21) m21 c21] 1))
    match j, hj, hr with
    | 0, hj, hr => obtain rfl := Option.some.inj hj; obtain rfl := Option.some.inj hr; exact RuleOk.later r1 hg
    | 1, hj, hr => obtain rfl := Option.some.inj hj; obtain rfl := Option.some.inj hr; exact RuleOk.later r3 hg
    | 2, hj, hr => obtain rfl := Option.some.inj hj; obtain rfl := Option.some.inj hr; exact RuleOk.later r6 hg
    | 3, hj, hr => obtain rfl := Option.some.inj hj; obtain rfl := Option.some.inj hr; exact RuleOk.later r9 hg
    | 4, hj, hr => obtain rfl := Option.some.inj hj; obtain rfl := Option.some.inj hr; exact RuleOk.later r12 hg
    | 5, hj, hr => obtain rfl := Option.some.inj hj; obtain rfl := Option.some.inj hr; exact RuleOk.later r14 hg
    | 6, hj, hr => obtain rfl := Option.some.inj hj; obtain rfl := Option.some.inj hr; exact RuleOk.later r16 hg
    | 7, hj, hr => obtain rfl := Option.some.inj hj; obtain rfl := Option.some.inj hr; exact RuleOk.later r19 hg
    | 8, hj, hr => obtain rfl := Option.some.inj hj; obtain rfl := Option.some.inj hr; exact RuleOk.later r21 hg
    | k + 9, hj, hr => simp at hj
  | 23, ho, hK, HD =>
   obtain rfl := Option.some.inj ho
   clear ho
   have h0 : FinalOk base A n c s w.heap.size x25 wx := HD.out ⟨22, .data⟩ (by simp) rfl
   go_simp
   exact hK.out _ _ h0 (Below.refl _ _)
  | i + 24, ho, hK, HD => simp at ho
 case done =>
  intro a wx hs hb hall
  obtain ⟨⟨l⟩, ds⟩ := a
  obtain rfl : ds = [] := hs.defers
  obtain ⟨x0, x1, x2, x3, x4, x5, x6, x7, x8, x9, x10, x11, x12, x13, x14, x15, x16, x17, x18, x19, x20, x21, x22, x23, x24, x25, rfl⟩ := list26 l hs.size
  have hf : FinalOk base A n c s w.heap.size x2 wx := hall 23 (by decide)
  have HF := Lib.hid hf
  have HBW := Lib.hid (HB1.out.trans (hb.mono HB1.out.size))
  clear hs hb hall hf
  go_wp2
  go_ret
  exact ⟨_, rfl, HF.out, HBW.out⟩
end Go.Proofs.YtfclpecbnailgaaGreat.Wk
