/-
  Proved here: what csv.walk returns, for every text of at most 65536 bytes, and any closure of two captured variables that it calls behind each field.
-/
import Derived.Test.YtafpddpeffpnfaaDoorCvFrame
import Derived.Test.YtafpddpeffpnfaaDoorCvSmall
set_option linter.unusedVariables false
namespace Go.Proofs.YtafpddpeffpnfaaDoor.Cv
open Go Go.RowKit Go.Lib

def Pl (L : Bs) (l at_ fm : Nat) (es : List Ev) : Prop :=
  (l = 0 ∧ Inv L 0 at_ [] es) ∨ (l = 2 ∧ ∃ q, (q = 0 ∨ q = 1) ∧ Inv L q at_ (seg L fm at_) es ∧ (q = 0 → bz (L.drop at_) ≠ 34)) ∨
  (l = 1 ∧ Inv L 2 (at_ + 1) (seg L fm (at_ + 1)) es) ∨ (l = 4 ∧ Inv L 3 (at_ + 1) (seg L fm (at_ + 1)) es) ∨
  (l = 3 ∧ ∃ q, (q = 0 ∨ q = 1 ∨ q = 3) ∧ Inv L q at_ (seg L fm at_) es ∧ (bz (L.drop at_) ≠ 44 → bz (L.drop at_) ≠ 13 → bz (L.drop at_) ≠ -1 → ∀ b, L[at_]? = some b → stepQ q b.toNat = none)) ∨
  (l = 5 ∧ Inv L 4 (at_ + 1) (seg L fm at_) es)

def Lab (s : ByteArray) (c : Value) (I : List Ev → World → Prop) (l : Nat) (t : Act) (w : World) : Prop :=
  ∃ (at_ fm : Nat) (es : List Ev), Fit t (.string s) c (.int .i64 at_) (.int .i64 fm) ∧ fm ≤ at_ ∧ es.length ≤ at_ ∧ I es w ∧ Pl (tx s) l at_ fm es
def rk (l : Nat) : Nat := if l = 0 then 5 else if l = 3 then 2 else if l = 5 then 1 else 4
def mu (s : ByteArray) (l : Nat) (t : Act) (_ : World) : Nat := 6 * (s.size + 2 - (RowKit.intOf (t.tmps.getD 4 undef)).toNat) + rk l

theorem Pl.le {s : ByteArray} {l at_ fm : Nat} {es : List Ev} (h : Pl (tx s) l at_ fm es) : at_ ≤ s.size := by
  rw [← tx_size]
  rcases h with ⟨_, h⟩ | ⟨_, q, _, h, _⟩ | ⟨_, h⟩ | ⟨_, h⟩ | ⟨_, q, _, h, _⟩ | ⟨_, h⟩ <;> have := h.le <;> omega

def pz : Option Nat → Int | none => 0 | some k => k
def ez : Option Nat → Int | none => 0 | some _ => 2
def WalkPost (s : ByteArray) (I : List Ev → World → Prop) (e : Ending) (w' : World) : Prop :=
  e = .returned (.tuple #[.int .i64 (pz (place 0 0 (tx s))), .int .i64 (ez (place 0 0 (tx s)))]) ∧ I (evs 0 [] (tx s)) w'

/-- What the closure does, called behind a field. -/
def Takes (f : FuncId) (p1 p2 : Value) (I : List Ev → World → Prop) : Prop :=
  ∀ es x b W, I es W → es.length ≤ 65536 → x.length ≤ 65536 → Wq x →
    Calls Tryd.prog f #[.string ⟨x.toArray⟩, .bool b, p1, p2] W fun e W' => e = .returned (.tuple #[]) ∧ I (es ++ [(x, b)]) W'

section
variable {L : Bs} {at_ fm : Nat} {es : List Ev} {z : Int}

theorem z_byte (hz : bz (L.drop at_) = z) (hl : at_ ≤ L.length) (h1 : z ≠ -1) : ∃ b, L[at_]? = some b ∧ z = b.toNat := by
  obtain ⟨b, hb, e⟩ := bz_at hl (by rw [hz]; exact h1)
  exact ⟨b, hb, by rw [← hz, e]⟩

theorem field_quoted (h : Inv L 0 at_ [] es) (hz : bz (L.drop at_) = 34) : Pl L 1 at_ at_ es := by
  obtain ⟨b, hb, e⟩ := z_byte hz h.le (by decide)
  have hn : b.toNat = 34 := by omega
  refine .inr (.inr (.inl ⟨rfl, ?_⟩))
  rw [seg_snoc (Nat.le_refl _) hb, seg_self]
  exact h.more hb (q' := 2) (by rw [hn]; rfl) (by decide) (by decide) (by decide)
theorem field_bare (h : Inv L 0 at_ [] es) (hz : bz (L.drop at_) ≠ 34) : Pl L 2 at_ at_ es := by
  refine .inr (.inl ⟨rfl, 0, .inl rfl, ?_, fun _ => hz⟩)
  rw [seg_self]
  exact h
theorem bareZ_iff : bareZ z = true ↔ z ≠ 34 ∧ z ≠ 44 ∧ z ≠ 13 ∧ z ≠ 10 ∧ z ≠ -1 := by simp [bareZ]
theorem bare_on (h : Pl L 2 at_ fm es) (hf : fm ≤ at_) (hz : bareZ (bz (L.drop at_)) = true) : Pl L 2 (at_ + 1) fm es := by
  rcases h with ⟨h, _⟩ | ⟨_, q, hq, h, h0⟩ | ⟨h, _⟩ | ⟨h, _⟩ | ⟨h, _⟩ | ⟨h, _⟩
  · omega
  · obtain ⟨z1, z2, z3, z4, z5⟩ := bareZ_iff.1 hz
    obtain ⟨b, hb, e⟩ := z_byte rfl h.le z5
    refine .inr (.inl ⟨rfl, 1, .inr rfl, ?_, fun h => absurd h (by decide)⟩)
    rw [seg_snoc hf hb]
    refine h.more hb (q' := 1) ?_ (by decide) (by decide) (by decide)
    unfold stepQ
    rw [if_neg (by omega), if_neg (by omega), if_neg (by omega), if_neg (by omega), if_neg (by omega), if_neg (by omega), if_neg (by omega)]
  all_goals omega
theorem bare_ended (h : Pl L 2 at_ fm es) (hz : bareZ (bz (L.drop at_)) = false) : Pl L 3 at_ fm es := by
  rcases h with ⟨h, _⟩ | ⟨_, q, hq, h, h0⟩ | ⟨h, _⟩ | ⟨h, _⟩ | ⟨h, _⟩ | ⟨h, _⟩
  · omega
  · refine .inr (.inr (.inr (.inr (.inl ⟨rfl, q, by omega, h, fun z1 z2 z3 b hb => ?_⟩))))
    have e : bz (L.drop at_) = b.toNat := by rw [drop_at hb]; rfl
    rw [e] at hz z1 z2 z3 h0
    have hz' : (b.toNat : Int) = 34 ∨ (b.toNat : Int) = 10 := by simp [bareZ] at hz; omega
    unfold stepQ
    rw [if_neg (by omega), if_neg (by omega), if_neg (by omega)]
    rcases hz' with e | e
    · rw [if_pos (by omega), if_pos (by omega)]
    · rw [if_neg (by omega), if_neg (by omega), if_neg (by omega), if_pos (by omega)]
  all_goals omega
theorem quoted_on (h : Pl L 1 at_ fm es) (hf : fm ≤ at_) (h1 : bz (L.drop (at_ + 1)) ≠ 34) (h2 : bz (L.drop (at_ + 1)) ≠ -1) : Pl L 1 (at_ + 1) fm es := by
  rcases h with ⟨h, _⟩ | ⟨h, _⟩ | ⟨_, h⟩ | ⟨h, _⟩ | ⟨h, _⟩ | ⟨h, _⟩
  · omega
  · omega
  · obtain ⟨b, hb, e⟩ := z_byte rfl h.le h2
    refine .inr (.inr (.inl ⟨rfl, ?_⟩))
    rw [seg_snoc (by omega) hb]
    refine h.more hb (q' := 2) ?_ (by decide) (by decide) (by decide)
    unfold stepQ
    rw [if_pos rfl, if_neg (by omega)]
  all_goals omega
theorem quoted_closed (h : Pl L 1 at_ fm es) (hf : fm ≤ at_) (h1 : bz (L.drop (at_ + 1)) = 34) : Pl L 4 (at_ + 1) fm es := by
  rcases h with ⟨h, _⟩ | ⟨h, _⟩ | ⟨_, h⟩ | ⟨h, _⟩ | ⟨h, _⟩ | ⟨h, _⟩
  · omega
  · omega
  · obtain ⟨b, hb, e⟩ := z_byte rfl h.le (by rw [h1]; decide)
    refine .inr (.inr (.inr (.inl ⟨rfl, ?_⟩)))
    rw [seg_snoc (by omega) hb]
    refine h.more hb (q' := 3) ?_ (by decide) (by decide) (by decide)
    unfold stepQ
    rw [if_pos rfl, if_pos (by omega)]
  all_goals omega
theorem quoted_cut (h : Pl L 1 at_ fm es) (h1 : bz (L.drop (at_ + 1)) = -1) : place 0 0 L = some (at_ + 1) ∧ evs 0 [] L = es := by
  rcases h with ⟨h, _⟩ | ⟨h, _⟩ | ⟨_, h⟩ | ⟨h, _⟩ | ⟨h, _⟩ | ⟨h, _⟩
  · omega
  · omega
  · exact h.cut (bz_end h.le h1) (.inl rfl)
  all_goals omega
theorem closed_quoted (h : Pl L 4 at_ fm es) (hf : fm ≤ at_) (h1 : bz (L.drop (at_ + 1)) = 34) : Pl L 1 (at_ + 1) fm es := by
  rcases h with ⟨h, _⟩ | ⟨h, _⟩ | ⟨h, _⟩ | ⟨_, h⟩ | ⟨h, _⟩ | ⟨h, _⟩
  · omega
  · omega
  · omega
  · obtain ⟨b, hb, e⟩ := z_byte rfl h.le (by rw [h1]; decide)
    refine .inr (.inr (.inl ⟨rfl, ?_⟩))
    rw [seg_snoc (by omega) hb]
    refine h.more hb (q' := 2) ?_ (by decide) (by decide) (by decide)
    unfold stepQ
    rw [if_neg (by decide), if_neg (by decide), if_pos rfl, if_pos (by omega)]
  all_goals omega
theorem closed_ended (h : Pl L 4 at_ fm es) (h1 : bz (L.drop (at_ + 1)) ≠ 34) : Pl L 3 (at_ + 1) fm es := by
  rcases h with ⟨h, _⟩ | ⟨h, _⟩ | ⟨h, _⟩ | ⟨_, h⟩ | ⟨h, _⟩ | ⟨h, _⟩
  · omega
  · omega
  · omega
  · refine .inr (.inr (.inr (.inr (.inl ⟨rfl, 3, by omega, h, fun z1 z2 z3 b hb => ?_⟩))))
    have e : bz (L.drop (at_ + 1)) = b.toNat := by rw [drop_at hb]; rfl
    rw [e] at z1 z2 z3 h1
    unfold stepQ
    rw [if_neg (by decide), if_neg (by decide), if_pos rfl, if_neg (by omega), if_neg (by omega), if_neg (by omega)]
  all_goals omega
theorem ended_wq (h : Pl L 3 at_ fm es) : Wq (seg L fm at_) := by
  rcases h with ⟨h, _⟩ | ⟨h, _⟩ | ⟨h, _⟩ | ⟨h, _⟩ | ⟨_, q, hq, h, hn⟩ | ⟨h, _⟩
  all_goals first | omega | skip
  exact h.wq (by omega)
theorem ended_comma (h : Pl L 3 at_ fm es) (h1 : bz (L.drop at_) = 44) : Pl L 0 (at_ + 1) fm (es ++ [(seg L fm at_, false)]) := by
  rcases h with ⟨h, _⟩ | ⟨h, _⟩ | ⟨h, _⟩ | ⟨h, _⟩ | ⟨_, q, hq, h, hn⟩ | ⟨h, _⟩
  all_goals first | omega | skip
  obtain ⟨b, hb, e⟩ := z_byte rfl h.le (by rw [h1]; decide)
  refine .inl ⟨rfl, h.comma hb ?_⟩
  have hn : b.toNat = 44 := by omega
  rw [hn]
  rcases hq with rfl | rfl | rfl <;> rfl
theorem ended_cr (h : Pl L 3 at_ fm es) (h1 : bz (L.drop at_) = 13) : Pl L 5 at_ fm es := by
  rcases h with ⟨h, _⟩ | ⟨h, _⟩ | ⟨h, _⟩ | ⟨h, _⟩ | ⟨_, q, hq, h, hn⟩ | ⟨h, _⟩
  all_goals first | omega | skip
  obtain ⟨b, hb, e⟩ := z_byte rfl h.le (by rw [h1]; decide)
  refine .inr (.inr (.inr (.inr (.inr ⟨rfl, h.cr (by omega) hb ?_⟩))))
  have hn : b.toNat = 13 := by omega
  rw [hn]
  rcases hq with rfl | rfl | rfl <;> rfl
theorem ended_done (h : Pl L 3 at_ fm es) (h1 : bz (L.drop at_) = -1) : place 0 0 L = none ∧ evs 0 [] L = es ++ [(seg L fm at_, true)] := by
  rcases h with ⟨h, _⟩ | ⟨h, _⟩ | ⟨h, _⟩ | ⟨h, _⟩ | ⟨_, q, hq, h, hn⟩ | ⟨h, _⟩
  all_goals first | omega | skip
  exact h.done (bz_end h.le h1) hq
theorem ended_spoilt (h : Pl L 3 at_ fm es) (h1 : bz (L.drop at_) ≠ 44) (h2 : bz (L.drop at_) ≠ 13) (h3 : bz (L.drop at_) ≠ -1) : place 0 0 L = some at_ ∧ evs 0 [] L = es := by
  rcases h with ⟨h, _⟩ | ⟨h, _⟩ | ⟨h, _⟩ | ⟨h, _⟩ | ⟨_, q, hq, h, hn⟩ | ⟨h, _⟩
  all_goals first | omega | skip
  obtain ⟨b, hb, e⟩ := z_byte rfl h.le h3
  exact h.spoilt hb (hn h1 h2 h3 b hb)
theorem broken_wq (h : Pl L 5 at_ fm es) : Wq (seg L fm at_) := by
  rcases h with ⟨h, _⟩ | ⟨h, _⟩ | ⟨h, _⟩ | ⟨h, _⟩ | ⟨h, _⟩ | ⟨_, h⟩
  all_goals first | omega | skip
  exact h.wq (by decide)
theorem broken_spoilt (h : Pl L 5 at_ fm es) (h1 : bz (L.drop (at_ + 1)) ≠ 10) : place 0 0 L = some (at_ + 1) ∧ evs 0 [] L = es := by
  rcases h with ⟨h, _⟩ | ⟨h, _⟩ | ⟨h, _⟩ | ⟨h, _⟩ | ⟨h, _⟩ | ⟨_, h⟩
  all_goals first | omega | skip
  by_cases h2 : bz (L.drop (at_ + 1)) = -1
  · exact h.cut (bz_end h.le h2) (.inr rfl)
  · obtain ⟨b, hb, e⟩ := z_byte rfl h.le h2
    refine h.spoilt hb ?_
    unfold stepQ
    rw [if_neg (by decide), if_pos rfl, if_neg (by omega)]
theorem broken_lf (h : Pl L 5 at_ fm es) (h1 : bz (L.drop (at_ + 1)) = 10) : Inv L 5 (at_ + 2) [] (es ++ [(seg L fm at_, true)]) := by
  rcases h with ⟨h, _⟩ | ⟨h, _⟩ | ⟨h, _⟩ | ⟨h, _⟩ | ⟨h, _⟩ | ⟨_, h⟩
  all_goals first | omega | skip
  obtain ⟨b, hb, e⟩ := z_byte rfl h.le (by rw [h1]; decide)
  exact h.lf hb (by omega)
theorem lf_field (h : Inv L 5 at_ [] es) (h1 : bz (L.drop at_) ≠ -1) : Pl L 0 at_ fm es := by
  obtain ⟨b, hb, e⟩ := z_byte rfl h.le h1
  exact .inl ⟨rfl, h.begins (List.getElem?_eq_some_iff.1 hb).1⟩
theorem lf_over (h : Inv L 5 at_ [] es) (h1 : bz (L.drop at_) = -1) : place 0 0 L = none ∧ evs 0 [] L = es := h.over (bz_end h.le h1)
theorem ext_seg (s : ByteArray) (a b : Nat) : s.extract a b = ⟨(seg (tx s) a b).toArray⟩ := Lib.extract_eq s a b
theorem Pl.inv0 (h : Pl L 0 at_ fm es) : Inv L 0 at_ [] es := by
  rcases h with ⟨_, h⟩ | ⟨h, _⟩ | ⟨h, _⟩ | ⟨h, _⟩ | ⟨h, _⟩ | ⟨h, _⟩
  · exact h
  all_goals omega
theorem quoted_room {s : ByteArray} (h : Pl (tx s) 1 at_ fm es) : at_ + 1 ≤ s.size := by
  rw [← tx_size]
  rcases h with ⟨h, _⟩ | ⟨h, _⟩ | ⟨_, h⟩ | ⟨h, _⟩ | ⟨h, _⟩ | ⟨h, _⟩
  all_goals first | exact h.le | omega
theorem closed_room {s : ByteArray} (h : Pl (tx s) 4 at_ fm es) : at_ + 1 ≤ s.size := by
  rw [← tx_size]
  rcases h with ⟨h, _⟩ | ⟨h, _⟩ | ⟨h, _⟩ | ⟨_, h⟩ | ⟨h, _⟩ | ⟨h, _⟩
  all_goals first | exact h.le | omega
theorem broken_room {s : ByteArray} (h : Pl (tx s) 5 at_ fm es) : at_ + 1 ≤ s.size := by
  rw [← tx_size]
  rcases h with ⟨h, _⟩ | ⟨h, _⟩ | ⟨h, _⟩ | ⟨h, _⟩ | ⟨h, _⟩ | ⟨_, h⟩
  all_goals first | exact h.le | omega
theorem seg_len (L : Bs) (a b : Nat) : (seg L a b).length ≤ L.length := by unfold seg; rw [List.length_take, List.length_drop]; omega
end
end Go.Proofs.YtafpddpeffpnfaaDoor.Cv
