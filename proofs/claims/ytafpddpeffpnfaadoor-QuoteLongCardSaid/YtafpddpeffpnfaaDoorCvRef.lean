/-
  Proved here: what the document's own answer (parquetryref07.Parse) returns, for every text of at most 100000 bytes: the records, or the place at which it is spoilt; it leaves what was in memory.
-/
import Derived.Test.YtafpddpeffpnfaaDoorCvField
import Derived.Test.YtafpddpeffpnfaaDoorCvParse
set_option linter.unusedVariables false
namespace Go.Proofs.YtafpddpeffpnfaaDoor.Cv
open Go Go.RowKit Go.Lib Go.Proofs.YtafpddpeffpnfaaDoor.Cl

def refZ : Option Nat → Int | none => -1 | some k => k
def refR (s : ByteArray) : List (List Bs) := if place 0 0 (tx s) = none then (g0 (evs 0 [] (tx s))).1 else []
def RefPost (s : ByteArray) (w : World) (e : Ending) (w' : World) : Prop :=
  ∃ A c, e = .returned (.tuple #[.slice A (refR s).length c, .int .i64 (refZ (place 0 0 (tx s)))]) ∧ RecsAt w' A (refR s) ∧ Below w.heap.size w w'
theorem ref_spoilt {s : ByteArray} {w w' : World} {k : Nat} {es : List Ev} (h : place 0 0 (tx s) = some k ∧ evs 0 [] (tx s) = es) (hb : Below w.heap.size w w') {z : Int} (hz : z = k) :
    RefPost s w (.returned (.tuple #[.slice none 0 0, .int .i64 z])) w' := by
  have er : refR s = [] := if_neg (by rw [h.1]; simp)
  refine ⟨none, 0, ?_, by rw [er]; exact RecsAt.nil _ _, hb⟩
  rw [er, h.1, hz]
  rfl
theorem ref_done {s : ByteArray} {w w' : World} {es : List Ev} {R : List (List Bs)} {B : Nat} {vs v : Value} {r : List Bs} (h : place 0 0 (tx s) = none ∧ evs 0 [] (tx s) = es) (hR : (g0 es).1 = R) (hri : RI B w' vs v R r) (hb : Below w.heap.size w w') :
    RefPost s w (.returned (.tuple #[vs, .int .i64 (-1)])) w' := by
  have er : refR s = R := by
    have : refR s = (g0 (evs 0 [] (tx s))).1 := if_pos h.1
    rw [this, h.2, hR]
  obtain ⟨A, c, e, hA⟩ := hri.reads
  refine ⟨A, c, ?_, by rw [er]; exact hA, hb⟩
  rw [er, h.1, e]
  rfl

set_option maxHeartbeats 4000000 in
set_option maxRecDepth 1000000 in
theorem refParse_any (s : ByteArray) (w : World) (hs : s.size ≤ 65536) :
    Calls Tryd.prog 27 #[.string s] w (RefPost s w) := by
  obtain ⟨i0, hi, hz0, hz1, hz2⟩ := info_parts infoStr
  obtain ⟨i1, hi', hz0', hz1', hz2'⟩ := info_parts infoRow
  go_enter Tryd.func27, Tryd.ntmps27
  go_wp2_with fail
  go_loopw [4, 5] (fun s4 s5 wx => ∃ (A : Option Addr) (c a : Nat) (es : List Ev), s4 = .slice A (g0 es).1.length c ∧ s5 = .int .i64 a ∧ es.length ≤ a ∧ Inv (tx s) 0 a [] es ∧ (g0 es).2 = [] ∧ RI w.heap.size wx (.slice A (g0 es).1.length c) (.slice none 0 0) (g0 es).1 [] ∧ Below w.heap.size w wx) (fun _ s5 _ => s.size + 1 - (RowKit.intOf s5).toNat)
  case atStart => exact ⟨none, 0, 0, [], rfl, rfl, Nat.le_refl _, Inv.start _, rfl, RI.start (Nat.le_refl _), Below.refl _ _⟩
  case round =>
    obtain ⟨A, c, a, es, rfl, rfl, hes, hinv, hg2, hri, hb⟩ := hrel
    have has := hinv.le
    rw [tx_size] at has
    have HINV := Lib.hid hinv
    have HRI := Lib.hid hri
    have HB := Lib.hid hb
    have HG2 := Lib.hid hg2
    have hRl := (g0_lens es).1
    obtain ⟨R, hR⟩ : ∃ R, (g0 es).1 = R := ⟨_, rfl⟩
    rw [hR] at HRI hRl
    rw [hR]
    have HRR := Lib.hid hR
    clear hinv hri hb hg2 hR
    go_wp2_with fail
    go_loopw [5, 6] (fun s5 s6 wx => ∃ (A' : Option Addr) (c' n : Nat) (fs : List Ev), s5 = .int .i64 n ∧ fs.length ≤ n ∧ a ≤ n ∧ Inv (tx s) 0 n [] fs ∧ (g0 fs).1 = R ∧ s6 = .slice A' (g0 fs).2.length c' ∧ RI w.heap.size wx (.slice A R.length c) (.slice A' (g0 fs).2.length c') R (g0 fs).2 ∧ Below w.heap.size w wx) (fun s5 _ _ => s.size + 1 - (RowKit.intOf s5).toNat)
    case atStart => exact ⟨none, 0, a, es, rfl, hes, Nat.le_refl _, HINV.out, HRR.out, by rw [HG2.out]; rfl, by rw [HG2.out]; exact HRI.out, HB.out⟩
    case round =>
      obtain ⟨A', c', n, fs, rfl, hfs, han, hinv, hgR, rfl, hri, hb⟩ := hrel
      have hns := hinv.le
      rw [tx_size] at hns
      have hrl := (g0_lens fs).2
      obtain ⟨r, hr⟩ : ∃ r, (g0 fs).2 = r := ⟨_, rfl⟩
      rw [hr] at hri hrl
      rw [hr]
      have HGR := Lib.hid hgR
      have HR2 := Lib.hid hr
      obtain ⟨base, hbase, hBb, hown, hfield⟩ := hri.field
      have HOWN := Lib.hid hown
      have HFIELD := Lib.hid hfield
      have HRI2 := Lib.hid hri
      have HB2 := Lib.hid hb
      have HF := Lib.hid (fun W => field_any s n fs W (by omega) hns hinv)
      have HINV2 := Lib.hid hinv
      clear hgR hr hown hfield hri hb hinv
      go_wp2_with fail
      refine (HF.out _).mono ?_
      rintro e w1 ⟨rfl, ⟨rfl, hpl⟩ | ⟨m, rfl, hnm, hms, hpl⟩⟩
      · have HPL := Lib.hid hpl
        clear hpl
        have hlt0 : (-(s.size : Int) - 1 < 0) := by omega
        go_wp2
        go_ret2
        exact ref_spoilt HPL.out HB2.out (by omega)
      · have HPL := Lib.hid hpl
        clear hpl
        obtain ⟨x, hx⟩ : ∃ x, txt (seg (tx s) n m) = x := ⟨_, rfl⟩
        have HX := Lib.hid hx
        rw [hx]
        clear hx
        go_wp2_with (at_builtin; refine wpList_append_own _ rfl _ _ 33 rfl base 9 i0 (.string ⟨#[]⟩) 1 16 Tryd.underlying33 hi hz0 hz1 hz2 rfl (by decide) _ _ _ rfl (HOWN.out.alloc _) ⟨_, 0, none⟩ 1 1 [.string ⟨x.toArray⟩] rfl rfl ?c1 ?c2 ?c3 ?c4 ?c5 ?_)
        case c1 => exact cell_one_new _ _ _
        case c2 => intro u hu; simp only [List.mem_singleton] at hu; subst hu; rfl
        case c3 => unfold maxLen; omega
        case c4 => omega
        case c5 => simp; omega
        intro v' w3 ho3 hg3 _
        obtain ⟨A3, k3, rfl, -, -⟩ := vAt_own ho3
        have hbA : Below w1.heap.size w1 (w1.alloc (.cells #[.string ⟨x.toArray⟩] 9)) := (Below.refl _ _).alloc (Nat.le_refl _) _
        have hb3 : Below w.heap.size w w3 := (HB2.out.alloc HB2.out.size _).grown hg3 (by simp; have := HB2.out.size; omega) (fun k hk => Nat.le_trans hBb (HOWN.out.lt k hk).1)
        have hri3 := HFIELD.out _ x _ w3 hbA ho3 hg3
        have HRI3 := Lib.hid hri3
        have HB3 := Lib.hid hb3
        clear ho3 hg3 hbA hb3 hri3
        have HG0 := Lib.hid (fun b => g0_snoc fs (seg (tx s) n m, b))
        have HLE : (r ++ [x]).length = r.length + 1 := by simp
        have HLE2 : (R ++ [r ++ [x]]).length = R.length + 1 := by simp
        by_cases hm : m < s.size
        · have hzm : bz ((tx s).drop m) = (s[m].toNat : Int) := by rw [drop_at (tx_get s m hm)]; rfl
          have e1 : ((m : Int) == (s.size : Int)) = false := by rw [beq_eq_false_iff_ne]; omega
          by_cases h44 : (s[m].toNat : Int) = 44
          · have HN := Lib.hid (ended_comma HPL.out (by rw [hzm]; exact h44))
            have hg : g0 (fs ++ [(seg (tx s) n m, false)]) = (R, r ++ [x]) := by
              rw [HG0.out]
              unfold putE
              rw [HGR.out, HR2.out, HX.out]
              rfl
            have HG := Lib.hid hg
            clear hg hzm
            go_wp2_with fail
            refine ⟨⟨A3, k3, m + 1, fs ++ [(seg (tx s) n m, false)], rfl, by simp; omega, by omega, HN.out.inv0, by rw [HG.out], by rw [HG.out, HLE], ?_, HB3.out⟩, by simp [RowKit.intOf]; omega⟩
            rw [HG.out, HLE]
            exact HRI3.out
          · have h44' : ((s[m].toNat : Int) != 44) = true := by simpa using h44
            obtain ⟨vals, hB4, hown4, hone4, hclose4⟩ := HRI3.out.close
            have HOWN4 := Lib.hid hown4
            have HCLOSE4 := Lib.hid hclose4
            clear hown4 hclose4 hone4
            have hgT : g0 (fs ++ [(seg (tx s) n m, true)]) = (R ++ [r ++ [x]], []) := by
              rw [HG0.out]
              unfold putE
              rw [HGR.out, HR2.out, HX.out]
              rfl
            have HGT := Lib.hid hgT
            clear hgT
            by_cases h13 : (s[m].toNat : Int) = 13
            · have HBR := Lib.hid (ended_cr HPL.out (by rw [hzm]; exact h13))
              by_cases hm1 : m + 1 < s.size
              · have hz1 : bz ((tx s).drop (m + 1)) = (s[m + 1].toNat : Int) := by rw [drop_at (tx_get s (m + 1) hm1)]; rfl
                have e2 : ((m : Int) + 1 == (s.size : Int)) = false := by rw [beq_eq_false_iff_ne]; omega
                by_cases h10 : (s[m + 1].toNat : Int) = 10
                · have HLF := Lib.hid (broken_lf HBR.out (by rw [hz1]; exact h10))
                  have h10' : ((s[m + 1].toNat : Int) != 10) = false := by simp [h10]
                  by_cases hm2 : m + 2 < s.size
                  · have HF0 := Lib.hid (lf_field (fm := 0) HLF.out (by rw [drop_at (tx_get s (m + 2) hm2)]; simp only [bz]; omega))
                    have e3 : ((m : Int) + 2 == (s.size : Int)) = false := by rw [beq_eq_false_iff_ne]; omega
                    clear hz1 hzm h44
                    go_wp2_with (at_builtin; refine wpList_append_own _ rfl _ _ 25 rfl w.heap.size 33 i1 (.slice none 0 0) 1 24 Tryd.underlying25 hi' hz0' hz1' hz2' rfl (by decide) _ _ _ rfl (HOWN4.out.alloc _) ⟨_, 0, none⟩ 1 1 [.slice A3 (r.length + 1) k3] rfl rfl ?c1 ?c2 ?c3 ?c4 ?c5 ?_)
                    case c1 => exact cell_one_new _ _ _
                    case c2 => intro u hu; simp only [List.mem_singleton] at hu; subst hu; rfl
                    case c3 => unfold maxLen; omega
                    case c4 => omega
                    case c5 => have := HB3.out.size; simp; omega
                    intro vs' w6 ho6 hg6 _
                    obtain ⟨A6, k6, rfl, -, -⟩ := vAt_own ho6
                    have hbB : Below w3.heap.size w3 (w3.alloc (.cells #[.slice A3 (r.length + 1) k3] 33)) := (Below.refl _ _).alloc (Nat.le_refl _) _
                    have hb6 : Below w.heap.size w w6 := (HB3.out.alloc HB3.out.size _).grown hg6 (by simp; have := HB3.out.size; omega) (fun k hk => (HOWN4.out.lt k hk).1)
                    have HRI6 := Lib.hid (HCLOSE4.out _ _ w6 hbB ho6 hg6)
                    have HB6 := Lib.hid hb6
                    clear ho6 hg6 hbB hb6
                    go_wp2_with fail
                    refine ⟨⟨A6, k6, m + 2, fs ++ [(seg (tx s) n m, true)], by rw [HGT.out, HLE2], rfl, by simp; omega, HF0.out.inv0, by rw [HGT.out], ?_, HB6.out⟩, by simp [RowKit.intOf]; omega⟩
                    rw [HGT.out, HLE2]
                    exact HRI6.out
                  · have hEQ : m + 2 = s.size := by have := HLF.out.le; rw [tx_size] at this; omega
                    have HO := Lib.hid (lf_over HLF.out (by rw [drop_end (by rw [tx_size]; exact hEQ)]; rfl))
                    have e3 : ((m : Int) + 2 == (s.size : Int)) = true := by rw [beq_iff_eq]; omega
                    clear hz1 hzm h44
                    go_wp2_with (at_builtin; refine wpList_append_own _ rfl _ _ 25 rfl w.heap.size 33 i1 (.slice none 0 0) 1 24 Tryd.underlying25 hi' hz0' hz1' hz2' rfl (by decide) _ _ _ rfl (HOWN4.out.alloc _) ⟨_, 0, none⟩ 1 1 [.slice A3 (r.length + 1) k3] rfl rfl ?c1 ?c2 ?c3 ?c4 ?c5 ?_)
                    case c1 => exact cell_one_new _ _ _
                    case c2 => intro u hu; simp only [List.mem_singleton] at hu; subst hu; rfl
                    case c3 => unfold maxLen; omega
                    case c4 => omega
                    case c5 => have := HB3.out.size; simp; omega
                    intro vs' w6 ho6 hg6 _
                    obtain ⟨A6, k6, rfl, -, -⟩ := vAt_own ho6
                    have hbB : Below w3.heap.size w3 (w3.alloc (.cells #[.slice A3 (r.length + 1) k3] 33)) := (Below.refl _ _).alloc (Nat.le_refl _) _
                    have hb6 : Below w.heap.size w w6 := (HB3.out.alloc HB3.out.size _).grown hg6 (by simp; have := HB3.out.size; omega) (fun k hk => (HOWN4.out.lt k hk).1)
                    have HRI6 := Lib.hid (HCLOSE4.out _ _ w6 hbB ho6 hg6)
                    have HB6 := Lib.hid hb6
                    clear ho6 hg6 hbB hb6
                    go_wp2_with fail
                    go_ret2
                    exact ref_done HO.out (by rw [HGT.out]) HRI6.out HB6.out
                · have HS := Lib.hid (broken_spoilt HBR.out (by rw [hz1]; exact h10))
                  have h10' : ((s[m + 1].toNat : Int) != 10) = true := by simpa using h10
                  clear hz1 hzm h44 h10
                  go_wp2_with (at_builtin; refine wpList_append_own _ rfl _ _ 25 rfl w.heap.size 33 i1 (.slice none 0 0) 1 24 Tryd.underlying25 hi' hz0' hz1' hz2' rfl (by decide) _ _ _ rfl (HOWN4.out.alloc _) ⟨_, 0, none⟩ 1 1 [.slice A3 (r.length + 1) k3] rfl rfl ?c1 ?c2 ?c3 ?c4 ?c5 ?_)
                  case c1 => exact cell_one_new _ _ _
                  case c2 => intro u hu; simp only [List.mem_singleton] at hu; subst hu; rfl
                  case c3 => unfold maxLen; omega
                  case c4 => omega
                  case c5 => have := HB3.out.size; simp; omega
                  intro vs' w6 ho6 hg6 _
                  obtain ⟨A6, k6, rfl, -, -⟩ := vAt_own ho6
                  have hbB : Below w3.heap.size w3 (w3.alloc (.cells #[.slice A3 (r.length + 1) k3] 33)) := (Below.refl _ _).alloc (Nat.le_refl _) _
                  have hb6 : Below w.heap.size w w6 := (HB3.out.alloc HB3.out.size _).grown hg6 (by simp; have := HB3.out.size; omega) (fun k hk => (HOWN4.out.lt k hk).1)
                  have HRI6 := Lib.hid (HCLOSE4.out _ _ w6 hbB ho6 hg6)
                  have HB6 := Lib.hid hb6
                  clear ho6 hg6 hbB hb6
                  go_wp2_with fail
                  go_ret2
                  exact ref_spoilt HS.out HB6.out rfl
              · have hEQ : m + 1 = s.size := by omega
                have HS := Lib.hid (broken_spoilt HBR.out (by rw [drop_end (by rw [tx_size]; exact hEQ)]; decide))
                have e2 : ((m : Int) + 1 == (s.size : Int)) = true := by rw [beq_iff_eq]; omega
                clear hzm h44
                go_wp2_with (at_builtin; refine wpList_append_own _ rfl _ _ 25 rfl w.heap.size 33 i1 (.slice none 0 0) 1 24 Tryd.underlying25 hi' hz0' hz1' hz2' rfl (by decide) _ _ _ rfl (HOWN4.out.alloc _) ⟨_, 0, none⟩ 1 1 [.slice A3 (r.length + 1) k3] rfl rfl ?c1 ?c2 ?c3 ?c4 ?c5 ?_)
                case c1 => exact cell_one_new _ _ _
                case c2 => intro u hu; simp only [List.mem_singleton] at hu; subst hu; rfl
                case c3 => unfold maxLen; omega
                case c4 => omega
                case c5 => have := HB3.out.size; simp; omega
                intro vs' w6 ho6 hg6 _
                obtain ⟨A6, k6, rfl, -, -⟩ := vAt_own ho6
                have hbB : Below w3.heap.size w3 (w3.alloc (.cells #[.slice A3 (r.length + 1) k3] 33)) := (Below.refl _ _).alloc (Nat.le_refl _) _
                have hb6 : Below w.heap.size w w6 := (HB3.out.alloc HB3.out.size _).grown hg6 (by simp; have := HB3.out.size; omega) (fun k hk => (HOWN4.out.lt k hk).1)
                have HRI6 := Lib.hid (HCLOSE4.out _ _ w6 hbB ho6 hg6)
                have HB6 := Lib.hid hb6
                clear ho6 hg6 hbB hb6
                go_wp2_with fail
                go_ret2
                exact ref_spoilt HS.out HB6.out rfl
            · have HS := Lib.hid (ended_spoilt HPL.out (by rw [hzm]; exact h44) (by rw [hzm]; exact h13) (by rw [hzm]; omega))
              have h13' : ((s[m].toNat : Int) != 13) = true := by simpa using h13
              clear hzm h44 h13
              go_wp2_with (at_builtin; refine wpList_append_own _ rfl _ _ 25 rfl w.heap.size 33 i1 (.slice none 0 0) 1 24 Tryd.underlying25 hi' hz0' hz1' hz2' rfl (by decide) _ _ _ rfl (HOWN4.out.alloc _) ⟨_, 0, none⟩ 1 1 [.slice A3 (r.length + 1) k3] rfl rfl ?c1 ?c2 ?c3 ?c4 ?c5 ?_)
              case c1 => exact cell_one_new _ _ _
              case c2 => intro u hu; simp only [List.mem_singleton] at hu; subst hu; rfl
              case c3 => unfold maxLen; omega
              case c4 => omega
              case c5 => have := HB3.out.size; simp; omega
              intro vs' w6 ho6 hg6 _
              obtain ⟨A6, k6, rfl, -, -⟩ := vAt_own ho6
              have hbB : Below w3.heap.size w3 (w3.alloc (.cells #[.slice A3 (r.length + 1) k3] 33)) := (Below.refl _ _).alloc (Nat.le_refl _) _
              have hb6 : Below w.heap.size w w6 := (HB3.out.alloc HB3.out.size _).grown hg6 (by simp; have := HB3.out.size; omega) (fun k hk => (HOWN4.out.lt k hk).1)
              have HRI6 := Lib.hid (HCLOSE4.out _ _ w6 hbB ho6 hg6)
              have HB6 := Lib.hid hb6
              clear ho6 hg6 hbB hb6
              go_wp2_with fail
              go_ret2
              exact ref_spoilt HS.out HB6.out rfl
        · have hEQ : m = s.size := by omega
          have HO := Lib.hid (ended_done HPL.out (by rw [drop_end (by rw [tx_size]; exact hEQ)]; rfl))
          have e1 : ((m : Int) == (s.size : Int)) = true := by rw [beq_iff_eq]; omega
          obtain ⟨vals, hB4, hown4, hone4, hclose4⟩ := HRI3.out.close
          have HOWN4 := Lib.hid hown4
          have HCLOSE4 := Lib.hid hclose4
          clear hown4 hclose4 hone4
          have hgT : g0 (fs ++ [(seg (tx s) n m, true)]) = (R ++ [r ++ [x]], []) := by
            rw [HG0.out]
            unfold putE
            rw [HGR.out, HR2.out, HX.out]
            rfl
          have HGT := Lib.hid hgT
          clear hgT
          go_wp2_with (at_builtin; refine wpList_append_own _ rfl _ _ 25 rfl w.heap.size 33 i1 (.slice none 0 0) 1 24 Tryd.underlying25 hi' hz0' hz1' hz2' rfl (by decide) _ _ _ rfl (HOWN4.out.alloc _) ⟨_, 0, none⟩ 1 1 [.slice A3 (r.length + 1) k3] rfl rfl ?c1 ?c2 ?c3 ?c4 ?c5 ?_)
          case c1 => exact cell_one_new _ _ _
          case c2 => intro u hu; simp only [List.mem_singleton] at hu; subst hu; rfl
          case c3 => unfold maxLen; omega
          case c4 => omega
          case c5 => have := HB3.out.size; simp; omega
          intro vs' w6 ho6 hg6 _
          obtain ⟨A6, k6, rfl, -, -⟩ := vAt_own ho6
          have hbB : Below w3.heap.size w3 (w3.alloc (.cells #[.slice A3 (r.length + 1) k3] 33)) := (Below.refl _ _).alloc (Nat.le_refl _) _
          have hb6 : Below w.heap.size w w6 := (HB3.out.alloc HB3.out.size _).grown hg6 (by simp; have := HB3.out.size; omega) (fun k hk => (HOWN4.out.lt k hk).1)
          have HRI6 := Lib.hid (HCLOSE4.out _ _ w6 hbB ho6 hg6)
          have HB6 := Lib.hid hb6
          clear ho6 hg6 hbB hb6
          go_wp2_with fail
          go_ret2
          exact ref_done HO.out (by rw [HGT.out]) HRI6.out HB6.out
end Go.Proofs.YtafpddpeffpnfaaDoor.Cv
