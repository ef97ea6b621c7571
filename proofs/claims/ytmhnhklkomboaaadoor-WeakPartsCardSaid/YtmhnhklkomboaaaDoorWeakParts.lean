/-
  Proved here: for all two rows of numbers, each number as direction ahead and each direction between WeakParts returns true (behind an L or an R a sequence's rest is settled as one that has that as its direction ahead, and what stands ahead as if nothing came behind), and the rows stay. Conditions: the package variables that the row lists hold what the program's text lays (the card ties them).
-/
import Derived.Test.YtmhnhklkomboaaaDoorWkAwake
import Derived.Test.YtmhnhklkomboaaaDoorWkLike
import Derived.Test.YtmhnhklkomboaaaDoorLawInts
import Derived.Test.YtmhnhklkomboaaaDoorClLaid
import Derived.Test.YtmhnhklkomboaaaDoorTie
import Derived.Test.YtmhnhklkomboaaaDoorCards
set_option linter.unusedVariables false
namespace Go.Proofs.YtmhnhklkomboaaaDoor.WeakParts
open Go Go.ChangeShapes Go.WideShapes Go.ChangeAt Go.RowKit Go.Lib Go.Proofs.YtmhnhklkomboaaaDoor.Cl Go.Proofs.YtmhnhklkomboaaaDoor.Wk

theorem like_n (A B : Option Addr) (zs : List Int) (n c d : Nat) (w : World) (hl : zs.length = n) (ha : IntsAt w A zs) (hb : IntsAt w B zs) (hn : n ≤ 1099511627776) :
    Calls Tryd.prog 10 #[.slice A n c, .slice B n d] w fun e w' => e = .returned (.bool true) ∧ Below w.heap.size w w' := by
  subst hl
  exact like_ints A B zs c d w ha hb hn
theorem ints_of {w : World} {B n c : Nat} {A : Option Addr} {zs : List Int} (h : w.ownsRow B 3 1 (.slice A n c) n (icl zs)) (hn : zs.length = n) : IntsAt w A zs := by
  obtain ⟨A2, c2, e2, hat⟩ := intsAt_icl h hn
  injection e2 with e3 e4 e5
  subst e3
  exact hat
theorem bt {w a b : World} (h : Below w.heap.size w a) (k : Below a.heap.size a b) : Below w.heap.size w b := h.trans (k.mono h.size)
theorem made_nil (w : World) : (w.alloc (.cells #[] 3)).ownsRow w.heap.size 3 1 (.slice (some ⟨w.heap.size, 0, none⟩) 0 0) 0 (icl []) := World.ownsRow_made w #[] 0 (Nat.le_refl _) (Nat.zero_le _) rfl

set_option maxHeartbeats 4000000 in
set_option maxRecDepth 100000 in
theorem walk_s (w : World) (hH : Held w) (A : Option Addr) (za : List Int) (na ca : Nat) (hla : za.length = na) (hra : IntsAt w A za) (B : Option Addr) (zb : List Int) (nb cb : Nat) (hlb : zb.length = nb) (hrb : IntsAt w B zb) (s t : Int) (r : Bool) (hs : (r = false ∧ t = 0) ∨ (r = true ∧ t = 1)) (hba : na ≤ 1000) (hbb : nb ≤ 1000) :
    Calls Tryd.prog 5 #[.slice A na ca, .slice B nb cb, .int .i64 s, .bool r] w fun e w' => e = .returned (.bool true) ∧ Below w.heap.size w w' := by
  have ht01 : t = 0 ∨ t = 1 := by rcases hs with h | h <;> simp [h.2]
  have HPT := Lib.hid (weak_parted s t ht01 za zb)
  have HRA := Lib.hid hra
  have HRB := Lib.hid hrb
  have HH := Lib.hid hH
  have HLA := Lib.hid hla
  have HLB := Lib.hid hlb
  clear hH hra hrb hla hlb ht01
  go_enter Tryd.func5, Tryd.ntmps5
  rcases hs with ⟨rfl, rfl⟩ | ⟨rfl, rfl⟩
  · have HM0 := Lib.hid (made_nil w)
    have HD0 := Lib.hid (below_made w (.cells #[] 3))
    have HRA0 := Lib.hid (HRA.out.below HD0.out)
    go_wp2_with (at_builtin; refine wpList_add rfl _ _ rfl w.heap.size _ 0 [] rfl HM0.out A na ca za rfl HRA0.out HLA.out (by omega) (by simp) ?_)
    intro v1 w1 hown hb
    try simp only [List.nil_append, Nat.zero_add] at hown
    obtain ⟨A1, c1, rfl, -⟩ := intsAt_icl hown HLA.out
    have HB1 := Lib.hid (HD0.out.trans hb)
    have HO1 := Lib.hid (ownsRow_below hown (below_made w1 (.cells #[.int .i64 0] 3)))
    have HT := Lib.hid (made_ints [0] _ 3 w1 rfl)
    clear hown hb HM0 HD0 HRA0
    go_wp2_with (at_builtin; refine wpList_add rfl _ _ rfl w.heap.size _ na za rfl HO1.out _ 1 1 [0] rfl HT.out rfl (by omega) (by simp; have := HB1.out.size; omega) ?_)
    intro v2 w2 hown hb
    have HL2 := Lib.hid (show (za ++ [(0 : Int)]).length = na + 1 from by simp [HLA.out])
    obtain ⟨A2, c2, rfl, hat⟩ := intsAt_icl hown HL2.out
    have HB2 := Lib.hid ((bt HB1.out (below_made w1 _)).trans hb)
    have HM2 := Lib.hid (made_nil w2)
    have HD2 := Lib.hid (below_made w2 (.cells #[] 3))
    have HA2 := Lib.hid hat
    have HA2' := Lib.hid (hat.below HD2.out)
    clear hown hb hat HO1 HT
    go_wp2_with (at_builtin; refine wpList_add rfl _ _ rfl w2.heap.size _ 0 [] rfl HM2.out A2 (na + 1) c2 (za ++ [0]) rfl HA2'.out HL2.out (by omega) (by simp) ?_)
    intro v3 w3 hown hb
    try simp only [List.nil_append, Nat.zero_add] at hown
    obtain ⟨A3, c3, rfl, -⟩ := intsAt_icl hown HL2.out
    have HB23 := Lib.hid (HD2.out.trans hb)
    have HO3 := Lib.hid hown
    have HB3 := Lib.hid (bt HB2.out HB23.out)
    have HRB3 := Lib.hid (HRB.out.below HB3.out)
    clear hown hb HM2 HD2 HA2'
    go_wp2_with (at_builtin; refine wpList_add rfl _ _ rfl w2.heap.size _ (na + 1) (za ++ [0]) rfl HO3.out B nb cb zb rfl HRB3.out HLB.out (by omega) HB23.out.size ?_)
    intro v4 w4 hown hb
    have HL4 := Lib.hid (show (za ++ [(0 : Int)] ++ zb).length = na + 1 + nb from by (simp [HLA.out, HLB.out]; omega))
    obtain ⟨A4, c4, rfl, hat⟩ := intsAt_icl hown (by (simp [HLA.out, HLB.out]; omega))
    have HB24 := Lib.hid (HB23.out.trans hb)
    have HB4 := Lib.hid (bt HB2.out HB24.out)
    have hat' : IntsAt w4 A4 (za ++ [0] ++ zb) := by simpa using hat
    have HW5 := Lib.hid (weak_any A4 (za ++ [0] ++ zb) (na + 1 + nb) c4 s w4 hat' HL4.out (by omega))
    have HA24 := Lib.hid (HA2.out.below HB24.out)
    clear hown hb hat hat' HO3 HRB3
    go_wp2_with fail
    refine HW5.out.mono ?_
    rintro e w5 ⟨A5, c5, rfl, hown, hb⟩
    rw [HPT.out] at hown
    have HL5 := Lib.hid (show (weak s (za ++ [0]) ++ weak 0 zb).length = na + 1 + nb from by rw [List.length_append, weak_len, weak_len, HL2.out, HLB.out])
    have HA5 := Lib.hid (ints_of hown HL5.out)
    have HB5 := Lib.hid (bt HB4.out hb)
    have HW6 := Lib.hid (weak_any A2 (za ++ [0]) (na + 1) c2 s w5 (HA24.out.below hb) HL2.out (by omega))
    clear hown hb HW5 HA24
    go_wp2_with fail
    refine HW6.out.mono ?_
    rintro e w6 ⟨A6, c6, rfl, hown, hb⟩
    have HL6 := Lib.hid (show (weak s (za ++ [0])).length = na + 1 from by rw [weak_len, HL2.out])
    have HA6 := Lib.hid (ints_of hown HL6.out)
    have HA56 := Lib.hid (HA5.out.below hb)
    have HB6 := Lib.hid (bt HB5.out hb)
    have HW7 := Lib.hid (weak_any B zb nb cb 0 w6 (HRB.out.below HB6.out) HLB.out (by omega))
    clear hown hb HW6 HA5
    go_wp2_with fail
    refine HW7.out.mono ?_
    rintro e w7 ⟨A7, c7, rfl, hown, hb⟩
    have HL7 := Lib.hid (show (weak 0 zb).length = nb from by rw [weak_len, HLB.out])
    have HB7 := Lib.hid (bt HB6.out hb)
    have HM7 := Lib.hid (made_nil w7)
    have HD7 := Lib.hid (below_made w7 (.cells #[] 3))
    have HA7 := Lib.hid (ints_of hown HL7.out)
    have HA57 := Lib.hid (HA56.out.below hb)
    have HA67 := Lib.hid ((HA6.out.below hb).below HD7.out)
    clear hown hb HW7 HA56 HA6
    obtain ⟨X, hX⟩ : ∃ X, weak s (za ++ [0]) = X := ⟨_, rfl⟩
    obtain ⟨Y, hY⟩ : ∃ Y, weak 0 zb = Y := ⟨_, rfl⟩
    rw [hX] at HL6 HA67
    rw [hY] at HL7 HA7
    rw [hX, hY] at HL5 HA57
    clear hX hY HPT
    go_wp2_with (at_builtin; refine wpList_add rfl _ _ rfl w7.heap.size _ 0 [] rfl HM7.out A6 (na + 1) c6 X rfl HA67.out HL6.out (by omega) (by simp) ?_)
    intro v8 w8 hown hb
    try simp only [List.nil_append, Nat.zero_add] at hown
    obtain ⟨A8, c8, rfl, -⟩ := intsAt_icl hown HL6.out
    have HB78 := Lib.hid (HD7.out.trans hb)
    have HO8 := Lib.hid hown
    have HA78 := Lib.hid (HA7.out.below HB78.out)
    clear hown hb HM7 HD7 HA67
    go_wp2_with (at_builtin; refine wpList_add rfl _ _ rfl w7.heap.size _ (na + 1) X rfl HO8.out A7 nb c7 Y rfl HA78.out HL7.out (by omega) HB78.out.size ?_)
    intro v9 w9 hown hb
    obtain ⟨A9, c9, rfl, hat⟩ := intsAt_icl hown HL5.out
    have HB79 := Lib.hid (HB78.out.trans hb)
    have HB9 := Lib.hid (bt HB7.out HB79.out)
    have HLK := Lib.hid (like_n A5 A9 (X ++ Y) (na + 1 + nb) c5 c9 w9 HL5.out (HA57.out.below HB79.out) hat (by omega))
    have HH9 := Lib.hid (HH.out.below HB9.out)
    clear hown hb hat HO8 HA78
    go_wp2_with fail
    refine HLK.out.mono ?_
    rintro e w10 ⟨rfl, hb⟩
    have HB10 := Lib.hid (bt HB9.out hb)
    have HH10 := Lib.hid (HH9.out.below hb)
    clear hb HLK
    go_wp2_with fail
    refine (awake_any w10 HH10.out).mono ?_
    rintro e w11 ⟨rfl, hb⟩
    have HB11 := Lib.hid (bt HB10.out hb)
    clear hb
    go_wp2
    go_ret
    exact ⟨rfl, HB11.out⟩
  · have HM0 := Lib.hid (made_nil w)
    have HD0 := Lib.hid (below_made w (.cells #[] 3))
    have HRA0 := Lib.hid (HRA.out.below HD0.out)
    go_wp2_with (at_builtin; refine wpList_add rfl _ _ rfl w.heap.size _ 0 [] rfl HM0.out A na ca za rfl HRA0.out HLA.out (by omega) (by simp) ?_)
    intro v1 w1 hown hb
    try simp only [List.nil_append, Nat.zero_add] at hown
    obtain ⟨A1, c1, rfl, -⟩ := intsAt_icl hown HLA.out
    have HB1 := Lib.hid (HD0.out.trans hb)
    have HO1 := Lib.hid (ownsRow_below hown (below_made w1 (.cells #[.int .i64 1] 3)))
    have HT := Lib.hid (made_ints [1] _ 3 w1 rfl)
    clear hown hb HM0 HD0 HRA0
    go_wp2_with (at_builtin; refine wpList_add rfl _ _ rfl w.heap.size _ na za rfl HO1.out _ 1 1 [1] rfl HT.out rfl (by omega) (by simp; have := HB1.out.size; omega) ?_)
    intro v2 w2 hown hb
    have HL2 := Lib.hid (show (za ++ [(1 : Int)]).length = na + 1 from by simp [HLA.out])
    obtain ⟨A2, c2, rfl, hat⟩ := intsAt_icl hown HL2.out
    have HB2 := Lib.hid ((bt HB1.out (below_made w1 _)).trans hb)
    have HM2 := Lib.hid (made_nil w2)
    have HD2 := Lib.hid (below_made w2 (.cells #[] 3))
    have HA2 := Lib.hid hat
    have HA2' := Lib.hid (hat.below HD2.out)
    clear hown hb hat HO1 HT
    go_wp2_with (at_builtin; refine wpList_add rfl _ _ rfl w2.heap.size _ 0 [] rfl HM2.out A2 (na + 1) c2 (za ++ [1]) rfl HA2'.out HL2.out (by omega) (by simp) ?_)
    intro v3 w3 hown hb
    try simp only [List.nil_append, Nat.zero_add] at hown
    obtain ⟨A3, c3, rfl, -⟩ := intsAt_icl hown HL2.out
    have HB23 := Lib.hid (HD2.out.trans hb)
    have HO3 := Lib.hid hown
    have HB3 := Lib.hid (bt HB2.out HB23.out)
    have HRB3 := Lib.hid (HRB.out.below HB3.out)
    clear hown hb HM2 HD2 HA2'
    go_wp2_with (at_builtin; refine wpList_add rfl _ _ rfl w2.heap.size _ (na + 1) (za ++ [1]) rfl HO3.out B nb cb zb rfl HRB3.out HLB.out (by omega) HB23.out.size ?_)
    intro v4 w4 hown hb
    have HL4 := Lib.hid (show (za ++ [(1 : Int)] ++ zb).length = na + 1 + nb from by (simp [HLA.out, HLB.out]; omega))
    obtain ⟨A4, c4, rfl, hat⟩ := intsAt_icl hown (by (simp [HLA.out, HLB.out]; omega))
    have HB24 := Lib.hid (HB23.out.trans hb)
    have HB4 := Lib.hid (bt HB2.out HB24.out)
    have hat' : IntsAt w4 A4 (za ++ [1] ++ zb) := by simpa using hat
    have HW5 := Lib.hid (weak_any A4 (za ++ [1] ++ zb) (na + 1 + nb) c4 s w4 hat' HL4.out (by omega))
    have HA24 := Lib.hid (HA2.out.below HB24.out)
    clear hown hb hat hat' HO3 HRB3
    go_wp2_with fail
    refine HW5.out.mono ?_
    rintro e w5 ⟨A5, c5, rfl, hown, hb⟩
    rw [HPT.out] at hown
    have HL5 := Lib.hid (show (weak s (za ++ [1]) ++ weak 1 zb).length = na + 1 + nb from by rw [List.length_append, weak_len, weak_len, HL2.out, HLB.out])
    have HA5 := Lib.hid (ints_of hown HL5.out)
    have HB5 := Lib.hid (bt HB4.out hb)
    have HW6 := Lib.hid (weak_any A2 (za ++ [1]) (na + 1) c2 s w5 (HA24.out.below hb) HL2.out (by omega))
    clear hown hb HW5 HA24
    go_wp2_with fail
    refine HW6.out.mono ?_
    rintro e w6 ⟨A6, c6, rfl, hown, hb⟩
    have HL6 := Lib.hid (show (weak s (za ++ [1])).length = na + 1 from by rw [weak_len, HL2.out])
    have HA6 := Lib.hid (ints_of hown HL6.out)
    have HA56 := Lib.hid (HA5.out.below hb)
    have HB6 := Lib.hid (bt HB5.out hb)
    have HW7 := Lib.hid (weak_any B zb nb cb 1 w6 (HRB.out.below HB6.out) HLB.out (by omega))
    clear hown hb HW6 HA5
    go_wp2_with fail
    refine HW7.out.mono ?_
    rintro e w7 ⟨A7, c7, rfl, hown, hb⟩
    have HL7 := Lib.hid (show (weak 1 zb).length = nb from by rw [weak_len, HLB.out])
    have HB7 := Lib.hid (bt HB6.out hb)
    have HM7 := Lib.hid (made_nil w7)
    have HD7 := Lib.hid (below_made w7 (.cells #[] 3))
    have HA7 := Lib.hid (ints_of hown HL7.out)
    have HA57 := Lib.hid (HA56.out.below hb)
    have HA67 := Lib.hid ((HA6.out.below hb).below HD7.out)
    clear hown hb HW7 HA56 HA6
    obtain ⟨X, hX⟩ : ∃ X, weak s (za ++ [1]) = X := ⟨_, rfl⟩
    obtain ⟨Y, hY⟩ : ∃ Y, weak 1 zb = Y := ⟨_, rfl⟩
    rw [hX] at HL6 HA67
    rw [hY] at HL7 HA7
    rw [hX, hY] at HL5 HA57
    clear hX hY HPT
    go_wp2_with (at_builtin; refine wpList_add rfl _ _ rfl w7.heap.size _ 0 [] rfl HM7.out A6 (na + 1) c6 X rfl HA67.out HL6.out (by omega) (by simp) ?_)
    intro v8 w8 hown hb
    try simp only [List.nil_append, Nat.zero_add] at hown
    obtain ⟨A8, c8, rfl, -⟩ := intsAt_icl hown HL6.out
    have HB78 := Lib.hid (HD7.out.trans hb)
    have HO8 := Lib.hid hown
    have HA78 := Lib.hid (HA7.out.below HB78.out)
    clear hown hb HM7 HD7 HA67
    go_wp2_with (at_builtin; refine wpList_add rfl _ _ rfl w7.heap.size _ (na + 1) X rfl HO8.out A7 nb c7 Y rfl HA78.out HL7.out (by omega) HB78.out.size ?_)
    intro v9 w9 hown hb
    obtain ⟨A9, c9, rfl, hat⟩ := intsAt_icl hown HL5.out
    have HB79 := Lib.hid (HB78.out.trans hb)
    have HB9 := Lib.hid (bt HB7.out HB79.out)
    have HLK := Lib.hid (like_n A5 A9 (X ++ Y) (na + 1 + nb) c5 c9 w9 HL5.out (HA57.out.below HB79.out) hat (by omega))
    have HH9 := Lib.hid (HH.out.below HB9.out)
    clear hown hb hat HO8 HA78
    go_wp2_with fail
    refine HLK.out.mono ?_
    rintro e w10 ⟨rfl, hb⟩
    have HB10 := Lib.hid (bt HB9.out hb)
    have HH10 := Lib.hid (HH9.out.below hb)
    clear hb HLK
    go_wp2_with fail
    refine (awake_any w10 HH10.out).mono ?_
    rintro e w11 ⟨rfl, hb⟩
    have HB11 := Lib.hid (bt HB10.out hb)
    clear hb
    go_wp2
    go_ret
    exact ⟨rfl, HB11.out⟩

theorem walk (w : World) (hH : Held w) (A : Option Addr) (za : List Int) (ca : Nat) (hra : IntsAt w A za) (hnila : A = none → za = [] ∧ ca = 0) (hlza : za.length ≤ 9223372036854775807) (hzza : ∀ z ∈ za, -9223372036854775808 ≤ z ∧ z ≤ 9223372036854775807)
    (B : Option Addr) (zb : List Int) (cb : Nat) (hrb : IntsAt w B zb) (hnilb : B = none → zb = [] ∧ cb = 0) (hlzb : zb.length ≤ 9223372036854775807) (hzzb : ∀ z ∈ zb, -9223372036854775808 ≤ z ∧ z ≤ 9223372036854775807) (s : Int) (r : Bool) :
    Calls Tryd.prog 5 #[.slice A za.length ca, .slice B zb.length cb, .int .i64 s, .bool r] w fun e w' => e = .returned (.bool true) ∧ Below w.heap.size w w' := by
  by_cases hba : 1000 < za.length
  · go_enter Tryd.func5, Tryd.ntmps5
    go_wp2_with (go_at_call 6; refine (awake_any _ hH).mono ?_; rintro e w' ⟨rfl, hb⟩)
    go_ret
    exact ⟨rfl, hb⟩
  · by_cases hbb : 1000 < zb.length
    · go_enter Tryd.func5, Tryd.ntmps5
      go_wp2_with (go_at_call 6; refine (awake_any _ hH).mono ?_; rintro e w' ⟨rfl, hb⟩)
      go_ret
      exact ⟨rfl, hb⟩
    · exact walk_s w hH A za za.length ca rfl hra B zb zb.length cb rfl hrb s (if r then 1 else 0) r (by cases r <;> simp) (by omega) (by omega)

set_option maxRecDepth 100000 in
theorem lifted (os : Os) (started : os.Started) (H : Type) (enc : TypeId × Value → H) :
    ReturnsInHanded {} Tryd.checked os 5 .any (fun w args => (Rows.weakPartsSpec.pre enc Tryd.prog Tryd.f5 [] false w args ∧ laidMetH Tryd.prog laidL w) ∧ sizedMet enc Tryd.prog Tryd.f5 (OpenSpec.ofChange Rows.weakPartsSpec) false w args) (Rows.weakPartsSpec.post enc Tryd.prog Tryd.f5 false true false false) := by
  refine returns_laid started (by kernel_rfl) Tryd.func5 #[.slice none 0 0, .slice none 0 0, .int .i64 0, .bool false] (by kernel_rfl) (World.shaped_of_ZipB (by kernel_rfl) (by kernel_rfl)) (by rw [MakeChecks.laidMetH_plain _ _ _ (by kernel_rfl)]; exact laidMet_laidAll _ (by kernel_rfl) (by kernel_rfl)) (by kernel_rfl) (by kernel_rfl) rfl rfl (by kernel_rfl) ?_ ?_
  · intro ds hds
    rw [show Tryd.f5.params.toList.length = 4 from by kernel_rfl] at hds
    match ds, hds with
    | [d0, d1, d2, d3], _ => rfl
  intro W base args ds p hval hA hH
  rw [Tryd.params5] at hA hval
  obtain ⟨v0, vs0, d0, ds0, p0, q0, hargs, rfl, rfl, h0, r0⟩ := ChangeShapes.trodAll_cons hA
  obtain ⟨v1, vs1, d1, ds1, p1, q1, rfl, rfl, rfl, h1, r1⟩ := ChangeShapes.trodAll_cons r0
  obtain ⟨v2, vs2, d2, ds2, p2, q2, rfl, rfl, rfl, h2, r2⟩ := ChangeShapes.trodAll_cons r1
  obtain ⟨v3, vs3, d3, ds3, p3, q3, rfl, rfl, rfl, h3, r3⟩ := ChangeShapes.trodAll_cons r2
  obtain ⟨rfl, rfl, rfl⟩ := ChangeShapes.trodAll_nil r3
  obtain rfl : args = #[v0, v1, v2, v3] := by cases args; simp_all
  obtain ⟨A0, zs0, c0, rfl, hr0, hnil0, hl0, hz0⟩ := open_introw (hval 0 22 v0 rfl rfl) h0
  obtain ⟨A1, zs1, c1, rfl, hr1, hnil1, hl1, hz1⟩ := open_introw (hval 1 22 v1 rfl rfl) h1
  obtain ⟨x2, rfl, rfl, rfl, wx2⟩ := open_int Tryd.underlying3 (hval 2 3 v2 rfl rfl) h2
  obtain ⟨x3, rfl, rfl, rfl⟩ := open_bool Tryd.underlying4 (hval 3 4 v3 rfl rfl) h3
  exact walk W hH A0 zs0 c0 hr0 hnil0 hl0 hz0 A1 zs1 c1 hr1 hnil1 hl1 hz1 x2 x3

theorem holds : Rows.WeakPartsSaid :=
  OpenClaim.holds_of_wide 5 Tryd.f5 rfl rfl rfl rfl rfl rfl rfl ⟨rfl, rfl, rfl, rfl, rfl⟩ rfl rfl rfl rfl rfl (by kernel_rfl) Tryd.func5 (by kernel_rfl)
    (of_decide_eq_true (by kernel_rfl)) (by unfold Func.isWrapper; first | (rw [if_pos (by decide +kernel)]; kernel_rfl) | (rw [if_neg (by decide +kernel)]; exact ⟨rfl, rfl⟩))
    (fun os started H enc _ => lifted os started H enc)

theorem card : Rows.WeakPartsCardSaid :=
  Claim7.holds_tied_plain_at .later [] [.data, .data, .pinned] true (true, "14469f2c6873348fd6e08c65ca0a8d63d0a72390e6af6706efc1bcb04c7fa5ff") false
    holds (fun _ h => by cases h) (by kernel_rfl) (fun _ h => by cases h) weakParts_row_tie rfl ⟨rfl, rfl⟩ (by kernel_rfl) rfl
    (fun f fn hf hfn => by
      obtain rfl : f = 5 := Option.some.inj ((show Tryd.prog.funcNamed "parquetry/parquetrylaw13.WeakParts" = some 5 by kernel_rfl).symm.trans hf) |>.symm
      obtain rfl : fn = Tryd.f5 := (Option.some.inj (Tryd.func5.symm.trans hfn)).symm
      exact ⟨by kernel_rfl, fun j t ht => by
        rw [Tryd.params5] at ht
        have hm : t ∈ [22, 3, 4] := by simpa using Array.mem_of_getElem? ht
        have hall : ([22, 3, 4].all fun u => !Tryd.prog.wantsStandIn u) = true := by kernel_rfl
        exact (show Tryd.prog.wantsStandIn t = false by simpa using List.all_eq_true.1 hall t hm)⟩)
    (by kernel_rfl)
end Go.Proofs.YtmhnhklkomboaaaDoor.WeakParts
