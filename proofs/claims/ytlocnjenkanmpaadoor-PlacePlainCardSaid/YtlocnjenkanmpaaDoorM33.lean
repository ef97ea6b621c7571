/-
  Several texts in one, each with its own remark: PlLaw2, PlOfAny, PlBare, PlAlign, PlLaw3, PlZero, PlLaw4.
-/
import Derived.Test.YtlocnjenkanmpaaDoorMPlLaw2A
import Derived.Test.YtlocnjenkanmpaaDoorMPlLaw2B
import Derived.Test.YtlocnjenkanmpaaDoorM30
import Derived.Test.YtlocnjenkanmpaaDoorMKuOf
import Derived.Test.YtlocnjenkanmpaaDoorM2
import Derived.Test.YtlocnjenkanmpaaDoorM3

/-
  Proved here: what parquetrylaw19.PlaceOnce returns for every row of runes, of levels, every line and three numbers: true, for any program of placing that keeps to the plain one (SlotsOk), any of clusters that finds the document's (OfOk). It leaves what was in memory.
-/
set_option linter.unusedVariables false
namespace Go.Proofs.YtlocnjenkanmpaaDoor.Pl
open Go Go.RowKit Go.Lib Go.Proofs.YtlocnjenkanmpaaDoor.Ku Go.Proofs.YtlocnjenkanmpaaDoor.Wr Go.Proofs.YtlocnjenkanmpaaDoor.Arr Go.Proofs.YtlocnjenkanmpaaDoor.Cl
theorem once_law {H : World → Prop} (HS : SlotsOk H) (HOF : OfOk H) (HLT : Lasts H) (A B : Option Addr) (l : List R3) (lv : List Int) (n m c d : Nat) (x : L5) (para W al : Int) (w : World) (hH : H w) (hA : RuAt w A l) (hB : IntsAt w B lv) (hl : l.length = n) (hm : lv.length = m) (hcn : n ≤ c) (hdm : m ≤ d) (hnA : A = none → l = [] ∧ c = 0) (hnB : B = none → lv = [] ∧ d = 0) (hm63 : m ≤ 9223372036854775807) :
    Calls Tryd.prog 4 #[.slice A n c, .slice B m d, lnV x, .int .i64 para, .int .i64 W, .int .i64 al] w fun e w' => e = .returned (.bool true) ∧ Below w.heap.size w w' := by
  by_cases hd : x.d = 1
  · exact once_lawA HS HOF HLT A B l lv n m c d x para W al w hH hA hB hl hm hcn hdm hnA hnB hm63 hd
  · exact once_lawB HS HOF HLT A B l lv n m c d x para W al w hH hA hB hl hm hcn hdm hnA hnB hm63 hd
end Go.Proofs.YtlocnjenkanmpaaDoor.Pl

/-
  Proved here: cluster.Of finds the document's clusters (OfOk), where cluster.behind is as it was.
-/
set_option linter.unusedVariables false
namespace Go.Proofs.YtlocnjenkanmpaaDoor.Pl
open Go Go.RowKit Go.Lib Go.Proofs.YtlocnjenkanmpaaDoor.Ku
theorem of_ok : OfOk Ku.Held := fun A l n c w hH hA hl hn => by
  subst hl
  refine (Ku.of_any A l c w hA hH (by omega)).mono ?_
  rintro e w' ⟨v, rfl, hown, hb⟩
  obtain ⟨A', c', rfl, hcu⟩ := cuAt_own hown
  exact ⟨A', c', rfl, hcu, hb⟩
end Go.Proofs.YtlocnjenkanmpaaDoor.Pl

/-
  Proved here: what parquetrylaw19.bare returns for a row of slots: what stands between the pads on both sides, and how many stand on the left. It writes nothing.
-/
set_option linter.unusedVariables false
namespace Go.Proofs.YtlocnjenkanmpaaDoor.Pl
open Go Go.RowKit Go.Lib Go.Proofs.YtlocnjenkanmpaaDoor.Ku Go.Proofs.YtlocnjenkanmpaaDoor.Wr Go.Proofs.YtlocnjenkanmpaaDoor.Arr Go.Proofs.YtlocnjenkanmpaaDoor.Cl
set_option maxHeartbeats 4000000 in
set_option maxRecDepth 100000 in
theorem bare_any (b off : Nat) (S : List C6) (n c L k : Nat) (w : World) (hS : CuAt w (some ⟨b, off, none⟩) S) (hl : S.length = n) (hcn : n ≤ c) (hn : n ≤ 10000) (hLk : L + k ≤ n) (hlo : ∀ i (h : i < S.length), i < L → S[i].a = 2) (hmi : ∀ i (h : i < S.length), L ≤ i → i < L + k → S[i].a ≠ 2) (hhi : ∀ i (h : i < S.length), L + k ≤ i → S[i].a = 2) (h0 : k = 0 → L = n) :
    Calls Tryd.prog 14 #[.slice (some ⟨b, off, none⟩) n c] w fun e w' => ∃ A' c', e = .returned (.tuple #[.slice A' k c', .int .i64 L]) ∧ CuAt w' A' ((S.drop L).take k) ∧ Below w.heap.size w w' := by
  have HS := Lib.hid hS
  have HL := Lib.hid hl
  have HLO := Lib.hid hlo
  have HMI := Lib.hid hmi
  have HHI := Lib.hid hhi
  have HPT := Lib.hid (fun (h : L + k ≤ S.length) => cu_part hS L k h)
  clear hS hl hlo hmi hhi
  go_enter Tryd.func14, Tryd.ntmps14
  go_wp2_with fail
  go_loopw [4] (fun s4 wx => ∃ j : Nat, j ≤ L ∧ s4 = .int .i64 j ∧ wx = w) (fun s4 _ => n - (RowKit.intOf s4).toNat)
  case atStart => exact ⟨0, Nat.zero_le _, rfl, rfl⟩
  case round =>
    obtain ⟨j, hj, rfl, rfl⟩ := hrel
    by_cases hlt : j < L
    · have hjn : j < n := by omega
      have hjl : j < S.length := by rw [HL.out]; exact hjn
      obtain ⟨g, off', he, hg, c0, -⟩ := HS.out.at_ hjl
      injection he with he
      injection he with he1 he2
      subst he1 he2
      rw [HLO.out j hjl hlt] at c0
      have k0 : (j : Int) < (n : Int) := by omega
      have k1 : (0 : Int) ≤ (j : Int) := by omega
      clear HS HPT HLO HMI HHI
      go_wp2_with fail
      go_roundw
      case rel => exact ⟨j + 1, by omega, by go_num, trivial⟩
      case measure => simp [RowKit.intOf]; omega
    · obtain rfl : j = L := by omega
      rcases Nat.lt_or_ge j n with hjn | hjn
      · have hjl : j < S.length := by rw [HL.out]; exact hjn
        obtain ⟨g, off', he, hg, c0, -⟩ := HS.out.at_ hjl
        injection he with he
        injection he with he1 he2
        subst he1 he2
        have hne : (S[j].a == (2 : Int)) = false := beq_eq_false_iff_ne.2 (HMI.out j hjl (Nat.le_refl _) (by omega))
        generalize S[j].a = z at *
        have k0 : (j : Int) < (n : Int) := by omega
        have k1 : (0 : Int) ≤ (j : Int) := by omega
        go_wp2_with fail
        go_loopw [5] (fun s5 wx => ∃ t : Nat, j + k ≤ t ∧ t ≤ n ∧ s5 = .int .i64 t ∧ wx = wr) (fun s5 _ => (RowKit.intOf s5).toNat)
        case atStart => exact ⟨n, by omega, Nat.le_refl _, rfl, rfl⟩
        case round =>
          obtain ⟨t, ht, htn, rfl, rfl⟩ := hrel
          by_cases hgt : j + k < t
          · have htl : t - 1 < S.length := by rw [HL.out]; omega
            obtain ⟨g, off', he, hg, d0, -⟩ := HS.out.at_ htl
            injection he with he
            injection he with he1 he2
            subst he1 he2
            rw [HHI.out (t - 1) htl (by omega)] at d0
            have e1 : IntKind.i64.wrap ((t : Int) - 1) = ((t - 1 : Nat) : Int) := by rw [IntWalk.i64_in _ (by omega)]; omega
            have e2 : (j : Int) < (t : Int) := by omega
            have e3 : ((t - 1 : Nat) : Int) < (n : Int) := by omega
            have e4 : (0 : Int) ≤ ((t - 1 : Nat) : Int) := by omega
            clear HS HPT HLO HMI HHI
            go_wp2_with fail
            go_roundw
            case rel => exact ⟨t - 1, by omega, by omega, rfl, trivial⟩
            case measure => simp [RowKit.intOf]; omega
          · obtain rfl : t = j + k := by omega
            have hk0 : 0 < k := by
              rcases Nat.eq_zero_or_pos k with h | h
              · have := h0 h; omega
              · exact h
            have htl : j + k - 1 < S.length := by rw [HL.out]; omega
            obtain ⟨g, off', he, hg, d0, -⟩ := HS.out.at_ htl
            injection he with he
            injection he with he1 he2
            subst he1 he2
            have hne : (S[j + k - 1].a == (2 : Int)) = false := beq_eq_false_iff_ne.2 (HMI.out _ htl (by omega) (by omega))
            generalize S[j + k - 1].a = z at *
            obtain ⟨t, et⟩ : ∃ t, j + k = t := ⟨_, rfl⟩
            rw [et] at htn d0 htl ⊢
            have e1 : IntKind.i64.wrap ((t : Int) - 1) = ((t - 1 : Nat) : Int) := by rw [IntWalk.i64_in _ (by omega)]; omega
            have e2 : (j : Int) < (t : Int) := by omega
            have e3 : ((t - 1 : Nat) : Int) < (n : Int) := by omega
            have e4 : (0 : Int) ≤ ((t - 1 : Nat) : Int) := by omega
            have e5 : t ≤ c := by omega
            have HP := Lib.hid (HPT.out (by rw [HL.out]; omega))
            clear HS HPT HLO HMI HHI hlt k0 k1
            have e6 : t - j = k := by omega
            have e7 : ¬ c = j := by omega
            go_wp2_with fail
            go_ret2
            exact ⟨_, ⟨_, rfl⟩, HP.out, Below.refl _ _⟩
      · obtain rfl : j = n := by omega
        obtain rfl : k = 0 := by omega
        have k0 : decide ((j : Int) < (j : Int)) = false := decide_eq_false (by omega)
        go_wp2_with fail
        go_loopw [5] (fun s5 wx => s5 = .int .i64 j ∧ wx = wr) (fun s5 _ => 0)
        case atStart => exact ⟨rfl, rfl⟩
        case round =>
          obtain ⟨rfl, rfl⟩ := hrel
          clear HS HPT HLO HMI HHI hlt
          rcases Nat.lt_or_ge j c with hjc | hjc
          · have e7 : ¬ c = j := by omega
            go_wp2_with fail
            go_ret2
            exact ⟨_, _, rfl, .inl (by simp), Below.refl _ _⟩
          · obtain rfl : c = j := by omega
            go_wp2_with fail
            go_ret2
            exact ⟨_, _, rfl, .inl (by simp), Below.refl _ _⟩
end Go.Proofs.YtlocnjenkanmpaaDoor.Pl

/-
  Plainly: however a line is aligned, its text is one; how many pads stand on the left. And parquetrylaw19.bare of such a row. 
-/
set_option linter.unusedVariables false
namespace Go.Proofs.YtlocnjenkanmpaaDoor.Pl
open Go Go.RowKit Go.Lib Go.Proofs.YtlocnjenkanmpaaDoor.Ku Go.Proofs.YtlocnjenkanmpaaDoor.Wr Go.Proofs.YtlocnjenkanmpaaDoor.Arr Go.Proofs.YtlocnjenkanmpaaDoor.Cl Go.Proofs.YtlocnjenkanmpaaDoor.Bi Go.Proofs.YtlocnjenkanmpaaDoor.Bo
theorem blk_mem (y : Sn) : ∀ k, ∀ z ∈ blkK y k, z.a = 4
  | 0, z, h => by simp [blkK] at h
  | k + 1, z, h => by
    unfold blkK at h
    rcases List.mem_append.1 h with h | h
    · exact blk_mem y k z h
    · rw [List.mem_singleton] at h
      rw [h]
      rfl
theorem text_mem (Y : List Sn) (dots para : Int) : ∀ z ∈ textP Y dots para, z.a ≠ 2 := by
  intro z hz
  unfold textP at hz
  rcases List.mem_append.1 hz with hz | hz
  · rcases List.mem_append.1 hz with hz | hz
    · split at hz
      · rw [List.mem_singleton] at hz
        rw [hz]
        decide
      · simp at hz
    · unfold rowP at hz
      obtain ⟨j, _, hj⟩ := List.mem_flatMap.1 hz
      have := blk_mem _ _ z hj
      omega
  · split at hz
    · rw [List.mem_singleton] at hz
      rw [hz]
      decide
    · simp at hz
/-- Pads, a text, pads. -/
def rowU (U : List C6) (L R : Nat) : List C6 := List.replicate L padS ++ U ++ List.replicate R padS
theorem rowU_len (U : List C6) (L R : Nat) : (rowU U L R).length = L + U.length + R := by simp [rowU]; omega
theorem rowU_at (U : List C6) (L R i : Nat) (h : i < (rowU U L R).length) : (i < L → (rowU U L R)[i].a = 2) ∧ (L ≤ i → i < L + U.length → ∃ h2 : i - L < U.length, (rowU U L R)[i] = U[i - L]) ∧ (L + U.length ≤ i → (rowU U L R)[i].a = 2) := by
  have hl := rowU_len U L R
  unfold rowU at *
  refine ⟨fun h1 => ?_, fun h1 h2 => ⟨by omega, ?_⟩, fun h1 => ?_⟩
  · rw [List.getElem_append_left (by simp; omega), List.getElem_append_left (by simp; omega), List.getElem_replicate]
    rfl
  · rw [List.getElem_append_left (by simp; omega), List.getElem_append_right (by simp; omega)]
    congr 1
    simp
  · rw [List.getElem_append_right (by simp; omega), List.getElem_replicate]
    rfl
theorem rowU_mid (U : List C6) (L R : Nat) : ((rowU U L R).drop L).take U.length = U := by
  unfold rowU
  rw [List.append_assoc, List.drop_append_of_le_length (by simp), List.drop_eq_nil_of_le (by simp), List.nil_append, List.take_append_of_le_length (Nat.le_refl _), List.take_length]
theorem ans_rows {l : List R3} {lv : List Int} {n m : Nat} {x : L5} {para W : Int} (hl : l.length = n) (hm : lv.length = m) :
    errP n m (ofC l).length x para W 3 = errP n m (ofC l).length x para W 2 ∧ errP n m (ofC l).length x para W 4 = errP n m (ofC l).length x para W 2 ∧
    (errP n m (ofC l).length x para W 2 = 0 → ∃ (U : List C6) (N k : Nat), W = N ∧ U.length = k ∧ 1 ≤ N ∧ N ≤ 1024 ∧ k ≤ N ∧ (∀ z ∈ U, z.a ≠ 2) ∧ ansP l lv x para W 2 = rowU U 0 (N - k) ∧ ansP l lv x para W 3 = rowU U (N - k) 0 ∧ ansP l lv x para W 4 = rowU U ((N - k) / 2) (N - (N - k) / 2 - k)) := by
  subst hl hm
  have h3 : errP l.length lv.length (ofC l).length x para W 3 = errP l.length lv.length (ofC l).length x para W 2 := by
    unfold errP
    congr 1
    simp
  have h4 : errP l.length lv.length (ofC l).length x para W 4 = errP l.length lv.length (ofC l).length x para W 2 := by
    unfold errP
    congr 1
    simp
  refine ⟨h3, h4, fun he => ?_⟩
  obtain ⟨_, _, w1, w2, _⟩ := errP_ok he
  obtain ⟨N, rfl⟩ : ∃ N : Nat, W = N := ⟨W.toNat, by omega⟩
  refine ⟨(textP (seenP l lv (ofC l) x para) x.d para).take N, N, _, rfl, rfl, by omega, by omega, by rw [List.length_take]; omega, fun z hz => text_mem _ _ _ z (List.mem_of_mem_take hz), ?_, ?_, ?_⟩
  · unfold ansP slotsP
    rw [if_pos he, Int.toNat_natCast, pad_parts]
    simp [leftN, rowU]
  · unfold ansP slotsP
    rw [h3, if_pos he, Int.toNat_natCast, pad_parts]
    simp only [leftN, rowU, if_pos]
    congr 2
    rw [List.length_take]
    omega
  · unfold ansP slotsP
    rw [h4, if_pos he, Int.toNat_natCast, pad_parts]
    rfl
/-- What bare returns for pads, a text, pads. -/
theorem bare_row (A : Option Addr) (U : List C6) (L R n k c : Nat) (w : World) (hS : CuAt w A (rowU U L R)) (hU : ∀ z ∈ U, z.a ≠ 2) (hk : U.length = k) (hn : L + k + R = n) (h1 : 1 ≤ n) (h2 : n ≤ 10000) (hcn : n ≤ c) :
    Calls Tryd.prog 14 #[.slice A n c] w fun e w' => ∃ A' c' p, e = .returned (.tuple #[.slice A' k c', .int .i64 (p : Nat)]) ∧ CuAt w' A' U ∧ (k ≠ 0 → p = L) ∧ p ≤ n ∧ Below w.heap.size w w' := by
  have hlen : (rowU U L R).length = n := by rw [rowU_len]; omega
  obtain ⟨b, off, rfl, _⟩ := hS.at_ (k := 0) (by omega)
  rcases Nat.eq_zero_or_pos k with h0 | h0
  · subst h0
    obtain rfl := List.eq_nil_of_length_eq_zero hk
    refine (bare_any b off _ n c n 0 w hS hlen hcn h2 (by omega) (fun i h h3 => ?_) (fun i h h3 h4 => by omega) (fun i h h3 => by omega) (fun _ => rfl)).mono ?_
    · rcases Nat.lt_or_ge i L with h4 | h4
      · exact (rowU_at [] L R i h).1 h4
      · exact (rowU_at [] L R i h).2.2 (by simpa using h4)
    · rintro e w' ⟨A', c', rfl, hc, hb⟩
      exact ⟨A', c', n, rfl, .inl rfl, fun h => absurd rfl h, Nat.le_refl _, hb⟩
  · refine (bare_any b off _ n c L k w hS hlen hcn h2 (by omega) (fun i h h3 => (rowU_at U L R i h).1 h3) (fun i h h3 h4 => ?_) (fun i h h3 => (rowU_at U L R i h).2.2 (by omega)) (fun h => by omega)).mono ?_
    · obtain ⟨h5, h6⟩ := (rowU_at U L R i h).2.1 h3 (by omega)
      rw [h6]
      exact hU _ (List.getElem_mem _)
    · rintro e w' ⟨A', c', rfl, hc, hb⟩
      rw [← hk, rowU_mid] at hc
      exact ⟨A', c', L, rfl, hc, fun _ => rfl, by omega, hb⟩
end Go.Proofs.YtlocnjenkanmpaaDoor.Pl

/-
  Proved here: what parquetrylaw19.PlaceAligns returns for every row of runes, of levels, every line and two numbers: true, for any program of placing that keeps to the plain one (SlotsOk). It leaves what was in memory.
-/
set_option linter.unusedVariables false
namespace Go.Proofs.YtlocnjenkanmpaaDoor.Pl
open Go Go.RowKit Go.Lib Go.Proofs.YtlocnjenkanmpaaDoor.Ku Go.Proofs.YtlocnjenkanmpaaDoor.Wr Go.Proofs.YtlocnjenkanmpaaDoor.Arr Go.Proofs.YtlocnjenkanmpaaDoor.Cl
theorem lt_of_block3 {w : World} {b : Nat} {o : Obj} (h : w.heap[b]? = some o) : b < w.heap.size := by
  obtain ⟨h1, _⟩ := Array.getElem?_eq_some_iff.1 h
  exact h1
set_option maxHeartbeats 8000000 in
set_option maxRecDepth 100000 in
theorem aligns_law {H : World → Prop} (HS : SlotsOk H) (HLT : Lasts H) (A B : Option Addr) (l : List R3) (lv : List Int) (n m c d : Nat) (x : L5) (para W : Int) (w : World) (hH : H w) (hA : RuAt w A l) (hB : IntsAt w B lv) (hl : l.length = n) (hm : lv.length = m) (hcn : n ≤ c) (hdm : m ≤ d) (hnA : A = none → l = [] ∧ c = 0) (hnB : B = none → lv = [] ∧ d = 0) (hm63 : m ≤ 9223372036854775807) :
    Calls Tryd.prog 5 #[.slice A n c, .slice B m d, lnV x, .int .i64 para, .int .i64 W] w fun e w' => e = .returned (.bool true) ∧ Below w.heap.size w w' := by
  have hB0 := (Below.refl w.heap.size w).alloc (Nat.le_refl _) (.cells #[.int .i64 x.f, .int .i64 x.t, .int .i64 x.s, .int .i64 x.h, .int .i64 x.d] 25)
  have HB0 := Lib.hid hB0
  have HAW := Lib.hid (fun V (h : Below w.heap.size w V) => awake_of HS HLT V (HLT w V hH h))
  have hE0 := heap_alloc_new w (.cells #[.int .i64 x.f, .int .i64 x.t, .int .i64 x.s, .int .i64 x.h, .int .i64 x.d] 25)
  have HE0 := Lib.hid hE0
  by_cases h1 : 200 < n
  · have d0 : decide ((200 : Int) < (n : Int)) = true := decide_eq_true (by omega)
    have e0 : decide (200 < n) = true := decide_eq_true h1
    unfold lnV
    go_enter Tryd.func5, Tryd.ntmps5
    go_wp2_with fail
    refine (HAW.out _ HB0.out).mono ?_
    rintro e w1 ⟨rfl, hb1⟩
    go_wp2_with fail
    go_ret
    exact ⟨rfl, HB0.out.trans (hb1.mono HB0.out.size)⟩
  have d0 : decide ((200 : Int) < (n : Int)) = false := decide_eq_false (by omega)
  have e0 : decide (200 < n) = false := decide_eq_false h1
  have HSL := Lib.hid (fun al V (h : Below w.heap.size w V) => HS A B l lv n m c d x para W al V (HLT w V hH h) (hA.below h) (hB.below h) hl hm (by omega) hcn hdm hm63 (fun h => (hnA h).2) (fun h => (hnB h).2))
  obtain ⟨q3, q4, q2⟩ := ans_rows (x := x) (para := para) (W := W) hl hm
  have HS2 := Lib.hid (HSL.out 2)
  have HS3 := Lib.hid (HSL.out 3)
  have HS4 := Lib.hid (HSL.out 4)
  rw [q3] at HS3
  rw [q4] at HS4
  by_cases h0 : errP n m (ofC l).length x para W 2 = 0
  · obtain ⟨U, N, k, rfl, hk, hN1, hN2, hkN, hU, r2, r3, r4⟩ := q2 h0
    rw [h0, r2, rowU_len] at HS2
    rw [h0, r3, rowU_len] at HS3
    rw [h0, r4, rowU_len] at HS4
    rw [show 0 + U.length + (N - k) = N from by omega] at HS2
    rw [show (N - k) + U.length + 0 = N from by omega] at HS3
    rw [show (N - k) / 2 + U.length + (N - (N - k) / 2 - k) = N from by omega] at HS4
    have HR2 := Lib.hid (fun A V c (h : CuAt V A (rowU U 0 (N - k))) (h2 : N ≤ c) => bare_row A U 0 (N - k) N k c V h hU hk (by omega) hN1 (by omega) h2)
    have HR3 := Lib.hid (fun A V c (h : CuAt V A (rowU U (N - k) 0)) (h2 : N ≤ c) => bare_row A U (N - k) 0 N k c V h hU hk (by omega) hN1 (by omega) h2)
    have HR4 := Lib.hid (fun A V c (h : CuAt V A (rowU U ((N - k) / 2) (N - (N - k) / 2 - k))) (h2 : N ≤ c) => bare_row A U ((N - k) / 2) (N - (N - k) / 2 - k) N k c V h hU hk (by omega) hN1 (by omega) h2)
    have HK := Lib.hid hk
    clear q2 q3 q4 h0 r2 r3 r4 HSL hA hB hnA hnB hB0 hU HS hk
    generalize rowU U 0 (N - k) = S2 at *
    generalize rowU U (N - k) 0 = S3 at *
    generalize rowU U ((N - k) / 2) (N - (N - k) / 2 - k) = S4 at *
    obtain ⟨⟨b0, b1, b2, b3, b4⟩, _⟩ := cell5 hE0
    clear hE0
    unfold lnV at *
    go_enter Tryd.func5, Tryd.ntmps5
    go_wp2_with fail
    refine (HS2.out _ HB0.out).mono ?_
    rintro e w1 ⟨A1, c1, rfl, hcu, hle, hb⟩
    have HB1 := Lib.hid (HB0.out.trans (hb.mono HB0.out.size))
    have HX1 := Lib.hid (show w1.heap[w.heap.size]? = some (.cells #[.int .i64 x.f, .int .i64 x.t, .int .i64 x.s, .int .i64 x.h, .int .i64 x.d] 25 (0, 0)) from (hb.block w.heap.size (lt_of_block3 HE0.out)).trans HE0.out)
    have HC1 := Lib.hid hcu
    have HN1 := Lib.hid hle
    clear b0 b1 b2 b3 b4 hcu hle hb HS2 HE0
    obtain ⟨⟨b0, b1, b2, b3, b4⟩, _⟩ := cell5 HX1.out
    go_wp2_with fail
    refine (HS3.out _ HB1.out).mono ?_
    rintro e w2 ⟨A2, c2, rfl, hcu, hle, hb⟩
    have HB2 := Lib.hid (HB1.out.trans (hb.mono HB1.out.size))
    have HX2 := Lib.hid (show w2.heap[w.heap.size]? = some (.cells #[.int .i64 x.f, .int .i64 x.t, .int .i64 x.s, .int .i64 x.h, .int .i64 x.d] 25 (0, 0)) from (hb.block w.heap.size (lt_of_block3 HX1.out)).trans HX1.out)
    have HC2 := Lib.hid hcu
    have HN2 := Lib.hid hle
    have HC12 := Lib.hid (HC1.out.below hb)
    clear b0 b1 b2 b3 b4 hcu hle hb HS3 HX1 HC1
    obtain ⟨⟨b0, b1, b2, b3, b4⟩, _⟩ := cell5 HX2.out
    go_wp2_with fail
    refine (HS4.out _ HB2.out).mono ?_
    rintro e w3 ⟨A3, c3, rfl, hcu, hle, hb⟩
    have HB3 := Lib.hid (HB2.out.trans (hb.mono HB2.out.size))
    have HC3 := Lib.hid hcu
    have HN3 := Lib.hid hle
    have HC23 := Lib.hid (HC2.out.below hb)
    have HC13 := Lib.hid (HC12.out.below hb)
    clear b0 b1 b2 b3 b4 hcu hle hb HS4 HX2 HC2 HC12
    go_wp2_with fail
    refine (HR2.out _ _ _ HC13.out HN1.out).mono ?_
    rintro e w4 ⟨A4, c4, p, rfl, hcu, hp, hpn, hb⟩
    have HB4 := Lib.hid (HB3.out.trans (hb.mono HB3.out.size))
    have HU4 := Lib.hid hcu
    have HP := Lib.hid hp
    have HC24 := Lib.hid (HC23.out.below hb)
    have HC34 := Lib.hid (HC3.out.below hb)
    clear hcu hb hp HR2 HC13 HC23 HC3
    go_wp2_with fail
    refine (HR3.out _ _ _ HC24.out HN2.out).mono ?_
    rintro e w5 ⟨A5, c5, q, rfl, hcu, hp, hqn, hb⟩
    have HB5 := Lib.hid (HB4.out.trans (hb.mono HB4.out.size))
    have HU5 := Lib.hid hcu
    have HQ := Lib.hid hp
    have HU45 := Lib.hid (HU4.out.below hb)
    have HC35 := Lib.hid (HC34.out.below hb)
    clear hcu hb hp HR3 HC24 HC34 HU4
    go_wp2_with fail
    refine (HR4.out _ _ _ HC35.out HN3.out).mono ?_
    rintro e w6 ⟨A6, c6, r, rfl, hcu, hp, hrn, hb⟩
    have HB6 := Lib.hid (HB5.out.trans (hb.mono HB5.out.size))
    have HU6 := Lib.hid hcu
    have HR := Lib.hid hp
    have HU46 := Lib.hid (HU45.out.below hb)
    have HU56 := Lib.hid (HU5.out.below hb)
    clear hcu hb hp HR4 HC35 HU45 HU5
    go_wp2_with fail
    go_loopw [24] (fun s24 wx => ∃ j : Nat, j ≤ k ∧ s24 = .int .i64 j ∧ Below w6.heap.size w6 wx) (fun s24 _ => k - (RowKit.intOf s24).toNat)
    case atStart => exact ⟨0, Nat.zero_le _, rfl, Below.refl _ _⟩
    case round =>
      obtain ⟨j, hj, rfl, hbw⟩ := hrel
      by_cases hlt : j < k
      · have hjl : j < U.length := by rw [HK.out]; exact hlt
        obtain ⟨g, off, rfl, hg, c0, c1, c2, c3, c4, c5⟩ := (HU46.out.below hbw).at_ hjl
        obtain ⟨g', off', rfl, hg', d0, d1, d2, d3, d4, d5⟩ := (HU56.out.below hbw).at_ hjl
        obtain ⟨g'', off'', rfl, hg'', f0, f1, f2, f3, f4, f5⟩ := (HU6.out.below hbw).at_ hjl
        clear HU46 HU56 HU6 HK
        generalize U[j] = y at *
        go_wp2_with fail
        go_quiet (fail)
        go_wp2_with fail
        go_roundw
        case rel => exact ⟨j + 1, by omega, by go_num, hbw.trans ((Arr.below_drewN (Below.refl _ _) _).mono hbw.size)⟩
        case measure => simp [RowKit.intOf]; omega
      · obtain rfl : j = k := by omega
        have HB7 := Lib.hid (HB6.out.trans (hbw.mono HB6.out.size))
        clear hbw
        have k9 : decide ((j : Int) < (j : Int)) = false := decide_eq_false (by omega)
        rcases Nat.eq_zero_or_pos j with h0 | h0
        · subst h0
          clear HU46 HU56 HU6 HK HP HQ HR
          go_wp2_with fail
          refine (HAW.out _ HB7.out).mono ?_
          rintro e w7 ⟨rfl, hb⟩
          have HB8 := Lib.hid (HB7.out.trans (hb.mono HB7.out.size))
          clear hb
          go_wp2_with fail
          go_ret
          exact ⟨rfl, HB8.out⟩
        · have k8 : ((j : Int) == (0 : Int)) = false := beq_eq_false_iff_ne.2 (by omega)
          obtain rfl := HP.out (by omega)
          have hq := HQ.out (by omega)
          have hr := HR.out (by omega)
          obtain ⟨M, hM⟩ : ∃ M : Nat, N - j = M := ⟨_, rfl⟩
          obtain ⟨M2, hM2⟩ : ∃ M2 : Nat, M / 2 = M2 := ⟨_, rfl⟩
          obtain rfl : q = M := by omega
          obtain rfl : r = M2 := by omega
          have k7 : IntKind.i64.wrap ((N : Int) - (j : Int)) = (q : Int) := by rw [IntWalk.i64_in _ (by omega)]; omega
          have k6 : ((q : Int)).tdiv 2 = (r : Int) := by rw [Int.tdiv_eq_ediv_of_nonneg (by omega)]; omega
          have k5 : ((N : Int) - (j : Int)) = (q : Int) := by omega
          have k4 : IntKind.i64.wrap (r : Int) = (r : Int) := IntWalk.i64_in _ (by omega)
          have k3 : IntKind.i64.wrap (q : Int) = (q : Int) := IntWalk.i64_in _ (by omega)
          clear HU46 HU56 HU6 HK HP HQ HR hq hr hM hM2
          go_wp2_with fail
          refine (HAW.out _ HB7.out).mono ?_
          rintro e w7 ⟨rfl, hb⟩
          have HB8 := Lib.hid (HB7.out.trans (hb.mono HB7.out.size))
          clear hb
          go_wp2_with fail
          go_ret
          exact ⟨by first | rfl | simp, HB8.out⟩
  · have hn : ∀ al, errP n m (ofC l).length x para W al = errP n m (ofC l).length x para W 2 → ansP l lv x para W al = [] := fun al h => by unfold ansP; rw [hl, hm, h, if_neg h0]
    rw [hn 2 rfl] at HS2
    rw [hn 3 q3] at HS3
    rw [hn 4 q4] at HS4
    generalize errP n m (ofC l).length x para W 2 = er at *
    have k9 : (er == (0 : Int)) = false := beq_eq_false_iff_ne.2 h0
    have k8 : (er == er) = true := beq_iff_eq.2 rfl
    have k7 : (er != (0 : Int)) = true := bne_iff_ne.2 h0
    clear q2 q3 q4 hn HSL hA hB hnA hnB hB0 HS
    simp only [List.length_nil] at HS2 HS3 HS4
    obtain ⟨⟨b0, b1, b2, b3, b4⟩, _⟩ := cell5 hE0
    clear hE0
    unfold lnV at *
    go_enter Tryd.func5, Tryd.ntmps5
    go_wp2_with fail
    refine (HS2.out _ HB0.out).mono ?_
    rintro e w1 ⟨A1, c1, rfl, hcu, hle, hb⟩
    have HB1 := Lib.hid (HB0.out.trans (hb.mono HB0.out.size))
    have HX1 := Lib.hid (show w1.heap[w.heap.size]? = some (.cells #[.int .i64 x.f, .int .i64 x.t, .int .i64 x.s, .int .i64 x.h, .int .i64 x.d] 25 (0, 0)) from (hb.block w.heap.size (lt_of_block3 HE0.out)).trans HE0.out)
    have HC1 := Lib.hid hcu
    have HN1 := Lib.hid hle
    clear b0 b1 b2 b3 b4 hcu hle hb HS2 HE0
    obtain ⟨⟨b0, b1, b2, b3, b4⟩, _⟩ := cell5 HX1.out
    go_wp2_with fail
    refine (HS3.out _ HB1.out).mono ?_
    rintro e w2 ⟨A2, c2, rfl, hcu, hle, hb⟩
    have HB2 := Lib.hid (HB1.out.trans (hb.mono HB1.out.size))
    have HX2 := Lib.hid (show w2.heap[w.heap.size]? = some (.cells #[.int .i64 x.f, .int .i64 x.t, .int .i64 x.s, .int .i64 x.h, .int .i64 x.d] 25 (0, 0)) from (hb.block w.heap.size (lt_of_block3 HX1.out)).trans HX1.out)
    have HC2 := Lib.hid hcu
    have HN2 := Lib.hid hle
    have HC12 := Lib.hid (HC1.out.below hb)
    clear b0 b1 b2 b3 b4 hcu hle hb HS3 HX1 HC1
    obtain ⟨⟨b0, b1, b2, b3, b4⟩, _⟩ := cell5 HX2.out
    go_wp2_with fail
    refine (HS4.out _ HB2.out).mono ?_
    rintro e w3 ⟨A3, c3, rfl, hcu, hle, hb⟩
    have HB3 := Lib.hid (HB2.out.trans (hb.mono HB2.out.size))
    have HC3 := Lib.hid hcu
    have HN3 := Lib.hid hle
    have HC23 := Lib.hid (HC2.out.below hb)
    have HC13 := Lib.hid (HC12.out.below hb)
    clear b0 b1 b2 b3 b4 hcu hle hb HS4 HX2 HC2 HC12
    go_wp2_with fail
    refine (HAW.out _ HB3.out).mono ?_
    rintro e w7 ⟨rfl, hb⟩
    have HB8 := Lib.hid (HB3.out.trans (hb.mono HB3.out.size))
    clear hb
    go_wp2_with fail
    go_ret
    exact ⟨rfl, HB8.out⟩
end Go.Proofs.YtlocnjenkanmpaaDoor.Pl

/-
  Plainly: where all levels are 0 a line's text is its clusters in their order, each by its own sign. No program in it.
-/
set_option linter.unusedVariables false
namespace Go.Proofs.YtlocnjenkanmpaaDoor.Pl
open Go Go.Proofs.YtlocnjenkanmpaaDoor.Ku Go.Proofs.YtlocnjenkanmpaaDoor.Wr Go.Proofs.YtlocnjenkanmpaaDoor.Bi Go.Proofs.YtlocnjenkanmpaaDoor.Bo
theorem lineP_zero : ∀ (c l : List Int), (∀ z ∈ l, z = 0) → ∀ z ∈ lineP 0 c l, z = 0
  | [], _, _, z, hz => by simp [lineP] at hz
  | _ :: _, [], _, z, hz => by simp [lineP] at hz
  | c :: cs, l :: ls, h, z, hz => by
    unfold lineP at hz
    rcases List.mem_cons.1 hz with rfl | hz
    · split
      · rfl
      · exact h l (List.mem_cons_self)
    · exact lineP_zero cs ls (fun y hy => h y (List.mem_cons_of_mem _ hy)) z hz
theorem ownP_zero (l : List R3) (lv : List Int) (C : List C6) (x : L5) (h : ∀ z ∈ lv, z = 0) : ∀ z ∈ ownP l lv C x 0, z = 0 := by
  intro z hz
  unfold ownP lineZ at hz
  split at hz
  · exact lineP_zero _ _ (fun y hy => h y (List.mem_of_mem_drop (List.mem_of_mem_take hy))) z hz
  · simp at hz
theorem getD_zero {l : List Int} (h : ∀ z ∈ l, z = 0) (i : Nat) : l.getD i 0 = 0 := by
  rw [List.getD_eq_getElem?_getD]
  rcases Nat.lt_or_ge i l.length with hi | hi
  · rw [List.getElem?_eq_getElem hi]
    exact h _ (List.getElem_mem hi)
  · rw [List.getElem?_eq_none hi]
    rfl
/-- k clusters from f on, each by its own slots. -/
def blk0 (y : C6) : List C6 := blkK (y, 0) y.w.toNat
def rowK (C : List C6) (f : Nat) : Nat → List C6
  | 0 => []
  | k + 1 => rowK C f k ++ blk0 (C.getD (f + k) d6)
theorem shown_zero (c : Int) : shownP c 0 = c := by unfold shownP; rfl
theorem flat_seen (C : List C6) (own : List Int) (a f : Nat) (h : ∀ z ∈ own, z = 0) : ∀ k, (seenK C own a f k).flatMap blkP = rowK C f k
  | 0 => rfl
  | k + 1 => by
    unfold seenK rowK
    rw [List.flatMap_append, flat_seen C own a f h k, getD_zero h]
    congr 1
    by_cases hw : 0 < (C.getD (f + k) d6).w
    · rw [if_pos hw, List.flatMap_singleton]
      rfl
    · rw [if_neg hw]
      unfold blk0
      rw [show (C.getD (f + k) d6).w.toNat = 0 from by omega]
      rfl
theorem seen_zero (C : List C6) (own : List Int) (a f : Nat) (h : ∀ z ∈ own, z = 0) : ∀ k, ∀ y ∈ seenK C own a f k, y.2 = 0
  | 0, y, hy => by simp [seenK] at hy
  | k + 1, y, hy => by
    unfold seenK at hy
    rcases List.mem_append.1 hy with hy | hy
    · exact seen_zero C own a f h k y hy
    · split at hy
      · rw [List.mem_singleton] at hy
        rw [hy]
        exact getD_zero h _
      · simp at hy
theorem row_range (Y : List Sn) : rowP Y (List.range Y.length) = Y.flatMap blkP := by
  unfold rowP
  have : (List.range Y.length).map (fun j => Y.getD j sn0) = Y := by
    apply List.ext_getElem?
    intro i
    rw [List.getElem?_map]
    rcases Nat.lt_or_ge i Y.length with hi | hi
    · rw [List.getElem?_range hi, Option.map_some, List.getD_eq_getElem?_getD, List.getElem?_eq_getElem hi]
      rfl
    · rw [List.getElem?_eq_none (by simpa using hi), List.getElem?_eq_none hi]
      rfl
  conv => rhs; rw [← this]
  rw [List.flatMap_map]
/-- The text. -/
theorem text_zero (l : List R3) (lv : List Int) (C : List C6) (x : L5) (h : ∀ z ∈ lv, z = 0) (hd : x.d = 0) : textP (seenP l lv C x 0) x.d 0 = rowK C x.f.toNat (if x.f = x.t then 0 else x.s.toNat - x.f.toNat) := by
  have hz : ∀ y ∈ seenP l lv C x 0, y.2 = 0 := by
    unfold seenP
    split
    · intro y hy; simp at hy
    · exact seen_zero C _ _ _ (ownP_zero l lv C x h) _
  unfold textP ordP
  rw [order_plain (fun c hc => by
    obtain ⟨y, hy, rfl⟩ := List.mem_map.1 hc
    rw [hz y hy]
    exact Int.le_refl 0), List.length_map, row_range, if_neg (by omega), if_neg (by omega), List.nil_append, List.append_nil]
  unfold seenP
  split
  · rfl
  · exact flat_seen C _ _ _ (ownP_zero l lv C x h) _
theorem blk0_len (y : C6) : (blk0 y).length = y.w.toNat := by unfold blk0; exact blk_len _ _
theorem rowK_succ (C : List C6) (f k : Nat) : rowK C f (k + 1) = rowK C f k ++ blk0 (C.getD (f + k) d6) := rfl
theorem rowK_more (C : List C6) (f : Nat) {k m : Nat} (h : k ≤ m) : ∃ r, rowK C f m = rowK C f k ++ r := by
  induction m with
  | zero => obtain rfl : k = 0 := by omega
            exact ⟨[], by simp⟩
  | succ m ih =>
    rcases Nat.lt_or_ge m k with h1 | h1
    · obtain rfl : k = m + 1 := by omega
      exact ⟨[], by simp⟩
    · obtain ⟨r, hr⟩ := ih h1
      exact ⟨r ++ blk0 (C.getD (f + m) d6), by rw [rowK_succ, hr, List.append_assoc]⟩
/-- What stands at a place of a cluster's slots. -/
theorem rowK_at (C : List C6) (f : Nat) {k m j : Nat} (h : k < m) (hj : j < (C.getD (f + k) d6).w.toNat) : (rowK C f m)[(rowK C f k).length + j]? = some (txtS (C.getD (f + k) d6).a j (C.getD (f + k) d6).c) := by
  obtain ⟨r, hr⟩ := rowK_more C f (k := k + 1) (m := m) h
  rw [hr, rowK_succ, List.append_assoc, List.getElem?_append_right (by omega), Nat.add_sub_cancel_left, List.getElem?_append_left (by rw [blk0_len]; exact hj)]
  unfold blk0
  rw [blk_at _ _ _ hj]
  simp only [shown_zero]
/-- The answer: the first so many of the text, then pads. -/
theorem ans_zero {l : List R3} {lv : List Int} {n m : Nat} {x : L5} {W : Int} (hl : l.length = n) (hm : lv.length = m) (h : ∀ z ∈ lv, z = 0) (hd : x.d = 0) (he : errP n m (ofC l).length x 0 W 2 = 0) :
    ∃ (N f s t K : Nat), W = N ∧ 1 ≤ N ∧ N ≤ 1024 ∧ x.f = f ∧ x.s = s ∧ x.t = t ∧ f ≤ s ∧ s ≤ t ∧ t ≤ (ofC l).length ∧ K = s - f ∧ (ansP l lv x 0 W 2).length = N ∧
    (∀ k j, k < K → j < ((ofC l).getD (f + k) d6).w.toNat → (rowK (ofC l) f k).length + j < N → (ansP l lv x 0 W 2)[(rowK (ofC l) f k).length + j]? = some (txtS ((ofC l).getD (f + k) d6).a j ((ofC l).getD (f + k) d6).c)) ∧
    (∀ i, (rowK (ofC l) f K).length ≤ i → i < N → (ansP l lv x 0 W 2)[i]? = some padS) := by
  subst hl hm
  obtain ⟨_, _, w1, w2, _, f0, f1, f2, f3⟩ := errP_ok he
  obtain ⟨N, rfl⟩ : ∃ N : Nat, W = N := ⟨W.toNat, by omega⟩
  have hans : ansP l lv x 0 N 2 = (rowK (ofC l) x.f.toNat (x.s.toNat - x.f.toNat)).take N ++ List.replicate (N - ((rowK (ofC l) x.f.toNat (x.s.toNat - x.f.toNat)).take N).length) padS := by
    unfold ansP slotsP
    rw [if_pos he, Int.toNat_natCast, pad_parts, text_zero l lv (ofC l) x h hd]
    have : (if x.f = x.t then 0 else x.s.toNat - x.f.toNat) = x.s.toNat - x.f.toNat := by
      split
      · omega
      · rfl
    rw [this]
    simp [leftN]
  refine ⟨N, x.f.toNat, x.s.toNat, x.t.toNat, _, rfl, by omega, by omega, by omega, by omega, by omega, by omega, by omega, by omega, rfl, ?_, fun k j hk hj hN => ?_, fun i hi hN => ?_⟩
  · rw [hans, List.length_append, List.length_replicate, List.length_take]
    omega
  · have hat := rowK_at (ofC l) x.f.toNat hk hj
    obtain ⟨hlt, _⟩ := List.getElem?_eq_some_iff.1 hat
    rw [hans, List.getElem?_append_left (by rw [List.length_take]; omega), List.getElem?_take, if_pos hN]
    exact hat
  · rw [hans, List.getElem?_append_right (by rw [List.length_take]; omega), List.getElem?_replicate, if_pos (by rw [List.length_take]; omega)]
/-- The same, with a number for where each cluster's slots begin. -/
theorem ans_zeroP {l : List R3} {lv : List Int} {n m : Nat} {x : L5} {W : Int} (hl : l.length = n) (hm : lv.length = m) (h : ∀ z ∈ lv, z = 0) (hd : x.d = 0) (he : errP n m (ofC l).length x 0 W 2 = 0) :
    ∃ (N f s t : Nat) (P : Nat → Nat), W = N ∧ 1 ≤ N ∧ N ≤ 1024 ∧ x.f = f ∧ x.s = s ∧ x.t = t ∧ f ≤ s ∧ s ≤ t ∧ t ≤ (ofC l).length ∧ (ansP l lv x 0 W 2).length = N ∧ P f = 0 ∧ (∀ q, f ≤ q → P (q + 1) = P q + ((ofC l).getD q d6).w.toNat) ∧
    (∀ q j, f ≤ q → q < s → j < ((ofC l).getD q d6).w.toNat → P q + j < N → (ansP l lv x 0 W 2)[P q + j]? = some (txtS ((ofC l).getD q d6).a j ((ofC l).getD q d6).c)) ∧
    (∀ i, P s ≤ i → i < N → (ansP l lv x 0 W 2)[i]? = some padS) := by
  obtain ⟨N, f, s, t, K, h1, h2, h3, h4, h5, h6, h7, h8, h9, h10, h11, h12, h13⟩ := ans_zero hl hm h hd he
  subst h10
  refine ⟨N, f, s, t, fun q => (rowK (ofC l) f (q - f)).length, h1, h2, h3, h4, h5, h6, h7, h8, h9, h11, ?_, fun q hq => ?_, fun q j hq hs hj hN => ?_, h13⟩
  · show (rowK (ofC l) f (f - f)).length = 0
    rw [Nat.sub_self]
    rfl
  · show (rowK (ofC l) f (q + 1 - f)).length = (rowK (ofC l) f (q - f)).length + _
    rw [show q + 1 - f = q - f + 1 from by omega, rowK_succ, List.length_append, blk0_len, show f + (q - f) = q from by omega]
  · have := h12 (q - f) j (by omega)
    rw [show f + (q - f) = q from by omega] at this
    exact this hj hN
end Go.Proofs.YtlocnjenkanmpaaDoor.Pl

/-
  Proved here: what parquetrylaw19.PlacePlain returns for every row of runes, three bytes, a number: true, for any program of placing that keeps to the plain one (SlotsOk), any of clusters that finds the document's (OfOk). It leaves what was in memory.
-/
set_option linter.unusedVariables false
namespace Go.Proofs.YtlocnjenkanmpaaDoor.Pl
open Go Go.RowKit Go.Lib Go.Proofs.YtlocnjenkanmpaaDoor.Ku Go.Proofs.YtlocnjenkanmpaaDoor.Wr Go.Proofs.YtlocnjenkanmpaaDoor.Arr Go.Proofs.YtlocnjenkanmpaaDoor.Cl
set_option maxHeartbeats 8000000 in
set_option maxRecDepth 100000 in
theorem plain_law {H : World → Prop} (HS : SlotsOk H) (HOF : OfOk H) (HLT : Lasts H) (A : Option Addr) (l : List R3) (n c : Nat) (f s t W : Int) (w : World) (hH : H w) (hA : RuAt w A l) (hl : l.length = n) (hcn : n ≤ c) (hnA : A = none → l = [] ∧ c = 0) (hf : 0 ≤ f ∧ f ≤ 255) (hs : 0 ≤ s ∧ s ≤ 255) (ht : 0 ≤ t ∧ t ≤ 255) :
    Calls Tryd.prog 6 #[.slice A n c, .int .u8 f, .int .u8 s, .int .u8 t, .int .i64 W] w fun e w' => e = .returned (.bool true) ∧ Below w.heap.size w w' := by
  have HAW := Lib.hid (fun V (h : Below w.heap.size w V) => awake_of HS HLT V (HLT w V hH h))
  by_cases h1 : 200 < n
  · have d0 : decide ((200 : Int) < (n : Int)) = true := decide_eq_true (by omega)
    have e0 : decide (200 < n) = true := decide_eq_true h1
    go_enter Tryd.func6, Tryd.ntmps6
    go_wp2_with fail
    refine (HAW.out _ (Below.refl _ _)).mono ?_
    rintro e w1 ⟨rfl, hb1⟩
    go_wp2_with fail
    go_ret
    exact ⟨rfl, hb1⟩
  have d0 : decide ((200 : Int) < (n : Int)) = false := decide_eq_false (by omega)
  have e0 : decide (200 < n) = false := decide_eq_false h1
  obtain ⟨i0, hi, hz0, hz1, hz2⟩ := info_parts infoInt
  have HSL := Lib.hid (fun V (h : Below w.heap.size w V) B (hB : IntsAt V (some B) (List.replicate n 0)) => HS A (some B) l (List.replicate n 0) n n c n ⟨f, t, s, 0, 0⟩ 0 W 2 V (HLT w V hH h) (hA.below h) hB hl (by simp) (by omega) hcn (Nat.le_refl _) (by omega) (fun h => (hnA h).2) (fun h => by cases h))
  have HCU := Lib.hid (fun V (h : Below w.heap.size w V) => HOF A l n c V (HLT w V hH h) (hA.below h) hl (by omega))
  have hans := ans_zeroP (l := l) (lv := List.replicate n 0) (n := n) (m := n) (x := ⟨f, t, s, 0, 0⟩) (W := W) hl (by simp) (fun z hz => (List.mem_replicate.1 hz).2) rfl
  have HI := Lib.hid hi
  have HQ0 := Lib.hid hz0
  have HQ1 := Lib.hid hz1
  have HQ2 := Lib.hid hz2
  have hwf : IntKind.i64.wrap f = f := IntWalk.i64_in _ (by omega)
  have hws : IntKind.i64.wrap s = s := IntWalk.i64_in _ (by omega)
  have hwt : IntKind.i64.wrap t = t := IntWalk.i64_in _ (by omega)
  clear hA hnA hi hz0 hz1 hz2 HS HOF
  unfold lnV at *
  simp only at HSL
  by_cases h0 : errP n n (ofC l).length ⟨f, t, s, 0, 0⟩ 0 W 2 = 0
  · obtain ⟨N, f, s, t, P, rfl, hN1, hN2, rfl, rfl, rfl, q1, q2, q3, hSl, p0, p1, p2, p3⟩ := hans h0
    rw [h0] at HSL
    generalize ansP l (List.replicate n 0) ⟨(f : Int), (t : Int), (s : Int), 0, 0⟩ 0 N 2 = S at *
    rw [hSl] at HSL
    obtain ⟨cn, hcn2⟩ : ∃ cn, (ofC l).length = cn := ⟨_, rfl⟩
    rw [hcn2] at q3 HCU
    generalize ofC l = C at *
    have HP1 := Lib.hid p1
    have HP2 := Lib.hid p2
    have HP3 := Lib.hid p3
    have HLS := Lib.hid hSl
    have HLC := Lib.hid hcn2
    clear hans h0 p1 p2 p3 hSl hcn2
    go_enter Tryd.func6, Tryd.ntmps6
    go_wp2_with (refine wpList_make_full _ rfl _ _ 23 rfl w.heap.size 3 i0 (.int .i64 0) 1 Tryd.underlying23 HI.out HQ0.out HQ1.out .i64 .i64 _ _ n rfl rfl rfl rfl ?c1 ?c2 ?c3 ?_)
    case c1 => rw [HQ2.out]; omega
    case c2 => unfold maxLen; omega
    case c3 => exact Nat.le_refl _
    intro w1 hown hgr
    have hown1 : w1.ownsRow w.heap.size 3 1 (.slice (some ⟨w.heap.size, 0, none⟩) n n) n (icl (List.replicate n 0)) := by
      have h := hown
      rw [toList_madeCells_one] at h
      rw [show icl (List.replicate n 0) = List.replicate n (.int .i64 0) from by simp [icl]]
      exact h
    have hb1 : Below w.heap.size w w1 := (Below.refl _ _).grown hgr (Nat.le_refl _) (fun k h => by cases h)
    obtain ⟨A1, c1, hA1, hin1⟩ := intsAt_icl hown1 (by simp)
    injection hA1 with e1 e2 e3
    subst e1
    have HSL1 := Lib.hid (HSL.out w1 hb1 _ hin1)
    have HB1 := Lib.hid hb1
    clear hown hgr hown1 hb1 HI HQ0 HQ1 HQ2 HSL e2 e3 hin1
    go_wp2_with fail
    refine HSL1.out.mono ?_
    rintro e w2 ⟨A2, c2, rfl, hcu, hle, hb⟩
    have HB2 := Lib.hid (HB1.out.trans (hb.mono HB1.out.size))
    have HU2 := Lib.hid hcu
    clear hcu hle hb HSL1
    go_wp2_with fail
    refine (HCU.out _ HB2.out).mono ?_
    rintro e w3 ⟨A3, c3, rfl, hcl, hb⟩
    have HB3 := Lib.hid (HB2.out.trans (hb.mono HB2.out.size))
    have HU3 := Lib.hid (HU2.out.below hb)
    have HC3 := Lib.hid hcl
    clear hcl hb HU2 HCU
    have hdt : decide ((cn : Int) < (t : Int)) = false := decide_eq_false (by omega)
    go_wp2_with fail
    go_loopw [15, 16] (fun s15 s16 wx => ∃ q : Nat, f ≤ q ∧ q ≤ s ∧ s16 = .int .i64 q ∧ s15 = .int .i64 (min (P q) N : Nat) ∧ Below w3.heap.size w3 wx) (fun _ s16 _ => s - (RowKit.intOf s16).toNat)
    case atStart => exact ⟨f, Nat.le_refl _, q1, rfl, by rw [p0]; simp, Below.refl _ _⟩
    case round =>
      obtain ⟨q, hq, hqs, rfl, rfl, hbw⟩ := hrel
      obtain ⟨M, hM⟩ : ∃ M : Nat, min (P q) N = M := ⟨_, rfl⟩
      have HBW := Lib.hid hbw
      rw [hM]
      by_cases hlt : q < s
      · have hql : q < C.length := by rw [HLC.out]; omega
        have hp1 := HP1.out q hq
        have HX := Lib.hid (fun j => HP2.out q j hq hlt)
        rw [getD_at hql] at hp1 HX
        have HCA := Lib.hid (fun V (h : Below w3.heap.size w3 V) => (HC3.out.below h).at_ hql)
        generalize C[q] = y at *
        clear HP1 HP2 HP3 hql hbw
        go_wp2_with fail
        go_loopw [15, 17] (fun s15 s17 wx => ∃ j : Nat, j ≤ y.w.toNat ∧ s17 = .int .i64 j ∧ s15 = .int .i64 (min (P q + j) N : Nat) ∧ Below w3.heap.size w3 wx) (fun _ s17 _ => y.w.toNat - (RowKit.intOf s17).toNat)
        case atStart => exact ⟨0, Nat.zero_le _, rfl, by rw [Nat.add_zero, hM], HBW.out⟩
        case round =>
          clear HBW
          obtain ⟨j, hj, rfl, rfl, hbw⟩ := hrel
          have HBW := Lib.hid hbw
          obtain ⟨g, off, rfl, hg, c0, c1', c2', c3', c4, c5⟩ := HCA.out _ hbw
          rcases Nat.lt_or_ge j y.w.toNat with hjw | hjw
          · have k0 : (j : Int) < y.w := by omega
            rcases Nat.lt_or_ge (P q + j) N with hpn | hpn
            · have hx := HX.out j hjw hpn
              obtain ⟨hxl, hxe⟩ := List.getElem?_eq_some_iff.1 hx
              obtain ⟨g2, off2, rfl, hg2, d0', d1, d2, d3, d4, d5⟩ := (HU3.out.below hbw).at_ hxl
              rw [hxe] at d0' d1 d2 d3 d4 d5
              unfold txtS at *
              simp only at d0' d1 d2 d3 d4 d5
              rw [Nat.min_eq_left (by omega)]
              obtain ⟨u, hu⟩ : ∃ u, P q + j = u := ⟨_, rfl⟩
              rw [hu] at hpn d0' d1 d2 d3 d4 d5 ⊢
              have k1 : (u : Int) < (N : Int) := by omega
              have k2 : (0 : Int) ≤ (u : Int) := by omega
              have k3 : (0 : Int) ≤ (q : Int) := by omega
              have k4 : (q : Int) < (cn : Int) := by omega
              clear HX HU3 HCA hx hxl hxe
              generalize y.w = yw at *
              go_wp2_with fail
              go_quiet (fail)
              go_wp2_with fail
              go_roundw
              case rel => exact ⟨j + 1, by omega, by go_num, by rw [Nat.min_eq_left (by omega), ← Nat.add_assoc, hu]; go_num, HBW.out.trans ((Arr.below_drewN (Below.refl _ _) _).mono HBW.out.size)⟩
              case measure => simp [RowKit.intOf]; omega
            · rw [Nat.min_eq_right hpn]
              have hnx : min (P (q + 1)) N = N := by rw [hp1]; omega
              have k1 : decide ((N : Int) < (N : Int)) = false := decide_eq_false (by omega)
              have k3 : (0 : Int) ≤ (q : Int) := by omega
              have k4 : (q : Int) < (cn : Int) := by omega
              clear HX HU3 HCA hp1
              generalize y.w = yw at *
              go_wp2_with fail
              go_roundw
              case rel => exact ⟨q + 1, by omega, by omega, by go_num, by rw [hnx], HBW.out⟩
              case measure => simp [RowKit.intOf]; omega
          · have k0 : decide ((j : Int) < y.w) = false := decide_eq_false (by omega)
            rw [show P q + j = P (q + 1) from by omega]
            obtain ⟨M2, hM2⟩ : ∃ M2 : Nat, min (P (q + 1)) N = M2 := ⟨_, rfl⟩
            rw [hM2]
            have k3 : (0 : Int) ≤ (q : Int) := by omega
            have k4 : (q : Int) < (cn : Int) := by omega
            clear HX HU3 HCA hp1 hj hjw
            generalize y.w = yw at *
            go_wp2_with fail
            go_roundw
            case rel => exact ⟨q + 1, by omega, by omega, by go_num, by rw [hM2], HBW.out⟩
            case measure => simp [RowKit.intOf]; omega
      · obtain rfl : q = s := by omega
        have k0 : decide ((q : Int) < (q : Int)) = false := decide_eq_false (by omega)
        clear HP1 HP2 hbw
        go_wp2_with fail
        go_loopw [15] (fun s15 wx => ∃ i : Nat, M ≤ i ∧ i ≤ N ∧ s15 = .int .i64 i ∧ Below w3.heap.size w3 wx) (fun s15 _ => N - (RowKit.intOf s15).toNat)
        case atStart => exact ⟨M, Nat.le_refl _, by omega, rfl, HBW.out⟩
        case round =>
          clear HBW
          obtain ⟨i, hi, hiN, rfl, hbw⟩ := hrel
          have HBW := Lib.hid hbw
          rcases Nat.lt_or_ge i N with hlt2 | hlt2
          · have hx := HP3.out i (by omega) hlt2
            obtain ⟨hxl, hxe⟩ := List.getElem?_eq_some_iff.1 hx
            obtain ⟨g2, off2, rfl, hg2, d0', d1, d2, d3, d4, d5⟩ := (HU3.out.below hbw).at_ hxl
            rw [hxe] at d0' d1 d2 d3 d4 d5
            unfold padS at *
            simp only at d0' d1 d2 d3 d4 d5
            have k1 : (i : Int) < (N : Int) := by omega
            have k2 : (0 : Int) ≤ (i : Int) := by omega
            clear HP3 HU3 HC3 hx hxl hxe
            go_wp2_with fail
            go_roundw
            case rel => exact ⟨i + 1, by omega, by omega, by go_num, HBW.out⟩
            case measure => simp [RowKit.intOf]; omega
          · obtain rfl : i = N := by omega
            have k1 : decide ((i : Int) < (i : Int)) = false := decide_eq_false (by omega)
            have HB4 := Lib.hid (HB3.out.trans (HBW.out.mono HB3.out.size))
            clear HP3 HU3 HC3 hbw
            go_wp2_with fail
            refine (HAW.out _ HB4.out).mono ?_
            rintro e w7 ⟨rfl, hb⟩
            have HB8 := Lib.hid (HB4.out.trans (hb.mono HB4.out.size))
            clear hb
            go_wp2_with fail
            go_ret
            exact ⟨by first | rfl | simp, HB8.out⟩
  · generalize ansP l (List.replicate n 0) ⟨f, t, s, 0, 0⟩ 0 W 2 = S at *
    generalize errP n n (ofC l).length ⟨f, t, s, 0, 0⟩ 0 W 2 = er at *
    have k9 : (er != (0 : Int)) = true := bne_iff_ne.2 h0
    have k8 : (er == (0 : Int)) = false := beq_eq_false_iff_ne.2 h0
    clear hans HCU
    go_enter Tryd.func6, Tryd.ntmps6
    go_wp2_with (refine wpList_make_full _ rfl _ _ 23 rfl w.heap.size 3 i0 (.int .i64 0) 1 Tryd.underlying23 HI.out HQ0.out HQ1.out .i64 .i64 _ _ n rfl rfl rfl rfl ?c1 ?c2 ?c3 ?_)
    case c1 => rw [HQ2.out]; omega
    case c2 => unfold maxLen; omega
    case c3 => exact Nat.le_refl _
    intro w1 hown hgr
    have hown1 : w1.ownsRow w.heap.size 3 1 (.slice (some ⟨w.heap.size, 0, none⟩) n n) n (icl (List.replicate n 0)) := by
      have h := hown
      rw [toList_madeCells_one] at h
      rw [show icl (List.replicate n 0) = List.replicate n (.int .i64 0) from by simp [icl]]
      exact h
    have hb1 : Below w.heap.size w w1 := (Below.refl _ _).grown hgr (Nat.le_refl _) (fun k h => by cases h)
    obtain ⟨A1, c1, hA1, hin1⟩ := intsAt_icl hown1 (by simp)
    injection hA1 with e1 e2 e3
    subst e1
    have HSL1 := Lib.hid (HSL.out w1 hb1 _ hin1)
    have HB1 := Lib.hid hb1
    clear hown hgr hown1 hb1 HI HQ0 HQ1 HQ2 HSL e2 e3 hin1
    go_wp2_with fail
    refine HSL1.out.mono ?_
    rintro e w2 ⟨A2, c2, rfl, hcu, hle, hb⟩
    have HB2 := Lib.hid (HB1.out.trans (hb.mono HB1.out.size))
    clear hcu hle hb HSL1
    go_wp2_with fail
    refine (HAW.out _ HB2.out).mono ?_
    rintro e w7 ⟨rfl, hb⟩
    have HB8 := Lib.hid (HB2.out.trans (hb.mono HB2.out.size))
    clear hb
    go_wp2_with fail
    go_ret
    exact ⟨by first | rfl | simp, HB8.out⟩
end Go.Proofs.YtlocnjenkanmpaaDoor.Pl
