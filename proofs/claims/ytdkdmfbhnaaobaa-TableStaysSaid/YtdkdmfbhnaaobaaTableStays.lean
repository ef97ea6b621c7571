/-
  Proved here: for every records, TableStays returns true (what Fill, Trim and Turn answer for at most 60 records of 60 fields of 4000 bytes may be; filled again, trimmed again it is the same; a table that may be is filled as it is; trimmed, its last record and its last column have a text, where there are several), and the records stay. Without a condition.
-/
import Derived.Test.YtdkdmfbhnaaobaaTbMore
import Derived.Test.YtdkdmfbhnaaobaaTbRefW
import Derived.Test.YtdkdmfbhnaaobaaTbOpen
set_option linter.unusedVariables false
namespace Go.Proofs.Ytdkdmfbhnaaobaa.TableStays
open Go.ChangeShapes Go.WideShapes Go.ChangeAt Go.RowKit Go.Lib Go.Proofs.Ytdkdmfbhnaaobaa.Cv Go.Proofs.Ytdkdmfbhnaaobaa.Tb

theorem field_short {R : Rec} {n : Nat} (h : ∀ r ∈ R, ∀ x ∈ r, x.length ≤ n) (i k : Nat) : (fieldT R i k).length ≤ n := by
  by_cases hi : i < R.length
  · by_cases hk : k < R[i].length
    · rw [field_in hi hk]
      exact h _ (List.getElem_mem hi) _ (List.getElem_mem hk)
    · rw [field_wide hi (by omega)]
      simp
  · rw [field_off (by omega)]
    simp
theorem tab_short {h w n : Nat} {F : Nat → Nat → Bs} (hF : ∀ i k, (F i k).length ≤ n) : ∀ r ∈ tab h w F, ∀ x ∈ r, x.length ≤ n := by
  intro r hr x hx
  unfold tab at hr
  rw [List.mem_map] at hr
  obtain ⟨i, _, rfl⟩ := hr
  rw [List.mem_map] at hx
  obtain ⟨k, _, rfl⟩ := hx
  exact hF i k
structure Facts (R S : Rec) (h d : Nat) : Prop where
  h1 : 1 ≤ h
  d1 : 1 ≤ d
  len : S.length = h
  rows : ∀ i (hi : i < S.length), S[i].length = d
  at_ : ∀ i (hi : i < S.length) k (hk : k < S[i].length), S[i][k] = fieldT R i k
  row : h = 1 ∨ ∃ k, k < d ∧ fieldT R (h - 1) k ≠ []
  col : d = 1 ∨ ∃ a, a < h ∧ fieldT R a (d - 1) ≠ []
theorem facts_of (R : Rec) : Facts R (trimT R) (highT (cutT R)) (wideT (cutT R)) := by
  obtain ⟨r1, r2, r3⟩ := cut_rows R
  obtain ⟨c1, c2, c3⟩ := cut_cols R
  have hrow : ∀ i (hi : i < (trimT R).length), (trimT R)[i].length = wideT (cutT R) := fun i hi => fill_mem' hi
  refine ⟨r1, c1, trim_len R, hrow, fun i hi k hk => ?_, ?_, ?_⟩
  · rw [← field_in hi hk, trim_field]
  · rcases r3 with r3 | ⟨k, hk⟩
    · exact .inl r3
    · exact .inr ⟨k, c2 k ⟨_, hk⟩, hk⟩
  · rcases c3 with c3 | ⟨a, ha⟩
    · exact .inl c3
    · exact .inr ⟨a, r2 a ⟨_, ha⟩, ha⟩

set_option maxHeartbeats 8000000 in
set_option maxRecDepth 1000000 in
theorem walk (w : World) (A : Option Addr) (R : Rec) (c : Nat) (hA : RecsC w A R) (hl : R.length ≤ 140737488355328) (hr : ∀ r ∈ R, r.length ≤ 140737488355328) (hx : ∀ r ∈ R, ∀ x ∈ r, x.length ≤ 140737488355328) :
    Calls Try.prog 5 #[.slice A R.length c] w fun e w' => e = .returned (.bool true) ∧ Below w.heap.size w w' := by
  have HA := Lib.hid hA
  have HW := Lib.hid (toowide_any A R R.length c rfl w hA.recs hl hr hx)
  clear hA hl hr hx
  go_enter Try.func5, Try.ntmps5
  go_wp2_with fail
  refine HW.out.mono ?_
  rintro e w0 ⟨⟨b, rfl, hsm⟩, hw0⟩
  subst hw0
  cases b with
  | true =>
    clear hsm
    go_wp2_with fail
    refine (awake_any _).mono ?_
    rintro e w1 ⟨rfl, hb1⟩
    go_wp2
    go_ret
    exact ⟨rfl, hb1⟩
  | false =>
    have hS := hsm rfl
    have hnum := hS.num
    have hF := hS.few
    have HF := Lib.hid hF
    have hwd : widthT R ≤ 60 := width_le hS.rows
    have hsh : ∀ i k, (fieldT R i k).length ≤ 140737488355328 := fun i k => Nat.le_trans (field_short hS.each i k) (by omega)
    have FA := Lib.hid (facts_of R)
    have hh60 : highT (cutT R) ≤ 1000000 := hF.cut.high
    have hd60 : wideT (cutT R) ≤ 1000000 := hF.cut.wide
    have GF := Lib.hid (fun W h => fill_any A R R.length c rfl W h hF)
    have GT := Lib.hid (fun W h => trim_any A R R.length c rfl W h hF)
    have GU := Lib.hid (fun W h => turn_any A R R.length c rfl W h hF)
    have CF := Lib.hid (fun A' c' W h => check_any A' (fillT R) (fillT R).length c' rfl W h hF.fill (tab_short hsh))
    have CT := Lib.hid (fun A' c' W h => check_any A' (trimT R) (trimT R).length c' rfl W h hF.trim (by rw [trim_is]; exact tab_short hsh))
    have CU := Lib.hid (fun A' c' W h => check_any A' (turnT R) (turnT R).length c' rfl W h hF.turn (tab_short fun i k => hsh k i))
    have CL := Lib.hid (fun W h => check_any A R R.length c rfl W h hF fun r hr x hx => by have := hS.each r hr x hx; omega)
    have N1 := Lib.hid (show checkT (fillT R) ≠ 1 from may_tab _ (high_pos R) (wide_pos R))
    have N2 := Lib.hid (show checkT (trimT R) ≠ 1 from by rw [trim_is]; exact may_tab _ (high_pos _) (wide_pos _))
    have N3 := Lib.hid (show checkT (turnT R) ≠ 1 from may_tab _ (wide_pos R) (high_pos R))
    have N4 := Lib.hid (fun h => @fill_may R h)
    have GFF := Lib.hid (fun A' c' W h => fill_any A' (fillT R) (fillT R).length c' rfl W h hF.fill)
    have GTT := Lib.hid (fun A' c' W h => trim_any A' (trimT R) (trimT R).length c' rfl W h hF.trim)
    have GTF := Lib.hid (fun A' c' W h => trim_any A' (fillT R) (fillT R).length c' rfl W h hF.fill)
    rw [fill_fill] at GFF
    rw [trim_trim] at GTT
    rw [trim_fill] at GTF
    have F1 := Lib.hid hF.fill
    have F2 := Lib.hid hF.trim
    obtain ⟨k1, hk1⟩ : ∃ k, checkT (fillT R) = k := ⟨_, rfl⟩
    obtain ⟨k2, hk2⟩ : ∃ k, checkT (trimT R) = k := ⟨_, rfl⟩
    obtain ⟨k3, hk3⟩ : ∃ k, checkT (turnT R) = k := ⟨_, rfl⟩
    obtain ⟨k4, hk4⟩ : ∃ k, checkT R = k := ⟨_, rfl⟩
    rw [hk1] at CF N1
    rw [hk2] at CT N2
    rw [hk3] at CU N3
    rw [hk4] at CL N4
    have e1 : ((k1 : Int) == 1) = false := by rw [beq_eq_false_iff_ne]; have := N1.out; omega
    have e2 : ((k2 : Int) == 1) = false := by rw [beq_eq_false_iff_ne]; have := N2.out; omega
    have e3 : ((k3 : Int) == 1) = false := by rw [beq_eq_false_iff_ne]; have := N3.out; omega
    clear hk1 hk2 hk3 hk4
    generalize fillT R = S1 at *
    generalize trimT R = S2 at *
    generalize turnT R = S3 at *
    generalize highT (cutT R) = h at *
    generalize wideT (cutT R) = d at *
    have hh1 := FA.out.h1
    have hd1 := FA.out.d1
    have hdh : ((h : Int) == 0) = false := by rw [beq_eq_false_iff_ne]; omega
    have hdd : ((d : Int) == 0) = false := by rw [beq_eq_false_iff_ne]; omega
    have hT0 : 0 < S2.length := by rw [FA.out.len]; omega
    have HT0 := Lib.hid hT0
    have HTL := Lib.hid FA.out.len
    rw [FA.out.len] at CT GTT
    clear hsm hS HW hsh hF hT0
    go_wp2_with fail
    refine (GF.out w0 HA.out.recs).mono ?_
    rintro e w1 ⟨A1, c1, rfl, ht1, hb1⟩
    have B1 := Lib.hid hb1
    have T1 := Lib.hid ht1.recs
    have X1 := Lib.hid (GT.out w1 (HA.out.below hb1))
    clear ht1 hb1 GF GT
    go_wp2_with fail
    refine X1.out.mono ?_
    rintro e w2 ⟨A2, c2, rfl, ht2, hb2⟩
    rw [HTL.out]
    have B2 := Lib.hid (B1.out.trans (hb2.mono B1.out.size))
    have T1 := Lib.hid (T1.out.below hb2)
    have T2 := Lib.hid ht2.recs
    have X2 := Lib.hid (GU.out w2 (HA.out.below B2.out).recs)
    clear ht2 hb2 X1 B1 GU
    go_wp2_with fail
    refine X2.out.mono ?_
    rintro e w3 ⟨A3, c3, rfl, ht3, hb3⟩
    have B3 := Lib.hid (B2.out.trans (hb3.mono B2.out.size))
    have T1 := Lib.hid (T1.out.below hb3)
    have T2 := Lib.hid (T2.out.below hb3)
    have T3 := Lib.hid ht3.recs
    obtain ⟨g0, off0, A0, c0, rfl, hc0, -⟩ := first_at T2.out.recs HT0.out
    rw [FA.out.rows 0 HT0.out] at hc0
    have X3 := Lib.hid (CF.out A1 c1 w3 T1.out.recs)
    clear ht3 hb3 X2 B2 CF
    go_wp2_with fail
    refine X3.out.mono ?_
    rintro e w4 ⟨rfl, hb4⟩
    have B4 := Lib.hid (B3.out.trans (hb4.mono B3.out.size))
    have T1 := Lib.hid (T1.out.below hb4)
    have T2 := Lib.hid (T2.out.below hb4)
    have T3 := Lib.hid (T3.out.below hb4)
    have X4 := Lib.hid (CT.out _ c2 w4 T2.out.recs)
    clear hb4 X3 B3 hc0 CT
    go_wp2_with fail
    refine X4.out.mono ?_
    rintro e w5 ⟨rfl, hb5⟩
    have B5 := Lib.hid (B4.out.trans (hb5.mono B4.out.size))
    have T1 := Lib.hid (T1.out.below hb5)
    have T2 := Lib.hid (T2.out.below hb5)
    have T3 := Lib.hid (T3.out.below hb5)
    have X5 := Lib.hid (CU.out A3 c3 w5 T3.out.recs)
    clear hb5 X4 B4 CU
    go_wp2_with fail
    refine X5.out.mono ?_
    rintro e w6 ⟨rfl, hb6⟩
    have B6 := Lib.hid (B5.out.trans (hb6.mono B5.out.size))
    have T1 := Lib.hid (T1.out.below hb6)
    have T2 := Lib.hid (T2.out.below hb6)
    have X6 := Lib.hid (CL.out w6 (HA.out.below B6.out).recs)
    clear hb6 X5 B5 CL T3
    go_wp2_with fail
    refine X6.out.mono ?_
    rintro e w7 ⟨rfl, hb7⟩
    have B7 := Lib.hid (B6.out.trans (hb7.mono B6.out.size))
    have T1 := Lib.hid (T1.out.below hb7)
    have T2 := Lib.hid (T2.out.below hb7)
    clear hb7 X6 B6
    by_cases hk4 : k4 = 1
    · have e4 : ((k4 : Int) != 1) = false := by rw [bne_eq_false_iff_eq]; omega
      obtain ⟨w8, hw8⟩ : ∃ w8 : World, w8 = w7 := ⟨_, rfl⟩
      subst hw8
      have B8 := B7
      clear B7
      have X8 := Lib.hid (GFF.out A1 c1 w8 T1.out.recs)
      clear N1 N2 N3 N4 GFF
      go_wp2_with fail
      refine X8.out.mono ?_
      rintro e w9 ⟨A9, c9, rfl, ht9, hb9⟩
      have B9 := Lib.hid (B8.out.trans (hb9.mono B8.out.size))
      have T1 := Lib.hid (T1.out.below hb9)
      have T2 := Lib.hid (T2.out.below hb9)
      have X9 := Lib.hid (same_yes A9 A1 S1 S1 S1.length S1.length c9 c1 w9 rfl rfl ht9.recs.recs T1.out.recs F1.out rfl)
      clear ht9 hb9 X8 B8
      go_wp2_with fail
      refine X9.out.mono ?_
      rintro e w10 ⟨rfl, hb10⟩
      have B10 := Lib.hid (B9.out.trans (hb10.mono B9.out.size))
      have T1 := Lib.hid (T1.out.below hb10)
      have T2 := Lib.hid (T2.out.below hb10)
      have X10 := Lib.hid (GTT.out _ c2 w10 T2.out)
      clear hb10 X9 B9 GTT
      go_wp2_with fail
      refine X10.out.mono ?_
      rintro e w11 ⟨A11, c11, rfl, ht11, hb11⟩
      rw [HTL.out]
      have B11 := Lib.hid (B10.out.trans (hb11.mono B10.out.size))
      have T1 := Lib.hid (T1.out.below hb11)
      have T2 := Lib.hid (T2.out.below hb11)
      have X11 := Lib.hid (same_yes A11 _ S2 S2 h h c11 c2 w11 HTL.out.symm HTL.out.symm ht11.recs.recs T2.out.recs F2.out rfl)
      clear ht11 hb11 X10 B10
      go_wp2_with fail
      refine X11.out.mono ?_
      rintro e w12 ⟨rfl, hb12⟩
      have B12 := Lib.hid (B11.out.trans (hb12.mono B11.out.size))
      have T1 := Lib.hid (T1.out.below hb12)
      have T2 := Lib.hid (T2.out.below hb12)
      have X12 := Lib.hid (GTF.out A1 c1 w12 T1.out)
      clear hb12 X11 B11 GTF
      go_wp2_with fail
      refine X12.out.mono ?_
      rintro e w13 ⟨A13, c13, rfl, ht13, hb13⟩
      rw [HTL.out]
      have B13 := Lib.hid (B12.out.trans (hb13.mono B12.out.size))
      have T2 := Lib.hid (T2.out.below hb13)
      have X13 := Lib.hid (same_yes A13 _ S2 S2 h h c13 c2 w13 HTL.out.symm HTL.out.symm ht13.recs.recs T2.out.recs F2.out rfl)
      clear ht13 hb13 X12 B12 T1
      go_wp2_with fail
      refine X13.out.mono ?_
      rintro e w14 ⟨rfl, hb14⟩
      have B14 := Lib.hid (B13.out.trans (hb14.mono B13.out.size))
      have T2 := Lib.hid (T2.out.below hb14)
      obtain ⟨g1, off1, A1', c1', ea, hc1, -⟩ := first_at T2.out.recs HT0.out
      injection ea with ea
      injection ea with ea1 ea2 _
      subst ea1
      subst ea2
      rw [FA.out.rows 0 HT0.out] at hc1
      clear hb14 X13 B13
      go_wp2_with fail
      go_quiet (fail)
      have BD := Lib.hid (B14.out.trans ((drewN_below w14 nq).mono B14.out.size))
      have TD := Lib.hid (T2.out.below (drewN_below w14 nq))
      clear hc1 B14 T2
      generalize w14.drewN nq = w15 at *
      obtain ⟨rb, hrb⟩ : ∃ rb, ((h : Int) == 1) = rb := ⟨_, rfl⟩
      obtain ⟨cb, hcb⟩ : ∃ cb, ((d : Int) == 1) = cb := ⟨_, rfl⟩
      rw [hrb, hcb]
      have HRB := Lib.hid (show h = 1 → rb = true from fun e => by rw [← hrb, e]; rfl)
      have HCB := Lib.hid (show d = 1 → cb = true from fun e => by rw [← hcb, e]; rfl)
      clear hrb hcb
      go_wp2_with fail
      go_loop [6, 7, 8] (fun s6 s7 s8 => ∃ (i : Nat) (r q : Bool), i ≤ h ∧ s8 = .int .i64 i ∧ s6 = .bool r ∧ s7 = .bool q ∧ (h = 1 → r = true) ∧ (d = 1 → q = true) ∧ (i = h → ∀ k, k < d → fieldT R (h - 1) k ≠ [] → r = true) ∧ (∀ a, a < i → fieldT R a (d - 1) ≠ [] → q = true)) (fun _ _ s8 => h - (RowKit.intOf s8).toNat)
      case atStart => exact ⟨0, rb, cb, Nat.zero_le _, rfl, rfl, rfl, HRB.out, HCB.out, fun e => by omega, fun a ha => by omega⟩
      case round =>
        obtain ⟨i, r, q, hi, rfl, rfl, rfl, hr1, hq1, hr2, hq2⟩ := hrel
        have HR1 := Lib.hid hr1
        have HQ1 := Lib.hid hq1
        have HR2 := Lib.hid hr2
        have HQ2 := Lib.hid hq2
        clear hr1 hq1 hr2 hq2
        by_cases hli : i < h
        · have hi2 : i < S2.length := by rw [HTL.out]; exact hli
          obtain ⟨g5, off5, A5, c5, ea, hc5, -, hv5⟩ := TD.out.at_ hi2
          injection ea with ea
          injection ea with ea1 ea2 _
          subst ea1
          subst ea2
          have hrl := FA.out.rows i hi2
          have hat := FA.out.at_ i hi2
          obtain ⟨z, hz⟩ : ∃ z, S2[i] = z := ⟨_, rfl⟩
          rw [hrl] at hc5
          rw [hz] at hrl hv5
          have hat2 : ∀ k (hk : k < z.length), z[k] = fieldT R i k := fun k hk => by subst hz; exact hat k hk
          have HRL := Lib.hid hrl
          have HV := Lib.hid hv5
          have HAT := Lib.hid hat2
          have hdz : d - 1 < z.length := by rw [hrl]; omega
          obtain ⟨g6, off6, rfl, hc6⟩ := hv5.at_ (k := d - 1) (by rw [rowC_len]; exact hdz)
          have e6 : (rowC z)[d - 1]'(by rw [rowC_len]; exact hdz) = .string ⟨(fieldT R i (d - 1)).toArray⟩ := by
            rw [← hat2 _ hdz]
            simp [rowC, bx]
          rw [e6] at hc6
          have hbl := blank_iff (fieldT R i (d - 1))
          obtain ⟨X, hX⟩ : ∃ X : ByteArray, (⟨(fieldT R i (d - 1)).toArray⟩ : ByteArray) = X := ⟨_, rfl⟩
          rw [hX] at hc6 hbl
          obtain ⟨xe, hxe⟩ : ∃ xe, X.toList.isEmpty = xe := ⟨_, rfl⟩
          rw [hxe] at hbl
          have HBL := Lib.hid hbl
          clear hv5 hrl hat hat2 hz hdz e6 hX hbl hi2
          cases q with
          | true =>
            go_wp2_with fail
            go_loop [6, 10] (fun s6 s10 => ∃ (k : Nat) (r2 : Bool), k ≤ d ∧ s10 = .int .i64 k ∧ s6 = .bool r2 ∧ (h = 1 → r2 = true) ∧ (i + 1 = h → ∀ b, b < k → fieldT R (h - 1) b ≠ [] → r2 = true)) (fun _ s10 => d - (RowKit.intOf s10).toNat)
            case atStart => exact ⟨0, r, Nat.zero_le _, rfl, rfl, HR1.out, fun _ b hb => by omega⟩
            case round =>
              obtain ⟨k, r2, hk, rfl, rfl, hs1, hs2⟩ := hrel
              have HS1 := Lib.hid hs1
              have HS2 := Lib.hid hs2
              clear hs1 hs2
              by_cases hlk : k < d
              · have hkz : k < z.length := by rw [HRL.out]; exact hlk
                obtain ⟨g7, off7, ea, hc7⟩ := HV.out.at_ (k := k) (by rw [rowC_len]; exact hkz)
                injection ea with ea
                injection ea with ea1 ea2 _
                subst ea1
                subst ea2
                have e7 : (rowC z)[k]'(by rw [rowC_len]; exact hkz) = .string ⟨(fieldT R i k).toArray⟩ := by
                  rw [← HAT.out _ hkz]
                  simp [rowC, bx]
                rw [e7] at hc7
                have hbl2 := blank_iff (fieldT R i k)
                obtain ⟨Y, hY⟩ : ∃ Y : ByteArray, (⟨(fieldT R i k).toArray⟩ : ByteArray) = Y := ⟨_, rfl⟩
                rw [hY] at hc7 hbl2
                obtain ⟨ye, hye⟩ : ∃ ye, Y.toList.isEmpty = ye := ⟨_, rfl⟩
                rw [hye] at hbl2
                have HBL2 := Lib.hid hbl2
                clear e7 hY hbl2 hkz
                cases r2 with
                | true =>
                  go_wp2_with fail
                  go_round
                  case rel => exact ⟨k + 1, true, by omega, by go_num, rfl, fun _ => rfl, fun _ _ _ _ => rfl⟩
                  case measure => simp [RowKit.intOf]; omega
                | false =>
                  by_cases hlast : i + 1 = h
                  · have dl : ((i : Int) == (h : Int) - 1) = true := by rw [beq_iff_eq]; omega
                    cases ye with
                    | true =>
                      have HS3 := Lib.hid (show ∀ b, b < k + 1 → fieldT R (h - 1) b ≠ [] → false = true from fun b hb hne => by
                        by_cases e : b = k
                        · subst e
                          rw [show h - 1 = i by omega] at hne
                          exact absurd (HBL2.out.1 rfl) hne
                        · exact HS2.out hlast b (by omega) hne)
                      clear hlast
                      go_wp2_with fail
                      go_round
                      case rel => exact ⟨k + 1, false, by omega, by go_num, rfl, HS1.out, fun _ => HS3.out⟩
                      case measure => simp [RowKit.intOf]; omega
                    | false =>
                      clear hlast
                      go_wp2_with fail
                      go_round
                      case rel => exact ⟨k + 1, true, by omega, by go_num, rfl, fun _ => rfl, fun _ _ _ _ => rfl⟩
                      case measure => simp [RowKit.intOf]; omega
                  · have dl : ((i : Int) == (h : Int) - 1) = false := by rw [beq_eq_false_iff_ne]; omega
                    have HNL := Lib.hid hlast
                    clear hlast
                    go_wp2_with fail
                    go_round
                    case rel => exact ⟨k + 1, false, by omega, by go_num, rfl, HS1.out, fun e => absurd e HNL.out⟩
                    case measure => simp [RowKit.intOf]; omega
              · obtain rfl : d = k := by omega
                go_wp2_with fail
                go_round
                case rel => exact ⟨i + 1, r2, true, by omega, by go_num, rfl, rfl, HS1.out, fun _ => rfl, fun e => HS2.out e, fun _ _ _ => rfl⟩
                case measure => simp [RowKit.intOf]; omega
          | false =>
            cases xe with
            | true =>
              have HQ3 := Lib.hid (show ∀ a, a < i + 1 → fieldT R a (d - 1) ≠ [] → false = true from fun a ha hne => by
                by_cases e : a = i
                · subst e
                  exact absurd (HBL.out.1 rfl) hne
                · exact HQ2.out a (by omega) hne)
              go_wp2_with fail
              go_loop [6, 10] (fun s6 s10 => ∃ (k : Nat) (r2 : Bool), k ≤ d ∧ s10 = .int .i64 k ∧ s6 = .bool r2 ∧ (h = 1 → r2 = true) ∧ (i + 1 = h → ∀ b, b < k → fieldT R (h - 1) b ≠ [] → r2 = true)) (fun _ s10 => d - (RowKit.intOf s10).toNat)
              case atStart => exact ⟨0, r, Nat.zero_le _, rfl, rfl, HR1.out, fun _ b hb => by omega⟩
              case round =>
                obtain ⟨k, r2, hk, rfl, rfl, hs1, hs2⟩ := hrel
                have HS1 := Lib.hid hs1
                have HS2 := Lib.hid hs2
                clear hs1 hs2
                by_cases hlk : k < d
                · have hkz : k < z.length := by rw [HRL.out]; exact hlk
                  obtain ⟨g7, off7, ea, hc7⟩ := HV.out.at_ (k := k) (by rw [rowC_len]; exact hkz)
                  injection ea with ea
                  injection ea with ea1 ea2 _
                  subst ea1
                  subst ea2
                  have e7 : (rowC z)[k]'(by rw [rowC_len]; exact hkz) = .string ⟨(fieldT R i k).toArray⟩ := by
                    rw [← HAT.out _ hkz]
                    simp [rowC, bx]
                  rw [e7] at hc7
                  have hbl2 := blank_iff (fieldT R i k)
                  obtain ⟨Y, hY⟩ : ∃ Y : ByteArray, (⟨(fieldT R i k).toArray⟩ : ByteArray) = Y := ⟨_, rfl⟩
                  rw [hY] at hc7 hbl2
                  obtain ⟨ye, hye⟩ : ∃ ye, Y.toList.isEmpty = ye := ⟨_, rfl⟩
                  rw [hye] at hbl2
                  have HBL2 := Lib.hid hbl2
                  clear e7 hY hbl2 hkz
                  cases r2 with
                  | true =>
                    go_wp2_with fail
                    go_round
                    case rel => exact ⟨k + 1, true, by omega, by go_num, rfl, fun _ => rfl, fun _ _ _ _ => rfl⟩
                    case measure => simp [RowKit.intOf]; omega
                  | false =>
                    by_cases hlast : i + 1 = h
                    · have dl : ((i : Int) == (h : Int) - 1) = true := by rw [beq_iff_eq]; omega
                      cases ye with
                      | true =>
                        have HS3 := Lib.hid (show ∀ b, b < k + 1 → fieldT R (h - 1) b ≠ [] → false = true from fun b hb hne => by
                          by_cases e : b = k
                          · subst e
                            rw [show h - 1 = i by omega] at hne
                            exact absurd (HBL2.out.1 rfl) hne
                          · exact HS2.out hlast b (by omega) hne)
                        clear hlast
                        go_wp2_with fail
                        go_round
                        case rel => exact ⟨k + 1, false, by omega, by go_num, rfl, HS1.out, fun _ => HS3.out⟩
                        case measure => simp [RowKit.intOf]; omega
                      | false =>
                        clear hlast
                        go_wp2_with fail
                        go_round
                        case rel => exact ⟨k + 1, true, by omega, by go_num, rfl, fun _ => rfl, fun _ _ _ _ => rfl⟩
                        case measure => simp [RowKit.intOf]; omega
                    · have dl : ((i : Int) == (h : Int) - 1) = false := by rw [beq_eq_false_iff_ne]; omega
                      have HNL := Lib.hid hlast
                      clear hlast
                      go_wp2_with fail
                      go_round
                      case rel => exact ⟨k + 1, false, by omega, by go_num, rfl, HS1.out, fun e => absurd e HNL.out⟩
                      case measure => simp [RowKit.intOf]; omega
                · obtain rfl : d = k := by omega
                  go_wp2_with fail
                  go_round
                  case rel => exact ⟨i + 1, r2, false, by omega, by go_num, rfl, rfl, HS1.out, HQ1.out, fun e => HS2.out e, HQ3.out⟩
                  case measure => simp [RowKit.intOf]; omega
            | false =>
              go_wp2_with fail
              go_loop [6, 10] (fun s6 s10 => ∃ (k : Nat) (r2 : Bool), k ≤ d ∧ s10 = .int .i64 k ∧ s6 = .bool r2 ∧ (h = 1 → r2 = true) ∧ (i + 1 = h → ∀ b, b < k → fieldT R (h - 1) b ≠ [] → r2 = true)) (fun _ s10 => d - (RowKit.intOf s10).toNat)
              case atStart => exact ⟨0, r, Nat.zero_le _, rfl, rfl, HR1.out, fun _ b hb => by omega⟩
              case round =>
                obtain ⟨k, r2, hk, rfl, rfl, hs1, hs2⟩ := hrel
                have HS1 := Lib.hid hs1
                have HS2 := Lib.hid hs2
                clear hs1 hs2
                by_cases hlk : k < d
                · have hkz : k < z.length := by rw [HRL.out]; exact hlk
                  obtain ⟨g7, off7, ea, hc7⟩ := HV.out.at_ (k := k) (by rw [rowC_len]; exact hkz)
                  injection ea with ea
                  injection ea with ea1 ea2 _
                  subst ea1
                  subst ea2
                  have e7 : (rowC z)[k]'(by rw [rowC_len]; exact hkz) = .string ⟨(fieldT R i k).toArray⟩ := by
                    rw [← HAT.out _ hkz]
                    simp [rowC, bx]
                  rw [e7] at hc7
                  have hbl2 := blank_iff (fieldT R i k)
                  obtain ⟨Y, hY⟩ : ∃ Y : ByteArray, (⟨(fieldT R i k).toArray⟩ : ByteArray) = Y := ⟨_, rfl⟩
                  rw [hY] at hc7 hbl2
                  obtain ⟨ye, hye⟩ : ∃ ye, Y.toList.isEmpty = ye := ⟨_, rfl⟩
                  rw [hye] at hbl2
                  have HBL2 := Lib.hid hbl2
                  clear e7 hY hbl2 hkz
                  cases r2 with
                  | true =>
                    go_wp2_with fail
                    go_round
                    case rel => exact ⟨k + 1, true, by omega, by go_num, rfl, fun _ => rfl, fun _ _ _ _ => rfl⟩
                    case measure => simp [RowKit.intOf]; omega
                  | false =>
                    by_cases hlast : i + 1 = h
                    · have dl : ((i : Int) == (h : Int) - 1) = true := by rw [beq_iff_eq]; omega
                      cases ye with
                      | true =>
                        have HS3 := Lib.hid (show ∀ b, b < k + 1 → fieldT R (h - 1) b ≠ [] → false = true from fun b hb hne => by
                          by_cases e : b = k
                          · subst e
                            rw [show h - 1 = i by omega] at hne
                            exact absurd (HBL2.out.1 rfl) hne
                          · exact HS2.out hlast b (by omega) hne)
                        clear hlast
                        go_wp2_with fail
                        go_round
                        case rel => exact ⟨k + 1, false, by omega, by go_num, rfl, HS1.out, fun _ => HS3.out⟩
                        case measure => simp [RowKit.intOf]; omega
                      | false =>
                        clear hlast
                        go_wp2_with fail
                        go_round
                        case rel => exact ⟨k + 1, true, by omega, by go_num, rfl, fun _ => rfl, fun _ _ _ _ => rfl⟩
                        case measure => simp [RowKit.intOf]; omega
                    · have dl : ((i : Int) == (h : Int) - 1) = false := by rw [beq_eq_false_iff_ne]; omega
                      have HNL := Lib.hid hlast
                      clear hlast
                      go_wp2_with fail
                      go_round
                      case rel => exact ⟨k + 1, false, by omega, by go_num, rfl, HS1.out, fun e => absurd e HNL.out⟩
                      case measure => simp [RowKit.intOf]; omega
                · obtain rfl : d = k := by omega
                  go_wp2_with fail
                  go_round
                  case rel => exact ⟨i + 1, r2, true, by omega, by go_num, rfl, rfl, HS1.out, fun _ => rfl, fun e => HS2.out e, fun _ _ _ => rfl⟩
                  case measure => simp [RowKit.intOf]; omega
        · obtain rfl : h = i := by omega
          have hrt : r = true := by
            rcases FA.out.row with e | ⟨k, hk, hne⟩
            · exact HR1.out e
            · exact HR2.out rfl k hk hne
          have hqt : q = true := by
            rcases FA.out.col with e | ⟨a, ha, hne⟩
            · exact HQ1.out e
            · exact HQ2.out a ha hne
          subst hrt
          subst hqt
          go_wp2_with fail
          refine (awake_any _).mono ?_
          rintro e w99 ⟨rfl, hb99⟩
          go_wp2
          go_ret
          exact ⟨rfl, BD.out.trans (hb99.mono BD.out.size)⟩
    · have e4 : ((k4 : Int) != 1) = true := by rw [bne_iff_ne]; omega
      have hfr := N4.out hk4
      have X7 := Lib.hid (same_yes A1 A S1 R S1.length R.length c1 c w7 rfl rfl T1.out.recs (HA.out.below B7.out).recs F1.out hfr)
      clear hfr
      go_wp2_with fail
      refine X7.out.mono ?_
      rintro e w8 ⟨rfl, hb8⟩
      have B8 := Lib.hid (B7.out.trans (hb8.mono B7.out.size))
      have T1 := Lib.hid (T1.out.below hb8)
      have T2 := Lib.hid (T2.out.below hb8)
      clear hb8 X7 B7
      have X8 := Lib.hid (GFF.out A1 c1 w8 T1.out.recs)
      clear N1 N2 N3 N4 GFF
      go_wp2_with fail
      refine X8.out.mono ?_
      rintro e w9 ⟨A9, c9, rfl, ht9, hb9⟩
      have B9 := Lib.hid (B8.out.trans (hb9.mono B8.out.size))
      have T1 := Lib.hid (T1.out.below hb9)
      have T2 := Lib.hid (T2.out.below hb9)
      have X9 := Lib.hid (same_yes A9 A1 S1 S1 S1.length S1.length c9 c1 w9 rfl rfl ht9.recs.recs T1.out.recs F1.out rfl)
      clear ht9 hb9 X8 B8
      go_wp2_with fail
      refine X9.out.mono ?_
      rintro e w10 ⟨rfl, hb10⟩
      have B10 := Lib.hid (B9.out.trans (hb10.mono B9.out.size))
      have T1 := Lib.hid (T1.out.below hb10)
      have T2 := Lib.hid (T2.out.below hb10)
      have X10 := Lib.hid (GTT.out _ c2 w10 T2.out)
      clear hb10 X9 B9 GTT
      go_wp2_with fail
      refine X10.out.mono ?_
      rintro e w11 ⟨A11, c11, rfl, ht11, hb11⟩
      rw [HTL.out]
      have B11 := Lib.hid (B10.out.trans (hb11.mono B10.out.size))
      have T1 := Lib.hid (T1.out.below hb11)
      have T2 := Lib.hid (T2.out.below hb11)
      have X11 := Lib.hid (same_yes A11 _ S2 S2 h h c11 c2 w11 HTL.out.symm HTL.out.symm ht11.recs.recs T2.out.recs F2.out rfl)
      clear ht11 hb11 X10 B10
      go_wp2_with fail
      refine X11.out.mono ?_
      rintro e w12 ⟨rfl, hb12⟩
      have B12 := Lib.hid (B11.out.trans (hb12.mono B11.out.size))
      have T1 := Lib.hid (T1.out.below hb12)
      have T2 := Lib.hid (T2.out.below hb12)
      have X12 := Lib.hid (GTF.out A1 c1 w12 T1.out)
      clear hb12 X11 B11 GTF
      go_wp2_with fail
      refine X12.out.mono ?_
      rintro e w13 ⟨A13, c13, rfl, ht13, hb13⟩
      rw [HTL.out]
      have B13 := Lib.hid (B12.out.trans (hb13.mono B12.out.size))
      have T2 := Lib.hid (T2.out.below hb13)
      have X13 := Lib.hid (same_yes A13 _ S2 S2 h h c13 c2 w13 HTL.out.symm HTL.out.symm ht13.recs.recs T2.out.recs F2.out rfl)
      clear ht13 hb13 X12 B12 T1
      go_wp2_with fail
      refine X13.out.mono ?_
      rintro e w14 ⟨rfl, hb14⟩
      have B14 := Lib.hid (B13.out.trans (hb14.mono B13.out.size))
      have T2 := Lib.hid (T2.out.below hb14)
      obtain ⟨g1, off1, A1', c1', ea, hc1, -⟩ := first_at T2.out.recs HT0.out
      injection ea with ea
      injection ea with ea1 ea2 _
      subst ea1
      subst ea2
      rw [FA.out.rows 0 HT0.out] at hc1
      clear hb14 X13 B13
      go_wp2_with fail
      go_quiet (fail)
      have BD := Lib.hid (B14.out.trans ((drewN_below w14 nq).mono B14.out.size))
      have TD := Lib.hid (T2.out.below (drewN_below w14 nq))
      clear hc1 B14 T2
      generalize w14.drewN nq = w15 at *
      obtain ⟨rb, hrb⟩ : ∃ rb, ((h : Int) == 1) = rb := ⟨_, rfl⟩
      obtain ⟨cb, hcb⟩ : ∃ cb, ((d : Int) == 1) = cb := ⟨_, rfl⟩
      rw [hrb, hcb]
      have HRB := Lib.hid (show h = 1 → rb = true from fun e => by rw [← hrb, e]; rfl)
      have HCB := Lib.hid (show d = 1 → cb = true from fun e => by rw [← hcb, e]; rfl)
      clear hrb hcb
      go_wp2_with fail
      go_loop [6, 7, 8] (fun s6 s7 s8 => ∃ (i : Nat) (r q : Bool), i ≤ h ∧ s8 = .int .i64 i ∧ s6 = .bool r ∧ s7 = .bool q ∧ (h = 1 → r = true) ∧ (d = 1 → q = true) ∧ (i = h → ∀ k, k < d → fieldT R (h - 1) k ≠ [] → r = true) ∧ (∀ a, a < i → fieldT R a (d - 1) ≠ [] → q = true)) (fun _ _ s8 => h - (RowKit.intOf s8).toNat)
      case atStart => exact ⟨0, rb, cb, Nat.zero_le _, rfl, rfl, rfl, HRB.out, HCB.out, fun e => by omega, fun a ha => by omega⟩
      case round =>
        obtain ⟨i, r, q, hi, rfl, rfl, rfl, hr1, hq1, hr2, hq2⟩ := hrel
        have HR1 := Lib.hid hr1
        have HQ1 := Lib.hid hq1
        have HR2 := Lib.hid hr2
        have HQ2 := Lib.hid hq2
        clear hr1 hq1 hr2 hq2
        by_cases hli : i < h
        · have hi2 : i < S2.length := by rw [HTL.out]; exact hli
          obtain ⟨g5, off5, A5, c5, ea, hc5, -, hv5⟩ := TD.out.at_ hi2
          injection ea with ea
          injection ea with ea1 ea2 _
          subst ea1
          subst ea2
          have hrl := FA.out.rows i hi2
          have hat := FA.out.at_ i hi2
          obtain ⟨z, hz⟩ : ∃ z, S2[i] = z := ⟨_, rfl⟩
          rw [hrl] at hc5
          rw [hz] at hrl hv5
          have hat2 : ∀ k (hk : k < z.length), z[k] = fieldT R i k := fun k hk => by subst hz; exact hat k hk
          have HRL := Lib.hid hrl
          have HV := Lib.hid hv5
          have HAT := Lib.hid hat2
          have hdz : d - 1 < z.length := by rw [hrl]; omega
          obtain ⟨g6, off6, rfl, hc6⟩ := hv5.at_ (k := d - 1) (by rw [rowC_len]; exact hdz)
          have e6 : (rowC z)[d - 1]'(by rw [rowC_len]; exact hdz) = .string ⟨(fieldT R i (d - 1)).toArray⟩ := by
            rw [← hat2 _ hdz]
            simp [rowC, bx]
          rw [e6] at hc6
          have hbl := blank_iff (fieldT R i (d - 1))
          obtain ⟨X, hX⟩ : ∃ X : ByteArray, (⟨(fieldT R i (d - 1)).toArray⟩ : ByteArray) = X := ⟨_, rfl⟩
          rw [hX] at hc6 hbl
          obtain ⟨xe, hxe⟩ : ∃ xe, X.toList.isEmpty = xe := ⟨_, rfl⟩
          rw [hxe] at hbl
          have HBL := Lib.hid hbl
          clear hv5 hrl hat hat2 hz hdz e6 hX hbl hi2
          cases q with
          | true =>
            go_wp2_with fail
            go_loop [6, 10] (fun s6 s10 => ∃ (k : Nat) (r2 : Bool), k ≤ d ∧ s10 = .int .i64 k ∧ s6 = .bool r2 ∧ (h = 1 → r2 = true) ∧ (i + 1 = h → ∀ b, b < k → fieldT R (h - 1) b ≠ [] → r2 = true)) (fun _ s10 => d - (RowKit.intOf s10).toNat)
            case atStart => exact ⟨0, r, Nat.zero_le _, rfl, rfl, HR1.out, fun _ b hb => by omega⟩
            case round =>
              obtain ⟨k, r2, hk, rfl, rfl, hs1, hs2⟩ := hrel
              have HS1 := Lib.hid hs1
              have HS2 := Lib.hid hs2
              clear hs1 hs2
              by_cases hlk : k < d
              · have hkz : k < z.length := by rw [HRL.out]; exact hlk
                obtain ⟨g7, off7, ea, hc7⟩ := HV.out.at_ (k := k) (by rw [rowC_len]; exact hkz)
                injection ea with ea
                injection ea with ea1 ea2 _
                subst ea1
                subst ea2
                have e7 : (rowC z)[k]'(by rw [rowC_len]; exact hkz) = .string ⟨(fieldT R i k).toArray⟩ := by
                  rw [← HAT.out _ hkz]
                  simp [rowC, bx]
                rw [e7] at hc7
                have hbl2 := blank_iff (fieldT R i k)
                obtain ⟨Y, hY⟩ : ∃ Y : ByteArray, (⟨(fieldT R i k).toArray⟩ : ByteArray) = Y := ⟨_, rfl⟩
                rw [hY] at hc7 hbl2
                obtain ⟨ye, hye⟩ : ∃ ye, Y.toList.isEmpty = ye := ⟨_, rfl⟩
                rw [hye] at hbl2
                have HBL2 := Lib.hid hbl2
                clear e7 hY hbl2 hkz
                cases r2 with
                | true =>
                  go_wp2_with fail
                  go_round
                  case rel => exact ⟨k + 1, true, by omega, by go_num, rfl, fun _ => rfl, fun _ _ _ _ => rfl⟩
                  case measure => simp [RowKit.intOf]; omega
                | false =>
                  by_cases hlast : i + 1 = h
                  · have dl : ((i : Int) == (h : Int) - 1) = true := by rw [beq_iff_eq]; omega
                    cases ye with
                    | true =>
                      have HS3 := Lib.hid (show ∀ b, b < k + 1 → fieldT R (h - 1) b ≠ [] → false = true from fun b hb hne => by
                        by_cases e : b = k
                        · subst e
                          rw [show h - 1 = i by omega] at hne
                          exact absurd (HBL2.out.1 rfl) hne
                        · exact HS2.out hlast b (by omega) hne)
                      clear hlast
                      go_wp2_with fail
                      go_round
                      case rel => exact ⟨k + 1, false, by omega, by go_num, rfl, HS1.out, fun _ => HS3.out⟩
                      case measure => simp [RowKit.intOf]; omega
                    | false =>
                      clear hlast
                      go_wp2_with fail
                      go_round
                      case rel => exact ⟨k + 1, true, by omega, by go_num, rfl, fun _ => rfl, fun _ _ _ _ => rfl⟩
                      case measure => simp [RowKit.intOf]; omega
                  · have dl : ((i : Int) == (h : Int) - 1) = false := by rw [beq_eq_false_iff_ne]; omega
                    have HNL := Lib.hid hlast
                    clear hlast
                    go_wp2_with fail
                    go_round
                    case rel => exact ⟨k + 1, false, by omega, by go_num, rfl, HS1.out, fun e => absurd e HNL.out⟩
                    case measure => simp [RowKit.intOf]; omega
              · obtain rfl : d = k := by omega
                go_wp2_with fail
                go_round
                case rel => exact ⟨i + 1, r2, true, by omega, by go_num, rfl, rfl, HS1.out, fun _ => rfl, fun e => HS2.out e, fun _ _ _ => rfl⟩
                case measure => simp [RowKit.intOf]; omega
          | false =>
            cases xe with
            | true =>
              have HQ3 := Lib.hid (show ∀ a, a < i + 1 → fieldT R a (d - 1) ≠ [] → false = true from fun a ha hne => by
                by_cases e : a = i
                · subst e
                  exact absurd (HBL.out.1 rfl) hne
                · exact HQ2.out a (by omega) hne)
              go_wp2_with fail
              go_loop [6, 10] (fun s6 s10 => ∃ (k : Nat) (r2 : Bool), k ≤ d ∧ s10 = .int .i64 k ∧ s6 = .bool r2 ∧ (h = 1 → r2 = true) ∧ (i + 1 = h → ∀ b, b < k → fieldT R (h - 1) b ≠ [] → r2 = true)) (fun _ s10 => d - (RowKit.intOf s10).toNat)
              case atStart => exact ⟨0, r, Nat.zero_le _, rfl, rfl, HR1.out, fun _ b hb => by omega⟩
              case round =>
                obtain ⟨k, r2, hk, rfl, rfl, hs1, hs2⟩ := hrel
                have HS1 := Lib.hid hs1
                have HS2 := Lib.hid hs2
                clear hs1 hs2
                by_cases hlk : k < d
                · have hkz : k < z.length := by rw [HRL.out]; exact hlk
                  obtain ⟨g7, off7, ea, hc7⟩ := HV.out.at_ (k := k) (by rw [rowC_len]; exact hkz)
                  injection ea with ea
                  injection ea with ea1 ea2 _
                  subst ea1
                  subst ea2
                  have e7 : (rowC z)[k]'(by rw [rowC_len]; exact hkz) = .string ⟨(fieldT R i k).toArray⟩ := by
                    rw [← HAT.out _ hkz]
                    simp [rowC, bx]
                  rw [e7] at hc7
                  have hbl2 := blank_iff (fieldT R i k)
                  obtain ⟨Y, hY⟩ : ∃ Y : ByteArray, (⟨(fieldT R i k).toArray⟩ : ByteArray) = Y := ⟨_, rfl⟩
                  rw [hY] at hc7 hbl2
                  obtain ⟨ye, hye⟩ : ∃ ye, Y.toList.isEmpty = ye := ⟨_, rfl⟩
                  rw [hye] at hbl2
                  have HBL2 := Lib.hid hbl2
                  clear e7 hY hbl2 hkz
                  cases r2 with
                  | true =>
                    go_wp2_with fail
                    go_round
                    case rel => exact ⟨k + 1, true, by omega, by go_num, rfl, fun _ => rfl, fun _ _ _ _ => rfl⟩
                    case measure => simp [RowKit.intOf]; omega
                  | false =>
                    by_cases hlast : i + 1 = h
                    · have dl : ((i : Int) == (h : Int) - 1) = true := by rw [beq_iff_eq]; omega
                      cases ye with
                      | true =>
                        have HS3 := Lib.hid (show ∀ b, b < k + 1 → fieldT R (h - 1) b ≠ [] → false = true from fun b hb hne => by
                          by_cases e : b = k
                          · subst e
                            rw [show h - 1 = i by omega] at hne
                            exact absurd (HBL2.out.1 rfl) hne
                          · exact HS2.out hlast b (by omega) hne)
                        clear hlast
                        go_wp2_with fail
                        go_round
                        case rel => exact ⟨k + 1, false, by omega, by go_num, rfl, HS1.out, fun _ => HS3.out⟩
                        case measure => simp [RowKit.intOf]; omega
                      | false =>
                        clear hlast
                        go_wp2_with fail
                        go_round
                        case rel => exact ⟨k + 1, true, by omega, by go_num, rfl, fun _ => rfl, fun _ _ _ _ => rfl⟩
                        case measure => simp [RowKit.intOf]; omega
                    · have dl : ((i : Int) == (h : Int) - 1) = false := by rw [beq_eq_false_iff_ne]; omega
                      have HNL := Lib.hid hlast
                      clear hlast
                      go_wp2_with fail
                      go_round
                      case rel => exact ⟨k + 1, false, by omega, by go_num, rfl, HS1.out, fun e => absurd e HNL.out⟩
                      case measure => simp [RowKit.intOf]; omega
                · obtain rfl : d = k := by omega
                  go_wp2_with fail
                  go_round
                  case rel => exact ⟨i + 1, r2, false, by omega, by go_num, rfl, rfl, HS1.out, HQ1.out, fun e => HS2.out e, HQ3.out⟩
                  case measure => simp [RowKit.intOf]; omega
            | false =>
              go_wp2_with fail
              go_loop [6, 10] (fun s6 s10 => ∃ (k : Nat) (r2 : Bool), k ≤ d ∧ s10 = .int .i64 k ∧ s6 = .bool r2 ∧ (h = 1 → r2 = true) ∧ (i + 1 = h → ∀ b, b < k → fieldT R (h - 1) b ≠ [] → r2 = true)) (fun _ s10 => d - (RowKit.intOf s10).toNat)
              case atStart => exact ⟨0, r, Nat.zero_le _, rfl, rfl, HR1.out, fun _ b hb => by omega⟩
              case round =>
                obtain ⟨k, r2, hk, rfl, rfl, hs1, hs2⟩ := hrel
                have HS1 := Lib.hid hs1
                have HS2 := Lib.hid hs2
                clear hs1 hs2
                by_cases hlk : k < d
                · have hkz : k < z.length := by rw [HRL.out]; exact hlk
                  obtain ⟨g7, off7, ea, hc7⟩ := HV.out.at_ (k := k) (by rw [rowC_len]; exact hkz)
                  injection ea with ea
                  injection ea with ea1 ea2 _
                  subst ea1
                  subst ea2
                  have e7 : (rowC z)[k]'(by rw [rowC_len]; exact hkz) = .string ⟨(fieldT R i k).toArray⟩ := by
                    rw [← HAT.out _ hkz]
                    simp [rowC, bx]
                  rw [e7] at hc7
                  have hbl2 := blank_iff (fieldT R i k)
                  obtain ⟨Y, hY⟩ : ∃ Y : ByteArray, (⟨(fieldT R i k).toArray⟩ : ByteArray) = Y := ⟨_, rfl⟩
                  rw [hY] at hc7 hbl2
                  obtain ⟨ye, hye⟩ : ∃ ye, Y.toList.isEmpty = ye := ⟨_, rfl⟩
                  rw [hye] at hbl2
                  have HBL2 := Lib.hid hbl2
                  clear e7 hY hbl2 hkz
                  cases r2 with
                  | true =>
                    go_wp2_with fail
                    go_round
                    case rel => exact ⟨k + 1, true, by omega, by go_num, rfl, fun _ => rfl, fun _ _ _ _ => rfl⟩
                    case measure => simp [RowKit.intOf]; omega
                  | false =>
                    by_cases hlast : i + 1 = h
                    · have dl : ((i : Int) == (h : Int) - 1) = true := by rw [beq_iff_eq]; omega
                      cases ye with
                      | true =>
                        have HS3 := Lib.hid (show ∀ b, b < k + 1 → fieldT R (h - 1) b ≠ [] → false = true from fun b hb hne => by
                          by_cases e : b = k
                          · subst e
                            rw [show h - 1 = i by omega] at hne
                            exact absurd (HBL2.out.1 rfl) hne
                          · exact HS2.out hlast b (by omega) hne)
                        clear hlast
                        go_wp2_with fail
                        go_round
                        case rel => exact ⟨k + 1, false, by omega, by go_num, rfl, HS1.out, fun _ => HS3.out⟩
                        case measure => simp [RowKit.intOf]; omega
                      | false =>
                        clear hlast
                        go_wp2_with fail
                        go_round
                        case rel => exact ⟨k + 1, true, by omega, by go_num, rfl, fun _ => rfl, fun _ _ _ _ => rfl⟩
                        case measure => simp [RowKit.intOf]; omega
                    · have dl : ((i : Int) == (h : Int) - 1) = false := by rw [beq_eq_false_iff_ne]; omega
                      have HNL := Lib.hid hlast
                      clear hlast
                      go_wp2_with fail
                      go_round
                      case rel => exact ⟨k + 1, false, by omega, by go_num, rfl, HS1.out, fun e => absurd e HNL.out⟩
                      case measure => simp [RowKit.intOf]; omega
                · obtain rfl : d = k := by omega
                  go_wp2_with fail
                  go_round
                  case rel => exact ⟨i + 1, r2, true, by omega, by go_num, rfl, rfl, HS1.out, fun _ => rfl, fun e => HS2.out e, fun _ _ _ => rfl⟩
                  case measure => simp [RowKit.intOf]; omega
        · obtain rfl : h = i := by omega
          have hrt : r = true := by
            rcases FA.out.row with e | ⟨k, hk, hne⟩
            · exact HR1.out e
            · exact HR2.out rfl k hk hne
          have hqt : q = true := by
            rcases FA.out.col with e | ⟨a, ha, hne⟩
            · exact HQ1.out e
            · exact HQ2.out a ha hne
          subst hrt
          subst hqt
          go_wp2_with fail
          refine (awake_any _).mono ?_
          rintro e w99 ⟨rfl, hb99⟩
          go_wp2
          go_ret
          exact ⟨rfl, BD.out.trans (hb99.mono BD.out.size)⟩

set_option maxRecDepth 100000 in
theorem lifted (os : Os) (started : os.Started) (H : Type) (enc : TypeId × Value → H) :
    ReturnsInHanded {} Try.checked os 5 .any (Rows.tableStaysSpec.pre6 enc Try.prog Try.f5 Rows.tableStaysRow.domain false) (Rows.tableStaysSpec.post enc Try.prog Try.f5 false true false false) := by
  refine returns_w started (by kernel_rfl) Try.func5 (ChangeSpec.witness6 (enc := enc) (C := Try.checked) false ⟨#[], #[.slice none 0 0], []⟩ 8 (by kernel_rfl) (by kernel_rfl) (by kernel_rfl) (by kernel_rfl)) rfl rfl (by kernel_rfl) ?_ ?_
  · intro ds hds
    rw [show Try.f5.params.toList.length = 1 from by kernel_rfl] at hds
    match ds, hds with
    | [d0], _ => rfl
  intro W base args ds p hval hA hwe
  rw [Try.params5] at hA hval hwe
  obtain ⟨v0, vs0, d0, ds0, p0, q0, hargs, rfl, rfl, h0, r0⟩ := ChangeShapes.trodAll_cons hA
  obtain ⟨rfl, rfl, rfl⟩ := ChangeShapes.trodAll_nil r0
  obtain rfl : args = #[v0] := by cases args; simp_all
  obtain ⟨A0, R0, c0, rfl, hr0, -, hl0, hrl0, hxl0⟩ := open_recsC (hval 0 22 v0 rfl rfl) h0 (hwe 0 _ _ rfl rfl)
  exact walk W A0 R0 c0 hr0 hl0 hrl0 hxl0

theorem holds : Rows.TableStaysSaid :=
  OpenClaim.holds_of_wide 5 Try.f5 rfl rfl rfl rfl rfl rfl rfl ⟨rfl, rfl, rfl, rfl, rfl⟩ rfl rfl rfl rfl rfl (by kernel_rfl) Try.func5 (by kernel_rfl)
    (of_decide_eq_true (by kernel_rfl)) (by unfold Func.isWrapper; first | (rw [if_pos (by decide +kernel)]; kernel_rfl) | (rw [if_neg (by decide +kernel)]; exact ⟨rfl, rfl⟩))
    (fun os started H enc _ => lifted os started H enc)
end Go.Proofs.Ytdkdmfbhnaaobaa.TableStays
