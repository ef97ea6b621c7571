/-
  Proved here: what clip.All returns: the first lines, clipped, the last one cut if lines are left out, in memory of its own; nothing and that a line may not be, if so. It leaves what was in memory.
-/
import Derived.Test.YtikjchebffohdaaCkPub
import Derived.Test.YtikjchebffohdaaAddInts
set_option linter.unusedVariables false
namespace Go.Proofs.Ytikjchebffohdaa.Ck
open Go Go.RowKit Go.Lib Go.Proofs.Ytikjchebffohdaa.Ku Go.Proofs.Ytikjchebffohdaa.Wr Go.Proofs.Ytikjchebffohdaa.Arr

def preP (l : List C6) (X : List L5) (w h : Int) (i : Nat) : List L5 := (List.range (min i (nP X.length h))).map fun j => oneP l X.length w h j (X.getD j ⟨0, 0, 0, 0, 0⟩)
theorem preP_all (l : List C6) (X : List L5) (w h : Int) : preP l X w h X.length = allP l X w h := by
  unfold preP allP
  rw [show min X.length (nP X.length h) = nP X.length h from by unfold nP; omega]
theorem preP_skip (l : List C6) (X : List L5) (w h : Int) {i : Nat} (hi : h ≤ (i : Int)) : preP l X w h (i + 1) = preP l X w h i := by
  unfold preP
  rw [show min (i + 1) (nP X.length h) = min i (nP X.length h) from by unfold nP; omega]
theorem preP_more (l : List C6) (X : List L5) (w h : Int) {i : Nat} (hi : (i : Int) < h) (hX : i < X.length) : preP l X w h (i + 1) = preP l X w h i ++ [oneP l X.length w h i X[i]] := by
  unfold preP
  rw [show min (i + 1) (nP X.length h) = i + 1 from by unfold nP; omega, show min i (nP X.length h) = i from by unfold nP; omega, List.range_succ, List.map_append, List.map_cons, List.map_nil, show X.getD i ⟨0, 0, 0, 0, 0⟩ = X[i] from by simp [List.getD, List.getElem?_eq_getElem hX]]
theorem preP_len (l : List C6) (X : List L5) (w h : Int) (i : Nat) : (preP l X w h i).length ≤ i := by
  unfold preP
  simp
  omega
theorem own_slice {w : World} {B n sz : Nat} {e : TypeId} {v : Value} {xs : List Value} (h : w.ownsRow B e sz v n xs) : ∃ A c, v = .slice A n c := by
  rcases h.2 with ⟨rfl, h0⟩ | ⟨g, cap, cur, rfl, _⟩
  · exact ⟨none, 0, by rw [h0]⟩
  · exact ⟨_, _, rfl⟩
/-- What All answers. -/
def allR (n : Nat) (l : List C6) (X : List L5) (w h : Int) : List L5 := if X.all (mayB n) = true then allP l X w h else []
def AllPost (n : Nat) (l : List C6) (X : List L5) (u h : Int) (w : World) (e : Ending) (w' : World) : Prop :=
  ∃ A' c', e = .returned (.tuple #[.slice A' (allR n l X u h).length c', .int .i64 (if X.all (mayB n) = true then 0 else 1)]) ∧ w'.ownsRow w.heap.size 24 5 (.slice A' (allR n l X u h).length c') (allR n l X u h).length (cellsL (allR n l X u h)) ∧ Below w.heap.size w w'

set_option maxHeartbeats 4000000 in
set_option maxRecDepth 100000 in
theorem all_any (A : Option Addr) (l : List C6) (n c : Nat) (X : List L5) (B : Option Addr) (m d : Nat) (u h : Int) (w : World) (hR : CuAt w A l) (hl : l.length = n) (hnil : A = none → c = 0) (hc : n ≤ c) (hn : n ≤ 1099511627776) (hu : u ≤ 9223372036854775807)
   (hX : LiAt w B X) (hXl : X.length = m) (hm : m ≤ 1048576) :
    Calls Try.prog 11 #[.slice A n c, .slice B m d, .int .i64 u, .int .i64 h] w (AllPost n l X u h w) := by
  obtain ⟨i0, hi, hz⟩ : ∃ i, Try.prog.info? 24 = some i ∧ (i.zero, i.size, i.bytes) = (some (.agg #[.int .i64 0, .int .i64 0, .int .i64 0, .int .i64 0, .int .i64 0]), 5, 40) := by
    have := infoL
    rw [Option.map_eq_some_iff] at this
    exact this
  simp only [Prod.mk.injEq] at hz
  obtain ⟨hz0, hz1, hz2⟩ := hz
  have HI := Lib.hid hi
  have HZ0 := Lib.hid hz0
  have HZ1 := Lib.hid hz1
  have HZ2 := Lib.hid hz2
  have HL := Lib.hid (fun (x : L5) W => look_any A n c x W)
  have HM := Lib.hid (fun (x : L5) W => may_any A n c x W hn)
  have HCLIP := Lib.hid (fun (x : L5) (hx : mayB n x = true) W (hb : Below w.heap.size w W) => lclip_any A l n c x u W (hR.below hb) hl hnil hc hn hu hx)
  have HCUT := Lib.hid (fun (x : L5) (hx : mayB n x = true) W (hb : Below w.heap.size w W) => lcut_any A l n c x u W (hR.below hb) hl hnil hc hn hu hx)
  have HX := Lib.hid hX
  have HXL := Lib.hid hXl
  have HP := Lib.hid (fun (i : Nat) => preP_skip l X u h (i := i))
  have HQ := Lib.hid (fun (i : Nat) => preP_more l X u h (i := i))
  have HEND := Lib.hid (preP_all l X u h)
  rw [hXl] at HEND
  have he1 := enters_clip
  have he2 := enters_cut
  clear hR hl hnil hc hn hu hX hXl hi hz0 hz1 hz2
  unfold lkV lnV at *
  go_enter Try.func11, Try.ntmps11
  go_wp2_with fail
  go_step3
  go_wp2_with fail
  go_step3
  go_wp2_with fail
  go_loopw [10, 11, 18] (fun s10 s11 s18 wx => ∃ (i k : Nat) (v : Value), i ≤ m ∧ s18 = .int .i64 i ∧ s11 = .int .i64 0 ∧ s10 = v ∧ (preP l X u h i).length = k ∧ k ≤ i ∧ (∀ j, j < i → mayB n (X.getD j ⟨0, 0, 0, 0, 0⟩) = true) ∧ wx.ownsRow w.heap.size 24 5 v k (cellsL (preP l X u h i)) ∧ Below w.heap.size w wx) (fun _ _ s18 _ => m - (RowKit.intOf s18).toNat)
  case atStart => exact ⟨0, 0, _, Nat.zero_le _, rfl, rfl, rfl, by simp [preP], Nat.le_refl _, fun j hj => absurd hj (by omega), World.ownsRow_nil _ _ _ _, Below.refl _ _⟩
  case round =>
    obtain ⟨i, k, v, him, rfl, rfl, rfl, hlen, hki, hall, hown, hb⟩ := hrel
    have HO := Lib.hid hown
    have HB := Lib.hid hb
    have HLEN := Lib.hid hlen
    have HALL := Lib.hid hall
    by_cases hlt : i < m
    · have hiX : i < X.length := by rw [HXL.out]; exact hlt
      have HPS := Lib.hid (HP.out i)
      have HPM := Lib.hid (fun hh => HQ.out i hh hiX)
      have hgd : X.getD i ⟨0, 0, 0, 0, 0⟩ = X[i] := by simp [List.getD, List.getElem?_eq_getElem hiX]
      have HGD := Lib.hid hgd
      obtain ⟨g, o, rfl, hg, c0, c1, c2, c3, c4⟩ := (HX.out.below hb).at_ hiX
      have HMEM := Lib.hid (fun (hq : X.all (mayB n) = true) => List.all_eq_true.1 hq _ (List.getElem_mem hiX))
      generalize X[i] = x at *
      have j0 : (0 : Int) ≤ (i : Int) := by omega
      have j1 : (i : Int) < (m : Int) := by omega
      have HB1 := Lib.hid (hb.alloc HB.out.size (.cells #[.int .i64 x.f, .int .i64 x.t, .int .i64 x.s, .int .i64 x.h, .int .i64 x.d] 24))
      have HO1 := Lib.hid (hown.alloc (.cells #[.int .i64 x.f, .int .i64 x.t, .int .i64 x.s, .int .i64 x.h, .int .i64 x.d] 24))
      clear hlen hall hown hb hgd HO
      go_wp2_with fail
      refine (HL.out x _).mono ?_
      rintro e w1 ⟨rfl, hb1⟩
      have HB2 := Lib.hid ((HB1.out.trans (hb1.mono HB1.out.size)).alloc (HB1.out.trans (hb1.mono HB1.out.size)).size (.cells #[.int .i64 x.f, .int .i64 x.t, .int .i64 x.s, .int .i64 x.h, .int .i64 x.d, .slice A n c] 40))
      have HO2 := Lib.hid ((Cl.ownsRow_below HO1.out hb1).alloc (.cells #[.int .i64 x.f, .int .i64 x.t, .int .i64 x.s, .int .i64 x.h, .int .i64 x.d, .slice A n c] 40))
      have HH := Lib.hid (heap_alloc_new w1 (.cells #[.int .i64 x.f, .int .i64 x.t, .int .i64 x.s, .int .i64 x.h, .int .i64 x.d, .slice A n c] 40))
      have hsz : w1.heap.size < (w1.alloc (.cells #[.int .i64 x.f, .int .i64 x.t, .int .i64 x.s, .int .i64 x.h, .int .i64 x.d, .slice A n c] 40)).heap.size := by rw [World.size_alloc]; omega
      have HSZ := Lib.hid hsz
      clear hb1 hsz HB1 HO1
      go_wp2_with fail
      refine (HM.out x _).mono ?_
      rintro e w2 ⟨rfl, hb2⟩
      have HB3 := Lib.hid (HB2.out.trans (hb2.mono HB2.out.size))
      have HO3 := Lib.hid (Cl.ownsRow_below HO2.out hb2)
      obtain ⟨⟨q0, q1, q2, q3, q4, q5⟩, -⟩ := six_cells ((hb2.block _ HSZ.out).trans HH.out)
      clear hb2 HB2 HO2 HH HSZ
      cases hmx : mayB n x with
      | false =>
        have HNO := Lib.hid (show X.all (mayB n) = false from by
          cases hq : X.all (mayB n) with
          | false => rfl
          | true => have := HMEM.out hq; rw [hmx] at this; cases this)
        go_wp2_with fail
        rw [Exit.noGoto_ret]
        go_ret2
        unfold AllPost allR
        rw [HNO.out]
        exact ⟨none, 0, rfl, World.ownsRow_nil _ _ _ _, HB3.out⟩
      | true =>
        have HALL2 := Lib.hid (fun (j : Nat) (hj : j < i + 1) => (show mayB n (X.getD j ⟨0, 0, 0, 0, 0⟩) = true from by
          by_cases hji : j = i
          · rw [hji, HGD.out]; exact hmx
          · exact HALL.out j (by omega)))
        by_cases hih : h ≤ (i : Int)
        · have k1 : decide ((i : Int) ≥ h) = true := decide_eq_true hih
          have HPRE := Lib.hid (HPS.out hih)
          clear hmx
          go_wp2_with fail
          exact ⟨⟨i + 1, k, _, by omega, by go_num, rfl, rfl, by rw [HPRE.out]; exact HLEN.out, by omega, HALL2.out, by rw [HPRE.out]; exact HO3.out, HB3.out⟩, by simp [RowKit.intOf]; omega⟩
        · have k1 : decide ((i : Int) ≥ h) = false := decide_eq_false hih
          have k1' : decide (h ≤ (i : Int)) = false := decide_eq_false hih
          have HPRE0 := Lib.hid (HPM.out (by omega))
          have HW1 := Lib.hid (HCLIP.out x hmx)
          have HW2 := Lib.hid (HCUT.out x hmx)
          clear hmx HPM HPS
          rw [HXL.out] at HPRE0
          unfold oneP at HPRE0
          have hb3s := HB3.out.size
          by_cases hlast : ((i : Int) + 1 = h ∧ h < (m : Int))
          · have HPRE := Lib.hid HPRE0.out
            rw [if_pos hlast] at HPRE
            have k2 : ((i : Int) + 1 == h) = true := beq_iff_eq.2 hlast.1
            have k3 : decide (h < (m : Int)) = true := decide_eq_true hlast.2
            generalize cutP l x u = y at *
            clear HW1 HPRE0 hlast
            go_wp2_with fail
            refine (HW2.out _ HB3.out).mono ?_
            rintro e w3 ⟨rfl, hb3⟩
            have HB4 := Lib.hid (HB3.out.trans (hb3.mono HB3.out.size))
            have HO4 := Lib.hid (Cl.ownsRow_below HO3.out hb3)
            have hs4 := HB4.out.size
            clear hb3 HB3 HO3
            go_wp2_with (at_builtin; refine wpList_append_own _ rfl _ _ 30 rfl w.heap.size 24 i0 (.agg #[.int .i64 0, .int .i64 0, .int .i64 0, .int .i64 0, .int .i64 0]) 5 40 Try.underlying30 HI.out HZ0.out HZ1.out HZ2.out rfl (by decide) _ _ _ rfl (HO4.out.alloc _) ⟨w3.heap.size, 0, none⟩ 1 1 [.int .i64 y.f, .int .i64 y.t, .int .i64 y.s, .int .i64 y.h, .int .i64 y.d] rfl rfl (line_news w3 y _) (line_one y) (by unfold maxLen; omega) (by omega) (by rw [World.size_alloc]; omega) ?_)
            intro v' w4 hown' hgrow _
            have HB5 := Lib.hid ((HB4.out.trans ((Cl.below_made w3 (.cells #[.int .i64 y.f, .int .i64 y.t, .int .i64 y.s, .int .i64 y.h, .int .i64 y.d] 24)).mono HB4.out.size)).grown hgrow (by rw [World.size_alloc]; omega) (fun q hq => (HO4.out.lt q hq).1))
            have HO5 := Lib.hid (show w4.ownsRow w.heap.size 24 5 v' (k + 1) (cellsL (preP l X u h (i + 1))) from by
              rw [HPRE.out, cellsL_snoc]
              exact hown')
            clear hown' hgrow
            go_wp2_with fail
            exact ⟨⟨i + 1, k + 1, v', by omega, by go_num, rfl, rfl, by rw [HPRE.out, List.length_append, HLEN.out]; rfl, by omega, HALL2.out, HO5.out, HB5.out⟩, by simp [RowKit.intOf]; omega⟩
          · have HPRE := Lib.hid HPRE0.out
            rw [if_neg hlast] at HPRE
            generalize clipP l x u = y at *
            clear HW2 HPRE0
            by_cases hq : (i : Int) + 1 = h
            · have k2 : ((i : Int) + 1 == h) = true := beq_iff_eq.2 hq
              have k3 : decide (h < (m : Int)) = false := decide_eq_false (fun hc => hlast ⟨hq, hc⟩)
              clear hlast hq
              go_wp2_with fail
              refine (HW1.out _ HB3.out).mono ?_
              rintro e w3 ⟨rfl, hb3⟩
              have HB4 := Lib.hid (HB3.out.trans (hb3.mono HB3.out.size))
              have HO4 := Lib.hid (Cl.ownsRow_below HO3.out hb3)
              have hs4 := HB4.out.size
              clear hb3 HB3 HO3
              go_wp2_with (at_builtin; refine wpList_append_own _ rfl _ _ 30 rfl w.heap.size 24 i0 (.agg #[.int .i64 0, .int .i64 0, .int .i64 0, .int .i64 0, .int .i64 0]) 5 40 Try.underlying30 HI.out HZ0.out HZ1.out HZ2.out rfl (by decide) _ _ _ rfl (HO4.out.alloc _) ⟨w3.heap.size, 0, none⟩ 1 1 [.int .i64 y.f, .int .i64 y.t, .int .i64 y.s, .int .i64 y.h, .int .i64 y.d] rfl rfl (line_news w3 y _) (line_one y) (by unfold maxLen; omega) (by omega) (by rw [World.size_alloc]; omega) ?_)
              intro v' w4 hown' hgrow _
              have HB5 := Lib.hid ((HB4.out.trans ((Cl.below_made w3 (.cells #[.int .i64 y.f, .int .i64 y.t, .int .i64 y.s, .int .i64 y.h, .int .i64 y.d] 24)).mono HB4.out.size)).grown hgrow (by rw [World.size_alloc]; omega) (fun q hq => (HO4.out.lt q hq).1))
              have HO5 := Lib.hid (show w4.ownsRow w.heap.size 24 5 v' (k + 1) (cellsL (preP l X u h (i + 1))) from by
                rw [HPRE.out, cellsL_snoc]
                exact hown')
              clear hown' hgrow
              go_wp2_with fail
              exact ⟨⟨i + 1, k + 1, v', by omega, by go_num, rfl, rfl, by rw [HPRE.out, List.length_append, HLEN.out]; rfl, by omega, HALL2.out, HO5.out, HB5.out⟩, by simp [RowKit.intOf]; omega⟩
            · have k2 : ((i : Int) + 1 == h) = false := beq_eq_false_iff_ne.2 hq
              clear hlast hq
              go_wp2_with fail
              refine (HW1.out _ HB3.out).mono ?_
              rintro e w3 ⟨rfl, hb3⟩
              have HB4 := Lib.hid (HB3.out.trans (hb3.mono HB3.out.size))
              have HO4 := Lib.hid (Cl.ownsRow_below HO3.out hb3)
              have hs4 := HB4.out.size
              clear hb3 HB3 HO3
              go_wp2_with (at_builtin; refine wpList_append_own _ rfl _ _ 30 rfl w.heap.size 24 i0 (.agg #[.int .i64 0, .int .i64 0, .int .i64 0, .int .i64 0, .int .i64 0]) 5 40 Try.underlying30 HI.out HZ0.out HZ1.out HZ2.out rfl (by decide) _ _ _ rfl (HO4.out.alloc _) ⟨w3.heap.size, 0, none⟩ 1 1 [.int .i64 y.f, .int .i64 y.t, .int .i64 y.s, .int .i64 y.h, .int .i64 y.d] rfl rfl (line_news w3 y _) (line_one y) (by unfold maxLen; omega) (by omega) (by rw [World.size_alloc]; omega) ?_)
              intro v' w4 hown' hgrow _
              have HB5 := Lib.hid ((HB4.out.trans ((Cl.below_made w3 (.cells #[.int .i64 y.f, .int .i64 y.t, .int .i64 y.s, .int .i64 y.h, .int .i64 y.d] 24)).mono HB4.out.size)).grown hgrow (by rw [World.size_alloc]; omega) (fun q hq => (HO4.out.lt q hq).1))
              have HO5 := Lib.hid (show w4.ownsRow w.heap.size 24 5 v' (k + 1) (cellsL (preP l X u h (i + 1))) from by
                rw [HPRE.out, cellsL_snoc]
                exact hown')
              clear hown' hgrow
              go_wp2_with fail
              exact ⟨⟨i + 1, k + 1, v', by omega, by go_num, rfl, rfl, by rw [HPRE.out, List.length_append, HLEN.out]; rfl, by omega, HALL2.out, HO5.out, HB5.out⟩, by simp [RowKit.intOf]; omega⟩
    · obtain rfl : i = m := by omega
      have HYES := Lib.hid (show X.all (mayB n) = true from List.all_eq_true.2 (fun x hx => by
        obtain ⟨j, hj, rfl⟩ := List.getElem_of_mem hx
        have := HALL.out j (by rw [← HXL.out]; exact hj)
        simpa [List.getD, List.getElem?_eq_getElem hj] using this))
      have j1 : decide ((i : Int) < (i : Int)) = false := decide_eq_false (by omega)
      clear hlen hall hown hb
      go_wp2_with fail
      rw [Exit.noGoto_ret]
      go_ret2
      unfold AllPost allR
      rw [HYES.out, if_pos rfl, if_pos rfl, ← HEND.out]
      obtain ⟨A', c', rfl⟩ := own_slice HO.out
      rw [HLEN.out]
      exact ⟨A', c', rfl, HO.out, HB.out⟩
end Go.Proofs.Ytikjchebffohdaa.Ck
