/-
  Several texts in one, each with its own remark: BiRes, WkPlain, MiPlain, PrPlain, PrSettle, NePlain.
-/
import Derived.KernelRfl
import Derived.Test.YtfclpecbnailgaaGreatM2
import Derived.Test.YtfclpecbnailgaaGreatRows

/-
  A paragraph's levels, plainly: what is written for each sequence, place by place; what is left has the level ahead; that what stands in an isolate changes no level around it, where so few stand ahead that it is open. No program in it.
-/
set_option linter.unusedVariables false
namespace Go.Proofs.YtfclpecbnailgaaGreat.Bi
open Go Go.Proofs.YtfclpecbnailgaaGreat.Ba Go.Proofs.YtfclpecbnailgaaGreat.Lv Go.Proofs.YtfclpecbnailgaaGreat.Sq
/-- A list's items at places. -/
def pick (l : List Int) (p : List Nat) : List Int := p.map fun i => l.getD i 0
theorem pick_len (l : List Int) (p : List Nat) : (pick l p).length = p.length := by simp [pick]
/-- A row written at places. -/
def putR (o : List Int) : List Nat → List Int → List Int
  | i :: p, x :: d => putR (o.set i x) p d
  | _, _ => o
theorem putR_len : ∀ (p : List Nat) (d o : List Int), (putR o p d).length = o.length
  | [], _, _ => by simp [putR]
  | _ :: _, [], _ => by simp [putR]
  | i :: p, x :: d, o => by rw [putR, putR_len p d]; simp
theorem putR_not : ∀ (p : List Nat) (d o : List Int) {i : Nat}, i ∉ p → (putR o p d)[i]? = o[i]?
  | [], _, _, _, _ => by simp [putR]
  | _ :: _, [], _, _, _ => by simp [putR]
  | j :: p, x :: d, o, i, h => by
    rw [putR, putR_not p d _ (fun hm => h (by simp [hm])), List.getElem?_set_ne (fun e => h (by simp [e]))]
theorem putR_at : ∀ (p : List Nat) (d o : List Int) {k : Nat}, p.Nodup → (hk : k < p.length) → d.length = p.length → p[k] < o.length → (putR o p d)[p[k]]? = d[k]?
  | [], _, _, _, _, hk, _, _ => by simp at hk
  | _ :: _, [], _, _, _, _, hl, _ => by simp at hl
  | j :: p, x :: d, o, 0, hn, hk, hl, hb => by
    have hj := (List.nodup_cons.1 hn).1
    show (putR (o.set j x) p d)[j]? = some x
    rw [putR_not p d _ hj, List.getElem?_set_self (show j < o.length from hb)]
  | j :: p, x :: d, o, k + 1, hn, hk, hl, hb => by
    have hk2 : k < p.length := by simpa using hk
    show (putR (o.set j x) p d)[p[k]]? = d[k]?
    exact putR_at p d _ (List.nodup_cons.1 hn).2 hk2 (by simpa using hl) (by rw [List.length_set]; exact hb)
/-- What is answered for a sequence: of three numbers, and the rows told, of codes, of classes at its places. -/
abbrev Rule := Int → Int → Int → List Int → List Int → List Int → List Int
def rowP (F : Rule) (told codes own : List Int) (s : S4) : List Int := F s.a s.b s.c (pick told s.p) (pick codes s.p) (pick own s.p)
def outP (F : Rule) (told codes own z : List Int) (T : List S4) : List Int := T.foldl (fun o s => putR o s.p (rowP F told codes own s)) z
/-- What has no level has that of what stands ahead. -/
def fillP (last : Int) : List Int → List Int
  | [] => []
  | x :: r => (if x < 0 then last else x) :: fillP (if x < 0 then last else x) r
theorem fill_len : ∀ (l : List Int) (a : Int), (fillP a l).length = l.length
  | [], _ => rfl
  | x :: r, a => by simp [fillP, fill_len r]
def toldB (c : List Int) (b : Nat) : List Int := (explL c b).map (·.2)
theorem told_len (c : List Int) (b : Nat) : (toldB c b).length = c.length := by simp [toldB, explL_len]
def resP (F : Rule) (c codes : List Int) (b : Nat) (T : List S4) : List Int := fillP b (outP F (toldB c b) codes c (zB c b) T)
theorem fold_len (F : Rule) (told codes own : List Int) : ∀ (T : List S4) (z : List Int), (outP F told codes own z T).length = z.length
  | [], z => rfl
  | s :: T, z => by
    show (outP F told codes own (putR z s.p _) T).length = _
    rw [fold_len F told codes own T, putR_len]
theorem fold_not (F : Rule) (told codes own : List Int) {i : Nat} : ∀ (T : List S4) (z : List Int), (∀ s ∈ T, i ∉ s.p) → (outP F told codes own z T)[i]? = z[i]?
  | [], z, _ => rfl
  | s :: T, z, h => by
    show (outP F told codes own (putR z s.p _) T)[i]? = _
    rw [fold_not F told codes own T _ (fun t ht => h t (by simp [ht])), putR_not _ _ _ (h s (by simp))]
theorem fold_at (F : Rule) (hF : ∀ a b c x y u, (F a b c x y u).length = x.length) (told codes own : List Int) {s : S4} {k : Nat} (hk : k < s.p.length) (hn : s.p.Nodup) :
    ∀ (T : List S4) (z : List Int) (j : Nat), T[j]? = some s → (∀ (i : Nat) (t : S4), T[i]? = some t → s.p[k] ∈ t.p → i = j) → s.p[k] < z.length → (outP F told codes own z T)[s.p[k]]? = (rowP F told codes own s)[k]?
  | [], z, j, h, _, _ => by simp at h
  | t :: T, z, 0, h, hu, hb => by
    have h' : t = s := by simpa using h
    subst h'
    show (outP F told codes own (putR z t.p _) T)[t.p[k]]? = _
    rw [fold_not F told codes own T _ (fun u hu2 hm => ?_), putR_at _ _ _ hn hk (by unfold rowP; rw [hF, pick_len]) hb]
    obtain ⟨i, hi⟩ := List.getElem?_of_mem hu2
    have := hu (i + 1) u (by simpa using hi) hm
    omega
  | t :: T, z, j + 1, h, hu, hb => by
    show (outP F told codes own (putR z t.p _) T)[s.p[k]]? = _
    refine fold_at F hF told codes own hk hn T _ j (by simpa using h) (fun i u hi hm => ?_) (by rw [putR_len]; exact hb)
    have := hu (i + 1) u (by simpa using hi) hm
    omega
/-- What is written at a sequence's place. -/
theorem out_at (F : Rule) (hF : ∀ a b c x y u, (F a b c x y u).length = x.length) (told codes own : List Int) {c z : List Int} {lv : Int} {T : List S4} (h : SeqsAll c z lv T) {s : S4} (hs : s ∈ T) {k : Nat} (hk : k < s.p.length) :
    (outP F told codes own z T)[s.p[k]]? = (rowP F told codes own s)[k]? := by
  obtain ⟨j, hj⟩ := List.getElem?_of_mem hs
  have hm : s.p[k] ∈ s.p := List.getElem_mem hk
  exact fold_at F hF told codes own hk ((h.up s hs).imp (fun h => Nat.ne_of_lt h)) T z j hj (fun i t hi ht => h.uniq i j t s _ hi hj ht hm) (L_lt (h.lev s hs _ hm).1)
/-- What is in no sequence has no level. -/
theorem out_not (F : Rule) (told codes own : List Int) {c z : List Int} {lv : Int} {T : List S4} (h : SeqsAll c z lv T) {i : Nat} (hi : L z i = -1) : (outP F told codes own z T)[i]? = z[i]? :=
  fold_not F told codes own T z fun s hs hm => (h.lev s hs i hm).1 hi
/-- Moved. -/
theorem out_moved (F : Rule) (hF : ∀ a b c x y u, (F a b c x y u).length = x.length) {cL cM zL zM : List Int} {a n : Nat} (h : Ins cL cM zL zM a n) {lv : Int} {TL TM : List S4} (hL : SeqsAll cL zL lv TL) (hM : SeqsAll cM zM lv TM)
    {tL tM oL oM : List Int} (ht : ∀ i, tM.getD (sh a n i) 0 = tL.getD i 0) (ho : ∀ i, oM.getD (sh a n i) 0 = oL.getD i 0) {i : Nat} (hi : i < cL.length) :
    (outP F tM oM cM zM TM)[sh a n i]? = (outP F tL oL cL zL TL)[i]? := by
  by_cases hk : L zL i = -1
  · rw [out_not F _ _ _ hL hk, out_not F _ _ _ hM (by rw [h.z]; exact hk)]
    have h1 : i < zL.length := by rw [h.zl]; exact hi
    have h2 : sh a n i < zM.length := by
      rw [h.zm, h.len]
      unfold sh; split <;> omega
    have e := h.z i
    rw [L_at h1, L_at h2] at e
    rw [List.getElem?_eq_getElem h1, List.getElem?_eq_getElem h2, e]
  · obtain ⟨j, s, hj, hm⟩ := hL.cover i hk
    have hs := List.mem_of_getElem? hj
    obtain ⟨k, hkl, rfl⟩ := List.getElem_of_mem hm
    have hs2 := h.seq_ hL.ok hM.ok hs
    have hkl2 : k < (shS a n s).p.length := by simpa [shS] using hkl
    have e1 := out_at F hF tL oL cL hL hs hkl
    have e2 := out_at F hF tM oM cM hM hs2 hkl2
    have e3 : (shS a n s).p[k] = sh a n s.p[k] := by simp [shS]
    have hp : ∀ {x y : List Int}, (∀ i, y.getD (sh a n i) 0 = x.getD i 0) → pick y (shS a n s).p = pick x s.p := fun {x y} hxy => by
      simp only [pick, shS, List.map_map]
      exact List.map_congr_left fun q _ => hxy q
    have e4 : rowP F tM oM cM (shS a n s) = rowP F tL oL cL s := by
      unfold rowP
      rw [hp ht, hp ho, hp h.c]
      rfl
    rw [e3, e4] at e2
    rw [e1, e2]
/-- So few are open that there is room. -/
def Low (k : Nat) (s : St) : Prop := s.li = 0 ∧ s.ld = 0 ∧ ∀ e ∈ s.es, e.lev ≤ k
theorem low_top {k : Nat} {s : St} (h : Low k s) : (top s.es).lev ≤ k := by
  unfold top
  cases hs : s.es with
  | nil => exact Nat.zero_le _
  | cons e r => exact h.2.2 e (by simp [hs])
theorem nxt_le (o l : Nat) : nxt o l ≤ l + 2 := by unfold nxt; split <;> omega
theorem low_mono {k m : Nat} {s : St} (h : Low k s) (hk : k ≤ m) : Low m s := ⟨h.1, h.2.1, fun e he => Nat.le_trans (h.2.2 e he) hk⟩
theorem low_fits {k : Nat} {s : St} (h : Low k s) (hk : k ≤ 123) (o : Nat) : fits o s = true := fits_iff.2 ⟨by have := low_top h; have := nxt_le o (top s.es).lev; omega, h.1, h.2.1⟩
theorem low_embed {k : Nat} {s : St} (h : Low k s) (hk : k ≤ 123) (o : Nat) (v : Int) : Low (k + 2) (embedS o v s) := by
  unfold embedS
  rw [if_pos (low_fits h hk o)]
  refine ⟨h.1, h.2.1, fun e he => ?_⟩
  rcases List.mem_cons.1 he with rfl | he
  · have := low_top h; have := nxt_le o (top s.es).lev; show nxt o (top s.es).lev ≤ k + 2; omega
  · exact Nat.le_trans (h.2.2 e he) (by omega)
theorem low_begin {k : Nat} {s : St} (h : Low k s) (hk : k ≤ 123) (o : Nat) : Low (k + 2) (beginS o s) := by
  unfold beginS
  rw [if_pos (low_fits h hk o)]
  refine ⟨h.1, h.2.1, fun e he => ?_⟩
  rcases List.mem_cons.1 he with rfl | he
  · have := low_top h; have := nxt_le o (top s.es).lev; show nxt o (top s.es).lev ≤ k + 2; omega
  · exact Nat.le_trans (h.2.2 e he) (by omega)
theorem cut_sub : ∀ (es : List E) {e : E}, e ∈ cutI es → e ∈ es
  | [], e, h => h
  | x :: r, e, h => by
    unfold cutI at h
    split at h
    · exact List.mem_cons_of_mem _ h
    · exact List.mem_cons_of_mem _ (cut_sub r h)
theorem low_close {k : Nat} {s : St} (h : Low k s) (c : Int) : Low k (closeS c s) := by
  obtain ⟨h1, h2, h3⟩ := h
  unfold closeS
  split
  · unfold popS
    rw [if_neg (by omega), if_neg (by omega)]
    split
    · exact ⟨h1, h2, h3⟩
    · exact ⟨h1, h2, fun e he => h3 e (List.mem_of_mem_tail he)⟩
  · split
    · unfold endS
      rw [if_neg (by omega)]
      split
      · exact ⟨h1, h2, h3⟩
      · exact ⟨h1, rfl, fun e he => h3 e (cut_sub _ he)⟩
    · exact ⟨h1, h2, h3⟩
/-- One that opens something. -/
def opB (c : Int) : Bool := decide (14 ≤ c ∧ c ≤ 17) || isI c
def deepL : List Int → Nat
  | [] => 0
  | c :: l => (if opB c = true then 1 else 0) + deepL l
theorem low_open {k : Nat} {s : St} (h : Low k s) (hk : k ≤ 123) (c : Int) (l : List Int) : Low (k + if opB c = true then 2 else 0) (openS c l s) := by
  unfold openS
  by_cases h0 : c = 16
  · subst h0; exact low_embed h hk 1 (-1)
  rw [if_neg h0]
  by_cases h1 : c = 14
  · subst h1; exact low_embed h hk 0 (-1)
  rw [if_neg h1]
  by_cases h2 : c = 17
  · subst h2; exact low_embed h hk 1 1
  rw [if_neg h2]
  by_cases h3 : c = 15
  · subst h3; exact low_embed h hk 0 0
  rw [if_neg h3]
  by_cases h4 : c = 20
  · subst h4; exact low_begin h hk 1
  rw [if_neg h4]
  by_cases h5 : c = 19
  · subst h5; exact low_begin h hk 0
  rw [if_neg h5]
  by_cases h6 : c = 21
  · subst h6; exact low_begin h hk _
  rw [if_neg h6]
  exact low_mono h (Nat.le_add_right _ _)
theorem walk_low (b : Nat) (r : List Int) : ∀ (a : List Int) (s : St) (k : Nat), Ok b s → Low k s → k + 2 * deepL a ≤ 123 → ∃ P s', P.length = a.length ∧ walkL b (a ++ r) s = P ++ walkL b r s' ∧ Ok b s' ∧ Low (k + 2 * deepL a) s'
  | [], s, k, ho, h, hk => ⟨[], s, rfl, rfl, ho, by simpa [deepL] using h⟩
  | c :: a, s, k, ho, h, hk => by
    simp only [deepL] at hk ⊢
    have h1 := low_open (low_close h c) (by omega) c (a ++ r)
    obtain ⟨P, s', p1, p2, p3, p4⟩ := walk_low b r a (openS c (a ++ r) (closeS c s)) _ ((ho.close c).open_ c (a ++ r)) h1 (by split <;> rename_i hc <;> simp only [hc] at hk <;> simp at hk <;> omega)
    refine ⟨_ :: P, s', by simp [p1], by simp only [List.cons_append, walkL]; rw [p2], p3, low_mono p4 ?_⟩
    split <;> omega
theorem drop_tail (X Y : List Int) {j m : Nat} (h : X.length + j = m) : (X ++ Y).drop m = Y.drop j := by
  subst h
  rw [List.drop_append, List.drop_eq_nil_of_le (by omega)]
  simp
/-- The paragraph without what stands in an isolate, and with it. -/
theorem ins_of (A zs B : List Int) (I : Int) (b : Nat) (hb : b ≤ 1) (hI : isI I = true) (hc : closedL zs 0 = true) (hz : ∀ x ∈ zs, x ≠ 10) (hd : deepL A ≤ 60) :
    Ins (A ++ I :: (22 :: B)) (A ++ I :: (zs ++ 22 :: B)) (zB (A ++ I :: (22 :: B)) b) (zB (A ++ I :: (zs ++ 22 :: B)) b) A.length zs.length ∧
    (∀ i, (toldB (A ++ I :: (zs ++ 22 :: B)) b).getD (sh A.length zs.length i) 0 = (toldB (A ++ I :: (22 :: B)) b).getD i 0) := by
  obtain ⟨P, Z, Q, hP, hZ, e1, e2⟩ := expl_isolate b A zs B I hI hc
  have haL : A.length < (A ++ I :: (22 :: B)).length := by simp
  have haM : A.length < (A ++ I :: (zs ++ 22 :: B)).length := by simp
  have hat : (A ++ I :: (22 :: B))[A.length] = I := by simp
  have hai : isI ((A ++ I :: (22 :: B)).getD A.length 0) = true := by rw [getD_at haL, hat]; exact hI
  have hea : endAt (A ++ I :: (22 :: B)) A.length = A.length + 1 := by
    unfold endAt
    rw [show (A ++ I :: (22 :: B)).drop (A.length + 1) = 22 :: B from by rw [List.drop_append]; simp, endL_p0 _ rfl]
  have hz1 : ∀ i, L (zB (A ++ I :: (zs ++ 22 :: B)) b) (sh A.length zs.length i) = L (zB (A ++ I :: (22 :: B)) b) i := fun i => by
    unfold L zB
    rw [e1, e2, List.map_append, List.map_append, List.map_append]
    exact ins_getD (by simp [hP]) (by simp [hZ]) i _
  have hlow0 : Low b (startS b) := ⟨rfl, rfl, fun e he => by simp [startS] at he; rw [he]; exact Nat.le_refl _⟩
  obtain ⟨P0, s', p1, p2, p3, p4⟩ := walk_low b (I :: (22 :: B)) A (startS b) b (Ok.start b) hlow0 (by omega)
  obtain ⟨r1, r2⟩ := remB_I hI
  have hva : L (zB (A ++ I :: (22 :: B)) b) A.length = ((top s'.es).lev : Int) := by
    have hy : (explL (A ++ I :: (22 :: B)) b)[A.length]? = some (outS b s' I) := by
      unfold explL
      rw [p2, List.getElem?_append_right (by omega), p1, Nat.sub_self]
      show (walkL b (I :: 22 :: B) s')[0]? = _
      simp only [walkL, closeI hI]
      rfl
    rw [L_zB hy, out_kept r2 r1]
  refine ⟨⟨fun i => ?_, hz1, by simp; omega, by rw [zB_len], by rw [zB_len], by simp, hai, hea, by rw [hva]; omega, ?_, ?_, ?_⟩, fun i => ?_⟩
  · have := ins_getD (P := A ++ [I]) (Z := zs) (Q := 22 :: B) (a := A.length) (by simp) rfl i 0
    simpa using this
  · have := iso_zB (A ++ I :: (22 :: B)) b A.length (by rw [hva]; omega) hai (by rw [hea]; simp)
    rw [hea] at this
    exact this
  · intro k hk1 hk2
    obtain ⟨P1, s1, q1, q2, q3, q4⟩ := walk_low b (I :: (zs ++ 22 :: B)) A (startS b) b (Ok.start b) hlow0 (by omega)
    have hva1 : L (zB (A ++ I :: (zs ++ 22 :: B)) b) A.length = ((top s1.es).lev : Int) := by
      have hy : (explL (A ++ I :: (zs ++ 22 :: B)) b)[A.length]? = some (outS b s1 I) := by
        unfold explL
        rw [q2, List.getElem?_append_right (by omega), q1, Nat.sub_self]
        simp only [walkL, closeI hI]
        rfl
      rw [L_zB hy, out_kept r2 r1]
    have hvv := hz1 A.length
    rw [sh_le (Nat.le_refl _), hva1] at hvv
    rw [← hvv]
    obtain ⟨o, ho⟩ := initI hI (zs ++ 22 :: B) s1
    have hfit := low_fits q4 (by omega) o
    have hin : InF s1 0 (beginS o s1) := by
      rcases In.begin2 o s1 with h | h
      · exact h
      · exfalso
        have := h.2.2.1
        unfold beginS at this
        rw [if_pos hfit] at this
        dsimp only at this
        omega
    obtain ⟨Z', s2, l1, l2, l3⟩ := walk_levF b s1 q3 zs B 0 _ hin (q3.begin_ o) hc hz
    have hw : walkL b (I :: (zs ++ 22 :: B)) s1 = outS b s1 I :: walkL b (zs ++ 22 :: B) (beginS o s1) := by
      simp only [walkL]
      rw [ho, closeI hI]
    have hklt : k < (explL (A ++ I :: (zs ++ 22 :: B)) b).length := by rw [explL_len]; simp; omega
    have hy : (explL (A ++ I :: (zs ++ 22 :: B)) b)[k]? = some (explL (A ++ I :: (zs ++ 22 :: B)) b)[k] := List.getElem?_eq_getElem hklt
    rw [L_zB hy]
    generalize (explL (A ++ I :: (zs ++ 22 :: B)) b)[k] = y at hy
    unfold explL at hy
    rw [q2, hw, l2, List.getElem?_append_right (by omega), q1] at hy
    obtain ⟨q, rfl⟩ : ∃ q, k = A.length + 1 + q := ⟨k - (A.length + 1), by omega⟩
    rw [show A.length + 1 + q - A.length = q + 1 from by omega, List.getElem?_cons_succ, List.getElem?_append_left (by omega)] at hy
    exact l3 y (List.mem_of_getElem? hy)
  · intro i hi
    by_cases h1 : i < A.length
    · rw [sh_le (by omega)]
      unfold endAt
      have d1 : (A ++ I :: (22 :: B)).drop (i + 1) = A.drop (i + 1) ++ I :: (22 :: B) := by rw [List.drop_append_of_le_length (by omega)]
      have d2 : (A ++ I :: (zs ++ 22 :: B)).drop (i + 1) = A.drop (i + 1) ++ I :: (zs ++ 22 :: B) := by rw [List.drop_append_of_le_length (by omega)]
      rw [d1, d2]
      rcases endL_ins (B := B) hI hc (A.drop (i + 1)) 0 with ⟨h2, h3⟩ | ⟨h2, h3⟩
      · rw [h3, sh_le (by rw [List.length_drop] at h2; omega)]
      · rw [h3, sh_gt (by rw [List.length_drop] at h2; omega)]
        omega
    · by_cases h2 : i = A.length
      · subst h2
        rw [sh_le (Nat.le_refl _), hea, sh_gt (Nat.lt_succ_self _)]
        unfold endAt
        rw [show (A ++ I :: (zs ++ 22 :: B)).drop (A.length + 1) = zs ++ 22 :: B from by rw [List.drop_append]; simp]
        have h4 := endL_closed (22 :: B) 0 zs 0 hc
        rw [Nat.zero_add, endL_p0 _ rfl] at h4
        rw [h4]
        omega
      · rw [sh_gt (by omega)]
        have e : (A ++ I :: (zs ++ 22 :: B)).drop (i + zs.length + 1) = (A ++ I :: (22 :: B)).drop (i + 1) := by
          have x1 : A ++ I :: (zs ++ 22 :: B) = (A ++ I :: zs) ++ (22 :: B) := by simp
          have x2 : A ++ I :: (22 :: B) = (A ++ [I]) ++ (22 :: B) := by simp
          rw [x1, x2, drop_tail (A ++ I :: zs) (22 :: B) (j := i - A.length) (by simp; omega), drop_tail (A ++ [I]) (22 :: B) (j := i - A.length) (by simp; omega)]
        unfold endAt
        rw [e, sh_gt (by omega)]
        omega
  · unfold toldB
    rw [e1, e2, List.map_append, List.map_append, List.map_append]
    exact ins_getD (by simp [hP]) (by simp [hZ]) i _
def lastF (a : Int) : List Int → Int
  | [] => a
  | x :: r => lastF (if x < 0 then a else x) r
theorem fill_append : ∀ (X Y : List Int) (a : Int), fillP a (X ++ Y) = fillP a X ++ fillP (lastF a X) Y
  | [], Y, a => rfl
  | x :: X, Y, a => by simp [fillP, lastF, fill_append X Y]
theorem fill_from {q : Int} (h : 0 ≤ q) (R : List Int) (a : Int) : fillP a (q :: R) = q :: fillP q R := by
  simp only [fillP]
  rw [if_neg (by omega)]
/-- The same around what has been put in. -/
theorem fill_moved {oL oM : List Int} {a n : Nat} {q : Int} (b : Int) (hM : oM.length = oL.length + n) (h : ∀ i, i < oL.length → oM[sh a n i]? = oL[i]?) (hq : oL[a + 1]? = some q) (h0 : 0 ≤ q) (i : Nat) :
    (fillP b oM)[sh a n i]? = (fillP b oL)[i]? := by
  have hal := (List.getElem?_eq_some_iff.1 hq).1
  have hdr : oL.drop (a + 1) = q :: oL.drop (a + 2) := by
    rw [List.drop_eq_getElem_cons hal]
    rw [List.getElem?_eq_getElem hal] at hq
    injection hq with hq
    rw [hq]
  have h1 : oM.take (a + 1) = oL.take (a + 1) := by
    apply List.ext_getElem?
    intro k
    rw [List.getElem?_take, List.getElem?_take]
    by_cases hk : k < a + 1
    · rw [if_pos hk, if_pos hk]
      have := h k (by omega)
      rwa [sh_le (by omega)] at this
    · rw [if_neg hk, if_neg hk]
  have h2 : (oM.drop (a + 1)).drop n = q :: oL.drop (a + 2) := by
    rw [← hdr]
    apply List.ext_getElem?
    intro k
    rw [List.getElem?_drop, List.getElem?_drop, List.getElem?_drop]
    by_cases hk : a + 1 + k < oL.length
    · have := h (a + 1 + k) hk
      rw [sh_gt (by omega)] at this
      rw [← this]
      congr 1
      omega
    · rw [List.getElem?_eq_none (by omega), List.getElem?_eq_none (by omega)]
  have eM : oM = oL.take (a + 1) ++ ((oM.drop (a + 1)).take n ++ q :: oL.drop (a + 2)) := by
    rw [← h1, ← h2, List.take_append_drop, List.take_append_drop]
  have eL : oL = oL.take (a + 1) ++ q :: oL.drop (a + 2) := by rw [← hdr, List.take_append_drop]
  have hz : ((oM.drop (a + 1)).take n).length = n := by rw [List.length_take, List.length_drop]; omega
  have hp : (oL.take (a + 1)).length = a + 1 := by rw [List.length_take]; omega
  rw [eM]
  conv => rhs; rw [eL]
  rw [fill_append, fill_append, fill_append, fill_from h0, fill_from h0]
  exact ins_at (by rw [fill_len, hp]) (by rw [fill_len, hz]) i
theorem out_kept2 (F : Rule) (hF : ∀ a b c x y u, (F a b c x y u).length = x.length) (h0 : ∀ a b c x y u, 0 ≤ a → ∀ v ∈ F a b c x y u, 0 ≤ v) (told codes own : List Int) {c : List Int} {b : Nat} {lv : Int} {T : List S4} (h : SeqsAll c (zB c b) lv T) {i : Nat} (hi : L (zB c b) i ≠ -1) :
    ∃ v, (outP F told codes own (zB c b) T)[i]? = some v ∧ 0 ≤ v := by
  obtain ⟨j, s, hj, hm⟩ := h.cover i hi
  have hs := List.mem_of_getElem? hj
  obtain ⟨k, hk, rfl⟩ := List.getElem_of_mem hm
  rw [out_at F hF told codes own h hs hk]
  have hkr : k < (rowP F told codes own s).length := by unfold rowP; rw [hF, pick_len]; exact hk
  rw [List.getElem?_eq_getElem hkr]
  refine ⟨_, rfl, ?_⟩
  have hsa : 0 ≤ s.a := by
    have h1 := h.lev s hs _ (List.getElem_mem hk)
    rw [← h1.2]
    rcases zB_ok c b s.p[k] with e | e
    · exact absurd e h1.1
    · exact e
  exact h0 s.a s.b s.c _ _ _ hsa _ (List.getElem_mem hkr)
/-- What stands in an isolate changes no level around it. -/
theorem res_isolate (F : Rule) (hF : ∀ a b c x y u, (F a b c x y u).length = x.length) (h0 : ∀ a b c x y u, 0 ≤ a → ∀ v ∈ F a b c x y u, 0 ≤ v) (A zs B : List Int) (I : Int) (b : Nat) (hb : b ≤ 1) (hI : isI I = true) (hc : closedL zs 0 = true) (hz : ∀ x ∈ zs, x ≠ 10) (hd : deepL A ≤ 60)
    {kA kz kB : List Int} {k1 k2 : Int} (hkA : kA.length = A.length) (hkz : kz.length = zs.length) {lv : Int} {TL TM : List S4} (hL : SeqsAll (A ++ I :: (22 :: B)) (zB (A ++ I :: (22 :: B)) b) lv TL) (hM : SeqsAll (A ++ I :: (zs ++ 22 :: B)) (zB (A ++ I :: (zs ++ 22 :: B)) b) lv TM) (i : Nat) :
    (resP F (A ++ I :: (zs ++ 22 :: B)) (kA ++ k1 :: (kz ++ k2 :: kB)) b TM)[sh A.length zs.length i]? = (resP F (A ++ I :: (22 :: B)) (kA ++ k1 :: (k2 :: kB)) b TL)[i]? := by
  obtain ⟨hi, ht⟩ := ins_of A zs B I b hb hI hc hz hd
  obtain ⟨q, hq, hq0⟩ := out_kept2 F hF h0 (toldB (A ++ I :: (22 :: B)) b) (kA ++ k1 :: (k2 :: kB)) (A ++ I :: (22 :: B)) hL (i := A.length + 1) (by rw [hi.v1]; exact hi.v)
  have ho : ∀ i, (kA ++ k1 :: (kz ++ k2 :: kB)).getD (sh A.length zs.length i) 0 = (kA ++ k1 :: (k2 :: kB)).getD i 0 := fun i => by
    have := ins_getD (P := kA ++ [k1]) (Z := kz) (Q := k2 :: kB) (a := A.length) (n := zs.length) (by simp [hkA]) hkz i 0
    simpa using this
  unfold resP
  refine fill_moved (b : Int) ?_ (fun i hil => ?_) hq hq0 i
  · rw [fold_len, fold_len, hi.zm, hi.zl, hi.len]
  · rw [fold_len, hi.zl] at hil
    exact out_moved F hF hi hL hM ht ho hil
end Go.Proofs.YtfclpecbnailgaaGreat.Bi

/-
  Numbers, signs and marks, plainly: the seven rules as functions of a row of classes, one behind the other; that they settle, that they part at an L or an R; that rules which look at what has become ahead and at what stands behind come to the same. No program in it.
-/
set_option linter.unusedVariables false
namespace Go.Proofs.YtfclpecbnailgaaGreat.Wk
def iso (c : Int) : Bool := decide (c = 19) || decide (c = 20) || decide (c = 21) || decide (c = 22)
def nx (c : Int) : Int := if iso c then 13 else c
def let3 (c : Int) : Bool := decide (c = 0) || decide (c = 1) || decide (c = 2)
/-- Marks: a is what a mark at the first place becomes. -/
def marks (a : Int) : List Int → List Int
  | [] => []
  | c :: r => if c = 8 then a :: marks (nx a) r else c :: marks (nx c) r
/-- Numbers whose letter ahead is x become o. -/
def nums (x o : Int) (a : Int) : List Int → List Int
  | [] => []
  | c :: r => if let3 c then c :: nums x o c r else if c = 3 ∧ a = x then o :: nums x o a r else c :: nums x o a r
def bec (o : Int) (p : List Int) (l : List Int) : List Int := l.map fun c => if c ∈ p then o else c
/-- What stands between two n, and is of p, becomes n: a is what stands ahead. -/
def btw (n : Int) (p : List Int) (a : Int) : List Int → List Int
  | [] => []
  | c :: r => if a = n ∧ r.head? = some n ∧ c ∈ p then n :: btw n p n r else c :: btw n p c r
/-- Signs behind a number: a is what stands ahead. -/
def sbeh (a : Int) : List Int → List Int
  | [] => []
  | c :: r => if c = 5 ∧ a = 3 then 3 :: sbeh 3 r else c :: sbeh c r
/-- Signs ahead of a number. -/
def sah : List Int → List Int
  | [] => []
  | c :: r => if c = 5 ∧ (sah r).head? = some 3 then 3 :: sah r else c :: sah r
/-- What classes become, with s ahead. -/
def weak (s : Int) (l : List Int) : List Int :=
  nums 0 0 s (bec 13 [4, 5, 7] (sah (sbeh (-1) (btw 6 [7] (-1) (btw 3 [4, 7] (-1) (bec 1 [2] (nums 2 6 s (marks s l))))))))
theorem marks_len (l : List Int) : ∀ a, (marks a l).length = l.length := by
  induction l with
  | nil => intro a; rfl
  | cons c r ih => intro a; unfold marks; split <;> simp [ih]
theorem nums_len (x o : Int) (l : List Int) : ∀ a, (nums x o a l).length = l.length := by
  induction l with
  | nil => intro a; rfl
  | cons c r ih => intro a; unfold nums; split <;> (try split) <;> simp [ih]
theorem bec_len (o : Int) (p l : List Int) : (bec o p l).length = l.length := by simp [bec]
theorem btw_len (n : Int) (p l : List Int) : ∀ a, (btw n p a l).length = l.length := by
  induction l with
  | nil => intro a; rfl
  | cons c r ih => intro a; unfold btw; split <;> simp [ih]
theorem sbeh_len (l : List Int) : ∀ a, (sbeh a l).length = l.length := by
  induction l with
  | nil => intro a; rfl
  | cons c r ih => intro a; unfold sbeh; split <;> simp [ih]
theorem sah_len (l : List Int) : (sah l).length = l.length := by
  induction l with
  | nil => rfl
  | cons c r ih => unfold sah; split <;> simp [ih]
theorem weak_len (s : Int) (l : List Int) : (weak s l).length = l.length := by
  simp [weak, nums_len, bec_len, sah_len, sbeh_len, btw_len, marks_len]
theorem marks_mem (l : List Int) : ∀ a y, y ∈ marks a l → y = a ∨ y = 13 ∨ (y ∈ l ∧ y ≠ 8) := by
  induction l with
  | nil => intro a y h; simp [marks] at h
  | cons c r ih =>
    intro a y h
    have hn : ∀ d, y ∈ marks (nx d) r → y = d ∨ y = 13 ∨ (y ∈ r ∧ y ≠ 8) := by
      intro d hd
      rcases ih (nx d) y hd with e | e | e
      · unfold nx at e; split at e <;> simp [e]
      · exact .inr (.inl e)
      · exact .inr (.inr e)
    unfold marks at h
    split at h
    · rcases List.mem_cons.1 h with e | e
      · exact .inl e
      · rcases hn a e with e | e | e
        · exact .inl e
        · exact .inr (.inl e)
        · exact .inr (.inr ⟨List.mem_cons_of_mem _ e.1, e.2⟩)
    · rename_i h8
      rcases List.mem_cons.1 h with e | e
      · exact .inr (.inr ⟨by simp [e], by rw [e]; exact h8⟩)
      · rcases hn c e with e | e | e
        · exact .inr (.inr ⟨by simp [e], by rw [e]; exact h8⟩)
        · exact .inr (.inl e)
        · exact .inr (.inr ⟨List.mem_cons_of_mem _ e.1, e.2⟩)
theorem nums_mem (x o : Int) (l : List Int) : ∀ a y, y ∈ nums x o a l → y = o ∨ y ∈ l := by
  induction l with
  | nil => intro a y h; simp [nums] at h
  | cons c r ih =>
    intro a y h
    unfold nums at h
    split at h
    · rcases List.mem_cons.1 h with e | e
      · exact .inr (by simp [e])
      · rcases ih _ _ e with e | e
        · exact .inl e
        · exact .inr (List.mem_cons_of_mem _ e)
    · split at h
      · rcases List.mem_cons.1 h with e | e
        · exact .inl e
        · rcases ih _ _ e with e | e
          · exact .inl e
          · exact .inr (List.mem_cons_of_mem _ e)
      · rcases List.mem_cons.1 h with e | e
        · exact .inr (by simp [e])
        · rcases ih _ _ e with e | e
          · exact .inl e
          · exact .inr (List.mem_cons_of_mem _ e)
theorem bec_mem (o : Int) (p l : List Int) (y : Int) (h : y ∈ bec o p l) : y = o ∨ (y ∈ l ∧ y ∉ p) := by
  unfold bec at h
  obtain ⟨c, hc, rfl⟩ := List.mem_map.1 h
  split
  · exact .inl rfl
  · exact .inr ⟨hc, by assumption⟩
theorem btw_mem (n : Int) (p l : List Int) : ∀ a y, y ∈ btw n p a l → y = n ∨ y ∈ l := by
  induction l with
  | nil => intro a y h; simp [btw] at h
  | cons c r ih =>
    intro a y h
    unfold btw at h
    split at h
    · rcases List.mem_cons.1 h with e | e
      · exact .inl e
      · rcases ih _ _ e with e | e
        · exact .inl e
        · exact .inr (List.mem_cons_of_mem _ e)
    · rcases List.mem_cons.1 h with e | e
      · exact .inr (by simp [e])
      · rcases ih _ _ e with e | e
        · exact .inl e
        · exact .inr (List.mem_cons_of_mem _ e)
theorem sbeh_mem (l : List Int) : ∀ a y, y ∈ sbeh a l → y = 3 ∨ y ∈ l := by
  induction l with
  | nil => intro a y h; simp [sbeh] at h
  | cons c r ih =>
    intro a y h
    unfold sbeh at h
    split at h
    · rcases List.mem_cons.1 h with e | e
      · exact .inl e
      · rcases ih _ _ e with e | e
        · exact .inl e
        · exact .inr (List.mem_cons_of_mem _ e)
    · rcases List.mem_cons.1 h with e | e
      · exact .inr (by simp [e])
      · rcases ih _ _ e with e | e
        · exact .inl e
        · exact .inr (List.mem_cons_of_mem _ e)
theorem sah_mem (l : List Int) : ∀ y, y ∈ sah l → y = 3 ∨ y ∈ l := by
  induction l with
  | nil => intro y h; simp [sah] at h
  | cons c r ih =>
    intro y h
    unfold sah at h
    split at h
    · rcases List.mem_cons.1 h with e | e
      · exact .inl e
      · rcases ih _ e with e | e
        · exact .inl e
        · exact .inr (List.mem_cons_of_mem _ e)
    · rcases List.mem_cons.1 h with e | e
      · exact .inr (by simp [e])
      · rcases ih _ e with e | e
        · exact .inl e
        · exact .inr (List.mem_cons_of_mem _ e)
def Kp : List Int → List Int → Prop
  | [], [] => True
  | c :: r, d :: t => (d = c ∨ (2 ≤ c ∧ c ≤ 8 ∧ c ≠ 6)) ∧ Kp r t
  | _, _ => False
theorem Kp.trans : ∀ {a b c : List Int}, Kp a b → Kp b c → Kp a c
  | [], [], [], _, _ => trivial
  | _ :: _, _ :: _, _ :: _, h, g => ⟨by rcases h.1 with e | e <;> rcases g.1 with f | f <;> omega, Kp.trans h.2 g.2⟩
  | [], [], _ :: _, _, g => g.elim
  | [], _ :: _, _, h, _ => h.elim
  | _ :: _, [], _, h, _ => h.elim
  | _ :: _, _ :: _, [], _, g => g.elim
theorem Kp.at_ : ∀ {a b : List Int}, Kp a b → ∀ k (h : k < a.length) (h' : k < b.length), b[k] = a[k] ∨ (2 ≤ a[k] ∧ a[k] ≤ 8 ∧ a[k] ≠ 6)
  | [], _, _, k, h, _ => by simp at h
  | _ :: _, [], h, _, _, _ => h.elim
  | _ :: _, _ :: _, h, 0, _, _ => h.1
  | _ :: a, _ :: b, h, k + 1, h1, h2 => Kp.at_ (a := a) (b := b) h.2 k (by simpa using h1) (by simpa using h2)
theorem nums_id (l : List Int) : ∀ a, a ≠ 2 → (∀ y ∈ l, y ≠ 2) → nums 2 6 a l = l := by
  induction l with
  | nil => intro a _ _; rfl
  | cons c r ih =>
    intro a ha h
    have hr := fun y hy => h y (List.mem_cons_of_mem _ hy)
    unfold nums
    split
    · rw [ih c (h c (by simp)) hr]
    · rw [if_neg (by omega), ih a ha hr]
theorem bec_id (o : Int) (p l : List Int) (h : ∀ y ∈ l, y ∉ p) : bec o p l = l := by
  induction l with
  | nil => rfl
  | cons c r ih =>
    have := ih (fun y hy => h y (List.mem_cons_of_mem _ hy))
    unfold bec at this ⊢
    rw [List.map_cons, if_neg (h c (by simp)), this]
def Parts (f : Int → List Int → List Int) : Prop := ∀ s w x b, (w = 0 ∨ w = 1) → ∃ y, f s (x ++ [w]) = y ++ [w] ∧ f s (x ++ w :: b) = y ++ w :: f w b
theorem Parts.comp {f g : Int → List Int → List Int} (hf : Parts f) (hg : Parts g) : Parts fun s l => g s (f s l) := by
  intro s w x b hw
  obtain ⟨y, h1, h2⟩ := hf s w x b hw
  obtain ⟨z, h3, h4⟩ := hg s w y (f w b) hw
  exact ⟨z, by show g s (f s (x ++ [w])) = _; rw [h1, h3], by show g s (f s (x ++ w :: b)) = _; rw [h2, h4]⟩
end Go.Proofs.YtfclpecbnailgaaGreat.Wk

/-
  Plain facts on rows of pairs: what a row has, the counterpart, the first row that has a number; the brackets and the other mirrored signs of the document; no program here.
-/
namespace Go.Proofs.YtfclpecbnailgaaGreat.Mi
/-- A row: its first number, its last one, the step between two that belong together. -/
abbrev MRow := Int × Int × Int
def hasB (r : MRow) (c : Int) : Bool := decide (r.1 ≤ c) && (decide (c ≤ r.2.1) && ((c - r.1) % r.2.2 == 0))
def pairR (r : MRow) (c : Int) : Int × Int := if (c - r.1) / r.2.2 % 2 = 0 then (1, c + r.2.2) else (2, c - r.2.2)
def inR : List MRow → Int → Int × Int
  | [], _ => (0, 0)
  | r :: l, c => if hasB r c = true then pairR r c else inR l c
def brRows : List MRow := [(0x28, 0x29, 1), (0xf3a, 0xf3d, 1), (0x169b, 0x169c, 1), (0x2045, 0x2046, 1), (0x207d, 0x207e, 1), (0x208d, 0x208e, 1), (0x2308, 0x230b, 1), (0x2329, 0x232a, 1),
  (0x2768, 0x2775, 1), (0x27c5, 0x27c6, 1), (0x27e6, 0x27ef, 1), (0x2983, 0x298c, 1), (0x2991, 0x2998, 1), (0x29d8, 0x29db, 1), (0x29fc, 0x29fd, 1), (0x2e22, 0x2e29, 1),
  (0x3008, 0x3011, 1), (0x3014, 0x301b, 1), (0xfe59, 0xfe5e, 1), (0xff08, 0xff09, 1), (0xff5f, 0xff60, 1), (0xff62, 0xff63, 1)]
def brPairs : List MRow := [(0x5b, 0x5d, 2), (0x7b, 0x7d, 2), (0xff3b, 0xff3d, 2), (0xff5b, 0xff5d, 2)]
def sgRows : List MRow := [(0x2264, 0x226b, 1), (0x226e, 0x2281, 1), (0x2282, 0x2289, 1), (0x228f, 0x2292, 1), (0x22b2, 0x22b5, 1), (0x22d6, 0x22df, 1), (0x22e0, 0x22ed, 1)]
def sgPairs : List MRow := [(0x3c, 0x3e, 2), (0xab, 0xbb, 0x10), (0x2039, 0x203a, 1), (0x2208, 0x220b, 3), (0x2209, 0x220c, 3), (0x220a, 0x220d, 3), (0x223c, 0x223d, 1), (0x22a2, 0x22a3, 1), (0x22d0, 0x22d1, 1)]
def brL : List MRow := brRows ++ brPairs
def sgL : List MRow := sgRows ++ sgPairs
/-- P3.1 to P3.4, as functions. -/
def pairT (c : Int) : Int × Int := inR brL c
def formT (c : Int) : Int := if c = 0x2329 then 0x3008 else if c = 0x232a then 0x3009 else c
def meetT (a b : Int) : Bool := (pairT a).1 == 1 && ((pairT b).1 == 2 && (formT (pairT a).2 == formT b))
def glyphT (c : Int) : Int := if (pairT c).1 = 0 then (if (inR sgL c).1 = 0 then c else (inR sgL c).2) else (pairT c).2
theorem inR_append : ∀ (l m : List MRow) (c : Int), inR (l ++ m) c = if (inR l c).1 = 0 then inR m c else inR l c
  | [], m, c => rfl
  | r :: l, m, c => by
    simp only [List.cons_append, inR]
    split
    · rw [if_neg]
      unfold pairR
      split <;> simp
    · exact inR_append l m c
theorem inR_none : ∀ (l : List MRow) (c : Int), (∀ r ∈ l, hasB r c = false) → inR l c = (0, 0)
  | [], _, _ => rfl
  | r :: l, c, h => by
    have h0 := h r (by simp)
    simp only [inR]
    rw [h0]
    exact inR_none l c (fun x hx => h x (by simp [hx]))
theorem inR_at : ∀ (l : List MRow) (c : Int) (i : Nat) (hi : i < l.length), (∀ j (hj : j < l.length), j < i → hasB l[j] c = false) → hasB l[i] c = true → inR l c = pairR l[i] c
  | r :: l, c, 0, hi, hlo, h => by
    simp only [inR]
    rw [if_pos (by simpa using h)]
    rfl
  | r :: l, c, i + 1, hi, hlo, h => by
    have h0 := hlo 0 (by simp) (by omega)
    simp only [inR]
    rw [if_neg (by simpa using h0)]
    exact inR_at l c i (by simpa using hi) (fun j hj hji => hlo (j + 1) (Nat.succ_lt_succ hj) (by omega)) h
/-- Rows as they are here: small, their steps from 1 on. -/
def okR (r : MRow) : Bool := decide (0 ≤ r.1) && decide (r.1 ≤ r.2.1) && decide (r.2.1 ≤ 100000) && decide (1 ≤ r.2.2) && decide (r.2.2 ≤ 100) && decide ((r.2.1 - r.1) % r.2.2 = 0)
theorem okR_is {r : MRow} (h : okR r = true) : 0 ≤ r.1 ∧ r.1 ≤ r.2.1 ∧ r.2.1 ≤ 100000 ∧ 1 ≤ r.2.2 ∧ r.2.2 ≤ 100 ∧ (r.2.1 - r.1) % r.2.2 = 0 := by
  simp only [okR, Bool.and_eq_true, decide_eq_true_eq] at h
  omega
theorem brL_ok : ∀ r ∈ brL, okR r = true := by decide +kernel
theorem sgL_ok : ∀ r ∈ sgL, okR r = true := by decide +kernel
/-- The numbers of a row. -/
def nums (r : MRow) : List Int := (List.range ((r.2.1 - r.1).toNat + 1)).map fun (k : Nat) => r.1 + (k : Int)
def codes : List Int := (brL ++ sgL).flatMap nums
end Go.Proofs.YtfclpecbnailgaaGreat.Mi

/-
  Brackets of a sequence, plainly: the pairs by their ends (a stack, the last one first), put in order by what opens; that there is one such row alone; that pairs stand one in another or apart. No program in it.
-/
set_option linter.unusedVariables false
namespace Go.Proofs.YtfclpecbnailgaaGreat.Pr
open Go.Proofs.YtfclpecbnailgaaGreat.Mi
def kindP (c : Int) : Int := (pairT c).1
theorem kind_012 (c : Int) : kindP c = 0 ∨ kindP c = 1 ∨ kindP c = 2 := by
  unfold kindP pairT
  generalize brL = l
  induction l with
  | nil => exact .inl rfl
  | cons r l ih =>
    unfold inR
    split
    · unfold pairR
      split
      · exact .inr (.inl rfl)
      · exact .inr (.inr rfl)
    · exact ih
/-- From the top down: the first one that a closing bracket meets, and what lies below it. -/
def dropTo (c : Int) : List (Nat × Int) → Option (Nat × List (Nat × Int))
  | [] => none
  | (k, o) :: st => if meetT o c = true then some (k, st) else dropTo c st
theorem dropTo_none {c : Int} : ∀ {st : List (Nat × Int)}, (∀ x ∈ st, meetT x.2 c = false) → dropTo c st = none
  | [], _ => rfl
  | (k, o) :: st, h => by
    rw [dropTo, if_neg (by rw [h (k, o) (by simp)]; decide)]
    exact dropTo_none (fun x hx => h x (List.mem_cons_of_mem _ hx))
theorem dropTo_some {c : Int} {k : Nat} {o : Int} {s2 : List (Nat × Int)} (ho : meetT o c = true) : ∀ {s1 : List (Nat × Int)}, (∀ x ∈ s1, meetT x.2 c = false) → dropTo c (s1 ++ (k, o) :: s2) = some (k, s2)
  | [], _ => by rw [List.nil_append, dropTo, if_pos ho]
  | (j, p) :: s1, h => by
    rw [List.cons_append, dropTo, if_neg (by rw [h (j, p) (by simp)]; decide)]
    exact dropTo_some ho (fun x hx => h x (List.mem_cons_of_mem _ hx))
theorem dropTo_parts {c : Int} {k : Nat} {s2 : List (Nat × Int)} : ∀ {st : List (Nat × Int)}, dropTo c st = some (k, s2) → ∃ o s1, st = s1 ++ (k, o) :: s2 ∧ meetT o c = true
  | [], h => by cases h
  | (j, p) :: st, h => by
    rw [dropTo] at h
    by_cases hm : meetT p c = true
    · rw [if_pos hm] at h
      injection h with h
      injection h with h1 h2
      subst h1 h2
      exact ⟨p, [], rfl, hm⟩
    · rw [if_neg hm] at h
      obtain ⟨o, s1, rfl, ho⟩ := dropTo_parts h
      exact ⟨o, (j, p) :: s1, rfl, ho⟩
/-- The pairs by what closes: i places have been looked at, st is open, classes and codes of the rest. -/
def ends : Nat → List (Nat × Int) → List (Int × Int) → List (Nat × Nat)
  | _, _, [] => []
  | i, st, (t, c) :: r =>
    if t ≠ 13 ∨ kindP c = 0 then ends (i + 1) st r
    else if kindP c = 1 then (if 63 ≤ st.length then [] else ends (i + 1) ((i, c) :: st) r)
    else match dropTo c st with
      | none => ends (i + 1) st r
      | some (k, st') => (k, i) :: ends (i + 1) st' r
theorem ends_skip {i : Nat} {st : List (Nat × Int)} {t c : Int} {r : List (Int × Int)} (h : t ≠ 13 ∨ kindP c = 0) : ends i st ((t, c) :: r) = ends (i + 1) st r := by rw [ends, if_pos h]
theorem ends_full {i : Nat} {st : List (Nat × Int)} {c : Int} {r : List (Int × Int)} (h : kindP c = 1) (hs : 63 ≤ st.length) : ends i st ((13, c) :: r) = [] := by
  rw [ends, if_neg (by rw [h]; simp), if_pos h, if_pos hs]
theorem ends_push {i : Nat} {st : List (Nat × Int)} {c : Int} {r : List (Int × Int)} (h : kindP c = 1) (hs : st.length < 63) : ends i st ((13, c) :: r) = ends (i + 1) ((i, c) :: st) r := by
  rw [ends, if_neg (by rw [h]; simp), if_pos h, if_neg (by omega)]
theorem ends_lone {i : Nat} {st : List (Nat × Int)} {c : Int} {r : List (Int × Int)} (h : kindP c = 2) (hd : dropTo c st = none) : ends i st ((13, c) :: r) = ends (i + 1) st r := by
  rw [ends, if_neg (by rw [h]; simp), if_neg (by rw [h]; simp), hd]
theorem ends_pair {i k : Nat} {st st' : List (Nat × Int)} {c : Int} {r : List (Int × Int)} (h : kindP c = 2) (hd : dropTo c st = some (k, st')) : ends i st ((13, c) :: r) = (k, i) :: ends (i + 1) st' r := by
  rw [ends, if_neg (by rw [h]; simp), if_neg (by rw [h]; simp), hd]
/-- What is open, in a sequence with these classes and codes: rising from the bottom, ahead of place i, each an opening bracket whose class is ON. -/
structure Open (T C : List Int) (i : Nat) (st : List (Nat × Int)) : Prop where
  down : st.Pairwise (fun a b => b.1 < a.1)
  lt : ∀ x ∈ st, x.1 < i
  are : ∀ x ∈ st, T[x.1]? = some 13 ∧ C[x.1]? = some x.2
theorem Open.nil (T C : List Int) (i : Nat) : Open T C i [] := ⟨.nil, by simp, by simp⟩
theorem Open.next {T C : List Int} {i : Nat} {st : List (Nat × Int)} (h : Open T C i st) : Open T C (i + 1) st := ⟨h.down, fun x hx => Nat.lt_succ_of_lt (h.lt x hx), h.are⟩
theorem Open.push {T C : List Int} {i : Nat} {st : List (Nat × Int)} {c : Int} (h : Open T C i st) (hT : T[i]? = some 13) (hC : C[i]? = some c) : Open T C (i + 1) ((i, c) :: st) :=
  ⟨List.pairwise_cons.2 ⟨fun b hb => h.lt b hb, h.down⟩, fun x hx => by
    rcases List.mem_cons.1 hx with rfl | hx
    · exact Nat.lt_succ_self _
    · exact Nat.lt_succ_of_lt (h.lt x hx), fun x hx => by
    rcases List.mem_cons.1 hx with rfl | hx
    · exact ⟨hT, hC⟩
    · exact h.are x hx⟩
theorem Open.below {T C : List Int} {i k : Nat} {o : Int} {s1 s2 : List (Nat × Int)} (h : Open T C i (s1 ++ (k, o) :: s2)) : Open T C (i + 1) s2 ∧ (∀ x ∈ s2, x.1 < k) ∧ k < i ∧ T[k]? = some 13 ∧ C[k]? = some o := by
  have hd := List.pairwise_append.1 h.down
  have hd2 := List.pairwise_cons.1 hd.2.1
  refine ⟨⟨hd2.2, fun x hx => Nat.lt_succ_of_lt (h.lt x (by simp [hx])), fun x hx => h.are x (by simp [hx])⟩, fun x hx => hd2.1 x hx, h.lt (k, o) (by simp), h.are (k, o) (by simp)⟩
/-- What each pair is. -/
structure PairIs (T C : List Int) (p : Nat × Nat) : Prop where
  lt : p.1 < p.2
  t1 : T[p.1]? = some 13
  t2 : T[p.2]? = some 13
  meet : ∃ a b, C[p.1]? = some a ∧ C[p.2]? = some b ∧ meetT a b = true
theorem ends_is (T C : List Int) : ∀ (r : List (Int × Int)) (i : Nat) (st : List (Nat × Int)), Open T C i st → (∀ j t c, r[j]? = some (t, c) → T[i + j]? = some t ∧ C[i + j]? = some c) →
    ∀ p ∈ ends i st r, PairIs T C p ∧ i ≤ p.2 ∧ p.2 < i + r.length ∧ (i ≤ p.1 ∨ ∃ o, (p.1, o) ∈ st)
  | [], i, st, _, _, p, hp => by simp [ends] at hp
  | (t, c) :: r, i, st, hO, hr, p, hp => by
    have h0 := hr 0 t c rfl
    rw [Nat.add_zero] at h0
    have hr' : ∀ j t' c', r[j]? = some (t', c') → T[i + 1 + j]? = some t' ∧ C[i + 1 + j]? = some c' := fun j t' c' hj => by
      have := hr (j + 1) t' c' (by simpa using hj)
      rwa [show i + (j + 1) = i + 1 + j from by omega] at this
    have step : ∀ st', Open T C (i + 1) st' → p ∈ ends (i + 1) st' r → (∀ x ∈ st', x.1 = i ∨ ∃ o, (x.1, o) ∈ st) → PairIs T C p ∧ i ≤ p.2 ∧ p.2 < i + ((t, c) :: r).length ∧ (i ≤ p.1 ∨ ∃ o, (p.1, o) ∈ st) := by
      intro st' hO' hp' hs
      obtain ⟨h1, h2, h3, h4⟩ := ends_is T C r (i + 1) st' hO' hr' p hp'
      refine ⟨h1, by omega, by simp; omega, ?_⟩
      rcases h4 with h4 | ⟨o, ho⟩
      · exact .inl (by omega)
      · rcases hs _ ho with e | e
        · exact .inl (by simp only at e; omega)
        · exact .inr e
    by_cases hs : t ≠ 13 ∨ kindP c = 0
    · rw [ends_skip hs] at hp
      exact step st hO.next hp (fun x hx => .inr ⟨x.2, hx⟩)
    · have ht : t = 13 := by
        by_cases h : t = 13
        · exact h
        · exact absurd (.inl h) hs
      subst ht
      have hk : kindP c = 1 ∨ kindP c = 2 := by
        rcases kind_012 c with h | h
        · exact absurd (.inr h) hs
        · exact h
      rcases hk with hk | hk
      · by_cases h63 : 63 ≤ st.length
        · rw [ends_full hk h63] at hp
          simp at hp
        · rw [ends_push hk (by omega)] at hp
          refine step _ (hO.push h0.1 h0.2) hp (fun x hx => ?_)
          rcases List.mem_cons.1 hx with rfl | hx
          · exact .inl rfl
          · exact .inr ⟨x.2, hx⟩
      · cases hd : dropTo c st with
        | none =>
          rw [ends_lone hk hd] at hp
          exact step st hO.next hp (fun x hx => .inr ⟨x.2, hx⟩)
        | some y =>
          obtain ⟨k, st'⟩ := y
          rw [ends_pair hk hd] at hp
          obtain ⟨o, s1, rfl, ho⟩ := dropTo_parts hd
          obtain ⟨hO', hlt, hki, hT, hC⟩ := hO.below
          rcases List.mem_cons.1 hp with rfl | hp
          · exact ⟨⟨hki, hT, h0.1, o, c, hC, h0.2, ho⟩, Nat.le_refl _, by simp, .inr ⟨o, by simp⟩⟩
          · exact step st' hO' hp (fun x hx => .inr ⟨x.2, by simp [hx]⟩)
/-- One in another, or apart; no bracket in two. -/
def Apart (p q : Nat × Nat) : Prop := (p.1 < q.1 → p.2 < q.1 ∨ q.2 < p.2) ∧ (q.1 < p.1 → q.2 < p.1 ∨ p.2 < q.2) ∧ p.1 ≠ q.1 ∧ p.2 ≠ q.2 ∧ p.1 ≠ q.2 ∧ p.2 ≠ q.1
theorem ends_apart (T C : List Int) : ∀ (r : List (Int × Int)) (i : Nat) (st : List (Nat × Int)), Open T C i st → (∀ j t c, r[j]? = some (t, c) → T[i + j]? = some t ∧ C[i + j]? = some c) →
    (ends i st r).Pairwise Apart
  | [], i, st, _, _ => by simp [ends]
  | (t, c) :: r, i, st, hO, hr => by
    have h0 := hr 0 t c rfl
    rw [Nat.add_zero] at h0
    have hr' : ∀ j t' c', r[j]? = some (t', c') → T[i + 1 + j]? = some t' ∧ C[i + 1 + j]? = some c' := fun j t' c' hj => by
      have := hr (j + 1) t' c' (by simpa using hj)
      rwa [show i + (j + 1) = i + 1 + j from by omega] at this
    by_cases hs : t ≠ 13 ∨ kindP c = 0
    · rw [ends_skip hs]
      exact ends_apart T C r (i + 1) st hO.next hr'
    · have ht : t = 13 := by
        by_cases h : t = 13
        · exact h
        · exact absurd (.inl h) hs
      subst ht
      have hk : kindP c = 1 ∨ kindP c = 2 := by
        rcases kind_012 c with h | h
        · exact absurd (.inr h) hs
        · exact h
      rcases hk with hk | hk
      · by_cases h63 : 63 ≤ st.length
        · rw [ends_full hk h63]
          exact .nil
        · rw [ends_push hk (by omega)]
          exact ends_apart T C r (i + 1) _ (hO.push h0.1 h0.2) hr'
      · cases hd : dropTo c st with
        | none =>
          rw [ends_lone hk hd]
          exact ends_apart T C r (i + 1) st hO.next hr'
        | some y =>
          obtain ⟨k, st'⟩ := y
          rw [ends_pair hk hd]
          obtain ⟨o, s1, rfl, ho⟩ := dropTo_parts hd
          obtain ⟨hO', hlt, hki, hT, hC⟩ := hO.below
          refine List.pairwise_cons.2 ⟨fun q hq => ?_, ends_apart T C r (i + 1) st' hO' hr'⟩
          obtain ⟨h1, h2, h3, h4⟩ := ends_is T C r (i + 1) st' hO' hr' q hq
          have hql := h1.lt
          rcases h4 with h4 | ⟨o', ho'⟩
          · refine ⟨fun _ => ?_, fun _ => ?_, ?_, ?_, ?_, ?_⟩ <;> simp only [] <;> omega
          · have := hlt _ ho'
            simp only at this
            refine ⟨fun _ => ?_, fun _ => ?_, ?_, ?_, ?_, ?_⟩ <;> simp only [] <;> omega
/-- Put in order by what opens. -/
def inOrder (n : Nat) (L : List (Nat × Nat)) : List (Nat × Nat) := (List.range n).flatMap fun a => L.filter fun p => decide (p.1 = a)
theorem inOrder_mem (n : Nat) (L : List (Nat × Nat)) (p : Nat × Nat) : p ∈ inOrder n L ↔ p ∈ L ∧ p.1 < n := by
  unfold inOrder
  simp only [List.mem_flatMap, List.mem_range, List.mem_filter, decide_eq_true_eq]
  constructor
  · rintro ⟨a, ha, hp, rfl⟩
    exact ⟨hp, ha⟩
  · rintro ⟨hp, h⟩
    exact ⟨p.1, h, hp, rfl⟩
def Rising (L : List (Nat × Nat)) : Prop := L.Pairwise fun p q => p.1 < q.1
theorem inOrder_rising (n : Nat) (L : List (Nat × Nat)) (h : L.Pairwise fun p q => p.1 ≠ q.1) : Rising (inOrder n L) := by
  unfold Rising inOrder
  rw [List.pairwise_flatMap]
  refine ⟨fun a _ => ?_, ?_⟩
  · have h2 : (L.filter fun p => decide (p.1 = a)).Pairwise fun p q => p.1 ≠ q.1 := h.sublist List.filter_sublist
    have h3 : ∀ p ∈ L.filter fun p => decide (p.1 = a), p.1 = a := fun p hp => by simpa using (List.mem_filter.1 hp).2
    generalize (L.filter fun p => decide (p.1 = a)) = M at *
    refine h2.imp_of_mem (fun {p q} hp hq hne => ?_)
    exact absurd ((h3 p hp).trans (h3 q hq).symm) hne
  · refine List.pairwise_lt_range.imp ?_
    intro a b hab p hp q hq
    have h1 : p.1 = a := by simpa using (List.mem_filter.1 hp).2
    have h2 : q.1 = b := by simpa using (List.mem_filter.1 hq).2
    omega
/-- There is one such row alone. -/
theorem rising_unique : ∀ {L M : List (Nat × Nat)}, Rising L → Rising M → (∀ p, p ∈ L ↔ p ∈ M) → L = M
  | [], [], _, _, _ => rfl
  | [], q :: M, _, _, h => absurd ((h q).2 (by simp)) (by simp)
  | p :: L, [], _, _, h => absurd ((h p).1 (by simp)) (by simp)
  | p :: L, q :: M, hL, hM, h => by
    obtain ⟨hp, hL'⟩ := List.pairwise_cons.1 hL
    obtain ⟨hq, hM'⟩ := List.pairwise_cons.1 hM
    have e : p = q := by
      rcases List.mem_cons.1 ((h p).1 (by simp)) with e | e
      · exact e
      · rcases List.mem_cons.1 ((h q).2 (by simp)) with e2 | e2
        · exact e2.symm
        · have := hq p e
          have := hp q e2
          omega
    subst e
    congr 1
    refine rising_unique hL' hM' (fun x => ?_)
    constructor
    · intro hx
      rcases List.mem_cons.1 ((h x).1 (List.mem_cons_of_mem _ hx)) with e | e
      · subst e
        have := hp x hx
        omega
      · exact e
    · intro hx
      rcases List.mem_cons.1 ((h x).2 (List.mem_cons_of_mem _ hx)) with e | e
      · subst e
        have := hq x hx
        omega
      · exact e
/-- The pairs of a sequence. -/
def findP (T C : List Int) : List (Nat × Nat) := if T.length = C.length then inOrder C.length (ends 0 [] (T.zip C)) else []
theorem zip_at {T C : List Int} (j : Nat) (t c : Int) (h : (T.zip C)[j]? = some (t, c)) : T[0 + j]? = some t ∧ C[0 + j]? = some c := by
  rw [Nat.zero_add]
  rw [List.getElem?_zip_eq_some] at h
  exact h
theorem find_unlike {T C : List Int} (h : T.length ≠ C.length) : findP T C = [] := by unfold findP; rw [if_neg h]
theorem find_mem {T C : List Int} (h : T.length = C.length) (p : Nat × Nat) : p ∈ findP T C ↔ p ∈ ends 0 [] (T.zip C) := by
  unfold findP
  rw [if_pos h, inOrder_mem]
  constructor
  · exact fun h => h.1
  · intro hp
    obtain ⟨h1, h2, h3, -⟩ := ends_is T C _ 0 [] (Open.nil T C 0) (fun j t c => zip_at j t c) p hp
    have := h1.lt
    rw [List.length_zip] at h3
    exact ⟨hp, by omega⟩
theorem find_rising (T C : List Int) : Rising (findP T C) := by
  by_cases h : T.length = C.length
  · unfold findP
    rw [if_pos h]
    exact inOrder_rising _ _ ((ends_apart T C _ 0 [] (Open.nil T C 0) (fun j t c => zip_at j t c)).imp (fun h => h.2.2.1))
  · rw [find_unlike h]
    exact .nil
theorem find_unique {T C : List Int} (h : T.length = C.length) {L : List (Nat × Nat)} (hL : Rising L) (hm : ∀ p, p ∈ L ↔ p ∈ ends 0 [] (T.zip C)) : L = findP T C :=
  rising_unique hL (find_rising T C) (fun p => (hm p).trans (find_mem h p).symm)
theorem find_is {T C : List Int} {p : Nat × Nat} (hp : p ∈ findP T C) : PairIs T C p := by
  by_cases h : T.length = C.length
  · exact (ends_is T C _ 0 [] (Open.nil T C 0) (fun j t c => zip_at j t c) p ((find_mem h p).1 hp)).1
  · rw [find_unlike h] at hp
    cases hp
theorem find_lt {T C : List Int} {p : Nat × Nat} (hp : p ∈ findP T C) : p.1 < p.2 ∧ p.2 < T.length ∧ p.2 < C.length := by
  have h := find_is hp
  obtain ⟨a, b, -, hb, -⟩ := h.meet
  exact ⟨h.lt, (List.getElem?_eq_some_iff.1 h.t2).1, (List.getElem?_eq_some_iff.1 hb).1⟩
theorem find_len {T C : List Int} : (findP T C).length ≤ C.length := by
  have h : ((findP T C).map (·.1)).Pairwise (· < ·) := List.pairwise_map.2 (find_rising T C)
  have hlt : ∀ x ∈ (findP T C).map (·.1), x < C.length := by
    intro x hx
    obtain ⟨p, hp, rfl⟩ := List.mem_map.1 hx
    have := find_lt hp
    omega
  have hn : ((findP T C).map (·.1)).Nodup := h.imp (fun h => Nat.ne_of_lt h)
  have := hn.length_le_of_subset (l₂ := List.range C.length) (fun x hx => List.mem_range.2 (hlt x hx))
  simpa using this
end Go.Proofs.YtfclpecbnailgaaGreat.Pr

/-
  What classes become by their brackets, plainly: letters, what a pair does, pair by pair; that only brackets of pairs and marks behind them become something, and that is L or R; that with L and R exchanged all is exchanged. No program in it.
-/
set_option linter.unusedVariables false
namespace Go.Proofs.YtfclpecbnailgaaGreat.Pr
open Go.Proofs.YtfclpecbnailgaaGreat.Mi
/-- The letter of a class: below 0, it has none. -/
def letZ (c : Int) : Int := if c = 0 then 0 else if c = 1 ∨ c = 3 ∨ c = 6 then 1 else -1
def hasZ (l : List Int) (x : Int) : Bool := l.any fun c => decide (letZ c = x)
def aheadZ (l : List Int) (s : Int) : Int := l.foldl (fun a c => if 0 ≤ letZ c then letZ c else a) s
/-- What a pair does: below 0, nothing. -/
def becZ (l : List Int) (p : Nat × Nat) (way s : Int) : Int :=
  if hasZ ((l.take p.2).drop (p.1 + 1)) way = true then way
  else if hasZ ((l.take p.2).drop (p.1 + 1)) (1 - way) = true then (if aheadZ (l.take p.1) s = 1 - way then 1 - way else way) else -1
/-- Are all NSM from behind a place up to another? -/
def marksZ (own : List Int) (a t : Nat) : Bool := decide (a < t) && ((own.take (t + 1)).drop (a + 1)).all fun c => decide (c = 8)
def mayZ (own : List Int) (p : Nat × Nat) (k : Nat) : Bool := decide (k = p.1) || decide (k = p.2) || marksZ own p.1 k || marksZ own p.2 k
def setZ (own : List Int) (p : Nat × Nat) (c : Int) (l : List Int) : List Int := l.mapIdx fun k x => if mayZ own p k = true then c else x
def applyZ (own : List Int) (way s : Int) (l : List Int) (p : Nat × Nat) : List Int := if becZ l p way s < 0 then l else setZ own p (becZ l p way s) l
def wayZ (level : Int) : Int := if level % 2 = 0 then 0 else 1
def settleZ (T C own : List Int) (level s : Int) : List Int :=
  if T.length = C.length ∧ own.length = C.length then (findP T C).foldl (applyZ own (wayZ level) s) T else []
theorem letZ_cases (c : Int) : letZ c = 0 ∨ letZ c = 1 ∨ letZ c = -1 := by unfold letZ; split; exact .inl rfl; split; exact .inr (.inl rfl); exact .inr (.inr rfl)
theorem wayZ_01 (level : Int) : wayZ level = 0 ∨ wayZ level = 1 := by unfold wayZ; split; exact .inl rfl; exact .inr rfl
theorem becZ_01 {way : Int} (hw : way = 0 ∨ way = 1) (l : List Int) (p : Nat × Nat) (s : Int) : becZ l p way s = 0 ∨ becZ l p way s = 1 ∨ becZ l p way s = -1 := by
  unfold becZ
  split
  · omega
  · split
    · split <;> omega
    · exact .inr (.inr rfl)
theorem setZ_len (own : List Int) (p : Nat × Nat) (c : Int) (l : List Int) : (setZ own p c l).length = l.length := by simp [setZ]
theorem applyZ_len (own : List Int) (way s : Int) (l : List Int) (p : Nat × Nat) : (applyZ own way s l p).length = l.length := by
  unfold applyZ
  split
  · rfl
  · exact setZ_len _ _ _ _
theorem foldZ_len (own : List Int) (way s : Int) : ∀ (ps : List (Nat × Nat)) (l : List Int), (ps.foldl (applyZ own way s) l).length = l.length
  | [], l => rfl
  | p :: ps, l => by rw [List.foldl_cons, foldZ_len own way s ps, applyZ_len]
theorem settleZ_len {T C own : List Int} (level s : Int) (h1 : T.length = C.length) (h2 : own.length = C.length) : (settleZ T C own level s).length = T.length := by
  unfold settleZ
  rw [if_pos ⟨h1, h2⟩, foldZ_len]
theorem setZ_at (own : List Int) (p : Nat × Nat) (c : Int) (l : List Int) (i : Nat) (x : Int) (h : l[i]? = some x) : (setZ own p c l)[i]? = some (if mayZ own p i = true then c else x) := by
  unfold setZ
  rw [List.getElem?_mapIdx, h]
  rfl
end Go.Proofs.YtfclpecbnailgaaGreat.Pr

/-
  What has no direction, settled, plainly: the direction of a class, of a level; what a gap lies between; the row settled, at once and place by place; that what is settled stays so; that it parts at an L or an R; that it turns round; the level of a class. No program in it.
-/
set_option linter.unusedVariables false
namespace Go.Proofs.YtfclpecbnailgaaGreat.Ne
def dirN (c : Int) : Int := if c = 0 then 0 else if c = 1 ∨ c = 3 ∨ c = 6 then 1 else -1
def lvN (l : Int) : Int := if l.tmod 2 = 0 then 0 else 1
/-- The direction behind: of the first that has one, else b. -/
def nextN (b : Int) : List Int → Int
  | [] => b
  | c :: r => if 0 ≤ dirN c then dirN c else nextN b r
def fillN (l a b : Int) : Int := if a = b then a else lvN l
/-- A row settled, at the level l, between a and b. -/
def settleN (l b : Int) (a : Int) : List Int → List Int
  | [] => []
  | c :: r => if 0 ≤ dirN c then c :: settleN l b (dirN c) r else fillN l a (nextN b r) :: settleN l b a r
/-- The level of a class. -/
def levN (l c : Int) : Int :=
  if c = 0 then l + l % 2 else if c = 1 then l + (1 - l % 2) else if c = 3 ∨ c = 6 then l + (2 - l % 2) else l
theorem dirN_cases (c : Int) : dirN c = 0 ∨ dirN c = 1 ∨ dirN c = -1 := by
  unfold dirN; split
  · exact .inl rfl
  · split
    · exact .inr (.inl rfl)
    · exact .inr (.inr rfl)
theorem dirN_no {c : Int} (h0 : c ≠ 0) (h1 : c ≠ 1) (h3 : c ≠ 3) (h6 : c ≠ 6) : dirN c = -1 := by unfold dirN; rw [if_neg h0, if_neg (by omega)]
theorem dirN_has {c : Int} : 0 ≤ dirN c ↔ c = 0 ∨ c = 1 ∨ c = 3 ∨ c = 6 := by
  unfold dirN; constructor
  · intro h; split at h <;> (try split at h) <;> omega
  · rintro (rfl | rfl | rfl | rfl) <;> decide
theorem settle_len (l b : Int) (T : List Int) : ∀ a, (settleN l b a T).length = T.length := by
  induction T with
  | nil => intro a; rfl
  | cons c r ih => intro a; unfold settleN; split <;> simp [ih]
end Go.Proofs.YtfclpecbnailgaaGreat.Ne
