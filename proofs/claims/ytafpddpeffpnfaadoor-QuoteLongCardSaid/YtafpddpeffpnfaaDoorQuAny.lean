/-
  Proved here: strings.ContainsAny of any text (of at most 1000000 bytes) and of quote, comma, CR, LF says whether the text has one of them; it leaves what was in memory below the heap's end.
-/
import Derived.Test.YtafpddpeffpnfaaDoorShelf
import Derived.Test.YtafpddpeffpnfaaDoorQuPlain
import Derived.Test.YtafpddpeffpnfaaDoorCvKit
import Derived.Test.YtafpddpeffpnfaaDoorCvSame
import Derived.Lib.IndexAny
import Derived.Laws.Runes
import Derived.Laws.RangeString
import Derived.Lib.OthersKept
import Derived.Lib.MapLaws
import Derived.LoopTactic
import Derived.Deep.LoopGhost
import Derived.Deep.QuietTactic
import Derived.BigQuiet
import Derived.Lib.Hide
import Derived.Below
import Derived.OwnWalk
import Derived.IntWalk
set_option linter.unusedVariables false
namespace Go.Proofs.YtafpddpeffpnfaaDoor.Qu
open Go Go.RowKit Go.Lib Go.Proofs.YtafpddpeffpnfaaDoor.Cv

def CH : ByteArray := ⟨#[34, 44, 13, 10]⟩
theorem indexByte_high (l : List UInt8) (c : UInt8) (hl : ∀ b ∈ l, b.toNat < 128) (hc : 128 ≤ c.toNat) : Lib.indexByte l c = -1 := by
  induction l with
  | nil => rfl
  | cons b l ih =>
    have hb := hl b (by simp)
    have hne : (b == c) = false := by
      rw [beq_eq_false_iff_ne]
      rintro rfl
      omega
    have := ih fun x hx => hl x (List.mem_cons_of_mem _ hx)
    simp [Lib.indexByte, hne, this]

theorem CH_low (k : Nat) (h : k < CH.size) : (CH[k]'h).toNat < 128 := by
  have h4 : CH.size = 4 := rfl
  match k, h with
  | 0, _ => show (34 : UInt8).toNat < 128; decide
  | 1, _ => show (44 : UInt8).toNat < 128; decide
  | 2, _ => show (13 : UInt8).toNat < 128; decide
  | 3, _ => show (10 : UInt8).toNat < 128; decide

theorem CH_mem : ∀ b ∈ CH.data.toList, b.toNat < 128 := by decide
theorem ext_mem {s : ByteArray} {a e : Nat} {b : UInt8} (h : b ∈ (s.extract a e).data.toList) : b ∈ s.data.toList := by
  rw [Lib.extract_data] at h
  exact List.mem_of_mem_drop (List.mem_of_mem_take h)

set_option maxHeartbeats 2000000 in
set_option maxRecDepth 1000000 in
theorem indexRune_valid (r : Int) (w : World) (h0 : 128 ≤ r) (h1 : r ≤ 1114111) (h2 : r ≠ 65533) (hv : Lib.validRune r = true) :
    Calls Tryd.prog 40 #[.string CH, .int .i32 r] w fun e w' => e = .returned (.int .i64 (-1)) ∧ Below w.heap.size w w' := by
  have hv' : Utf8.valid r = true := by
    simp [Utf8.valid, Lib.validRune] at hv ⊢
    omega
  obtain ⟨hs1, hs2, hlast⟩ := encode_facts r hv' h0
  obtain ⟨x, hx⟩ : ∃ x, Utf8.encode r = x := ⟨_, rfl⟩
  rw [hx] at hs1 hs2 hlast
  have HV := Tryd.utf8_ValidRune r w
  rw [hv] at HV
  have hV := Lib.hid HV
  have g1 : ¬ r < 128 := by omega
  obtain ⟨k, hk⟩ : ∃ k : Nat, x.size = k + 1 := ⟨x.size - 1, by omega⟩
  have hkx : k < x.size := by omega
  have hl2 : 128 ≤ (x[k]'hkx).toNat := by
    have e : x.size - 1 = k := by omega
    have := hlast (by omega)
    simpa [e] using this
  have hkz : (x.size : Int) - 1 = k := by omega
  have HX := Lib.hid hx
  clear HV hlast hx hv hv'
  go_enter Tryd.func40, Tryd.ntmps40
  go_wp2_with (go_at_call 51; refine hV.out.mono ?_; rintro e w' ⟨rfl, rfl⟩)
  have hcv := run_convert_int_string (P := Tryd.prog) w' 21 9 .i32 r (by rw [Tryd.underlying21]; rfl) Tryd.underlying9
  rw [HX.out] at hcv
  refine wp_scope_many (fun _ _ _ => False) (fun _ _ _ => 0) ?_ (fun _ _ _ h => h.elim)
  go_wp2_with fail
  go_loopw [9] (fun s9 wx => s9 = .int .i64 k ∧ wx = w') (fun _ _ => 0)
  case atStart => exact ⟨rfl, rfl⟩
  case round =>
    obtain ⟨rfl, rfl⟩ := hrel
    have hk4 : (k : Int) < 4 := by omega
    have hCs : CH.size = 4 := rfl
    go_wp2_with fail
    refine wp_scope_many (fun _ _ _ => False) (fun _ _ _ => 0) ?_ (fun _ _ _ h => h.elim)
    have hkC : k < CH.size := by omega
    have hc := CH_low k hkC
    have hne : (((CH[k]'hkC).toNat : Int) != ((x[k]'hkx).toNat : Int)) = true := by
      rw [bne_iff_ne]
      omega
    have hsl := run_slice_string (P := Tryd.prog) wr 9 CH .i64 .i64 ((k : Int) + 1) 4 Tryd.underlying9 (by omega) (by omega) (by omega)
    have hk1 : (k : Int) < (k : Int) + 1 := by omega
    have hib := fun W => Tryd.strings_IndexByte (CH.extract (k + 1) 4) ((x[k]'hkx).toNat : Int) W
    rw [show Lib.indexByte (CH.extract (k + 1) 4).data.toList ((x[k]'hkx).toNat : Int).toNat.toUInt8 = -1 from indexByte_high _ _ (fun b hb => CH_mem b (ext_mem hb)) (by simpa using hl2)] at hib
    have HIB := Lib.hid hib
    clear hib
    go_wp2_with fail
    go_quiet (fail)
    go_wp2_with fail
    have HB := Lib.hid (drewN_below wr nq)
    generalize wr.drewN nq = w5 at *
    go_quiet ((go_at_call 50; exact Calls.quiet_of_same (HIB.out _)))
    go_wp2_with fail
    simp only [jumps]
    change bodyPost Tryd.prog Tryd.f40 (fun e w' => e = Ending.returned (Value.int IntKind.i64 (-1)) ∧ Below wr.heap.size wr w') Exit.ret _ _
    go_ret
    exact ⟨rfl, HB.out.trans ((drewN_below _ _).mono HB.out.size)⟩

set_option maxHeartbeats 2000000 in
set_option maxRecDepth 1000000 in
theorem indexRune_bad (r : Int) (w : World) (h0 : 128 ≤ r) (h1 : r ≤ 1114111) (h2 : r ≠ 65533) (hv : Lib.validRune r = false) :
    Calls Tryd.prog 40 #[.string CH, .int .i32 r] w fun e w' => e = .returned (.int .i64 (-1)) ∧ Below w.heap.size w w' := by
  have HV := Tryd.utf8_ValidRune r w
  rw [hv] at HV
  have hV := Lib.hid HV
  have g1 : ¬ r < 128 := by omega
  clear HV hv
  go_enter Tryd.func40, Tryd.ntmps40
  go_wp2_with (go_at_call 51; refine hV.out.mono ?_; rintro e w' ⟨rfl, rfl⟩)
  go_ret
  exact ⟨rfl, Below.refl _ _⟩

set_option maxHeartbeats 2000000 in
set_option maxRecDepth 1000000 in
theorem indexRune_sub (w : World) :
    Calls Tryd.prog 40 #[.string CH, .int .i32 65533] w fun e w' => e = .returned (.int .i64 (-1)) ∧ Below w.heap.size w w' := by
  go_enter Tryd.func40, Tryd.ntmps40
  go_wp2_with fail
  go_loopg [] CH.size (fun gf wx => ∃ pos : Nat, wx = w.iter CH pos ∧ pos + gf = CH.size)
  case atStart => exact ⟨0, rfl, by simp⟩
  case round =>
    obtain ⟨pos, rfl, hfu⟩ := hrel
    by_cases hps : pos < CH.size
    · obtain ⟨g', rfl⟩ : ∃ g', gk = g' + 1 := ⟨gk - 1, by omega⟩
      have hlow := CH_low pos hps
      have hnx := fun ty => run_next_ascii (P := Tryd.prog) w CH pos ty hps hlow
      have hne : ((CH[pos].toNat : Int) == 65533) = false := by
        rw [beq_eq_false_iff_ne]
        omega
      go_wp2_with fail
      go_roundg g'
      case measure => omega
      case rel => exact ⟨pos + 1, rfl, by omega⟩
    · have hnx := fun ty => run_next_end (P := Tryd.prog) w CH pos ty hps
      go_wp2_with fail
      go_ret
      exact ⟨rfl, (Below.refl _ _).alloc (Nat.le_refl _) _⟩

theorem indexRune_high (r : Int) (w : World) (h0 : 128 ≤ r) (h1 : r ≤ 1114111) :
    Calls Tryd.prog 40 #[.string CH, .int .i32 r] w fun e w' => e = .returned (.int .i64 (-1)) ∧ Below w.heap.size w w' := by
  by_cases h2 : r = 65533
  · subst h2; exact indexRune_sub w
  · cases hv : Lib.validRune r with
    | true => exact indexRune_valid r w h0 h1 h2 hv
    | false => exact indexRune_bad r w h0 h1 h2 hv
end Go.Proofs.YtafpddpeffpnfaaDoor.Qu
