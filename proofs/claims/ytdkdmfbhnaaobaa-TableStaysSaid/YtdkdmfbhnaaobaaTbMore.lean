/-
  What the laws on tables need: tables that were made while other calls go on; bounds of tables that were made.
-/
import Derived.Test.YtdkdmfbhnaaobaaTbAwake
import Derived.Test.YtdkdmfbhnaaobaaTbOwn
set_option linter.unusedVariables false
namespace Go.Proofs.Ytdkdmfbhnaaobaa.Tb
open Go Go.RowKit Go.Lib Go.Proofs.Ytdkdmfbhnaaobaa.Cv

/-- A table that a call made, and that stands. -/
def TblL (B L : Nat) (w : World) (A : Option Addr) (c : Nat) (R : Rec) : Prop := Tbl B L w A c R ∧ L ≤ w.heap.size ∧ B ≤ w.heap.size
theorem Tbl.now {B : Nat} {w : World} {A : Option Addr} {c : Nat} {R : Rec} (h : Tbl B w.heap.size w A c R) (hB : B ≤ w.heap.size) : TblL B w.heap.size w A c R := ⟨h, Nat.le_refl _, hB⟩
theorem TblL.step {B L : Nat} {w w' : World} {A : Option Addr} {c : Nat} {R : Rec} (h : TblL B L w A c R) (hb : Below w.heap.size w w') : TblL B L w' A c R :=
  ⟨h.1.below (hb.mono h.2.1), Nat.le_trans h.2.1 hb.size, Nat.le_trans h.2.2 hb.size⟩
theorem TblL.mid {B L C D : Nat} {w w' : World} {A : Option Addr} {c : Nat} {R : Rec} (h : TblL C D w A c R) (hb : Mid B L w w') (hC : L ≤ C) : TblL C D w' A c R :=
  ⟨h.1.mid hb hC, Nat.le_trans h.2.1 hb.size, Nat.le_trans h.2.2 hb.size⟩
theorem TblL.recs {B L : Nat} {w : World} {A : Option Addr} {c : Nat} {R : Rec} (h : TblL B L w A c R) : RecsC w A R := h.1.recs
theorem TblL.spoil {B L : Nat} {w : World} {A : Option Addr} {c : Nat} {R : Rec} (h : TblL B L w A c R) (hF : Few R) :
    Calls Try.prog 21 #[.slice A R.length c] w fun e w' => e = .returned (.tuple #[]) ∧ Mid B L w w' :=
  spoil_any B L A R R.length c rfl w h.1 hF.num h.2.2

theorem few_tab {h w : Nat} {F : Nat → Nat → Bs} (hh : h ≤ 1000000) (hw : w ≤ 1000000) : Few (tab h w F) := ⟨by rw [tab_len]; exact hh, fun r hr => by rw [tab_mem hr]; exact hw⟩
theorem Few.high {R : Rec} (h : Few R) : highT R ≤ 1000000 := by have := h.num; unfold highT; omega
theorem Few.wide {R : Rec} (h : Few R) : wideT R ≤ 1000000 := by have := h.width; unfold wideT; omega
theorem Few.fill {R : Rec} (h : Few R) : Few (fillT R) := few_tab h.high h.wide
theorem Few.turn {R : Rec} (h : Few R) : Few (turnT R) := few_tab h.wide h.high
theorem Few.trim {R : Rec} (h : Few R) : Few (trimT R) := h.cut.fill
end Go.Proofs.Ytdkdmfbhnaaobaa.Tb
