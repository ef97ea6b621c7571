/-
  The frame of pairs.Find at its label: which slots are known there; the others are a row of values.
-/
import Derived.Test.YtapeebnbiappgaaDoorCvKit
set_option linter.unusedVariables false
namespace Go.Proofs.YtapeebnbiappgaaDoor.Pb
open Go Go.RowKit

structure FitPbFi (t : Act) (ds : List Deferred) (tv pc rv pl po cs nv iv : Value) : Prop where
  size : t.tmps.size = 70
  defers : t.defers = ds
  s0 : t.tmps.getD 0 undef = tv
  s3 : t.tmps.getD 3 undef = pc
  s4 : t.tmps.getD 4 undef = rv
  s5 : t.tmps.getD 5 undef = pl
  s6 : t.tmps.getD 6 undef = po
  s18 : t.tmps.getD 18 undef = cs
  s19 : t.tmps.getD 19 undef = nv
  s20 : t.tmps.getD 20 undef = iv

theorem list_range_PbFi (l : List Value) : l = (List.range l.length).map fun i => l.getD i undef := by
  apply List.ext_getElem
  · simp
  · intro i h1 h2
    simp [h1]

theorem FitPbFi.opened {t : Act} {ds : List Deferred} {tv pc rv pl po cs nv iv : Value} (h : FitPbFi t ds tv pc rv pl po cs nv iv) : ∃ g : Nat → Value, t = ⟨#[tv, g 1, g 2, pc, rv, pl, po, g 7, g 8, g 9, g 10, g 11, g 12, g 13, g 14, g 15, g 16, g 17, cs, nv, iv, g 21, g 22, g 23, g 24, g 25, g 26, g 27, g 28, g 29, g 30, g 31, g 32, g 33, g 34, g 35, g 36, g 37, g 38, g 39, g 40, g 41, g 42, g 43, g 44, g 45, g 46, g 47, g 48, g 49, g 50, g 51, g 52, g 53, g 54, g 55, g 56, g 57, g 58, g 59, g 60, g 61, g 62, g 63, g 64, g 65, g 66, g 67, g 68, g 69], ds⟩ := by
  obtain ⟨hs, hd, h0, h3, h4, h5, h6, h18, h19, h20⟩ := h
  obtain ⟨⟨l⟩, d⟩ := t
  simp only at hd hs
  subst hd
  have hl : l.length = 70 := hs
  have e := list_range_PbFi l
  rw [hl] at e
  have e0 : l.getD 0 undef = tv := by rw [← h0]; simp [Array.getD, List.getD, hl]
  have e3 : l.getD 3 undef = pc := by rw [← h3]; simp [Array.getD, List.getD, hl]
  have e4 : l.getD 4 undef = rv := by rw [← h4]; simp [Array.getD, List.getD, hl]
  have e5 : l.getD 5 undef = pl := by rw [← h5]; simp [Array.getD, List.getD, hl]
  have e6 : l.getD 6 undef = po := by rw [← h6]; simp [Array.getD, List.getD, hl]
  have e18 : l.getD 18 undef = cs := by rw [← h18]; simp [Array.getD, List.getD, hl]
  have e19 : l.getD 19 undef = nv := by rw [← h19]; simp [Array.getD, List.getD, hl]
  have e20 : l.getD 20 undef = iv := by rw [← h20]; simp [Array.getD, List.getD, hl]
  generalize hg : (fun i => l.getD i undef) = g at e
  have c0 : g 0 = tv := by rw [← hg]; exact e0
  have c3 : g 3 = pc := by rw [← hg]; exact e3
  have c4 : g 4 = rv := by rw [← hg]; exact e4
  have c5 : g 5 = pl := by rw [← hg]; exact e5
  have c6 : g 6 = po := by rw [← hg]; exact e6
  have c18 : g 18 = cs := by rw [← hg]; exact e18
  have c19 : g 19 = nv := by rw [← hg]; exact e19
  have c20 : g 20 = iv := by rw [← hg]; exact e20
  refine ⟨g, ?_⟩
  rw [e, ← c0, ← c3, ← c4, ← c5, ← c6, ← c18, ← c19, ← c20]
  rfl
end Go.Proofs.YtapeebnbiappgaaDoor.Pb
