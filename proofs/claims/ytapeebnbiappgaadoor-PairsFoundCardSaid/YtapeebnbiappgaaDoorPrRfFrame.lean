/-
  The frame of parquetryref14.Find at its label: which slots are known there; the others are a row of values.
-/
import Derived.Test.YtapeebnbiappgaaDoorCvKit
set_option linter.unusedVariables false
namespace Go.Proofs.YtapeebnbiappgaaDoor.Pb
open Go Go.RowKit

structure FitPrRf (t : Act) (cv rv vl : Value) : Prop where
  size : t.tmps.size = 113
  defers : t.defers = []
  s1 : t.tmps.getD 1 undef = cv
  s4 : t.tmps.getD 4 undef = rv
  s5 : t.tmps.getD 5 undef = vl

theorem list_range_PrRf (l : List Value) : l = (List.range l.length).map fun i => l.getD i undef := by
  apply List.ext_getElem
  · simp
  · intro i h1 h2
    simp [h1]

theorem FitPrRf.opened {t : Act} {cv rv vl : Value} (h : FitPrRf t cv rv vl) : ∃ g : Nat → Value, t = ⟨#[g 0, cv, g 2, g 3, rv, vl, g 6, g 7, g 8, g 9, g 10, g 11, g 12, g 13, g 14, g 15, g 16, g 17, g 18, g 19, g 20, g 21, g 22, g 23, g 24, g 25, g 26, g 27, g 28, g 29, g 30, g 31, g 32, g 33, g 34, g 35, g 36, g 37, g 38, g 39, g 40, g 41, g 42, g 43, g 44, g 45, g 46, g 47, g 48, g 49, g 50, g 51, g 52, g 53, g 54, g 55, g 56, g 57, g 58, g 59, g 60, g 61, g 62, g 63, g 64, g 65, g 66, g 67, g 68, g 69, g 70, g 71, g 72, g 73, g 74, g 75, g 76, g 77, g 78, g 79, g 80, g 81, g 82, g 83, g 84, g 85, g 86, g 87, g 88, g 89, g 90, g 91, g 92, g 93, g 94, g 95, g 96, g 97, g 98, g 99, g 100, g 101, g 102, g 103, g 104, g 105, g 106, g 107, g 108, g 109, g 110, g 111, g 112], []⟩ := by
  obtain ⟨hs, hd, h1, h4, h5⟩ := h
  obtain ⟨⟨l⟩, d⟩ := t
  simp only at hd hs
  subst hd
  have hl : l.length = 113 := hs
  have e := list_range_PrRf l
  rw [hl] at e
  have e1 : l.getD 1 undef = cv := by rw [← h1]; simp [Array.getD, List.getD, hl]
  have e4 : l.getD 4 undef = rv := by rw [← h4]; simp [Array.getD, List.getD, hl]
  have e5 : l.getD 5 undef = vl := by rw [← h5]; simp [Array.getD, List.getD, hl]
  generalize hg : (fun i => l.getD i undef) = g at e
  have c1 : g 1 = cv := by rw [← hg]; exact e1
  have c4 : g 4 = rv := by rw [← hg]; exact e4
  have c5 : g 5 = vl := by rw [← hg]; exact e5
  refine ⟨g, ?_⟩
  rw [e, ← c1, ← c4, ← c5]
  rfl
end Go.Proofs.YtapeebnbiappgaaDoor.Pb
