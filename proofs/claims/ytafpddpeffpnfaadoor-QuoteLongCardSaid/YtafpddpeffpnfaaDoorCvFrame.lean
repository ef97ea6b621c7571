/-
  The frame of csv.walk at its labels: which slots are known there; the others are a row of values.
-/
import Derived.Test.YtafpddpeffpnfaaDoorCvKit
set_option linter.unusedVariables false
namespace Go.Proofs.YtafpddpeffpnfaaDoor.Cv
open Go Go.RowKit

structure Fit (t : Act) (s c a f : Value) : Prop where
  size : t.tmps.size = 80
  defers : t.defers = []
  s0 : t.tmps.getD 0 undef = s
  s1 : t.tmps.getD 1 undef = c
  s4 : t.tmps.getD 4 undef = a
  s6 : t.tmps.getD 6 undef = f

theorem list_range (l : List Value) : l = (List.range l.length).map fun i => l.getD i undef := by
  apply List.ext_getElem
  · simp
  · intro i h1 h2
    simp [h1]

theorem Fit.opened {t : Act} {s c a f : Value} (h : Fit t s c a f) : ∃ g : Nat → Value, t = ⟨#[s, c, g 2, g 3, a, g 5, f, g 7, g 8, g 9, g 10, g 11, g 12, g 13, g 14, g 15, g 16, g 17, g 18, g 19, g 20, g 21, g 22, g 23, g 24, g 25, g 26, g 27, g 28, g 29, g 30, g 31, g 32, g 33, g 34, g 35, g 36, g 37, g 38, g 39, g 40, g 41, g 42, g 43, g 44, g 45, g 46, g 47, g 48, g 49, g 50, g 51, g 52, g 53, g 54, g 55, g 56, g 57, g 58, g 59, g 60, g 61, g 62, g 63, g 64, g 65, g 66, g 67, g 68, g 69, g 70, g 71, g 72, g 73, g 74, g 75, g 76, g 77, g 78, g 79], []⟩ := by
  obtain ⟨hs, hd, h0, h1, h4, h6⟩ := h
  obtain ⟨⟨l⟩, d⟩ := t
  simp only at hd hs
  subst hd
  have hl : l.length = 80 := hs
  have e := list_range l
  rw [hl] at e
  have e0 : l.getD 0 undef = s := by rw [← h0]; simp [Array.getD, List.getD, hl]
  have e1 : l.getD 1 undef = c := by rw [← h1]; simp [Array.getD, List.getD, hl]
  have e4 : l.getD 4 undef = a := by rw [← h4]; simp [Array.getD, List.getD, hl]
  have e6 : l.getD 6 undef = f := by rw [← h6]; simp [Array.getD, List.getD, hl]
  generalize hg : (fun i => l.getD i undef) = g at e
  have c0 : g 0 = s := by rw [← hg]; exact e0
  have c1 : g 1 = c := by rw [← hg]; exact e1
  have c4 : g 4 = a := by rw [← hg]; exact e4
  have c6 : g 6 = f := by rw [← hg]; exact e6
  refine ⟨g, ?_⟩
  rw [e, ← c0, ← c1, ← c4, ← c6]
  rfl
end Go.Proofs.YtafpddpeffpnfaaDoor.Cv
