/-
  The frame of base.Level at its label: which slots are known there; the others are a row of values.
-/
import Derived.Test.YtehndhkcmccpmaaCvKit
set_option linter.unusedVariables false
namespace Go.Proofs.Ytehndhkcmccpmaa.Ba
open Go Go.RowKit

structure FitBaLev (t : Act) (s a o : Value) : Prop where
  size : t.tmps.size = 36
  defers : t.defers = []
  s0 : t.tmps.getD 0 undef = s
  s4 : t.tmps.getD 4 undef = a
  s5 : t.tmps.getD 5 undef = o

theorem list_range_BaLev (l : List Value) : l = (List.range l.length).map fun i => l.getD i undef := by
  apply List.ext_getElem
  · simp
  · intro i h1 h2
    simp [h1]

theorem FitBaLev.opened {t : Act} {s a o : Value} (h : FitBaLev t s a o) : ∃ g : Nat → Value, t = ⟨#[s, g 1, g 2, g 3, a, o, g 6, g 7, g 8, g 9, g 10, g 11, g 12, g 13, g 14, g 15, g 16, g 17, g 18, g 19, g 20, g 21, g 22, g 23, g 24, g 25, g 26, g 27, g 28, g 29, g 30, g 31, g 32, g 33, g 34, g 35], []⟩ := by
  obtain ⟨hs, hd, h0, h4, h5⟩ := h
  obtain ⟨⟨l⟩, d⟩ := t
  simp only at hd hs
  subst hd
  have hl : l.length = 36 := hs
  have e := list_range_BaLev l
  rw [hl] at e
  have e0 : l.getD 0 undef = s := by rw [← h0]; simp [Array.getD, List.getD, hl]
  have e4 : l.getD 4 undef = a := by rw [← h4]; simp [Array.getD, List.getD, hl]
  have e5 : l.getD 5 undef = o := by rw [← h5]; simp [Array.getD, List.getD, hl]
  generalize hg : (fun i => l.getD i undef) = g at e
  have c0 : g 0 = s := by rw [← hg]; exact e0
  have c4 : g 4 = a := by rw [← hg]; exact e4
  have c5 : g 5 = o := by rw [← hg]; exact e5
  refine ⟨g, ?_⟩
  rw [e, ← c0, ← c4, ← c5]
  rfl
end Go.Proofs.Ytehndhkcmccpmaa.Ba
