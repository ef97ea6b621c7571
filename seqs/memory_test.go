package seqs

import (
	"slices"
	"testing"
)

// some are classes of each kind.
var some = []int{clL, clRLE, clLRO, clRLI, clFSI, clPDF, clPDI, clBN, clB, 99}

// P12.2: nothing of what is handed in changes, nor does what lies behind its end, and that is not looked at either.
func TestStays(t *testing.T) {
	eachRow(4, some, func(classes []int) {
		want := row(classes, []int{clPDI, clR, 77})
		l := slices.Clone(want)
		for level := -1; level <= 2; level++ {
			areSeqs(t, l[:len(classes)], level, Sequences(classes, level))
		}
		if !slices.Equal(l, want) {
			t.Errorf("%v has become %v", want, l)
		}
	})
	handed := named(t, "RLI R B PDI L RLE R")
	for n := range handed {
		areSeqs(t, handed[:n], 0, docSequences(slices.Clone(handed[:n]), 0))
	}
}

// P12.2: what is answered stays when what was handed in changes, and the other way round; no two lists of it share memory, and nothing is kept for the next call.
func TestNewMemory(t *testing.T) {
	look := func(classes []int) {
		handed := row(classes, []int{clRLE, clPDI})
		kept := slices.Clone(handed)
		l := Sequences(handed[:len(classes)], 0)
		want := clone(l)
		again := Sequences(handed[:len(classes)], 0)
		for i := range again {
			rest := clone(again[i+1:])
			spoil(again[i].At)
			if !alike(again[i+1:], rest) {
				t.Errorf("%v: the sequences behind the one at %d have become %s", kept, i, text(again))
			}
			again[i].Level, again[i].Sos, again[i].Eos = -77, -77, -77
		}
		if !alike(l, want) || !slices.Equal(handed, kept) {
			t.Errorf("%v: %s has become %s of %v", kept, text(want), text(l), handed)
		}
		areSeqs(t, handed[:len(classes)], 0, want)
		spoil(handed)
		if !alike(l, want) {
			t.Errorf("%v: %s has become %s", kept, text(want), text(l))
		}
		// From the last one on: what lies ahead stays, too.
		for i := len(l) - 1; i >= 0; i-- {
			spoil(l[i].At)
			if !alike(l[:i], want[:i]) {
				t.Errorf("%v: the sequences ahead of the one at %d have become %s", kept, i, text(l))
			}
		}
	}
	eachRow(4, some, look)
	look(named(t, "RLI R LRI L PDI R B PDI L RLE AL PDF EN LRI ON PDI AN"))
	look(row(times(70, clRLI), []int{clR}, times(70, clPDI), []int{clL}))
}

// spoil writes into all that a list holds, also behind its end.
func spoil(l []int) {
	l = l[:cap(l)]
	for at := range l {
		l[at] = -77
	}
}
