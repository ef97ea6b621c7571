package level

import (
	"slices"
	"testing"
)

// some are classes of each kind.
var some = []int{clL, clRLE, clLRO, clRLI, clFSI, clPDF, clPDI, clBN, clB, 99}

// P11.3: nothing of what is handed in changes, nor does what lies behind its end, and that is not looked at either.
func TestStays(t *testing.T) {
	eachRow(4, some, func(classes []int) {
		want := row(classes, []int{clPDI, clR, 77})
		l := slices.Clone(want)
		levels, told := Explicit(classes, 1)
		isTold(t, l[:len(classes)], 1, levels, told)
		Explicit(l[:len(classes)], 0)
		Explicit(l[:len(classes)], 2)
		if !slices.Equal(l, want) {
			t.Errorf("%v has become %v", want, l)
		}
	})
	isTold(t, []int{clFSI, clON, clR}[:2], 0, []int{0, 2}, []int{clFSI, clON})
	isTold(t, []int{clRLE, clL}[:0], 0, nil, nil)
}

// P11.3: what is answered stays when what was handed in changes, and the other way round; neither list shares memory with the other one, and nothing is kept for the next call.
func TestNewMemory(t *testing.T) {
	eachRow(4, some, func(classes []int) {
		handed := row(classes, []int{clRLE, clPDI})
		want := slices.Clone(handed)
		levels, told := Explicit(handed[:len(classes)], 0)
		wantLevels, wantTold := slices.Clone(levels), slices.Clone(told)
		again, alike := Explicit(handed[:len(classes)], 0)
		spoil(again)
		if !slices.Equal(alike, wantTold) || !slices.Equal(levels, wantLevels) || !slices.Equal(told, wantTold) || !slices.Equal(handed, want) {
			t.Errorf("%v: %v, %v have become %v, %v of %v; again %v", want, wantLevels, wantTold, levels, told, handed, alike)
		}
		again, alike = Explicit(handed[:len(classes)], 0)
		spoil(alike)
		if !slices.Equal(again, wantLevels) || !slices.Equal(levels, wantLevels) || !slices.Equal(told, wantTold) || !slices.Equal(handed, want) {
			t.Errorf("%v: %v, %v have become %v, %v of %v; again %v", want, wantLevels, wantTold, levels, told, handed, again)
		}
		isTold(t, handed[:len(classes)], 0, wantLevels, wantTold)
		spoil(handed)
		if !slices.Equal(levels, wantLevels) || !slices.Equal(told, wantTold) {
			t.Errorf("%v: %v, %v have become %v, %v", want, wantLevels, wantTold, levels, told)
		}
	})
}

// spoil writes into all that a list holds, also behind its end.
func spoil(l []int) {
	l = l[:cap(l)]
	for at := range l {
		l[at] = -77
	}
}
