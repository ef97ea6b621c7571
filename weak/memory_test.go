package weak

import (
	"slices"
	"testing"
)

// some are classes of each kind.
var some = []int{clL, clAL, clEN, clES, clET, clAN, clCS, clNSM, clLRI, clON, 99}

// P13.2: nothing of what is handed in changes, nor does what lies behind its end, and that is not looked at either.
func TestStays(t *testing.T) {
	eachRow(4, some, func(classes []int) {
		for _, behind := range []int{clEN, clNSM} {
			want := row(classes, []int{behind, clL, 77})
			l := slices.Clone(want)
			for _, sos := range []int{clL, clR, clAL} {
				becomes(t, l[:len(classes)], sos, docWeak(classes, sos))
			}
			if !slices.Equal(l, want) {
				t.Errorf("%v has become %v", want, l)
			}
		}
	})
	handed := named(t, "ET EN CS EN ET NSM AL EN CS AN NSM RLI NSM EN")
	for n := range handed {
		becomes(t, handed[:n], clR, docWeak(slices.Clone(handed[:n]), clR))
	}
}

// P13.2: what is answered stays when what was handed in changes, and the other way round; nothing is kept for the next call.
func TestNewMemory(t *testing.T) {
	look := func(classes []int) {
		handed := row(classes, []int{clEN, clNSM})
		kept := slices.Clone(handed)
		l := Weak(handed[:len(classes)], clR)
		want := slices.Clone(l)
		again := Weak(handed[:len(classes)], clR)
		spoil(again)
		if !slices.Equal(l, want) || !slices.Equal(handed, kept) {
			t.Errorf("%v: %v has become %v of %v", kept, want, l, handed)
		}
		becomes(t, handed[:len(classes)], clR, want)
		spoil(handed)
		if !slices.Equal(l, want) {
			t.Errorf("%v: %v has become %v", kept, want, l)
		}
		// What is answered may be handed in again, and stays then, too.
		next := Weak(l, clR)
		spoil(next)
		if !slices.Equal(l, want) {
			t.Errorf("%v: %v has become %v", kept, want, l)
		}
	}
	eachRow(4, some, look)
	look(times(1000, clL))
	look(turns(1000, clEN, clET))
}

// spoil writes into all that a list holds, also behind its end.
func spoil(l []int) {
	l = l[:cap(l)]
	for at := range l {
		l[at] = -77
	}
}
