package neutral

import (
	"slices"
	"testing"
)

// some are classes of each kind.
var some = []int{clL, clR, clEN, clON, clWS, 99}

// P15.3: nothing of what is handed in changes, nor does what lies behind its end, and that is not looked at either.
func TestStays(t *testing.T) {
	eachRow(4, some, func(types []int) {
		for _, behind := range []int{clL, clR, clON} {
			want := row(types, []int{behind, clR, 77})
			l := slices.Clone(want)
			handed := l[:len(types)]
			isAsDoc(t, handed, clL, clR)
			for level := range 2 {
				haveLevels(t, handed, level, docLevels(types, level))
			}
			if !slices.Equal(l, want) {
				t.Errorf("%v has become %v", want, l)
			}
		}
	})
	whole := named(t, "ON L WS ON R ON EN S AN B L ON PDI")
	for n := range whole {
		handed := slices.Clone(whole)
		isAsDoc(t, handed[:n], clL, clR)
		haveLevels(t, handed[:n], 1, docLevels(whole[:n], 1))
		if !slices.Equal(handed, whole) {
			t.Errorf("%v has become %v", whole, handed)
		}
	}
}

// P15.3: what is answered stays when what was handed in changes, and the other way round; nothing is kept for the next call.
func TestNewMemory(t *testing.T) {
	calls := []func(types []int) []int{
		func(types []int) []int { return Settle(types, 0, clL, clR) },
		func(types []int) []int { return Settle(types, 1, clR, clR) },
		func(types []int) []int { return Levels(types, 0) },
		func(types []int) []int { return Levels(types, 1) },
	}
	look := func(types []int) {
		for _, call := range calls {
			handed := row(types, []int{clL, clON})
			kept := slices.Clone(handed)
			l := call(handed[:len(types)])
			want := slices.Clone(l)
			again := call(handed[:len(types)])
			spoil(again)
			if !slices.Equal(l, want) || !slices.Equal(handed, kept) {
				t.Errorf("%v: %v has become %v of %v", kept, want, l, handed)
			}
			if next := call(handed[:len(types)]); !slices.Equal(next, want) {
				t.Errorf("%v: %v, and then %v", kept, want, next)
			}
			spoil(handed)
			if !slices.Equal(l, want) {
				t.Errorf("%v: %v has become %v", kept, want, l)
			}
			// What is answered may be handed in again, and stays then, too.
			for _, other := range calls {
				spoil(other(l))
			}
			if !slices.Equal(l, want) {
				t.Errorf("%v: %v has become %v", kept, want, l)
			}
		}
	}
	eachRow(4, some, look)
	look(times(1000, clL))
	look(times(1000, clON))
	look(turns(1000, clEN, clON))
}

// spoil writes into all that a list holds, also behind its end.
func spoil(l []int) {
	l = l[:cap(l)]
	for at := range l {
		l[at] = -77
	}
}
