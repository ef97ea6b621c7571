package place

import (
	"slices"
	"testing"

	"parquetry/api"
	"parquetry/bidi"
)

// spoil writes into all that a list holds, also behind its end.
func spoil[T any](l []T, item T) {
	l = l[:cap(l)]
	for at := range l {
		l[at] = item
	}
}

var (
	noRune = api.Rune{At: -77, Size: -77, Code: 0x5d0}
	noSlot = api.Slot{Kind: -77, Row: -77, Col: -77, At: -77, Part: -77, Code: -77}
)

// someCalls calls look with samples, levels of theirs, lines of the whole of them, and how they are laid.
func someCalls(look func(l []api.Rune, levels []int, line api.Line, para, w, align int)) {
	for _, text := range samples {
		l := of(text)
		for para := range 2 {
			for dots := range 2 {
				line := whole(l)
				line.Dots = dots
				for _, w := range []int{0, 1, 3, 40} {
					for _, align := range aligns {
						look(l, bidi.Resolve(l, para), line, para, w, align)
					}
				}
				line.To++
				look(l, bidi.Resolve(l, para), line, para, 9, api.AlignLeft)
			}
		}
	}
}

// P19.2: nothing of what is handed in changes, nor does what lies behind its end, and that is not looked at either.
func TestStays(t *testing.T) {
	someCalls(func(l []api.Rune, levels []int, line api.Line, para, w, align int) {
		for _, behind := range []string{"a\u0301", "\u0301א", "\u200d👩"} {
			more, moreLevels := append(slices.Clone(l), of(behind)...), append(slices.Clone(levels), 1, 1)
			kept, keptLevels := slices.Clone(more), slices.Clone(moreLevels)
			want, wantErr := Slots(l, levels, line, para, w, align)
			is(t, more[:len(l)], moreLevels[:len(l)], line, para, w, align, want, wantErr)
			if !slices.Equal(more, kept) || !slices.Equal(moreLevels, keptLevels) {
				t.Fatalf("%v and %v have become %v and %v", kept, keptLevels, more, moreLevels)
			}
		}
	})
}

// P19.2: what is answered stays when what was handed in changes, and the other way round; nothing is kept for the next call.
func TestNewMemory(t *testing.T) {
	someCalls(func(own []api.Rune, ownLevels []int, line api.Line, para, w, align int) {
		l, levels := append(slices.Clone(own), noRune), append(slices.Clone(ownLevels), 1)
		kept, keptLevels := slices.Clone(l), slices.Clone(levels)
		n := len(own)
		answer, err := Slots(l[:n], levels[:n], line, para, w, align)
		want := slices.Clone(answer)
		other, _ := Slots(l[:n], levels[:n], line, para, w, align)
		spoil(other, noSlot)
		if !slices.Equal(answer, want) || !slices.Equal(l, kept) || !slices.Equal(levels, keptLevels) {
			t.Errorf("%v has become %v", want, answer)
		}
		is(t, l[:n], levels[:n], line, para, w, align, want, err)
		spoil(l, noRune)
		spoil(levels, -77)
		if !slices.Equal(answer, want) {
			t.Errorf("%v has become %v", want, answer)
		}
	})
}
