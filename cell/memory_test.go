package cell

import (
	"slices"
	"strings"
	"testing"

	"parquetry/api"
	"parquetry/runes"
)

// spoil writes into all that a list holds, also behind its end.
func spoil[T any](l []T, item T) {
	l = l[:cap(l)]
	for at := range l {
		l[at] = item
	}
}

var (
	noRune = api.Rune{At: -77, Size: -77, Code: 0x5d0}
	noSlot = api.Slot{Kind: -77, Row: -77, Col: -77, At: -77, Part: -77, Code: -77}
)

// P20.3: runes that are handed in stay, with what lies behind their end, and that is not looked at either.
func TestStays(t *testing.T) {
	for _, text := range samples {
		l := runes.Split(text)
		for _, behind := range []string{"aa", "אא", "\u2069א"} {
			more := append(slices.Clone(l), runes.Split(behind)...)
			kept := slices.Clone(more)
			for dir := -1; dir <= 4; dir++ {
				for right := range 2 {
					if got, want := Level(more[:len(l)], dir, right), docLevel(l, dir, right); got != want {
						t.Errorf("%q ahead of %q: %d, not %d", text, behind, got, want)
					}
				}
			}
			if !slices.Equal(more, kept) {
				t.Fatalf("%v have become %v", kept, more)
			}
		}
	}
}

// P20.3: what is answered stays when another answer, or what was handed in, changes; nothing is kept for the next call.
func TestNewMemory(t *testing.T) {
	for _, text := range samples {
		everyStyle(func(style api.Style, right int) {
			own := strings.Clone(text)
			answer, err := Layout(own, style, right, 3, 4)
			want := slices.Clone(answer)
			other, _ := Layout(own, style, right, 3, 4)
			spoil(other, noSlot)
			l := runes.Split(own)
			Level(l, style.Dir, right)
			spoil(l, noRune)
			if !slices.Equal(answer, want) || own != text {
				t.Errorf("%v has become %v", want, answer)
			}
			is(t, own, style, right, 3, 4, want, err)
			spoil(answer, noSlot)
			is(t, own, style, right, 3, 4, want, err)
		})
	}
}
