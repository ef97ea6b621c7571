package bidi

import (
	"slices"
	"testing"

	"parquetry/api"
)

// calls are those that answer lists, each with runes and levels.
var calls = []func(l []api.Rune, levels []int) []int{
	func(l []api.Rune, _ []int) []int { return Resolve(l, 0) },
	func(l []api.Rune, _ []int) []int { return Resolve(l, 1) },
	func(l []api.Rune, _ []int) []int { return Resolve(l, 2) },
	func(l []api.Rune, levels []int) []int { return Line(l, levels, 0) },
	func(l []api.Rune, levels []int) []int { return Line(l, levels, 7) },
	func(l []api.Rune, levels []int) []int { return Line(l, append(slices.Clone(levels), 3), 0) },
	func(_ []api.Rune, levels []int) []int { return Order(levels) },
}

// someRows calls look with many rows of codes.
func someRows(t *testing.T, look func(codes []int)) {
	eachRow(3, read(t, "L R EN WS S BN RLO LRI PDI ( )"), look)
	eachRow(5, read(t, "a R WS B"), look)
	look(times(1000, 'a'))
	look(times(1000, ' '))
	look(slices.Repeat(read(t, "R ( L RLI EN PDI ) NSM WS RLE AL PDF"), 50))
}

// P16.4: nothing of what is handed in changes, nor does what lies behind its end, and that is not looked at either.
func TestStays(t *testing.T) {
	behind := read(t, ") R PDI S")
	someRows(t, func(codes []int) {
		runes, levels := of(row(codes, behind)...), row(turns(len(codes), 1, 2), []int{3, 0, 1, 1})
		keptRunes, keptLevels := slices.Clone(runes), slices.Clone(levels)
		l, own := runes[:len(codes)], levels[:len(codes)]
		for n, call := range calls {
			if got, want := call(l, own), call(slices.Clip(slices.Clone(l)), slices.Clip(slices.Clone(own))); !slices.Equal(got, want) {
				t.Errorf("call %d of %x: %v, not %v", n, codes, got, want)
			}
			if !slices.Equal(runes, keptRunes) || !slices.Equal(levels, keptLevels) {
				t.Fatalf("call %d of %x: %v and %v have become %v and %v", n, codes, keptRunes, keptLevels, runes, levels)
			}
		}
	})
}

// P16.4: what is answered stays when what was handed in changes, and the other way round; nothing is kept for the next call.
func TestNewMemory(t *testing.T) {
	someRows(t, func(codes []int) {
		for n, call := range calls {
			runes, levels := of(row(codes, read(t, "R S"))...), row(turns(len(codes), 2, 1), []int{1, 0})
			keptRunes, keptLevels := slices.Clone(runes), slices.Clone(levels)
			l, own := runes[:len(codes)], levels[:len(codes)]
			answer := call(l, own)
			want := slices.Clone(answer)
			spoil(call(l, own), -77)
			if !slices.Equal(answer, want) || !slices.Equal(runes, keptRunes) || !slices.Equal(levels, keptLevels) {
				t.Errorf("call %d of %x: %v has become %v", n, codes, want, answer)
			}
			if next := call(l, own); !slices.Equal(next, want) {
				t.Errorf("call %d of %x: %v, and then %v", n, codes, want, next)
			}
			spoil(runes, api.Rune{At: -77, Size: -77, Code: 0x5d0})
			spoil(levels, -77)
			if !slices.Equal(answer, want) {
				t.Errorf("call %d of %x: %v has become %v", n, codes, want, answer)
			}
			// What is answered may be handed in again, and stays then, too.
			spoil(Line(of(codes...), answer, 5), -77)
			spoil(Order(answer), -77)
			if !slices.Equal(answer, want) {
				t.Errorf("call %d of %x: %v has become %v", n, codes, want, answer)
			}
		}
	})
}

// spoil writes into all that a list holds, also behind its end.
func spoil[T any](l []T, item T) {
	l = l[:cap(l)]
	for at := range l {
		l[at] = item
	}
}
