package bidi

import (
	"math"
	"slices"
	"testing"

	"parquetry/api"
	"parquetry/class"
)

// hasLevels holds a line's levels against some.
func hasLevels(t *testing.T, codes, levels []int, own int, want []int) {
	t.Helper()
	if l := Line(of(codes...), levels, own); !slices.Equal(l, want) {
		t.Errorf("%x with %v at %d: %v, not %v", codes, levels, own, l, want)
	}
}

// lineIsAsDoc holds a line's levels, of unlike ones, against the chapter read place by place.
func lineIsAsDoc(t *testing.T, codes []int) {
	t.Helper()
	levels := span(10, 9+len(codes))
	hasLevels(t, codes, levels, 1, docLine(of(codes...), levels, 1))
}

// P16.2: the chapter's example.
func TestLineExamples(t *testing.T) {
	hasLevels(t, []int{'a', 0x20, '9', 0x5d0, 0x20}, []int{0, 0, 0, 1, 1}, 0, []int{0, 0, 0, 1, 0})
}

// P16.2: what has the paragraph's level, marked by a stroke in place of its level, and what stays.
func TestLine(t *testing.T) {
	for _, x := range []struct{ text, want string }{
		// At the line's end.
		{"R WS", "x -"}, {"R WS WS WS", "x - - -"}, {"WS", "-"}, {"WS WS", "- -"}, {"WS R", "x x"}, {"R WS R", "x x x"}, {"L", "x"}, {"R LRI RLI FSI PDI", "x - - - -"}, {"R LRE RLE LRO RLO PDF BN", "x - - - - - -"}, {"LRI R PDI", "x x -"}, {"RLE R PDF", "x x -"}, {"BN BN", "- -"}, {"R WS PDI BN WS", "x - - - -"},
		// Ahead of an S, and of a B.
		{"S", "-"}, {"B", "-"}, {"R S R", "x - x"}, {"R B R", "x - x"}, {"R WS S R", "x - - x"}, {"R WS B R", "x - - x"}, {"R WS S WS R", "x - - x x"}, {"R LRI PDF WS S R", "x - - - - x"}, {"R RLI FSI BN B R", "x - - - - x"}, {"WS S WS B WS", "- - - - -"}, {"WS S R WS S WS R", "- - x - - x x"}, {"S S R B B", "- - x - -"}, {"PDI RLO S R", "- - - x"},
		// With another sign between.
		{"R WS ON S", "x x x -"}, {"R WS NSM", "x x x"}, {"R WS NSM B", "x x x -"}, {"R WS CS WS S L", "x x x - - x"}, {"WS EN PDI AN WS", "x x x x -"}, {"BN L BN", "x x -"}, {"R WS ON WS", "x x x -"},
	} {
		codes := read(t, x.text)
		want := span(10, 9+len(codes))
		for at := range want {
			if x.want[2*at] == '-' {
				want[at] = 1
			}
		}
		hasLevels(t, codes, span(10, 9+len(codes)), 1, want)
		lineIsAsDoc(t, codes)
	}
}

// P16.2: each class, at the end, ahead of an S, of a B, and of each other class.
func TestLineOfEach(t *testing.T) {
	for class, code := range samples {
		alone := 10
		switch class {
		case api.BidiS, api.BidiB, api.BidiWS, api.BidiLRI, api.BidiRLI, api.BidiFSI, api.BidiPDI, api.BidiRLE, api.BidiLRE, api.BidiRLO, api.BidiLRO, api.BidiPDF, api.BidiBN:
			alone = 1
		}
		hasLevels(t, []int{code}, []int{10}, 1, []int{alone})
		for _, end := range []int{'\t', '\n', 0x2029} {
			hasLevels(t, []int{code, end, 'a'}, []int{10, 11, 12}, 1, []int{alone, 1, 12})
		}
		if class == api.BidiS || class == api.BidiB {
			hasLevels(t, []int{code, 'a'}, []int{10, 11}, 1, []int{1, 11})
		} else {
			hasLevels(t, []int{code, 'a'}, []int{10, 11}, 1, []int{10, 11})
		}
	}
	for _, code := range noCodes {
		hasLevels(t, []int{' ', code, ' '}, []int{10, 11, 12}, 1, []int{10, 11, 1})
	}
}

// P16.2: levels of any number, also the paragraph's, go as they are.
func TestLineOfAnyLevels(t *testing.T) {
	all := row(numbers, []int{0, 1})
	for _, own := range all {
		hasLevels(t, read(t, "L WS S R WS"), []int{3, 2, 1, 0, 1}, own, []int{3, own, own, 0, own})
		for _, level := range all {
			hasLevels(t, read(t, "L WS"), []int{level, level}, own, []int{level, own})
			hasLevels(t, read(t, "WS L B"), []int{level, -level, level}, own, []int{level, -level, own})
		}
	}
	hasLevels(t, times(len(all), 'a'), all, -5, all)
	hasLevels(t, times(len(all), ' '), all, math.MinInt, times(len(all), math.MinInt))
}

// P16.2: none, if there are fewer levels than runes, or more.
func TestLineUnlikeLong(t *testing.T) {
	codes, levels := read(t, "L WS S WS"), []int{1, 2, 3, 4}
	for n := range 5 {
		for m := range 5 {
			want := []int{1, 0, 0, 0}[:n]
			if n == 2 {
				want = []int{1, 0}
			}
			if n != m {
				want = nil
			}
			hasLevels(t, codes[:n], levels[:m], 0, want)
		}
	}
	for _, own := range numbers {
		if l := Line(nil, nil, own); len(l) != 0 {
			t.Errorf("%v", l)
		}
		if l := Line(nil, []int{0}, own); len(l) != 0 {
			t.Errorf("%v", l)
		}
		if l := Line(of(' '), nil, own); len(l) != 0 {
			t.Errorf("%v", l)
		}
	}
}

// someLines calls look with many small lines.
func someLines(t *testing.T, look func(codes []int)) {
	eachRow(2, row(samples[:], noCodes), look)
	eachRow(3, samples[:], look)
	eachRow(6, read(t, "L WS S B PDI BN"), look)
	eachRow(8, read(t, "NSM WS S"), look)
}

// P16.2: all small lines.
func TestLineSmall(t *testing.T) {
	someLines(t, func(codes []int) { lineIsAsDoc(t, codes) })
}

// P16.7: a line that ends with blanks has them at the paragraph's level.
func TestLineEndsWithBlanks(t *testing.T) {
	for _, space := range []int{' ', 0x3000, 0x2003, 0x2028} {
		for n := range 6 {
			eachRow(4, read(t, "L R WS S PDI BN"), func(codes []int) {
				codes = row(codes, times(n, space))
				l := Line(of(codes...), times(len(codes), 7), 2)
				if len(l) != len(codes) || !slices.Equal(l[len(l)-n:], times(n, 2)) {
					t.Errorf("%x: %v", codes, l)
				}
			})
		}
	}
	// Also in a paragraph that goes the other way, by its own levels.
	eachRow(3, read(t, "L R EN RLE LRI PDI"), func(codes []int) {
		codes = row(codes, times(3, ' '))
		for own := range 2 {
			l := Line(of(codes...), Resolve(of(codes...), own), own)
			if len(l) != len(codes) || !slices.Equal(l[len(l)-3:], times(3, own)) {
				t.Errorf("%x at %d: %v", codes, own, l)
			}
		}
	})
}

// P16.7: what has its line's levels stays so.
func TestLineTwice(t *testing.T) {
	someLines(t, func(codes []int) {
		for _, own := range []int{0, 1, -3} {
			once := Line(of(codes...), span(10, 9+len(codes)), own)
			hasLevels(t, codes, once, own, once)
		}
	})
}

// P16.2: long lines, which take no longer than one of that length needs.
func TestLineLong(t *testing.T) {
	const n = 1 << 18
	hasLevels(t, times(n, ' '), times(n, 1), 0, times(n, 0))
	hasLevels(t, slices.Repeat([]int{' ', '\t', 'a'}, n), times(3*n, 5), 0, slices.Repeat([]int{0, 0, 5}, n))
	hasLevels(t, row(times(n, ' '), []int{'a'}), times(n+1, 1), 0, times(n+1, 1))
}

// The places go backward, and no further than they are asked for.
func TestReset(t *testing.T) {
	classes := line(class.All(of(read(t, "WS S L WS WS")...)))
	for most := 1; most <= 5; most++ {
		var l []int
		for at := range classes.reset {
			if l = append(l, at); len(l) == most {
				break
			}
		}
		if want := []int{4, 3, 1, 0}; !slices.Equal(l, want[:min(most, 4)]) {
			t.Errorf("up to %d: %v", most, l)
		}
	}
}
