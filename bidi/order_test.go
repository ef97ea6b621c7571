package bidi

import (
	"math"
	"slices"
	"strings"
	"testing"

	"parquetry/class"
	"parquetry/mirror"
)

// isOrdered holds the order of levels against some places.
func isOrdered(t *testing.T, levels, want []int) {
	t.Helper()
	if l := Order(levels); !slices.Equal(l, want) {
		t.Errorf("%v: %v, not %v", levels, l, want)
	}
}

// someLevels calls look with many small rows of levels.
func someLevels(look func(levels []int)) {
	eachRow(6, []int{0, 1, 2, 3}, look)
	eachRow(5, []int{0, 1, 2, 3, 4, 5}, look)
	eachRow(8, []int{0, 1, 2}, look)
	eachRow(5, []int{-1, 0, 1, 126, 127}, look)
	eachRow(4, []int{2, 124, 125, 126, 127, 128, 129}, look)
	eachRow(3, row(numbers, []int{0, 1}), look)
}

// P16.3: the chapter's examples, no levels, and some by hand.
func TestOrder(t *testing.T) {
	isOrdered(t, nil, nil)
	isOrdered(t, []int{}, nil)
	for _, x := range []struct{ levels, want string }{
		{"0 1 1 2 0", "0 3 2 1 4"}, {"1 2 2 1", "3 1 2 0"}, {"2 2", "0 1"},
		{"0", "0"}, {"1", "0"}, {"126", "0"}, {"0 0 0", "0 1 2"}, {"1 1 1", "2 1 0"}, {"2 2 2", "0 1 2"}, {"3 3 3", "2 1 0"}, {"125 125", "1 0"}, {"126 126", "0 1"},
		{"0 1 0 1 1 0", "0 1 2 4 3 5"}, {"1 1 0 1", "1 0 2 3"}, {"2 3 3 2", "0 2 1 3"}, {"1 0 1", "0 1 2"}, {"1 2 3 4 3 2 1", "6 1 4 3 2 5 0"}, {"0 2 0 2 2", "0 1 2 3 4"}, {"1 3 2 1", "3 1 2 0"}, {"3 1 3", "2 1 0"}, {"2 1", "1 0"}, {"1 2", "1 0"}, {"2 1 1 2 2", "3 4 2 1 0"}, {"1 126 126 1 126", "4 3 1 2 0"}, {"1 125 125 1", "3 2 1 0"},
		// Below 0, and above 126.
		{"-7 1 1", "0 2 1"}, {"-1 -1", "0 1"}, {"-1 -2 -3", "0 1 2"}, {"1 -1 1", "0 1 2"}, {"1 1 -9 1 2", "1 0 2 4 3"}, {"127 127", "0 1"}, {"127 126 127", "0 1 2"}, {"126 127 125", "2 0 1"}, {"127 128 129", "0 1 2"}, {"1 127 127 1", "3 1 2 0"}, {"125 127 127 125", "3 1 2 0"},
		{"9223372036854775807 1 -9223372036854775808 1 9223372036854775807", "1 0 2 4 3"}, {"4294967295 4294967295", "0 1"}, {"-9223372036854775807 -9223372036854775807 1", "0 1 2"}, {"4294967296 1 1", "2 1 0"},
	} {
		isOrdered(t, levelsOf(t, x.levels), levelsOf(t, x.want))
	}
}

// P16.3: all small rows of levels.
func TestOrderSmall(t *testing.T) {
	someLevels(func(levels []int) { isOrdered(t, levels, docOrder(levels)) })
}

// P16.3: each level, alone, beside its neighbours, and around others.
func TestOrderOfEach(t *testing.T) {
	for level := -3; level <= 130; level++ {
		for _, levels := range [][]int{
			times(1, level), times(2, level), times(5, level), {level, level + 1}, {level + 1, level}, {level, level, level - 1, level, level},
			{0, level, level, 1}, {1, level, level, 1}, {level, 1, 1, level}, {level, level + 1, level + 2, level + 1, level}, row(span(0, level), span(0, level)),
		} {
			isOrdered(t, levels, docOrder(levels))
		}
	}
	up, down := span(-2, 130), span(-2, 130)
	slices.Reverse(down)
	isOrdered(t, up, docOrder(up))
	isOrdered(t, down, docOrder(down))
	isOrdered(t, row(up, down, up), docOrder(row(up, down, up)))
}

// P16.3: long rows of levels.
func TestOrderLong(t *testing.T) {
	const n = 1 << 17
	isOrdered(t, times(n, 0), span(0, n-1))
	isOrdered(t, times(n, 126), span(0, n-1))
	isOrdered(t, times(n, math.MaxInt), span(0, n-1))
	back := span(0, n-1)
	slices.Reverse(back)
	isOrdered(t, times(n, 125), back)
	isOrdered(t, turns(n, 1, 2), back)
}

// P16.6: an order has each place once.
func TestOrderOnce(t *testing.T) {
	someLevels(func(levels []int) {
		l := Order(levels)
		slices.Sort(l)
		if !slices.Equal(l, span(0, len(levels)-1)) {
			t.Errorf("%v: sorted %v", levels, l)
		}
	})
}

// P16.6: alike levels that stand side by side do so in the order, as they are, or, if they are odd, turned round.
func TestOrderAlike(t *testing.T) {
	someLevels(func(levels []int) {
		l := Order(levels)
		for at := 1; at < len(levels); at++ {
			counted := min(max(levels[at], 0), 126)
			if counted != min(max(levels[at-1], 0), 126) {
				continue
			}
			step := 1
			if counted%2 == 1 {
				step = -1
			}
			if slices.Index(l, at) != slices.Index(l, at-1)+step {
				t.Errorf("%v: %v", levels, l)
			}
		}
	})
	for level := -2; level <= 128; level++ {
		want := span(0, 8)
		if level > 0 && level < 126 && level%2 == 1 {
			slices.Reverse(want)
		}
		isOrdered(t, times(9, level), want)
	}
}

// P16.6: letters without a right one, in a paragraph of the level 0, stay as they are.
func TestOrderOfLetters(t *testing.T) {
	eachRow(4, row([]int{'a', 'Z', 0xe9, 0x4e00, 0x10ffff}, noCodes[:2]), func(codes []int) {
		levels := Resolve(of(codes...), 0)
		if !slices.Equal(levels, times(len(codes), 0)) {
			t.Errorf("%x: %v", codes, levels)
		}
		isOrdered(t, Line(of(codes...), levels, 0), span(0, len(codes)-1))
	})
	// Nor does what stands between them move.
	eachRow(4, read(t, "L EN ES ET CS NSM BN S WS ON"), func(codes []int) {
		isOrdered(t, Resolve(of(codes...), 0), span(0, len(codes)-1))
	})
}

// P16.3: the sign by which a code point is shown.
func TestShown(t *testing.T) {
	evens, odds := []int{0, 2, 4, 124, 126, 128, 1 << 32, -2, -4, math.MinInt, math.MaxInt - 1}, []int{1, 3, 5, 125, 127, 1<<32 | 1, -1, -3, math.MaxInt, math.MinInt + 1}
	look := func(code, glyph int) {
		t.Helper()
		for _, level := range evens {
			if sign := Shown(code, level); sign != code {
				t.Errorf("%x at %d: %x", code, level, sign)
			}
		}
		for _, level := range odds {
			if sign := Shown(code, level); sign != glyph {
				t.Errorf("%x at %d: %x, not %x", code, level, sign, glyph)
			}
		}
	}
	for _, pair := range [][2]int{{'(', ')'}, {'[', ']'}, {'{', '}'}, {'<', '>'}, {0xab, 0xbb}, {0x2039, 0x203a}, {0x2264, 0x2265}, {0x2208, 0x220b}, {0x2329, 0x232a}, {0x3008, 0x3009}, {0xff08, 0xff09}} {
		look(pair[0], pair[1])
		look(pair[1], pair[0])
	}
	for _, code := range row(noCodes, []int{0, 'a', '1', '/', '\'', 0x5d0, 0x201c, 0x221a, 0x10ffff}) {
		look(code, code)
	}
	for code := -1; code <= 0x10000; code++ {
		if Shown(code, 0) != code || Shown(code, 2) != code || Shown(code, 1) != mirror.Glyph(code) {
			t.Errorf("%x", code)
		}
	}
}

// seen answers what is to be seen of a paragraph in one line. Great letters go from right to left, and so they are answered; < and > open isolates from right to left, and from left to right, = closes them.
func seen(text string, own int) string {
	var codes []int
	for _, sign := range text {
		code := int(sign)
		switch {
		case sign >= 'A' && sign <= 'Z':
			code = 0x5d0 + code - 'A'
		case sign == '<':
			code = 0x2067
		case sign == '>':
			code = 0x2066
		case sign == '=':
			code = 0x2069
		}
		codes = append(codes, code)
	}
	l := of(codes...)
	levels := Line(l, Resolve(l, own), own)
	var line strings.Builder
	for _, at := range Order(levels) {
		sign := Shown(codes[at], levels[at])
		switch {
		case sign >= 0x5d0 && sign < 0x5d0+26:
			line.WriteByte(byte(sign - 0x5d0 + 'A'))
		case class.Of(sign) < class.Of(0x2066):
			line.WriteRune(rune(sign))
		}
	}
	return line.String()
}

// P16.1 to P16.3, one behind the other: what a reader sees.
func TestSeen(t *testing.T) {
	for _, x := range []struct {
		text string
		own  int
		want string
	}{
		{"car means CAR.", 0, "car means RAC."},
		{"car MEANS CAR.", 1, ".RAC SNAEM car"},
		{"he said “<car MEANS CAR=.” “<IT DOES=,” she agreed.", 0, "he said “RAC SNAEM car.” “SEOD TI,” she agreed."},
		{"DID YOU SAY ’>he said “<car MEANS CAR=”=‘?", 1, "?‘he said “RAC SNAEM car”’ YAS UOY DID"},
		{"A(b)C", 1, "C(b)A"}, {"A (B) c", 0, "(B) A c"}, {"A (B) c", 1, "c (B) A"}, {"a (B) c", 0, "a (B) c"}, {"A 12,5 B", 1, "B 12,5 A"}, {"a B ", 0, "a B "}, {"A b ", 1, " b A"}, {"a\tB \tc", 0, "a\tB \tc"}, {"A [b {C} d]", 1, "[d {C} b] A"},
	} {
		if line := seen(x.text, x.own); line != x.want {
			t.Errorf("%q at %d: %q, not %q", x.text, x.own, line, x.want)
		}
	}
}
