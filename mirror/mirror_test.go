package mirror

import (
	"math"
	"slices"
	"strconv"
	"strings"
	"testing"
)

// The document's rows and pairs, in its own words.
const (
	bracketRows  = "28-29, F3A-F3D, 169B-169C, 2045-2046, 207D-207E, 208D-208E, 2308-230B, 2329-232A, 2768-2775, 27C5-27C6, 27E6-27EF, 2983-298C, 2991-2998, 29D8-29DB, 29FC-29FD, 2E22-2E29, 3008-3011, 3014-301B, FE59-FE5E, FF08-FF09, FF5F-FF60, FF62-FF63"
	bracketPairs = "5B and 5D, 7B and 7D, FF3B and FF3D, FF5B and FF5D"
	signRows     = "2264-226B, 226E-2281, 2282-2289, 228F-2292, 22B2-22B5, 22D6-22DF, 22E0-22ED"
	signPairs    = "3C and 3E, AB and BB, 2039 and 203A, 2208 and 220B, 2209 and 220C, 220A and 220D, 223C and 223D, 22A2 and 22A3, 22D0 and 22D1"
)

const lastCode = 0x10ffff

// wrong are numbers that are no code points; some are brackets or signs, if bits of them are lost.
var wrong = []int{
	-1, -0x28, -0x29, -0x3c, -0x2329, lastCode + 1, lastCode + 0x29, 0x110028,
	1<<32 + 0x28, 1<<32 + 0x29, 1<<32 + 0x3c, 1<<32 + 0x2329, 1<<16 + 0x28, 1<<16 + 0x5d, 1<<16 + 0x3e, -1<<32 + 0x29, -1<<32 + 0x3e,
	math.MinInt, math.MinInt + 0x28, math.MaxInt, math.MaxInt - 1, math.MinInt32, math.MaxInt32,
}

// couples answers the pairs of some rows and pairs of the document: of each the one that opens, with the one that closes.
func couples(t *testing.T, rows, pairs string) map[int]int {
	t.Helper()
	number := func(s string) int {
		n, err := strconv.ParseInt(s, 16, 32)
		if err != nil {
			t.Fatal(err)
		}
		return int(n)
	}
	closing := map[int]int{}
	for _, item := range strings.Split(rows, ", ") {
		first, last, _ := strings.Cut(item, "-")
		for code := number(first); code < number(last); code += 2 {
			closing[code] = code + 1
		}
	}
	for _, item := range strings.Split(pairs, ", ") {
		first, last, _ := strings.Cut(item, " and ")
		closing[number(first)] = number(last)
	}
	return closing
}

// A want is what the document says of a code.
type want struct{ kind, other, glyph int }

// wants answers what the document says of each code that is a bracket's or a mirrored sign's; none of them may stand there twice.
func wants(t *testing.T) map[int]want {
	t.Helper()
	all := map[int]want{}
	put := func(code int, w want) {
		if _, twice := all[code]; twice {
			t.Fatalf("%x stands twice in the document", code)
		}
		all[code] = w
	}
	for open, close := range couples(t, bracketRows, bracketPairs) {
		put(open, want{1, close, close})
		put(close, want{2, open, open})
	}
	for one, other := range couples(t, signRows, signPairs) {
		put(one, want{0, 0, other})
		put(other, want{0, 0, one})
	}
	return all
}

// eachNumber calls look with all code points, the numbers around them, and wrong ones, each with what the document says of it.
func eachNumber(t *testing.T, look func(code int, w want)) {
	t.Helper()
	all := wants(t)
	of := func(code int) want {
		if w, ok := all[code]; ok {
			return w
		}
		return want{0, 0, code}
	}
	for code := -0x400; code <= lastCode+0x400; code++ {
		look(code, of(code))
	}
	for _, code := range wrong {
		look(code, of(code))
	}
}

// near answers the codes of all brackets and signs with the numbers beside them, and wrong ones.
func near(t *testing.T) []int {
	t.Helper()
	seen := map[int]bool{}
	for code := range wants(t) {
		seen[code-1], seen[code], seen[code+1] = true, true, true
	}
	for _, code := range wrong {
		seen[code] = true
	}
	var codes []int
	for code := range seen {
		codes = append(codes, code)
	}
	return codes
}

// docForm is the document's form, in its own words.
func docForm(code int) int {
	if form, ok := (map[int]int{0x2329: 0x3008, 0x232a: 0x3009})[code]; ok {
		return form
	}
	return code
}

// P3.1
func TestPairExamples(t *testing.T) {
	for _, c := range []struct{ code, kind, other int }{
		{0x28, 1, 0x29}, {0x29, 2, 0x28}, {0x27, 0, 0}, {0x2a, 0, 0},
		{0x5b, 1, 0x5d}, {0x5c, 0, 0}, {0x5d, 2, 0x5b}, {0x7b, 1, 0x7d}, {0x7c, 0, 0}, {0x7d, 2, 0x7b},
		{0xff3b, 1, 0xff3d}, {0xff3c, 0, 0}, {0xff3d, 2, 0xff3b}, {0xff5b, 1, 0xff5d}, {0xff5c, 0, 0}, {0xff5d, 2, 0xff5b},
		{0xf39, 0, 0}, {0xf3a, 1, 0xf3b}, {0xf3b, 2, 0xf3a}, {0xf3c, 1, 0xf3d}, {0xf3d, 2, 0xf3c}, {0xf3e, 0, 0},
		{0x2768, 1, 0x2769}, {0x276d, 2, 0x276c}, {0x2775, 2, 0x2774}, {0x2776, 0, 0},
		{0x2328, 0, 0}, {0x2329, 1, 0x232a}, {0x232a, 2, 0x2329}, {0x232b, 0, 0},
		{0x3007, 0, 0}, {0x3008, 1, 0x3009}, {0x3009, 2, 0x3008}, {0x3011, 2, 0x3010}, {0x3012, 0, 0},
		{0xff60, 2, 0xff5f}, {0xff61, 0, 0}, {0xff62, 1, 0xff63}, {0xff64, 0, 0},
		{0x3c, 0, 0}, {0x3e, 0, 0}, {0xab, 0, 0}, {0x2264, 0, 0}, {0x2209, 0, 0}, {0x41, 0, 0}, {0, 0, 0}, {-1, 0, 0}, {lastCode + 1, 0, 0},
	} {
		if kind, other := Pair(c.code); kind != c.kind || other != c.other {
			t.Errorf("Pair(%x): %d, %x, not %d, %x", c.code, kind, other, c.kind, c.other)
		}
	}
}

// P3.1, P3.4
func TestEachNumber(t *testing.T) {
	eachNumber(t, func(code int, w want) {
		if kind, other := Pair(code); kind != w.kind || other != w.other {
			t.Errorf("Pair(%x): %d, %x, not %d, %x", code, kind, other, w.kind, w.other)
		}
		if glyph := Glyph(code); glyph != w.glyph {
			t.Errorf("Glyph(%x): %x, not %x", code, glyph, w.glyph)
		}
	})
}

// P3.2
func TestForm(t *testing.T) {
	for code, form := range map[int]int{
		0x2329: 0x3008, 0x232a: 0x3009, 0x3008: 0x3008, 0x3009: 0x3009,
		0x2328: 0x2328, 0x232b: 0x232b, 0x28: 0x28, 0x29: 0x29, 0x3c: 0x3c, 0: 0, -1: -1, -0x2329: -0x2329,
		1<<32 + 0x2329: 1<<32 + 0x2329, math.MinInt: math.MinInt, math.MaxInt: math.MaxInt,
	} {
		if got := Form(code); got != form {
			t.Errorf("Form(%x): %x, not %x", code, got, form)
		}
	}
	eachNumber(t, func(code int, _ want) {
		if got := Form(code); got != docForm(code) {
			t.Errorf("Form(%x): %x", code, got)
		}
	})
}

// P3.3
func TestMeetExamples(t *testing.T) {
	for _, c := range []struct {
		open, close int
		want        bool
	}{
		{0x28, 0x29, true}, {0x5b, 0x5d, true}, {0xf3c, 0xf3d, true}, {0x2774, 0x2775, true}, {0xff5b, 0xff5d, true},
		{0x2329, 0x232a, true}, {0x2329, 0x3009, true}, {0x3008, 0x232a, true}, {0x3008, 0x3009, true},
		// The wrong order, the same one twice, two of one kind.
		{0x29, 0x28, false}, {0x232a, 0x2329, false}, {0x3009, 0x2329, false}, {0x232a, 0x3008, false},
		{0x28, 0x28, false}, {0x29, 0x29, false}, {0x2329, 0x3008, false}, {0x232a, 0x3009, false}, {0x3008, 0x2329, false},
		// Unlike pairs.
		{0x28, 0x5d, false}, {0x5b, 0x29, false}, {0xf3a, 0xf3d, false}, {0xf3c, 0xf3b, false}, {0x300a, 0x3009, false}, {0x300a, 0x232a, false},
		{0x2329, 0x300b, false}, {0x5b, 0xff3d, false}, {0x28, 0xff09, false},
		// No brackets.
		{0x3c, 0x3e, false}, {0xab, 0xbb, false}, {0x2264, 0x2265, false}, {0x28, 0x3e, false}, {0x3c, 0x29, false}, {0x5b, 0x5c, false},
		{0x41, 0x41, false}, {0, 0, false}, {0x28, 0, false}, {0, 0x29, false}, {-1, -1, false}, {0x28, -1, false}, {-1, 0x29, false},
		{0x28, 1<<32 + 0x29, false}, {lastCode + 1, lastCode + 1, false}, {math.MinInt, math.MaxInt, false},
	} {
		if got := Meet(c.open, c.close); got != c.want {
			t.Errorf("Meet(%x, %x): %t", c.open, c.close, got)
		}
	}
}

// P3.3, P3.6
func TestMeetEachOther(t *testing.T) {
	closing := couples(t, bracketRows, bracketPairs)
	closes := map[int]bool{}
	for _, close := range closing {
		closes[close] = true
	}
	for _, open := range near(t) {
		counterpart, opens := closing[open]
		for _, close := range near(t) {
			want := opens && closes[close] && docForm(counterpart) == docForm(close)
			if got := Meet(open, close); got != want {
				t.Errorf("Meet(%x, %x): %t", open, close, got)
			}
		}
	}
}

// P3.4
func TestGlyphExamples(t *testing.T) {
	for one, other := range map[int]int{
		0x28: 0x29, 0x5b: 0x5d, 0x7b: 0x7d, 0x2329: 0x232a, 0x3008: 0x3009, 0xff62: 0xff63,
		0x3c: 0x3e, 0xab: 0xbb, 0x2039: 0x203a, 0x2208: 0x220b, 0x2209: 0x220c, 0x220a: 0x220d, 0x223c: 0x223d, 0x22a2: 0x22a3, 0x22d0: 0x22d1,
		0x2264: 0x2265, 0x226a: 0x226b, 0x226e: 0x226f, 0x2280: 0x2281, 0x2282: 0x2283, 0x2288: 0x2289,
		0x228f: 0x2290, 0x2291: 0x2292, 0x22b4: 0x22b5, 0x22de: 0x22df, 0x22e0: 0x22e1, 0x22ec: 0x22ed,
	} {
		if Glyph(one) != other || Glyph(other) != one {
			t.Errorf("Glyph(%x): %x; Glyph(%x): %x", one, Glyph(one), other, Glyph(other))
		}
	}
	for _, code := range []int{
		0x41, 0, 0x3d, 0x3b, 0x3f, 0x5c, 0x7c, 0xaa, 0xac, 0xb3, 0xba, 0xbc, 0x2207, 0x220e, 0x2263, 0x226c, 0x226d,
		0x228a, 0x228e, 0x2293, 0x22b1, 0x22b6, 0x22d5, 0x22ee, 0x2038, 0x203b, -1, lastCode + 1, 1<<32 + 0x3c, math.MinInt, math.MaxInt,
	} {
		if got := Glyph(code); got != code {
			t.Errorf("Glyph(%x): %x", code, got)
		}
	}
}

// P3.5
func TestTurnedTwice(t *testing.T) {
	brackets := 0
	eachNumber(t, func(code int, _ want) {
		if twice := Glyph(Glyph(code)); twice != code {
			t.Errorf("Glyph(Glyph(%x)): %x", code, twice)
		}
		kind, other := Pair(code)
		if kind == 0 {
			return
		}
		brackets++
		if kindBack, back := Pair(other); kindBack != 3-kind || back != code {
			t.Errorf("%x of kind %d has counterpart %x, that is of kind %d and has %x", code, kind, other, kindBack, back)
		}
		if Glyph(code) != other {
			t.Errorf("%x has counterpart %x and glyph %x", code, other, Glyph(code))
		}
		if forward, backward := Meet(code, other), Meet(other, code); forward != (kind == 1) || backward != (kind == 2) {
			t.Errorf("%x and %x: %t, %t", code, other, forward, backward)
		}
	})
	if want := 2 * len(couples(t, bracketRows, bracketPairs)); brackets != want {
		t.Errorf("%d brackets, not %d", brackets, want)
	}
}

// P3.6
func TestNobodyElse(t *testing.T) {
	for open, closing := range map[int][]int{
		0x28: {0x29}, 0x5b: {0x5d}, 0xff5b: {0xff5d}, 0x300a: {0x300b},
		0x2329: {0x232a, 0x3009}, 0x3008: {0x232a, 0x3009},
		0x29: nil, 0x5d: nil, 0x232a: nil, 0x3009: nil, 0x3c: nil, 0xab: nil, 0x41: nil, -1: nil,
	} {
		var met []int
		for code := -0x400; code <= lastCode+0x400; code++ {
			if Meet(open, code) {
				met = append(met, code)
			}
		}
		if !slices.Equal(met, closing) {
			t.Errorf("%x meets %x, not %x", open, met, closing)
		}
	}
}
