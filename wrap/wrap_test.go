package wrap

import (
	"math"
	"slices"
	"testing"

	"parquetry/api"
	"parquetry/class"
	"parquetry/cluster"
)

// P17.1: a break is one by its code's class.
func TestBreak(t *testing.T) {
	for c, code := range samples {
		if class.Of(code) != c {
			t.Fatalf("%x is no sample of %d", code, c)
		}
		if got := Break(api.Cluster{Code: code}); got != (c == api.BidiB) {
			t.Errorf("%x: %v", code, got)
		}
	}
	breaks := []int{0xa, 0xd, 0x1c, 0x1d, 0x1e, 0x85, 0x2029}
	for code := -5; code < 0x3100; code++ {
		if got := Break(api.Cluster{Code: code}); got != slices.Contains(breaks, code) {
			t.Errorf("%x: %v", code, got)
		}
	}
	for _, code := range noCodes {
		if Break(api.Cluster{Code: code}) {
			t.Errorf("%x", code)
		}
	}
	for _, x := range []struct {
		text string
		want bool
	}{{"\r\n", true}, {"\r", true}, {"\n", true}, {"\u2029", true}, {"\u2028", false}, {"\v", false}, {"\f", false}, {" ", false}, {"a", false}, {"\xff", false}, {"e\u0301", false}} {
		if got := Break(cluster.Split(x.text)[0]); got != x.want {
			t.Errorf("%q: %v", x.text, got)
		}
	}
}

// P17.1: a blank is one by its code alone.
func TestBlank(t *testing.T) {
	for code := -300; code < 0x3100; code++ {
		if got := Blank(api.Cluster{Code: code}); got != (code == 32) {
			t.Errorf("%x: %v", code, got)
		}
	}
	for _, code := range append(samples[:], noCodes...) {
		if got := Blank(api.Cluster{Code: code}); got != (code == 32) {
			t.Errorf("%x: %v", code, got)
		}
	}
	for _, x := range []struct {
		text string
		want bool
	}{{" ", true}, {" \u0301", true}, {"\u00a0", false}, {"\u2003", false}, {"\u3000", false}, {"\u2028", false}, {"\t", false}, {"\f", false}, {"\n", false}, {"a", false}} {
		if got := Blank(cluster.Split(x.text)[0]); got != x.want {
			t.Errorf("%q: %v", x.text, got)
		}
	}
}

// P17.1: nothing but the code tells of what kind a cluster is.
func TestKindsByCode(t *testing.T) {
	for _, n := range widths {
		for _, code := range []int{' ', '\n', 0x85, 'a', 0} {
			c := api.Cluster{At: n, Size: n, From: n, To: n, Wide: n, Code: code}
			if Blank(c) != (code == ' ') || Break(c) != (code == '\n' || code == 0x85) {
				t.Errorf("%v: %v %v", c, Blank(c), Break(c))
			}
			for at := range 5 {
				c := api.Cluster{Code: 'a'}
				*[]*int{&c.At, &c.Size, &c.From, &c.To, &c.Wide}[at] = code
				if Blank(c) || Break(c) {
					t.Errorf("%v", c)
				}
			}
		}
	}
}

// P17.1: the end of what is to be shown.
func TestShown(t *testing.T) {
	for _, x := range []struct {
		text string
		want int
	}{
		{"", 0}, {"a", 1}, {"_", 1}, {"ab", 2},
		// With a break at the end, elsewhere, with several.
		{"|", 0}, {"4", 0}, {"a|", 1}, {"ab4", 2}, {"_|", 1}, {"a_|", 2}, {"|a", 2}, {"a|b", 3}, {"||", 1}, {"|||", 2}, {"a||", 2}, {"a|b|", 3}, {"|a|b", 4}, {"4|", 1},
	} {
		if got := Shown(of(x.text)); got != x.want {
			t.Errorf("%q: %d, not %d", x.text, got, x.want)
		}
	}
	for _, code := range append(samples[:], noCodes...) {
		want := 2
		if code == 0x2029 {
			want = 1
		}
		if got := Shown([]api.Cluster{{Code: '\n'}, {Code: code}}); got != want {
			t.Errorf("%x: %d", code, got)
		}
	}
	someTexts(func(text string) {
		if got, want := Shown(of(text)), len(docShown(of(text))); got != want {
			t.Errorf("%q: %d, not %d", text, got, want)
		}
	})
	for text, want := range map[string]int{"ab\r\n": 2, "\r\n": 0, "\r\r\n": 1, "ab\u2029": 2, "ab\u0085": 2, "ab\u2028": 3, "\x1c": 0} {
		if got := Shown(cluster.Split(text)); got != want {
			t.Errorf("%q: %d, not %d", text, got, want)
		}
	}
}

// P17.2: places up to which clusters fit.
func TestFits(t *testing.T) {
	for _, x := range []struct {
		text          string
		from, w, want int
	}{
		{"", 0, 5, 0}, {"", -1, 5, 0}, {"", 1, 5, 0}, {"", 0, -1, 0}, {"", math.MinInt, math.MinInt, 0}, {"", math.MaxInt, math.MaxInt, 0},
		// From below 0, within, at the end, behind it.
		{"abcd", 0, 2, 2}, {"abcd", -1, 2, 2}, {"abcd", math.MinInt, 2, 2}, {"abcd", 1, 2, 3}, {"abcd", 2, 2, 4}, {"abcd", 3, 2, 4}, {"abcd", 4, 2, 4}, {"abcd", 5, 2, 4}, {"abcd", math.MaxInt, 2, 4}, {"abcd", 4, -1, 4}, {"abcd", 5, 0, 4}, {"abcd", 3, 0, 3}, {"abcd", -7, 0, 0},
		// The sum is just w; one more.
		{"abcd", 0, 4, 4}, {"abcd", 0, 3, 3}, {"abcd", 0, 5, 4}, {"a22", 0, 5, 3}, {"a22", 0, 4, 2}, {"a22", 0, 3, 2}, {"a22", 0, 2, 1},
		// The first one takes more.
		{"2a", 0, 1, 0}, {"2a", 0, 0, 0}, {"a2", 1, 1, 1}, {"a", 0, -5, 0}, {"a", 0, 0, 0},
		// Those of no slot; below 0 nothing fits, also what takes none.
		{"00a0", 0, 0, 2}, {"00a0", 0, 1, 4}, {"0", 0, 0, 1}, {"0", 0, -1, 0}, {"00", 1, -1, 1}, {"000", 0, math.MinInt, 0}, {"a00b", 0, 1, 3}, {"200", 0, 2, 3}, {"200", 0, 1, 0},
		// Those below 0 count as 0.
		{"5", 0, 0, 1}, {"5", 0, -1, 0}, {"5", 0, -3, 0}, {"5a", 0, 0, 1}, {"a5b", 0, 1, 2}, {"ab5", 0, 1, 1}, {"6a6b", 0, 1, 3}, {"6", 0, math.MinInt, 0}, {"555a", 0, 0, 3},
		// Blanks and breaks are clusters as others are.
		{"a_|b", 0, 2, 3}, {"___", 0, 2, 2}, {"44", 0, 1, 1}, {"||", 0, 0, 2},
	} {
		if got := Fits(of(x.text), x.from, x.w); got != x.want {
			t.Errorf("%q from %d in %d: %d, not %d", x.text, x.from, x.w, got, x.want)
		}
	}
}

// P17.2: clusters of any number of slots, whose sum may be more than a number holds.
func TestFitsMuch(t *testing.T) {
	for _, x := range []struct {
		l             []api.Cluster
		from, w, want int
	}{
		{wide(math.MaxInt), 0, math.MaxInt, 1}, {wide(math.MaxInt), 0, math.MaxInt - 1, 0}, {wide(math.MaxInt, 0, -1), 0, math.MaxInt, 3}, {wide(math.MaxInt, 1), 0, math.MaxInt, 1}, {wide(1, math.MaxInt), 0, math.MaxInt, 1}, {wide(math.MaxInt, math.MaxInt, 2), 0, math.MaxInt, 1}, {wide(math.MaxInt, math.MaxInt, 2), 0, 0, 0},
		{wide(math.MinInt, 3), 0, 2, 1}, {wide(math.MinInt, math.MinInt, 3), 0, 3, 3}, {wide(3, math.MinInt, 3), 0, 5, 2}, {wide(-1, 1), 0, 0, 1},
		{wide(1024, 1024), 0, 2048, 2}, {wide(1024, 1024), 0, 2047, 1}, {wide(math.MaxInt32, 1, 1), 0, math.MaxInt32 + 1, 2}, {wide(1<<32, 1), 0, 1<<32 - 1, 0}, {wide(7), 0, 7, 1}, {wide(7), 0, 6, 0},
	} {
		if got := Fits(x.l, x.from, x.w); got != x.want {
			t.Errorf("%v from %d in %d: %d, not %d", x.l, x.from, x.w, got, x.want)
		}
	}
	for _, a := range widths {
		for _, b := range widths {
			for _, c := range widths {
				l := wide(a, b, c)
				for _, w := range widths {
					for from := -1; from <= 4; from++ {
						if got, want := Fits(l, from, w), docFits(l, from, w); got != want {
							t.Errorf("%v from %d in %d: %d, not %d", l, from, w, got, want)
						}
					}
				}
			}
		}
	}
}

// P17.2: all small rows.
func TestFitsSmall(t *testing.T) {
	look := func(text string) {
		l := of(text)
		for from := -1; from <= len(l)+1; from++ {
			for w := -2; w <= 2*len(l)+1; w++ {
				if got, want := Fits(l, from, w), docFits(l, from, w); got != want {
					t.Errorf("%q from %d in %d: %d, not %d", text, from, w, got, want)
				}
			}
		}
	}
	eachText(3, "a_|0123456", look)
	eachText(5, "a025", look)
}
