package clip

import (
	"math"
	"strings"
	"testing"

	"parquetry/api"
	"parquetry/cluster"
	"parquetry/wrap"
)

// wrong are lines that may not be of four clusters.
var wrong = []api.Line{
	// From below 0.
	{From: -1}, {From: -1, Show: 2, To: 3}, {From: -1, Show: -1, To: -1}, {From: math.MinInt, Show: 2, To: 4}, {From: math.MinInt, Show: math.MinInt, To: math.MinInt},
	// Show ahead of From.
	{From: 1, Show: 0, To: 3}, {From: 4, Show: 3, To: 4}, {From: 1}, {From: 0, Show: -1, To: 3}, {From: 2, Show: math.MinInt, To: 4}, {From: math.MaxInt, Show: 2, To: 4},
	// To ahead of Show.
	{From: 0, Show: 1}, {From: 1, Show: 3, To: 2}, {From: 1, Show: 3, To: 0}, {From: 0, Show: 4, To: 3}, {From: 0, Show: 0, To: -1}, {From: 1, Show: 2, To: math.MinInt}, {From: 1, Show: math.MaxInt, To: 4},
	// To more than there are.
	{To: 5}, {From: 4, Show: 4, To: 5}, {From: 5, Show: 5, To: 5}, {Show: 5, To: 5}, {To: math.MaxInt}, {From: math.MaxInt, Show: math.MaxInt, To: math.MaxInt}, {To: 1 << 32},
	// All of it.
	{From: math.MaxInt, Show: 0, To: math.MinInt}, {From: 3, Show: 2, To: 1}, {From: 9, Show: 7, To: 8},
}

// P18.1: which lines may be.
func TestMay(t *testing.T) {
	l := of("abcd")
	for _, line := range []api.Line{
		{}, {To: 4}, {Show: 4, To: 4}, {Show: 3, To: 4}, {From: 4, Show: 4, To: 4}, {From: 1, Show: 1, To: 1}, {From: 1, Show: 2, To: 3}, {From: 3, Show: 3, To: 4}, {From: 3, Show: 4, To: 4},
	} {
		for _, n := range numbers {
			line.Hard, line.Dots = n, -n
			if !May(l, line) {
				t.Errorf("%v may not be", line)
			}
		}
	}
	for _, line := range wrong {
		for n := range 2 {
			line.Hard, line.Dots = n, n
			if May(l, line) {
				t.Errorf("%v may be", line)
			}
		}
	}
	// No clusters, one.
	for _, x := range []struct {
		line      api.Line
		none, one bool
	}{{api.Line{}, true, true}, {api.Line{To: 1}, false, true}, {api.Line{Show: 1, To: 1}, false, true}, {api.Line{From: 1, Show: 1, To: 1}, false, true}, {api.Line{From: 1, To: 1}, false, false}, {api.Line{To: 2}, false, false}, {api.Line{From: -1}, false, false}} {
		if May(nil, x.line) != x.none || May([]api.Cluster{}, x.line) != x.none || May(of("a"), x.line) != x.one {
			t.Errorf("%v", x)
		}
	}
}

// P18.1: all lines of small numbers, and of those at the ends of what numbers hold.
func TestMayEach(t *testing.T) {
	for n := range 6 {
		l := of("a0257"[:n])
		look := func(line api.Line) {
			if got, want := May(l, line), docMay(l, line); got != want {
				t.Errorf("%v of %d: %v", line, n, got)
			}
		}
		eachLine(n, look)
		for _, from := range numbers {
			for _, show := range numbers {
				for _, to := range numbers {
					look(api.Line{From: from, To: to, Show: show})
				}
			}
		}
	}
}

// P18.2: lines told by hand.
func TestClip(t *testing.T) {
	for _, x := range []struct {
		text                        string
		from, show, w               int
		clipped, clipDots, cutShown int
	}{
		// The chapter's.
		{"abcdef", 0, 6, 6, 6, 0, 5}, {"abcdef", 0, 6, 5, 4, 1, 4}, {"abcdef", 0, 6, 1, 0, 1, 0}, {"abcdef", 0, 6, 0, 0, 1, 0}, {"abcdef", 0, 6, 9, 6, 0, 6},
		// It fits just; by one more; w is at the ends of what numbers hold.
		{"abcdef", 0, 6, 7, 6, 0, 6}, {"abcdef", 0, 6, 8, 6, 0, 6}, {"abcdef", 0, 6, math.MaxInt, 6, 0, 6}, {"abcdef", 0, 6, -1, 0, 1, 0}, {"abcdef", 0, 6, math.MinInt, 0, 1, 0}, {"abcdef", 0, 6, 2, 1, 1, 1},
		// A part of the clusters.
		{"abcdef", 2, 5, 3, 5, 0, 4}, {"abcdef", 2, 5, 2, 3, 1, 3}, {"abcdef", 2, 5, 4, 5, 0, 5}, {"abcdef", 2, 5, 1, 2, 1, 2}, {"abcdef", 2, 5, 0, 2, 1, 2}, {"abcdef", 2, 5, -4, 2, 1, 2}, {"222a22", 3, 4, 1, 4, 0, 3}, {"7a7", 1, 2, 1, 2, 0, 1}, {"7ab7", 1, 3, 1, 1, 1, 1},
		// Nothing is shown: 0 slots are at most w from 0 on.
		{"", 0, 0, 1, 0, 0, 0}, {"", 0, 0, 0, 0, 0, 0}, {"", 0, 0, -1, 0, 1, 0}, {"", 0, 0, math.MinInt, 0, 1, 0}, {"abcd", 2, 2, 0, 2, 0, 2}, {"abcd", 2, 2, 5, 2, 0, 2}, {"abcd", 2, 2, -1, 2, 1, 2}, {"abcd", 4, 4, 0, 4, 0, 4},
		// One cluster.
		{"a", 0, 1, 1, 1, 0, 0}, {"a", 0, 1, 2, 1, 0, 1}, {"a", 0, 1, 0, 0, 1, 0}, {"2", 0, 1, 1, 0, 1, 0}, {"2", 0, 1, 2, 1, 0, 0}, {"2", 0, 1, 3, 1, 0, 1},
		// Clusters of two slots: one is left free beside the dots.
		{"222", 0, 3, 5, 2, 1, 2}, {"222", 0, 3, 4, 1, 1, 1}, {"222", 0, 3, 6, 3, 0, 2}, {"222", 0, 3, 7, 3, 0, 3}, {"a2b", 0, 3, 3, 1, 1, 1}, {"a2b", 0, 3, 4, 3, 0, 2},
		// Clusters of no slot stay with what stands ahead of them, also where just dots fit.
		{"a00bc", 0, 5, 2, 3, 1, 3}, {"a00bc", 0, 5, 3, 5, 0, 4}, {"00ab", 0, 4, 1, 2, 1, 2}, {"00ab", 0, 4, 0, 0, 1, 0}, {"00", 0, 2, 0, 2, 0, 0}, {"00", 0, 2, 1, 2, 0, 2}, {"00", 0, 2, -1, 0, 1, 0}, {"ab00", 0, 4, 2, 4, 0, 1}, {"ab00", 0, 4, 3, 4, 0, 4}, {"0ab", 0, 1, 0, 1, 0, 0}, {"0ab", 1, 2, 1, 2, 0, 1},
		// Those below 0 count as 0.
		{"5", 0, 1, 0, 1, 0, 0}, {"5", 0, 1, -3, 0, 1, 0}, {"5", 0, 1, 1, 1, 0, 1}, {"5ab", 0, 3, 1, 1, 1, 1}, {"5ab", 0, 3, 2, 3, 0, 2}, {"ab5", 0, 3, 2, 3, 0, 1}, {"a5bc", 0, 4, 2, 2, 1, 2}, {"6666a", 0, 5, 0, 0, 1, 0}, {"6666a", 0, 5, 1, 5, 0, 4}, {"a6b", 0, 3, 1, 0, 1, 0}, {"7565", 0, 4, math.MaxInt, 4, 0, 0},
		// What they take together fits no number.
		{"77", 0, 2, math.MaxInt, 0, 1, 0}, {"7a", 0, 2, math.MaxInt, 0, 1, 0}, {"a7", 0, 2, math.MaxInt, 1, 1, 1}, {"8a", 0, 2, math.MaxInt, 2, 0, 1}, {"8aa", 0, 3, math.MaxInt, 1, 1, 1}, {"88", 0, 2, math.MaxInt, 1, 1, 1}, {"8", 0, 1, math.MaxInt, 1, 0, 1}, {"7", 0, 1, math.MaxInt, 1, 0, 0}, {"7", 0, 1, math.MaxInt - 1, 0, 1, 0}, {"877a", 0, 4, 5, 0, 1, 0}, {"ab77", 0, 4, 5, 2, 1, 2}, {"777777", 0, 6, 2, 0, 1, 0},
	} {
		l := of(x.text)
		for _, to := range []int{x.show, len(l)} {
			for hard := range 2 {
				for dots := range 2 {
					line := api.Line{From: x.from, To: to, Show: x.show, Hard: hard, Dots: dots}
					isOne(t, Clip, l, line, x.w, api.Line{From: x.from, To: to, Show: x.clipped, Hard: hard, Dots: x.clipDots}, api.OK)
					isOne(t, Cut, l, line, x.w, api.Line{From: x.from, To: to, Show: x.cutShown, Hard: hard, Dots: 1}, api.OK)
				}
			}
		}
	}
}

// P18.2: a line that may not be is an error, whatever w is.
func TestClipWrong(t *testing.T) {
	for _, text := range []string{"abcd", "0000", "7777", "5555"} {
		for _, line := range wrong {
			line.Hard, line.Dots = 1, 1
			for _, w := range numbers {
				isOne(t, Clip, of(text), line, w, api.Line{}, api.ErrArg)
				isOne(t, Cut, of(text), line, w, api.Line{}, api.ErrArg)
			}
		}
	}
	for _, line := range []api.Line{{To: 1}, {Show: 1, To: 1}, {From: 1, Show: 1, To: 1}, {From: -1}} {
		isOne(t, Clip, nil, line, 5, api.Line{}, api.ErrArg)
		isOne(t, Cut, []api.Cluster{}, line, 5, api.Line{}, api.ErrArg)
	}
}

// P18.2: From, To and Hard stay, of whatever number; Dots are told anew.
func TestClipKeeps(t *testing.T) {
	l := of("ab2cd")
	for _, n := range numbers {
		for _, dots := range numbers {
			line := api.Line{From: 1, To: 4, Show: 4, Hard: n, Dots: dots}
			isOne(t, Clip, l, line, 4, api.Line{From: 1, To: 4, Show: 4, Hard: n}, api.OK)
			isOne(t, Clip, l, line, 3, api.Line{From: 1, To: 4, Show: 2, Hard: n, Dots: 1}, api.OK)
			isOne(t, Cut, l, line, 4, api.Line{From: 1, To: 4, Show: 3, Hard: n, Dots: 1}, api.OK)
		}
	}
}

// P18.2: all small rows, and lines of them.
func TestClipSmall(t *testing.T) {
	someLines(func(l []api.Cluster, line api.Line) {
		for w := -1; w <= 8; w++ {
			line.Dots = w & 1
			want, err := docClip(l, line, w)
			isOne(t, Clip, l, line, w, want, err)
			want, err = docCut(l, line, w)
			isOne(t, Cut, l, line, w, want, err)
		}
	})
}

// P18.2: clusters of any number of slots, clipped to any number.
func TestClipMuch(t *testing.T) {
	for _, a := range numbers {
		for _, b := range numbers {
			for _, c := range numbers {
				l := wide(a, b, c)
				for _, w := range numbers {
					want, err := docClip(l, whole(l), w)
					isOne(t, Clip, l, whole(l), w, want, err)
					want, err = docCut(l, whole(l), w)
					isOne(t, Cut, l, whole(l), w, want, err)
				}
			}
		}
	}
}

// P18.2: nothing of a cluster counts but how many slots it takes.
func TestClipByWide(t *testing.T) {
	for _, n := range numbers {
		l := of("a_2 b")
		for at := range l {
			l[at].At, l[at].Size, l[at].From, l[at].To, l[at].Code = n, n, n, n, n
		}
		isOne(t, Clip, l, whole(l), 6, whole(l), api.OK)
		isOne(t, Clip, l, whole(l), 5, api.Line{To: 5, Show: 3, Hard: 1, Dots: 1}, api.OK)
		isOne(t, Cut, l, whole(l), 6, api.Line{To: 5, Show: 4, Hard: 1, Dots: 1}, api.OK)
	}
	// Blanks ahead of the dots stay.
	isOne(t, Clip, cluster.Split("a   b"), api.Line{To: 5, Show: 5}, 4, api.Line{To: 5, Show: 3, Dots: 1}, api.OK)
}

// P18.4: how many slots lines take, told by hand.
func TestWide(t *testing.T) {
	for _, x := range []struct {
		l          []api.Cluster
		from, show int
		want       int
	}{
		{nil, 0, 0, 0}, {of("abcdef"), 0, 6, 6}, {of("abcdef"), 2, 5, 3}, {of("abcdef"), 2, 2, 0}, {of("abcdef"), 6, 6, 0}, {of("a2b0"), 0, 4, 4}, {of("7a7"), 1, 2, 1}, {of("000"), 0, 3, 0}, {of("a5b6"), 0, 4, 2}, {of("6"), 0, 1, 0}, {of("555"), 0, 3, 0},
		{wide(math.MaxInt32 - 2), 0, 1, math.MaxInt32 - 2}, {wide(math.MaxInt32-3, 1), 0, 2, math.MaxInt32 - 2}, {wide(1, math.MaxInt32-3, -5), 0, 3, math.MaxInt32 - 2},
	} {
		for _, dots := range append([]int{2, 3, 257, 1<<32 | 1, math.MinInt | 1}, numbers...) {
			line := api.Line{From: x.from, To: len(x.l), Show: x.show, Hard: dots, Dots: dots}
			want := x.want
			if dots == 1 {
				want++
			}
			if got := Wide(x.l, line); got != want {
				t.Errorf("%v of %v: %d, not %d", line, x.l, got, want)
			}
		}
	}
}

// P18.4: at most 2^31 - 1.
func TestWideMost(t *testing.T) {
	const most = 1<<31 - 1
	for _, x := range []struct {
		slots []int
		bare  int
	}{
		{[]int{most - 1}, most - 1}, {[]int{most - 2, 1}, most - 1}, {[]int{most}, most}, {[]int{most + 1}, most}, {[]int{most - 1, 1}, most}, {[]int{most, 1}, most}, {[]int{1, most}, most}, {[]int{most, most}, most}, {[]int{math.MaxInt}, most}, {[]int{math.MaxInt, math.MaxInt}, most}, {[]int{math.MaxInt, 1}, most}, {[]int{math.MaxInt, math.MaxInt, 2, 0}, most}, {[]int{math.MaxInt, math.MinInt}, most}, {[]int{most, -5}, most}, {[]int{-5, most - 1, -5}, most - 1}, {[]int{1 << 32}, most}, {[]int{1 << 33, 1}, most},
	} {
		l := wide(x.slots...)
		if got := Wide(l, whole(l)); got != x.bare {
			t.Errorf("%v: %d, not %d", x.slots, got, x.bare)
		}
		line := whole(l)
		line.Dots = 1
		if got := Wide(l, line); got != most {
			t.Errorf("%v with dots: %d", x.slots, got)
		}
	}
	if got := Wide(wide(most-2), api.Line{To: 1, Show: 1, Dots: 1}); got != most-1 {
		t.Errorf("%d", got)
	}
}

// P18.4: nothing of a line that may not be; all small rows, and clusters of any number of slots.
func TestWideSmall(t *testing.T) {
	for _, line := range wrong {
		for dots := range 2 {
			line.Dots = dots
			if got := Wide(of("ab2c"), line); got != 0 {
				t.Errorf("%v: %d", line, got)
			}
		}
	}
	look := func(l []api.Cluster, line api.Line) {
		for line.Dots = range 3 {
			if got, want := Wide(l, line), docWide(l, line); got != want {
				t.Errorf("%v of %v: %d, not %d", line, l, got, want)
			}
		}
	}
	someLines(look)
	for _, a := range numbers {
		for _, b := range numbers {
			for _, c := range numbers {
				l := wide(a, b, c)
				look(l, whole(l))
				look(l, api.Line{From: 1, To: 3, Show: 2})
			}
		}
	}
}

// P18.6: what is answered takes at most w slots, and what has no dots is the same when it is clipped again.
func TestItFits(t *testing.T) {
	someLines(func(l []api.Cluster, line api.Line) {
		if !May(l, line) {
			return
		}
		for w := 1; w <= 8; w++ {
			clipped, _ := Clip(l, line, w)
			cut, _ := Cut(l, line, w)
			for _, one := range []api.Line{clipped, cut} {
				if got := Wide(l, one); got > w || !May(l, one) {
					t.Errorf("%v of %v to %d: %v takes %d", line, l, w, one, got)
				}
			}
			if clipped.Dots == 0 {
				isOne(t, Clip, l, clipped, w, clipped, api.OK)
			}
		}
	})
}

// P18.7: a line with dots shows as much as fits beside them.
func TestAsMuch(t *testing.T) {
	someLines(func(l []api.Cluster, line api.Line) {
		if !May(l, line) {
			return
		}
		for w := 0; w <= 8; w++ {
			clipped, _ := Clip(l, line, w)
			cut, _ := Cut(l, line, w)
			for _, one := range []api.Line{clipped, cut} {
				if one.Dots == 0 || one.Show == line.Show {
					continue
				}
				one.Show++
				if got := Wide(l, one); got <= w {
					t.Errorf("%v of %v to %d: %v takes %d", line, l, w, one, got)
				}
			}
			if clipped.Dots == 1 && (clipped != cut || docFits(l[line.From:line.Show], w)) {
				t.Errorf("%v of %v to %d: %v, %v", line, l, w, clipped, cut)
			}
		}
	})
}

// P18.2, P18.6, P18.7: the lines of real texts.
func TestClipTexts(t *testing.T) {
	for _, text := range []string{"", "a", "e\u0301e\u0301e\u0301", "\u4e00\u4e01\u4e02", "a\u4e00b\u0301 cd", "\u05d0\u05d1 \u05d2\r\n", "\xff\xfe", "\U0001F1E6\U0001F1E6b", "ab cdefgh ij\n"} {
		l := cluster.Split(text)
		for width := 1; width <= 8; width++ {
			for _, wrapped := range []int{0, 1} {
				lines := wrap.Lines(l, width, wrapped)
				for w := -1; w <= 9; w++ {
					for h := -1; h <= len(lines)+1; h++ {
						want, err := docAll(l, lines, w, h)
						isAll(t, l, lines, w, h, want, err)
					}
				}
			}
		}
	}
}

// P18.2 and P18.4: long rows.
func TestLong(t *testing.T) {
	const n = 1 << 20
	for _, x := range []struct {
		text       string
		w          int
		show, dots int
		wide       int
	}{
		{strings.Repeat("a", n), n, n, 0, n}, {strings.Repeat("a", n), n - 1, n - 2, 1, n - 1}, {strings.Repeat("2", n), 2 * n, n, 0, 2 * n}, {strings.Repeat("2", n), 2*n - 1, n - 1, 1, 2*n - 1}, {strings.Repeat("0", n) + "ab", 1, n, 1, 1}, {strings.Repeat("7", n), 5, 0, 1, 1}, {strings.Repeat("6", n), 0, n, 0, 0},
	} {
		l := of(x.text)
		got, err := Clip(l, whole(l), x.w)
		if got.Show != x.show || got.Dots != x.dots || err != api.OK || Wide(l, got) != x.wide {
			t.Errorf("%.5q to %d: %v, %d, %d", x.text, x.w, got, err, Wide(l, got))
		}
	}
}
