package place

import (
	"math"
	"slices"
	"strings"
	"testing"

	"parquetry/api"
	"parquetry/bidi"
	"parquetry/cluster"
	"parquetry/runes"
)

// P19.1: lines told by hand, with the levels that bidi says.
func TestSlots(t *testing.T) {
	for _, x := range []struct {
		text                        string
		from, show, to, dots        int
		para, w                     int
		onLeft, onRight, halfOnLeft string
	}{
		// The chapter's.
		{"aאב", 0, 3, 3, 0, 0, 5, "aבא..", "..aבא", ".aבא."}, {"aאב", 0, 3, 3, 0, 1, 5, "באa..", "..באa", ".באa."}, {"(א", 0, 2, 2, 0, 1, 4, "א)..", "..א)", ".א)."}, {"abc", 0, 1, 3, 1, 0, 3, "a~.", ".a~", "a~."}, {"一", 0, 1, 1, 0, 0, 3, "一=.", ".一=", "一=."},
		// No runes; a line of no clusters, of ones that aren't shown, of ones that take no slot.
		{"", 0, 0, 0, 0, 0, 1, ".", ".", "."}, {"", 0, 0, 0, 0, 1, 3, "...", "...", "..."}, {"", 0, 0, 0, 1, 0, 4, "~...", "...~", ".~.."}, {"", 0, 0, 0, 1, 1, 1, "~", "~", "~"}, {"abc", 2, 2, 2, 0, 0, 2, "..", "..", ".."}, {"abc", 3, 3, 3, 1, 1, 2, "~.", ".~", "~."}, {"abc", 0, 0, 3, 0, 1, 2, "..", "..", ".."}, {"abc", 1, 1, 3, 1, 0, 3, "~..", "..~", ".~."}, {"\r\n", 0, 1, 1, 0, 0, 2, "..", "..", ".."}, {"\u200b\u200b", 0, 2, 2, 1, 0, 2, "~.", ".~", "~."}, {"\u0301", 0, 1, 1, 0, 0, 1, ".", ".", "."}, {"\t", 0, 1, 1, 0, 1, 1, ".", ".", "."},
		// Just one slot; just as many as there are; one fewer, far fewer.
		{"a", 0, 1, 1, 0, 0, 1, "a", "a", "a"}, {"ab", 0, 2, 2, 0, 0, 1, "a", "a", "a"}, {"abcd", 0, 4, 4, 0, 0, 4, "abcd", "abcd", "abcd"}, {"abcd", 0, 4, 4, 0, 0, 3, "abc", "abc", "abc"}, {"אבגד", 0, 4, 4, 0, 1, 3, "דגב", "דגב", "דגב"}, {"אבגדהוזח", 0, 8, 8, 0, 1, 2, "חז", "חז", "חז"}, {"abcdefgh", 0, 8, 8, 0, 1, 1, "a", "a", "a"},
		// Dots that are cut off, and ones that are not; half of what takes two slots.
		{"abcd", 0, 2, 4, 1, 0, 3, "ab~", "ab~", "ab~"}, {"abcd", 0, 2, 4, 1, 0, 2, "ab", "ab", "ab"}, {"abcd", 0, 2, 4, 1, 1, 2, "~a", "~a", "~a"}, {"abcd", 0, 2, 4, 1, 1, 1, "~", "~", "~"}, {"אב", 0, 2, 2, 1, 1, 2, "~ב", "~ב", "~ב"}, {"אב", 0, 2, 2, 1, 0, 2, "בא", "בא", "בא"}, {"a一", 0, 2, 2, 0, 0, 2, "a一", "a一", "a一"}, {"一一", 0, 2, 2, 0, 0, 3, "一=一", "一=一", "一=一"}, {"一", 0, 1, 1, 0, 0, 1, "一", "一", "一"}, {"一a", 0, 1, 2, 1, 1, 2, "~一", "~一", "~一"}, {"一a", 0, 1, 2, 1, 0, 2, "一=", "一=", "一="},
		// Even and odd slack: the half on the left is cut off.
		{"ab", 0, 2, 2, 0, 0, 3, "ab.", ".ab", "ab."}, {"ab", 0, 2, 2, 0, 0, 4, "ab..", "..ab", ".ab."}, {"ab", 0, 2, 2, 0, 0, 5, "ab...", "...ab", ".ab.."}, {"ab", 0, 2, 2, 0, 0, 6, "ab....", "....ab", "..ab.."}, {"אב", 0, 1, 2, 1, 1, 5, "~א...", "...~א", ".~א.."}, {"א", 0, 1, 1, 0, 0, 2, "א.", ".א", "א."}, {"", 0, 0, 0, 0, 0, 5, ".....", ".....", "....."},
		// A part of the clusters.
		{"abcdef", 2, 4, 6, 0, 0, 4, "cd..", "..cd", ".cd."}, {"abcdef", 2, 4, 4, 1, 0, 4, "cd~.", ".cd~", "cd~."}, {"אבגדה", 1, 4, 5, 1, 1, 5, "~דגב.", ".~דגב", "~דגב."}, {"אבגדה", 3, 5, 5, 0, 0, 2, "הד", "הד", "הד"}, {"e\u0301一\u200bb", 1, 4, 4, 0, 0, 4, "一=b.", ".一=b", "一=b."}, {"👨\u200d👩x", 1, 2, 2, 0, 0, 2, "x.", ".x", "x."},
		// A blank at the line's end stands at the paragraph's level, and so it does if it isn't shown; one that something behind it isn't shown of stands within.
		{"אב ", 0, 3, 3, 0, 0, 4, "בא .", ".בא ", "בא ."}, {"אב ", 0, 3, 3, 0, 1, 4, " בא.", ". בא", " בא."}, {"אב גד", 0, 3, 3, 0, 0, 4, "בא .", ".בא ", "בא ."}, {"אב גד", 0, 3, 4, 0, 0, 4, " בא.", ". בא", " בא."}, {"אב גד", 0, 3, 5, 1, 0, 4, " בא~", " בא~", " בא~"}, {"ab cd", 0, 3, 3, 0, 1, 4, " ab.", ". ab", " ab."}, {"ab cd", 0, 3, 4, 0, 1, 4, "ab .", ".ab ", "ab ."}, {"א  ב", 0, 2, 3, 0, 0, 3, "א .", ".א ", "א ."}, {"א ב", 1, 2, 3, 0, 0, 3, " ..", ".. ", ". ."},
		// Signs that are mirrored, and those that aren't, within text of both directions.
		{"a(b", 0, 3, 3, 0, 0, 3, "a(b", "a(b", "a(b"}, {"א(ב", 0, 3, 3, 0, 0, 3, "ב)א", "ב)א", "ב)א"}, {"a<א<ב", 0, 5, 5, 0, 0, 5, "a<ב>א", "a<ב>א", "a<ב>א"}, {"א[a", 0, 3, 3, 0, 1, 3, "a]א", "a]א", "a]א"}, {"א12ב", 0, 4, 4, 0, 1, 4, "ב12א", "ב12א", "ב12א"}, {"א«", 0, 2, 2, 0, 1, 2, "»א", "»א", "»א"}, {"א!?", 0, 3, 3, 0, 1, 3, "?!א", "?!א", "?!א"}, {"\u202e一)\u202c", 0, 4, 4, 0, 0, 3, "(一=", "(一=", "(一="},
		// Both directions, and more of one.
		{"a אב b", 0, 6, 6, 0, 0, 6, "a בא b", "a בא b", "a בא b"}, {"א ab ג", 0, 6, 6, 0, 1, 6, "ג ab א", "ג ab א", "ג ab א"}, {"אa1ב", 0, 4, 4, 0, 1, 5, "בa1א.", ".בa1א", "בa1א."}, {"אב12ג", 0, 4, 5, 1, 1, 6, "~12בא.", ".~12בא", "~12בא."},
		// An odd byte, shown as FFFD.
		{"a\xff", 0, 2, 2, 0, 0, 3, "a\ufffd.", ".a\ufffd", "a\ufffd."},
	} {
		l := runes.Split(x.text)
		line := api.Line{From: x.from, To: x.to, Show: x.show, Dots: x.dots}
		for at, want := range []string{x.onLeft, x.onRight, x.halfOnLeft} {
			got, err := Slots(l, bidi.Resolve(l, x.para), line, x.para, x.w, aligns[at])
			if shows(got) != want || err != api.OK {
				t.Errorf("%q, %v, para %d, w %d, align %d: %q, %d; not %q", x.text, line, x.para, x.w, aligns[at], shows(got), err, want)
			}
		}
	}
}

// P19.1: levels told by hand, which need not be those that bidi says.
func TestLevels(t *testing.T) {
	for _, x := range []struct {
		text, levels string
		para         int
		want         string
	}{
		// Levels within others.
		{"abcdef", "001100", 0, "abdcef"}, {"abcde", "01210", 0, "adcbe"}, {"abcde", "12321", 1, "ebcda"}, {"abcdef", "123321", 1, "fbdcea"}, {"abcdef", "012210", 0, "aecdbf"}, {"abcdef", "122221", 1, "fbcdea"}, {"abcdefg", "0122210", 0, "afcdebg"}, {"abcd", "2200", 0, "abcd"}, {"abcd", "2211", 1, "dcab"}, {"abc", "012", 0, "acb"}, {"abc", "123", 1, "bca"}, {"ab", "01", 1, "ab"}, {"ab", "10", 0, "ab"}, {"abc", "110", 0, "bac"},
		// Below 0, and above 126.
		{"abcd", "zz11", 0, "abdc"}, {"abcd", "--00", 0, "abcd"}, {"a(b", "zzz", 0, "a)b"}, {"a(b", "---", 0, "a(b"}, {"abc", "yyy", 0, "abc"}, {"abc", "xxx", 0, "abc"}, {"abcd", "yyxx", 0, "abcd"}, {"a(c", "yyy", 0, "a)c"}, {"a(c", "xxx", 0, "a(c"}, {"abcd", "1yx1", 1, "dbca"}, {"abcd", "z1y1", 0, "adcb"},
		// A cluster's first rune tells its level.
		{"ae\u0301b", "0110", 0, "aeb"}, {"ab\u0301cd", "01010", 0, "acbd"}, {"ab\u0301cd", "00110", 0, "abcd"}, {"ab\u0301cd", "01110", 0, "acbd"}, {"ab\u0301c\u0301d", "010100", 0, "acbd"}, {"ab\u0301c\u0301d", "001010", 0, "abcd"}, {"(\u0301", "10", 0, ")"}, {"(\u0301", "01", 0, "("},
		// What takes no slot parts nothing.
		{"ab\u200bcd", "01010", 0, "acbd"}, {"b\u200bc", "101", 1, "cb"}, {"b\tc", "111", 0, "cb"}, {"ab\u200bcd", "00100", 0, "abcd"},
		// What ends a line within it has the paragraph's level; a mark behind a blank has none of its own to tell.
		{"ab  ", "1111", 0, "ba  "}, {"ab  ", "0000", 1, "ab  "}, {"ab  ", "2222", 1, "  ab"}, {"a b ", "1111", 0, "b a "}, {"ab \u200b", "1111", 0, "ba "}, {"ab\u2028", "110", 0, "ba"}, {"ab \u2028c", "11111", 0, "c ba"}, {"ab \u2029c", "11111", 0, "ba c"}, {"ab \tc", "11111", 0, "ba c"}, {"ab \u0301", "1110", 0, " ba"},
		// Two slots, side by side, at whatever level.
		{"一二", "11", 0, "二=一="}, {"一二", "00", 1, "一=二="}, {"一a二", "121", 1, "二=a一="},
	} {
		l := of(x.text)
		got, err := Slots(l, levelsOf(x.levels), whole(l), x.para, max(1, len([]rune(x.want))), api.AlignLeft)
		if shows(got) != x.want || err != api.OK {
			t.Errorf("%q at %s, para %d: %q, %d; not %q", x.text, x.levels, x.para, shows(got), err, x.want)
		}
	}
}

// P19.1: slots told with all that they have; what is not named is zero.
func TestWholeSlots(t *testing.T) {
	pad, dots := api.Slot{Kind: api.SlotPad}, api.Slot{Kind: api.SlotDots}
	sign := func(at, part, code int) api.Slot {
		return api.Slot{Kind: api.SlotText, At: at, Part: part, Code: code}
	}
	for _, x := range []struct {
		text  string
		line  api.Line
		para  int
		w     int
		align int
		want  []api.Slot
	}{
		{"é(", api.Line{To: 2, Show: 2}, 0, 3, api.AlignRight, []api.Slot{pad, sign(0, 0, 0xe9), sign(2, 0, '(')}},
		{"א(", api.Line{To: 2, Show: 2, Dots: 1}, 1, 4, api.AlignRight, []api.Slot{pad, dots, sign(2, 0, ')'), sign(0, 0, 0x5d0)}},
		{"a一b", api.Line{To: 3, Show: 3}, 0, 5, api.AlignLeft, []api.Slot{sign(0, 0, 'a'), sign(1, 0, 0x4e00), sign(1, 1, 0x4e00), sign(4, 0, 'b'), pad}},
		{"א〈", api.Line{To: 2, Show: 2}, 1, 3, api.AlignLeft, []api.Slot{sign(2, 0, 0x3009), sign(2, 1, 0x3009), sign(0, 0, 0x5d0)}},
		{"א〈", api.Line{To: 2, Show: 2}, 1, 1, api.AlignRight, []api.Slot{sign(2, 0, 0x3009)}},
		{"❤\ufe0fe\u0301", api.Line{To: 2, Show: 2}, 0, 4, api.AlignCentre, []api.Slot{sign(0, 0, 0x2764), sign(0, 1, 0x2764), sign(6, 0, 'e'), pad}},
		{"❤\ufe0fe\u0301", api.Line{From: 1, To: 2, Show: 2, Dots: 1}, 0, 5, api.AlignCentre, []api.Slot{pad, sign(6, 0, 'e'), dots, pad, pad}},
		{"\xe9b", api.Line{To: 2, Show: 2, Hard: 1}, 0, 2, api.AlignLeft, []api.Slot{sign(0, 0, 0xfffd), sign(1, 0, 'b')}},
	} {
		l := runes.Split(x.text)
		is(t, l, bidi.Resolve(l, x.para), x.line, x.para, x.w, x.align, x.want, api.OK)
	}
	// At and Code are taken as they are.
	for _, n := range numbers {
		l := []api.Rune{{At: n, Size: -n, Code: 'a'}, {At: 7, Size: 1, Code: n}, {At: n, Code: 0x4e00}}
		if n < 0 || n > 0x10ffff {
			is(t, l, []int{0, 0, 0}, api.Line{To: 3, Show: 3}, 0, 4, api.AlignLeft, []api.Slot{sign(n, 0, 'a'), sign(7, 0, n), sign(n, 0, 0x4e00), sign(n, 1, 0x4e00)}, api.OK)
		}
		is(t, l[:1], []int{n}, api.Line{To: 1, Show: 1}, 0, 1, api.AlignLeft, []api.Slot{sign(n, 0, 'a')}, api.OK)
	}
}

// P19.1: Dots of any number but 1 are none; Hard says nothing.
func TestDots(t *testing.T) {
	l := of("ab")
	for _, n := range numbers {
		for _, hard := range numbers {
			for para, want := range []string{"a~", "~a"} {
				if n != 1 {
					want = "a"
				}
				text, err := Slots(l, []int{0, 0}, api.Line{To: 2, Show: 1, Dots: n, Hard: hard}, para, 3, api.AlignLeft)
				if want += strings.Repeat(".", 3-len(want)); shows(text) != want || err != api.OK {
					t.Errorf("dots %d, hard %d, para %d: %q, %d", n, hard, para, shows(text), err)
				}
			}
		}
	}
}

// P19.1: what may not be handed in, whether the line may be or not.
func TestErrArg(t *testing.T) {
	for _, l := range [][]api.Rune{nil, of("ab")} {
		levels := make([]int, len(l))
		for _, line := range []api.Line{{}, {To: 2, Show: 2}, {From: -1}, {To: 3}, {From: 2, Show: 1, To: 2}, {From: math.MinInt, Show: math.MaxInt, To: math.MinInt}} {
			for _, n := range numbers {
				if n != 0 && n != 1 {
					is(t, l, levels, line, n, 3, api.AlignLeft, nil, api.ErrArg)
				}
				if n < 1 || n > 1024 {
					is(t, l, levels, line, 0, n, api.AlignLeft, nil, api.ErrArg)
				}
				if n < 2 || n > 4 {
					is(t, l, levels, line, 0, 3, n, nil, api.ErrArg)
				}
				want, err := docSlots(l, levels, line, n, n, n)
				is(t, l, levels, line, n, n, n, want, err)
			}
			for _, n := range []int{0, 1, 2, 3, 1000} {
				if n != len(l) {
					is(t, l, make([]int, n), line, 0, 3, api.AlignRight, nil, api.ErrArg)
					is(t, l, make([]int, n), line, 1, 1, api.AlignCentre, nil, api.ErrArg)
				}
			}
		}
	}
}

// P19.1: w is from 1 to 1024.
func TestWide(t *testing.T) {
	l := of("ab")
	for _, w := range []int{1, 2, 3, 1023, 1024} {
		for _, align := range aligns {
			want, _ := docSlots(l, []int{0, 0}, whole(l), 0, w, align)
			is(t, l, []int{0, 0}, whole(l), 0, w, align, want, api.OK)
			if len(want) != w {
				t.Errorf("%d: %d", w, len(want))
			}
		}
	}
}

// P19.1: lines that may not be of the clusters, each with all other things right; that a line is counted by clusters, not by runes.
func TestErrRange(t *testing.T) {
	l, levels := of("ae\u0301b\r\n"), make([]int, 6)
	if n := len(cluster.Of(l)); n != 4 {
		t.Fatal(n)
	}
	some := append([]int{}, numbers...)
	for _, from := range some {
		for _, show := range some {
			for _, to := range some {
				for dots := range 2 {
					line := api.Line{From: from, To: to, Show: show, Dots: dots}
					want, err := docSlots(l, levels, line, 0, 4, api.AlignLeft)
					if (err == api.ErrRange) != (from < 0 || show < from || to < show || to > 4) {
						t.Fatalf("%v: %d", line, err)
					}
					is(t, l, levels, line, 0, 4, api.AlignLeft, want, err)
				}
			}
		}
	}
	for _, line := range []api.Line{{To: 1}, {To: 1, Show: 1}, {From: 1, To: 1, Show: 1}, {From: -1}, {From: -1, Show: -1, To: -1}} {
		is(t, nil, nil, line, 0, 4, api.AlignLeft, nil, api.ErrRange)
	}
	is(t, nil, []int{}, api.Line{}, 1, 1, api.AlignRight, []api.Slot{{Kind: api.SlotPad}}, api.OK)
}

// P19.1: all small rows, levels and lines.
func TestSmall(t *testing.T) {
	n := 0
	row := func(signs string, most int, some []int) {
		eachText(most, signs, func(text string) {
			l := of(text)
			eachLevels(len(l), some, func(levels []int) {
				eachLine(len(cluster.Of(l)), func(line api.Line) {
					for para := range 2 {
						n++
						line.Dots = n & 1
						slots := docText(l, levels, line, para)
						for w := max(1, len(slots)-1+n%3); w <= len(slots)+n%3; w += 2 {
							align := aligns[n/3%3]
							is(t, l, levels, line, para, w, align, docPadded(slots, w, align), api.OK)
						}
					}
				})
			})
		})
	}
	row("aא( 一\u0301", 2, []int{-1, 0, 1, 2, 3, 127})
	row("a( \u0301", 3, []int{0, 1, 2})
	row("< 二", 3, []int{0, 1, 2})
	row("a \u2029\u200b\u2067\r\n", 3, []int{0, 1})
	row("a(", 4, []int{0, 1, 2})
}

// P19.1: a long row takes no longer than it is long, whatever its levels.
func TestLong(t *testing.T) {
	const n = 1 << 16
	l := of(strings.Repeat("a一\u0301 ", n/4))
	for _, some := range [][]int{{0}, {1, 2}, {126, 125, 3}} {
		levels := slices.Repeat(some, n)[:n]
		line := whole(l)
		for dots := range 2 {
			line.Dots = dots
			for _, show := range []int{0, 1, line.To - 1, line.To} {
				line.Show = show
				got, err := Slots(l, levels, line, dots, 1024, api.AlignRight)
				if len(got) != 1024 || err != api.OK {
					t.Errorf("%d, %d", len(got), err)
				}
			}
		}
	}
}
