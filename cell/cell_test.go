package cell

import (
	"strings"
	"testing"

	"parquetry/api"
)

const (
	start   = api.AlignStart
	end     = api.AlignEnd
	onLeft  = api.AlignLeft
	onRight = api.AlignRight
	centre  = api.AlignCentre
	sheet   = api.DirSheet
	own     = api.DirText
	ltr     = api.DirLeft
	rtl     = api.DirRight
)

// P20.2: texts told by hand: how they stand in a sheet from left to right, and in one from right to left.
func TestLayout(t *testing.T) {
	for _, x := range []struct {
		text             string
		align, wrap, dir int
		w, h             int
		left, right      string
	}{
		// The chapter's.
		{"ab", start, 0, sheet, 4, 2, "ab../....", "..ab/...."},
		{"ab cd", start, 1, sheet, 3, 1, "ab~", "~ab"},
		{"a\nא", start, 0, own, 3, 2, "a../א..", "..a/..א"},
		// No bytes: no line, all pads.
		{"", start, 0, sheet, 2, 2, "../..", "../.."},
		{"", centre, 1, rtl, 1, 1, ".", "."},
		{"", end, 1, own, 3, 1, "...", "..."},
		// Each way to lie.
		{"ab", end, 0, sheet, 4, 1, "..ab", "ab.."},
		{"ab", onLeft, 0, sheet, 4, 1, "ab..", "ab.."},
		{"ab", onRight, 0, sheet, 4, 1, "..ab", "..ab"},
		{"ab", centre, 0, sheet, 5, 1, ".ab..", ".ab.."},
		{"ab", end, 0, ltr, 3, 1, ".ab", "ab."},
		{"ab", start, 0, rtl, 3, 1, "ab.", ".ab"},
		{"אב", start, 0, own, 3, 1, "בא.", ".בא"},
		{"אב", end, 0, own, 3, 1, ".בא", "בא."},
		{"א\nab", centre, 1, own, 4, 2, ".א../.ab.", ".א../.ab."},
		{"א\nab", onRight, 1, sheet, 4, 2, "...א/..ab", "...א/..ab"},
		// Each Dir, as a number at the end tells it.
		{"אב1", start, 0, sheet, 4, 1, "1בא.", ".1בא"},
		{"אב!", start, 0, sheet, 4, 1, "בא!.", ".!בא"},
		{"אב!", start, 0, own, 4, 1, "!בא.", ".!בא"},
		{"אב!", start, 0, ltr, 4, 1, "בא!.", ".בא!"},
		{"אב!", start, 0, rtl, 4, 1, "!בא.", ".!בא"},
		{"ab!", start, 0, sheet, 4, 1, "ab!.", ".!ab"},
		{"ab!", start, 0, own, 4, 1, "ab!.", ".ab!"},
		{"ab!", start, 0, rtl, 4, 1, "!ab.", ".!ab"},
		{"(א)", start, 0, own, 3, 1, "(א)", "(א)"},
		{"(א", start, 0, own, 2, 1, "א)", "א)"},
		{"(א", start, 0, ltr, 2, 1, "(א", "(א"},
		{"!", start, 0, own, 2, 1, "!.", ".!"},
		{"\u2067א\u2069!", start, 0, own, 3, 1, "א!.", ".א!"},
		{"\u2067א\u2069!", start, 0, sheet, 3, 1, "א!.", ".!א"},
		// Each paragraph has its own level.
		{"ab!\nאב!\n1!", start, 0, own, 4, 3, "ab!./!בא./1!..", ".ab!/.!בא/..1!"},
		{"ab!\nאב!\n1!", onLeft, 0, rtl, 4, 3, "!ab./!בא./!1..", "!ab./!בא./!1.."},
		{"\u2067א\n!ב", onLeft, 0, own, 3, 2, "א../ב!.", "א../ב!."},
		{"\u202eab\nab", onLeft, 0, own, 3, 2, "ba./ab.", "ba./ab."},
		{"\u202eab cd", onLeft, 1, own, 2, 2, "ba/dc", "ba/dc"},
		// Paragraphs end with what is of the class B, and CR LF ends one.
		{"a\nb", start, 0, ltr, 2, 3, "a./b./..", ".a/.b/.."},
		{"a\r\nb", start, 0, ltr, 2, 3, "a./b./..", ".a/.b/.."},
		{"a\rb", start, 1, ltr, 2, 3, "a./b./..", ".a/.b/.."},
		{"a\u0085b", start, 0, ltr, 2, 3, "a./b./..", ".a/.b/.."},
		{"a\u2029b", start, 1, ltr, 2, 3, "a./b./..", ".a/.b/.."},
		{"a\x1cb\x1dc\x1ed", onLeft, 0, sheet, 1, 4, "a/b/c/d", "a/b/c/d"},
		{"a\n\rb", onLeft, 0, sheet, 1, 4, "a/./b/.", "a/./b/."},
		{"a\n\nb", onLeft, 0, sheet, 1, 4, "a/./b/.", "a/./b/."},
		{"a\r\n\r\nb", onLeft, 1, sheet, 1, 4, "a/./b/.", "a/./b/."},
		{"\na", onLeft, 0, sheet, 1, 3, "./a/.", "./a/."},
		{"a\n", onLeft, 0, sheet, 1, 2, "a/.", "a/."},
		{"a\n", onLeft, 0, sheet, 1, 1, "a", "a"},
		{"a\n\n", onLeft, 0, sheet, 2, 2, "a./..", "a./.."},
		{"a\n\n", start, 0, sheet, 2, 1, "a~", "~a"},
		{"a\n\n", onLeft, 0, ltr, 2, 1, "a~", "a~"},
		{"\n", onLeft, 1, sheet, 1, 1, ".", "."},
		{"\n\n", onLeft, 1, sheet, 1, 1, "~", "~"},
		{"\n\n", start, 1, sheet, 3, 1, "~..", "..~"},
		{"\n\n\n", onLeft, 1, sheet, 3, 2, ".../~..", ".../~.."},
		// What parts lines, and no paragraphs.
		{"a\u2028b", onLeft, 0, sheet, 3, 1, "ab.", "ab."},
		{"a\u000bb\u000cc", onLeft, 0, ltr, 4, 1, "abc.", "abc."},
		{"a\tb", onLeft, 0, ltr, 3, 2, "ab./...", "ab./..."},
		// Wrapped, or not; as many lines as there are rows, fewer, and more.
		{"ab cd", onLeft, 1, ltr, 2, 2, "ab/cd", "ab/cd"},
		{"ab cd", onLeft, 1, ltr, 2, 3, "ab/cd/..", "ab/cd/.."},
		{"ab cd", onLeft, 1, ltr, 4, 3, "ab../cd../....", "ab../cd../...."},
		{"ab cd", onLeft, 1, ltr, 5, 2, "ab cd/.....", "ab cd/....."},
		{"ab cd", onLeft, 0, ltr, 5, 2, "ab cd/.....", "ab cd/....."},
		{"ab cd", onLeft, 0, ltr, 4, 2, "ab ~/....", "ab ~/...."},
		{"ab cd", onLeft, 0, ltr, 2, 2, "a~/..", "a~/.."},
		{"ab cd", onLeft, 1, ltr, 2, 1, "a~", "a~"},
		{"ab cd", onLeft, 1, ltr, 1, 5, "a/b/c/d/.", "a/b/c/d/."},
		{"ab cd", onLeft, 1, ltr, 1, 4, "a/b/c/d", "a/b/c/d"},
		{"ab cd", onLeft, 1, ltr, 1, 3, "a/b/~", "a/b/~"},
		{"ab cd", onLeft, 0, ltr, 1, 2, "~/.", "~/."},
		{"abcd", onLeft, 1, ltr, 3, 2, "abc/d..", "abc/d.."},
		{"abcd", onLeft, 1, ltr, 3, 1, "ab~", "ab~"},
		{"ab cd ef", onLeft, 1, ltr, 4, 2, "ab../cd~.", "ab../cd~."},
		{"ab cd ef", start, 1, sheet, 4, 2, "ab../cd~.", "..ab/.~cd"},
		{"ab   cd", onLeft, 1, ltr, 3, 2, "ab./cd.", "ab./cd."},
		{"  ab", onLeft, 1, ltr, 3, 2, "  a/b..", "  a/b.."},
		// Also a paragraph that comes is more.
		{"a\nb\nc", onLeft, 0, ltr, 3, 2, "a../b~.", "a../b~."},
		{"abc\nd", onLeft, 0, ltr, 3, 1, "ab~", "ab~"},
		{"a\nb c", onLeft, 1, ltr, 1, 2, "a/~", "a/~"},
		{"a\nb c", onLeft, 1, ltr, 2, 2, "a./b~", "a./b~"},
		{"a b\nc", onLeft, 1, ltr, 2, 2, "a./b~", "a./b~"},
		{"a b\nc", onLeft, 1, ltr, 2, 3, "a./b./c.", "a./b./c."},
		{"abcd\nab", onLeft, 0, ltr, 3, 2, "ab~/ab.", "ab~/ab."},
		{"abcd\nabcd\n", start, 0, rtl, 3, 3, "~ab/~ab/...", "~ab/~ab/..."},
		{"אבגד\nabcd", onLeft, 0, own, 3, 2, "~בא/ab~", "~בא/ab~"},
		// Dots stand at the end of a text's own direction.
		{"אבגד", start, 0, rtl, 3, 1, "~בא", "~בא"},
		{"אבגד", start, 0, ltr, 3, 1, "בא~", "בא~"},
		{"abcd", start, 0, rtl, 3, 1, "~ab", "~ab"},
		{"אב גד", start, 1, own, 4, 1, "~בא.", ".~בא"},
		{"אב גד", start, 1, own, 3, 2, "בא./דג.", ".בא/.דג"},
		{"אב cd", start, 1, own, 5, 1, "cd בא", "cd בא"},
		{"אב cd", start, 0, own, 4, 1, "~ בא", "~ בא"},
		// Two slots; a cluster that is wider than the row; marks.
		{"一二", onLeft, 0, ltr, 3, 1, "一=~", "一=~"},
		{"一二", onLeft, 0, ltr, 4, 1, "一=二=", "一=二="},
		{"一二", onLeft, 0, ltr, 2, 1, "~.", "~."},
		{"一二", onLeft, 1, ltr, 3, 2, "一=./二=.", "一=./二=."},
		{"一", onLeft, 0, ltr, 1, 1, "~", "~"},
		{"一", onLeft, 1, ltr, 1, 2, "~/.", "~/."},
		{"一二", onLeft, 1, ltr, 1, 3, "~/~/.", "~/~/."},
		{"a一", onLeft, 1, rtl, 1, 2, "a/~", "a/~"},
		{"e\u0301a\u0308", onLeft, 0, ltr, 2, 1, "ea", "ea"},
		{"e\u0301a\u0308", onLeft, 1, ltr, 1, 2, "e/a", "e/a"},
		{"\u0301", onLeft, 0, ltr, 1, 1, ".", "."},
		{"\n\u0301a", onLeft, 0, ltr, 1, 2, "./a", "./a"},
		{"👨\u200d👩\n👩", onLeft, 0, ltr, 2, 2, "👨=/👩=", "👨=/👩="},
		{"🇦🇧🇨🇩", onLeft, 1, ltr, 2, 2, "🇦=/🇨=", "🇦=/🇨="},
		{"🇦\n🇧🇨", onLeft, 1, ltr, 2, 2, "🇦=/🇧=", "🇦=/🇧="},
		// Bytes that are none's.
		{"a\xff", onLeft, 0, ltr, 3, 1, "a\ufffd.", "a\ufffd."},
		{"\xc0\n\xe2\x80", onLeft, 0, ltr, 2, 2, "\ufffd./\ufffd\ufffd", "\ufffd./\ufffd\ufffd"},
		{"\xe2\x80\xa9a", onLeft, 0, ltr, 2, 2, "../a.", "../a."},
	} {
		for right, want := range []string{x.left, x.right} {
			style := api.Style{Align: x.align, Wrap: x.wrap, Dir: x.dir}
			l, err := Layout(x.text, style, right, x.w, x.h)
			if shows(l, x.w) != want || err != api.OK {
				t.Errorf("%q, %+v, right %d, %d to %d: %q, %d; not %q", x.text, style, right, x.w, x.h, shows(l, x.w), err, want)
			}
			isDoc(t, x.text, style, right, x.w, x.h)
		}
	}
}

// P20.2: slots told with all that they have: each At is the whole text's.
func TestWholeSlots(t *testing.T) {
	pad, dots := api.Slot{Kind: api.SlotPad}, api.Slot{Kind: api.SlotDots}
	sign := func(at, part, code int) api.Slot {
		return api.Slot{Kind: api.SlotText, At: at, Part: part, Code: code}
	}
	is(t, "a\nb", api.Style{}, 0, 1, 2, []api.Slot{sign(0, 0, 'a'), sign(2, 0, 'b')}, api.OK)
	is(t, "é\r\nא(c", api.Style{Dir: own}, 0, 4, 2, []api.Slot{
		sign(0, 0, 0xe9), pad, pad, pad,
		sign(7, 0, 'c'), sign(6, 0, ')'), sign(4, 0, 0x5d0), pad,
	}, api.OK)
	is(t, "一 二\u2029e\u0301\xff三", api.Style{Wrap: 1}, 1, 3, 3, []api.Slot{
		pad, sign(0, 0, 0x4e00), sign(0, 1, 0x4e00),
		pad, sign(4, 0, 0x4e8c), sign(4, 1, 0x4e8c),
		dots, sign(10, 0, 'e'), sign(13, 0, 0xfffd),
	}, api.OK)
	is(t, "ab cd", api.Style{Wrap: 1, Dir: rtl}, 0, 2, 2, []api.Slot{sign(0, 0, 'a'), sign(1, 0, 'b'), sign(3, 0, 'c'), sign(4, 0, 'd')}, api.OK)
	is(t, "ab cd ef", api.Style{Wrap: 1}, 0, 3, 2, []api.Slot{sign(0, 0, 'a'), sign(1, 0, 'b'), pad, sign(3, 0, 'c'), sign(4, 0, 'd'), dots}, api.OK)
}

// P20.2: what may not be handed in, one thing at a time, also together with a text that is too long; then such a text by itself.
func TestErrors(t *testing.T) {
	short, long := "ab", strings.Repeat("a", api.MaxText+1)
	for _, text := range []string{"", short, long} {
		for _, n := range numbers {
			if n < 0 || n > 4 {
				is(t, text, api.Style{Align: n}, 0, 3, 2, nil, api.ErrArg)
			}
			if n < 0 || n > 1 {
				is(t, text, api.Style{Wrap: n}, 1, 3, 2, nil, api.ErrArg)
				is(t, text, api.Style{}, n, 3, 2, nil, api.ErrArg)
			}
			if n < 0 || n > 3 {
				is(t, text, api.Style{Dir: n}, 0, 3, 2, nil, api.ErrArg)
			}
			if n < 1 || n > 1024 {
				is(t, text, api.Style{}, 1, n, 2, nil, api.ErrArg)
				is(t, text, api.Style{}, 0, 3, n, nil, api.ErrArg)
				is(t, text, api.Style{}, 0, n, n, nil, api.ErrArg)
			}
			isDoc(t, text, api.Style{Align: n, Wrap: n, Dir: n}, n, 2, 1)
			isDoc(t, text, api.Style{Align: n}, 0, 2, 1)
			isDoc(t, text, api.Style{Wrap: n}, 0, 2, 1)
			isDoc(t, text, api.Style{Dir: n}, 0, 2, 1)
			isDoc(t, text, api.Style{}, n, 2, 1)
		}
	}
	everyStyle(func(style api.Style, right int) {
		is(t, long, style, right, 1, 1, nil, api.ErrLong)
		is(t, long, style, right, 1024, 1024, nil, api.ErrLong)
		is(t, strings.Repeat("א", 513), style, right, 9, 9, nil, api.ErrLong)
		is(t, strings.Repeat("\n", 70000), style, right, 1024, 1, nil, api.ErrLong)
	})
}

// P20.2: as large as may be.
func TestLargest(t *testing.T) {
	for _, text := range []string{"", "a", strings.Repeat("a", 1024), strings.Repeat("א", 512), strings.Repeat("ab \n", 256), strings.Repeat("\n", 1024), strings.Repeat("\xff", 1024), strings.Repeat("(", 1024), strings.Repeat("א\u2067", 204)} {
		for _, style := range []api.Style{{}, {Wrap: 1, Dir: own}, {Align: end, Wrap: 1, Dir: rtl}} {
			for _, size := range [][2]int{{1, 1024}, {1024, 1}, {1024, 1024}, {2, 1023}, {1023, 2}, {1, 1023}} {
				w, h := size[0], size[1]
				l, err := Layout(text, style, 1, w, h)
				if len(l) != w*h || err != api.OK {
					t.Fatalf("%d bytes, %+v, %d to %d: %d, %d", len(text), style, w, h, len(l), err)
				}
			}
		}
	}
	isDoc(t, strings.Repeat("a", 1024), api.Style{}, 0, 1023, 1)
	isDoc(t, strings.Repeat("a", 1024), api.Style{}, 0, 1024, 1)
	isDoc(t, strings.Repeat("a", 1024), api.Style{Align: end}, 0, 1024, 1)
	isDoc(t, strings.Repeat("א ", 341), api.Style{Wrap: 1, Dir: own}, 0, 60, 12)
}

// P20.2: a text of many lines, or many paragraphs, takes no longer than it is long.
func TestLong(t *testing.T) {
	for range 30 {
		for _, text := range []string{strings.Repeat("a", 1024), strings.Repeat("אa", 341), strings.Repeat("\n", 1024)} {
			if l, err := Layout(text, api.Style{Wrap: 1}, 1, 1, 1024); len(l) != 1024 || err != api.OK {
				t.Fatal(len(l), err)
			}
		}
	}
}

// P20.2: the samples, in all styles.
func TestSamples(t *testing.T) {
	for at, text := range samples {
		everyStyle(func(style api.Style, right int) {
			isDoc(t, text, style, right, 1+at%4, 3-at%3)
			for _, w := range []int{2, 5} {
				for _, h := range []int{1, 4} {
					isDoc(t, text, style, right, w, h)
				}
			}
		})
	}
}

// P20.2: all small texts.
func TestSmall(t *testing.T) {
	n := 0
	some := func(most int, signs ...string) {
		eachText(most, signs, func(text string) {
			for w := 1; w <= 4; w++ {
				for h := 1; h <= 3; h++ {
					style := api.Style{Align: n % 5, Wrap: n % 3 % 2, Dir: n % 4}
					isDoc(t, text, style, n%2, w, h)
					isDoc(t, text, style, 1-n%2, w, h)
					n++
				}
			}
		})
	}
	some(4, "a", "א", " ", "\n", "一")
	some(3, "a", "א", "(", "\u0301", "\u2067", "\u2069", "\u202e", "\r", "\n", "\u200b")
	some(3, "א", "1", "\xe2", "\x80", "\xa9", "🇦", "\t")
	some(5, "א", " ", "\r\n")
}
