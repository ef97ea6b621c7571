package cluster

import (
	"math"
	"math/big"
	"slices"
	"strings"
	"testing"

	"parquetry/api"
	"parquetry/cols"
	"parquetry/gcb"
	"parquetry/runes"
)

// The chapter's words, one rule a function; a and b are the kinds of two runes that follow one another.

func docBreaks(kind int) bool {
	return kind == api.GcbCR || kind == api.GcbLF || kind == api.GcbControl
}

func docRule1(a, b int) bool { return a == api.GcbCR && b == api.GcbLF }

func docRule2(a, b int) bool {
	if docBreaks(a) || docBreaks(b) {
		return false
	}
	return b == api.GcbExtend || b == api.GcbZWJ || b == api.GcbMark || a == api.GcbPrepend
}

func docRule3(a, b int) bool {
	switch a {
	case api.GcbL:
		return b == api.GcbL || b == api.GcbV || b == api.GcbLV || b == api.GcbLVT
	case api.GcbLV, api.GcbV:
		return b == api.GcbV || b == api.GcbT
	case api.GcbLVT, api.GcbT:
		return b == api.GcbT
	}
	return false
}

// docRule4 and docRule5 look back from the rune at a place, which has one ahead.
func docRule4(codes []int, place int) bool {
	if !gcb.Pict(codes[place]) || gcb.Of(codes[place-1]) != api.GcbZWJ {
		return false
	}
	back := place - 2
	for back >= 0 && gcb.Of(codes[back]) == api.GcbExtend {
		back--
	}
	return back >= 0 && gcb.Pict(codes[back])
}

func docRule5(codes []int, place int) bool {
	if gcb.Of(codes[place]) != api.GcbRI || gcb.Of(codes[place-1]) != api.GcbRI {
		return false
	}
	even := true
	for back := place - 2; back >= 0 && gcb.Of(codes[back]) == api.GcbRI; back-- {
		even = !even
	}
	return even
}

func docJoin(codes []int, place int) bool {
	a, b := gcb.Of(codes[place-1]), gcb.Of(codes[place])
	return docRule1(a, b) || docRule2(a, b) || docRule3(a, b) || docRule4(codes, place) || docRule5(codes, place)
}

// docWide tells how wide a cluster is that has these code points.
func docWide(codes []int) int {
	if docBreaks(gcb.Of(codes[0])) {
		return 0
	}
	widest := 0
	for place, code := range codes {
		if code == 0xfe0f && place > 0 && gcb.Pict(codes[place-1]) {
			return 2
		}
		widest = max(widest, cols.Of(code))
	}
	return widest
}

func docClusters(l []api.Rune) []api.Cluster {
	all := codesOf(l)
	var clusters []api.Cluster
	for from := 0; from < len(l); {
		to := from + 1
		for to < len(l) && docJoin(all, to) {
			to++
		}
		c := api.Cluster{At: l[from].At, From: from, To: to, Wide: docWide(all[from:to]), Code: l[from].Code}
		for _, r := range l[from:to] {
			c.Size += r.Size
		}
		clusters = append(clusters, c)
		from = to
	}
	return clusters
}

func codesOf(l []api.Rune) []int {
	var codes []int
	for _, r := range l {
		codes = append(codes, r.Code)
	}
	return codes
}

// row makes runes of code points; of one that UTF-8 has no bytes for, too.
func row(codes ...int) []api.Rune {
	var l []api.Rune
	at := 0
	for _, code := range codes {
		size := len(runes.Text(code))
		l = append(l, api.Rune{At: at, Size: size, Code: code})
		at += size
	}
	return l
}

// lengths answers how many runes each cluster of these code points has.
func lengths(codes ...int) []int {
	var n []int
	for _, c := range Of(row(codes...)) {
		n = append(n, c.To-c.From)
	}
	return n
}

// look holds the clusters of runes against the chapter's words.
func look(t *testing.T, l []api.Rune) {
	t.Helper()
	if clusters, want := Of(l), docClusters(l); !slices.Equal(clusters, want) {
		t.Errorf("%x: %v, not %v", codesOf(l), clusters, want)
	}
}

// ofEachKind are code points, four of each kind in the kinds' order; of Other one is a pictograph.
var ofEachKind = [...][4]int{
	api.GcbOther:   {0x41, -1, 0x1f600, 0x4e00},
	api.GcbCR:      {0xd, 0xd, 0xd, 0xd},
	api.GcbLF:      {0xa, 0xa, 0xa, 0xa},
	api.GcbControl: {0, 0x200b, 0xfff0, 0xe00ff},
	api.GcbExtend:  {0x300, 0x200c, 0xfe0f, 0x1f3fb},
	api.GcbZWJ:     {0x200d, 0x200d, 0x200d, 0x200d},
	api.GcbRI:      {0x1f1e6, 0x1f1f0, 0x1f1f1, 0x1f1ff},
	api.GcbPrepend: {0x600, 0x6dd, 0x70f, 0xd4e},
	api.GcbMark:    {0x903, 0x93f, 0xe33, 0xeb3},
	api.GcbL:       {0x1100, 0x115f, 0xa960, 0xa97c},
	api.GcbV:       {0x1160, 0x11a7, 0xd7b0, 0xd7c6},
	api.GcbT:       {0x11a8, 0x11ff, 0xd7cb, 0xd7fb},
	api.GcbLV:      {0xac00, 0xac1c, 0xac38, 0xd788},
	api.GcbLVT:     {0xac01, 0xac1b, 0xac1d, 0xd7a3},
}

// joined are the pairs of kinds that join: a row for the first one's kind, a column for the second one's.
// The columns are Other, CR, LF, Control, Extend, ZWJ, RI, Prepend, Mark, L, V, T, LV, LVT.
var joined = [...]string{
	api.GcbOther:   "- - - - x x - - x - - - - -",
	api.GcbCR:      "- - x - - - - - - - - - - -",
	api.GcbLF:      "- - - - - - - - - - - - - -",
	api.GcbControl: "- - - - - - - - - - - - - -",
	api.GcbExtend:  "- - - - x x - - x - - - - -",
	api.GcbZWJ:     "- - - - x x - - x - - - - -",
	api.GcbRI:      "- - - - x x x - x - - - - -",
	api.GcbPrepend: "x - - - x x x x x x x x x x",
	api.GcbMark:    "- - - - x x - - x - - - - -",
	api.GcbL:       "- - - - x x - - x x x - x x",
	api.GcbV:       "- - - - x x - - x - x x - -",
	api.GcbT:       "- - - - x x - - x - - x - -",
	api.GcbLV:      "- - - - x x - - x - x x - -",
	api.GcbLVT:     "- - - - x x - - x - - x - -",
}

// P6.1: of two runes alone, each pair of kinds.
func TestPairsOfKinds(t *testing.T) {
	for a := range ofEachKind {
		for b := range ofEachKind {
			want := []int{1, 1}
			if strings.Fields(joined[a])[b] == "x" {
				want = []int{2}
			}
			for _, first := range ofEachKind[a] {
				for _, second := range ofEachKind[b] {
					if gcb.Of(first) != a || gcb.Of(second) != b {
						t.Fatalf("%x, %x are of the kinds %d, %d", first, second, gcb.Of(first), gcb.Of(second))
					}
					if n := lengths(first, second); !slices.Equal(n, want) {
						t.Errorf("%x %x: %v, not %v", first, second, n, want)
					}
				}
			}
		}
	}
}

// P6.1
func TestSplitExamples(t *testing.T) {
	for _, x := range []struct {
		s    string
		want []api.Cluster
	}{
		{"", nil},
		{"a\u0301b", []api.Cluster{{At: 0, Size: 3, From: 0, To: 2, Wide: 1, Code: 0x61}, {At: 3, Size: 1, From: 2, To: 3, Wide: 1, Code: 0x62}}},
		{"\r\n\n", []api.Cluster{{At: 0, Size: 2, From: 0, To: 2, Wide: 0, Code: 0xd}, {At: 2, Size: 1, From: 2, To: 3, Wide: 0, Code: 0xa}}},
		{"\U0001f468\u200d\U0001f469", []api.Cluster{{At: 0, Size: 11, From: 0, To: 3, Wide: 2, Code: 0x1f468}}},
		{"a\u200d\U0001f469", []api.Cluster{{At: 0, Size: 4, From: 0, To: 2, Wide: 1, Code: 0x61}, {At: 4, Size: 4, From: 2, To: 3, Wide: 2, Code: 0x1f469}}},
		{"\U0001f1e6\U0001f1e7\U0001f1e8", []api.Cluster{{At: 0, Size: 8, From: 0, To: 2, Wide: 2, Code: 0x1f1e6}, {At: 8, Size: 4, From: 2, To: 3, Wide: 2, Code: 0x1f1e8}}},
		{"\u2764\ufe0f", []api.Cluster{{At: 0, Size: 6, From: 0, To: 2, Wide: 2, Code: 0x2764}}},
		{"\u1100\u1161\u11a8", []api.Cluster{{At: 0, Size: 9, From: 0, To: 3, Wide: 2, Code: 0x1100}}},
		{"\u0301", []api.Cluster{{At: 0, Size: 2, From: 0, To: 1, Wide: 0, Code: 0x301}}},
		{"\ufffd\xff\u0301", []api.Cluster{{At: 0, Size: 3, From: 0, To: 1, Wide: 1, Code: 0xfffd}, {At: 3, Size: 3, From: 1, To: 3, Wide: 1, Code: 0xfffd}}},
		{"\xe2\x82a", []api.Cluster{{At: 0, Size: 1, From: 0, To: 1, Wide: 1, Code: 0xfffd}, {At: 1, Size: 1, From: 1, To: 2, Wide: 1, Code: 0xfffd}, {At: 2, Size: 1, From: 2, To: 3, Wide: 1, Code: 0x61}}},
	} {
		if l := Split(x.s); !slices.Equal(l, x.want) {
			t.Errorf("%x: %v, not %v", x.s, l, x.want)
		}
		if l := Of(runes.Split(x.s)); !slices.Equal(l, x.want) {
			t.Errorf("runes of %x: %v, not %v", x.s, l, x.want)
		}
	}
	if l := Of([]api.Rune{}); len(l) != 0 {
		t.Errorf("no runes: %v", l)
	}
}

// P6.1: which runes join, in rows of more than two.
func TestLengthsExamples(t *testing.T) {
	const zwj, flag, man, heart, skin = 0x200d, 0x1f1e6, 0x1f468, 0x2764, 0x1f3fb
	for _, x := range []struct{ codes, want []int }{
		// Rules 1 and 2.
		{[]int{0xd, 0xd, 0xa, 0xa}, []int{1, 2, 1}},
		{[]int{0xa, 0xd, 0xa, 0xd}, []int{1, 2, 1}},
		{[]int{0xd, 0x301, 0xa}, []int{1, 1, 1}},
		{[]int{0xd, 0xa, 0x301, 0x301}, []int{2, 2}},
		{[]int{0, 0x301, 0x41, 0, 0x41}, []int{1, 1, 1, 1, 1}},
		{[]int{0x41, 0x301, 0x302, zwj, 0x903, 0x42}, []int{5, 1}},
		{[]int{0x301, 0x302, 0x41}, []int{2, 1}},
		{[]int{0x600, 0x601, 0x41, 0x42}, []int{3, 1}},
		{[]int{0x41, 0x600}, []int{1, 1}},
		{[]int{0x600, 0xa}, []int{1, 1}},
		{[]int{0x600, 0x301, 0x41}, []int{2, 1}},
		{[]int{0x600, flag, flag, flag}, []int{3, 1}},
		{[]int{0x600, man, zwj, man}, []int{4}},
		// Rule 3.
		{[]int{0x1100, 0x1100, 0xac00, 0x1160, 0x1160, 0x11a8, 0x11a8, 0x1160}, []int{7, 1}},
		{[]int{0x1100, 0xac01, 0x11a8, 0xac01}, []int{3, 1}},
		{[]int{0x1100, 0x11a8, 0x1100}, []int{1, 1, 1}},
		{[]int{0x1100, 0x301, 0x1160}, []int{2, 1}},
		{[]int{0xac00, 0xac00, 0x1100, 0xac01, 0x1160}, []int{1, 1, 2, 1}},
		// Rule 4.
		{[]int{man, zwj, man, zwj, man}, []int{5}},
		{[]int{man, skin, zwj, heart, 0xfe0f, zwj, man, skin}, []int{8}},
		{[]int{man, skin, 0x301, 0xfe0f, 0x200c, zwj, man}, []int{7}},
		{[]int{man, zwj, zwj, man}, []int{3, 1}},
		{[]int{man, zwj, 0x301, man}, []int{3, 1}},
		{[]int{man, zwj, 0x301, zwj, man}, []int{4, 1}},
		{[]int{man, 0x903, zwj, man}, []int{3, 1}},
		{[]int{man, 0x301, 0x903, 0x301, zwj, man}, []int{5, 1}},
		{[]int{man, zwj, 0x41}, []int{2, 1}},
		{[]int{man, zwj, 0x41, zwj, man}, []int{2, 2, 1}},
		{[]int{man, 0x41, zwj, man}, []int{1, 2, 1}},
		{[]int{man, 0x301, 0x41, 0x301, zwj, man}, []int{2, 3, 1}},
		{[]int{man, man, zwj, man, man}, []int{1, 3, 1}},
		{[]int{zwj, man}, []int{1, 1}},
		{[]int{0x301, zwj, man}, []int{2, 1}},
		{[]int{0xa, zwj, man}, []int{1, 1, 1}},
		{[]int{man, 0xa, zwj, man}, []int{1, 1, 1, 1}},
		{[]int{man, skin, man}, []int{2, 1}},
		{[]int{flag, zwj, man}, []int{2, 1}},
		{[]int{man, zwj, flag, flag}, []int{2, 2}},
		{[]int{0xa9, zwj, 0x3030}, []int{3}},
		// Rule 5.
		{[]int{flag, flag, zwj, flag, flag}, []int{3, 2}},
		{[]int{flag, 0x301, flag, flag, flag}, []int{2, 2, 1}},
		{[]int{flag, 0x903, flag, flag}, []int{2, 2}},
		{[]int{flag, flag, flag, 0x41, flag, flag, flag, flag}, []int{2, 1, 1, 2, 2}},
		{[]int{flag, flag, flag, 0, flag, flag}, []int{2, 1, 1, 2}},
		{[]int{flag, 0x600, flag, flag}, []int{1, 3}},
		{[]int{flag, man, flag, flag}, []int{1, 1, 2}},
	} {
		if n := lengths(x.codes...); !slices.Equal(n, x.want) {
			t.Errorf("%x: %v, not %v", x.codes, n, x.want)
		}
	}
}

// P6.1: pictographs with a ZWJ, and with none or some of Extend between, or of something else.
func TestPictographs(t *testing.T) {
	for extends := range 6 {
		between := slices.Repeat([]int{0x1f3fb, 0xfe0f, 0x301}, 2)[:extends]
		codes := slices.Concat([]int{0x1f468}, between, []int{0x200d, 0x1f469})
		if n := lengths(codes...); !slices.Equal(n, []int{len(codes)}) {
			t.Errorf("%x: %v", codes, n)
		}
		for kind, others := range ofEachKind {
			if kind == api.GcbExtend {
				continue
			}
			// One of another kind, at each place between, parts the two pictographs.
			for at := range extends + 1 {
				broken := slices.Insert(slices.Clone(codes), 1+at, others[0])
				if n := lengths(broken...); n[len(n)-1] != 1 {
					t.Errorf("%x: %v", broken, n)
				}
				look(t, row(broken...))
			}
		}
	}
}

// P6.1: rows of RI, ahead of which something stands, or nothing.
func TestFlags(t *testing.T) {
	for n := range 20 {
		flags := slices.Repeat([]int{0x1f1e6, 0x1f1ff}, 10)[:n]
		want := slices.Repeat([]int{2}, n/2)
		if n%2 == 1 {
			want = append(want, 1)
		}
		if got := lengths(flags...); !slices.Equal(got, want) {
			t.Errorf("%d: %v, not %v", n, got, want)
		}
		for _, codes := range ofEachKind {
			for _, code := range codes {
				look(t, row(slices.Concat([]int{code}, flags, []int{code})...))
				look(t, row(slices.Concat(flags, []int{code}, flags)...))
				look(t, row(slices.Concat([]int{0x1f1e6}, []int{code}, flags)...))
			}
		}
	}
}

// P6.1: each code point alone, and the numbers around them; those up to 20000 also among others that may join them.
func TestEachNumber(t *testing.T) {
	for code := -0x100; code <= 0x110000+0x100; code++ {
		want := []api.Cluster{{At: 7, Size: 3, From: 0, To: 1, Wide: docWide([]int{code}), Code: code}}
		if l := Of([]api.Rune{{At: 7, Size: 3, Code: code}}); !slices.Equal(l, want) {
			t.Fatalf("%x: %v, not %v", code, l, want)
		}
	}
	for code := -0x10; code <= 0x20000; code++ {
		look(t, row(code, 0xfe0f, 0x200d, 0x1f600, code))
		look(t, row(0x1f600, 0x200d, code, 0x200d, 0x1f600))
	}
}

// wrong are numbers that are no code points; of some of them bits that are lost would make one that joins, or is wide.
var wrong = []int{
	-1, -0xa, -0xd, -0x301, -0x200d, 0x110000, 0x110301, 0x200000, 0xd800, 0xdfff,
	1<<16 | 0x110000, 1<<32 | 0xa, 1<<32 | 0x301, 1<<32 | 0x200d, 1<<32 | 0xfe0f, 1<<32 | 0x600, 1<<32 | 0x1f1e6, 1<<32 | 0x1f600, 1<<32 | 0xac00, 1<<40 | 0x1160,
	-1<<32 | 0x301, -1<<32 | 0xfe0f, math.MinInt | 0x301, math.MinInt | 0x1f1e6, math.MinInt, math.MinInt32, math.MaxInt32, math.MaxUint32, math.MaxInt,
}

// P6.1: a number that is no code point joins as Other does, and takes one slot.
func TestWrongNumbers(t *testing.T) {
	for _, code := range wrong {
		for _, x := range []struct{ codes, lengths, wides []int }{
			{[]int{code}, []int{1}, []int{1}},
			{[]int{code, code}, []int{1, 1}, []int{1, 1}},
			{[]int{0x41, code, 0x42}, []int{1, 1, 1}, []int{1, 1, 1}},
			{[]int{code, 0x301, 0x200d, code}, []int{3, 1}, []int{1, 1}},
			{[]int{code, 0xfe0f}, []int{2}, []int{1}},
			{[]int{0x2764, code}, []int{1, 1}, []int{1, 1}},
			{[]int{0x600, code}, []int{2}, []int{1}},
			{[]int{0xd, code, 0xa}, []int{1, 1, 1}, []int{0, 1, 0}},
			{[]int{0x1f600, 0x200d, code}, []int{2, 1}, []int{2, 1}},
			{[]int{0x1f1e6, code, 0x1f1e6, 0x1f1e6}, []int{1, 1, 2}, []int{2, 1, 2}},
			{[]int{0x1100, code, 0x1160}, []int{1, 1, 1}, []int{2, 1, 0}},
		} {
			l := Of(row(x.codes...))
			var wides []int
			for _, c := range l {
				wides = append(wides, c.Wide)
			}
			if n := lengths(x.codes...); !slices.Equal(n, x.lengths) || !slices.Equal(wides, x.wides) {
				t.Errorf("%x: %v", x.codes, l)
			}
			if l[0].Code != x.codes[0] {
				t.Errorf("%x: %v", x.codes, l[0])
			}
		}
	}
}

// P6.1: each way in which a cluster is 0, 1 or 2 wide.
func TestWideOfOneCluster(t *testing.T) {
	for _, x := range []struct {
		codes []int
		want  int
	}{
		{[]int{0xd}, 0}, {[]int{0xa}, 0}, {[]int{0xd, 0xa}, 0}, {[]int{0}, 0}, {[]int{0x9}, 0}, {[]int{0x85}, 0}, {[]int{0xad}, 0},
		// Controls that take a slot by themselves.
		{[]int{0x180e}, 0}, {[]int{0xfff0}, 0}, {[]int{0xfff8}, 0}, {[]int{0xe0000}, 0}, {[]int{0xe0080}, 0}, {[]int{0xe00ff}, 0},
		{[]int{0x301}, 0}, {[]int{0x301, 0x302}, 0}, {[]int{0x200d}, 0}, {[]int{0xfe0f}, 0}, {[]int{0xfe0f, 0xfe0f}, 0}, {[]int{0x200d, 0xfe0f}, 0},
		{[]int{0x600}, 0}, {[]int{0x600, 0x301}, 0}, {[]int{0x1160}, 0}, {[]int{0x1160, 0x11a8}, 0}, {[]int{0x11a8}, 0},
		{[]int{0x41}, 1}, {[]int{0x41, 0x301}, 1}, {[]int{0x600, 0x41}, 1}, {[]int{0x70f}, 1}, {[]int{0xd4e, 0x600}, 1}, {[]int{0x600, 0xd4e, 0x301}, 1},
		{[]int{0x903}, 1}, {[]int{0x301, 0x903}, 1}, {[]int{0x915, 0x93f}, 1}, {[]int{0x9be}, 1}, {[]int{0x301, 0xff9e}, 1}, {[]int{0xff9e}, 1},
		{[]int{-1}, 1}, {[]int{0x110000, 0x301}, 1}, {[]int{0xfffd}, 1},
		{[]int{0x2764}, 1}, {[]int{0xa9}, 1}, {[]int{0xa9, 0xfe0e}, 1}, {[]int{0x2764, 0x200d, 0x2764}, 1},
		// FE0F, but not right behind a pictograph.
		{[]int{0x41, 0xfe0f}, 1}, {[]int{0x23, 0xfe0f, 0x20e3}, 1}, {[]int{0x2764, 0x301, 0xfe0f}, 1}, {[]int{0x2764, 0x200d, 0xfe0f}, 1}, {[]int{0x2764, 0xfe0e, 0xfe0f}, 1},
		{[]int{0x2764, 0x903, 0xfe0f}, 1}, {[]int{0x600, 0xfe0f}, 0}, {[]int{0xd4e, 0xfe0f}, 1},
		{[]int{0x2764, 0xfe0f}, 2}, {[]int{0xa9, 0xfe0f}, 2}, {[]int{0x600, 0xa9, 0xfe0f}, 2}, {[]int{0x2764, 0xfe0f, 0x301}, 2}, {[]int{0x2764, 0x200d, 0x2764, 0xfe0f}, 2},
		{[]int{0x2764, 0xfe0f, 0xfe0f}, 2}, {[]int{0x2764, 0xfe0f, 0x200d, 0x2764}, 2}, {[]int{0x2764, 0x301, 0x200d, 0xa9, 0xfe0f, 0x903}, 2},
		{[]int{0x4e00}, 2}, {[]int{0x4e00, 0x301}, 2}, {[]int{0x1f600}, 2}, {[]int{0x1f1e6}, 2}, {[]int{0x1f1e6, 0x1f1e7}, 2}, {[]int{0x4e00, 0xfe0f}, 2},
		{[]int{0x1100}, 2}, {[]int{0x1100, 0x1160}, 2}, {[]int{0xac00, 0x11a8}, 2}, {[]int{0x41, 0x302e}, 2}, {[]int{0x301, 0x302e}, 2}, {[]int{0x302e}, 2}, {[]int{0x600, 0x4e00}, 2},
		{[]int{0x41, 0x1f3fb}, 2}, {[]int{0x1f3fb}, 2}, {[]int{0x1100, 0x1100, 0x1160, 0x1160}, 2}, {[]int{0x2764, 0x1f3fb, 0x200d, 0x2764}, 2},
	} {
		l := Of(row(x.codes...))
		if len(l) != 1 || l[0].Wide != x.want {
			t.Errorf("%x: %v, not %d wide", x.codes, l, x.want)
		}
		if docWide(x.codes) != x.want {
			t.Errorf("%x: the test's own words say %d, not %d", x.codes, docWide(x.codes), x.want)
		}
	}
}

// P6.1: what stands ahead of a cluster, or behind it, makes it no wider.
func TestWideOfClustersInRows(t *testing.T) {
	wides := func(codes ...int) []int {
		var l []int
		for _, c := range Of(row(codes...)) {
			l = append(l, c.Wide)
		}
		return l
	}
	for _, x := range []struct{ codes, want []int }{
		{[]int{0x4e00, 0x41, 0x301, 0x4e00}, []int{2, 1, 2}},
		{[]int{0xa9, 0x41, 0xfe0f}, []int{1, 1}},
		{[]int{0xa9, 0xfe0f, 0xa9}, []int{2, 1}},
		{[]int{0xa9, 0xa9, 0xfe0f}, []int{1, 2}},
		{[]int{0xa9, 0xa, 0xfe0f}, []int{1, 0, 0}},
		{[]int{0xfe0f, 0xa9}, []int{0, 1}},
		{[]int{0xd, 0xa, 0x301, 0x4e00, 0xa}, []int{0, 0, 2, 0}},
		{[]int{0x4e00, 0x180e, 0x4e00}, []int{2, 0, 2}},
	} {
		if l := wides(x.codes...); !slices.Equal(l, x.want) {
			t.Errorf("%x: %v, not %v", x.codes, l, x.want)
		}
	}
}

// P6.1: At and Size are taken as they are; they change nothing else, and sums go round at 2^64.
func TestAnyAtAndSize(t *testing.T) {
	for _, x := range []struct {
		l    []api.Rune
		want []api.Cluster
	}{
		{[]api.Rune{{At: -5, Size: 0, Code: 0x61}}, []api.Cluster{{At: -5, Size: 0, From: 0, To: 1, Wide: 1, Code: 0x61}}},
		{[]api.Rune{{At: 9, Size: -3, Code: 0x61}, {At: 2, Size: 1, Code: 0x301}}, []api.Cluster{{At: 9, Size: -2, From: 0, To: 2, Wide: 1, Code: 0x61}}},
		{[]api.Rune{{At: 1, Size: math.MaxInt, Code: 0x61}, {At: 1, Size: 1, Code: 0x301}}, []api.Cluster{{At: 1, Size: math.MinInt, From: 0, To: 2, Wide: 1, Code: 0x61}}},
		{[]api.Rune{{At: 0, Size: math.MinInt, Code: 0xd}, {At: 0, Size: -1, Code: 0xa}}, []api.Cluster{{At: 0, Size: math.MaxInt, From: 0, To: 2, Wide: 0, Code: 0xd}}},
		{
			[]api.Rune{{At: math.MaxInt, Size: math.MaxInt, Code: 0x1f1e6}, {At: math.MinInt, Size: math.MaxInt, Code: 0x1f1e6}, {At: math.MinInt, Size: math.MinInt, Code: 0x1f1e6}, {At: 0, Size: math.MinInt, Code: 0x301}},
			[]api.Cluster{{At: math.MaxInt, Size: -2, From: 0, To: 2, Wide: 2, Code: 0x1f1e6}, {At: math.MinInt, Size: 0, From: 2, To: 4, Wide: 2, Code: 0x1f1e6}},
		},
	} {
		if l := Of(x.l); !slices.Equal(l, x.want) {
			t.Errorf("%v: %v, not %v", x.l, l, x.want)
		}
	}
	odd := []int{0, -1, 1, math.MaxInt, math.MinInt, math.MaxInt - 1, 1 << 62, -1 << 62}
	l := row(sampler()...)
	for turn := range odd {
		for k := range l {
			l[k].At, l[k].Size = odd[(k+turn)%len(odd)], odd[(3*k+2*turn)%len(odd)]
		}
		look(t, l)
	}
}

// sampler is a row in which runes of all kinds stand in many ways beside each other.
func sampler() []int {
	var codes []int
	for step := 1; step < 4*len(ofEachKind); step++ {
		for k := range 2 * len(ofEachKind) {
			place := k * step
			codes = append(codes, ofEachKind[place%len(ofEachKind)][place/len(ofEachKind)%4])
		}
	}
	return codes
}

// eachRow calls look with all rows of up to so many of these code points.
func eachRow(most int, codes []int, look func(codes []int)) {
	var grow func(ahead []int)
	grow = func(ahead []int) {
		look(ahead)
		if len(ahead) == most {
			return
		}
		for _, code := range codes {
			grow(append(slices.Clone(ahead), code))
		}
	}
	grow(nil)
}

// shortRows calls look with all short rows out of each kind, and with longer ones out of the kinds whose rules look further back.
func shortRows(look func(codes []int)) {
	some := []int{0xa9, 0xfe0f, 0x4e00, -1}
	for _, codes := range ofEachKind {
		some = append(some, codes[0])
	}
	eachRow(3, some, look)
	eachRow(6, []int{0xa9, 0xfe0f, 0x200d, 0x1f1e6, 0x41, 0x903}, look)
	eachRow(5, []int{0x600, 0x1f1e6, 0xa9, 0x301, 0x200d, 0xd, 0xa, 0}, look)
	eachRow(5, []int{0x1100, 0x1160, 0x11a8, 0xac00, 0xac01, 0x301}, look)
}

// P6.1
func TestShortRows(t *testing.T) {
	shortRows(func(codes []int) { look(t, row(codes...)) })
	look(t, row(sampler()...))
}

// P6.1: long rows, of many clusters and of one.
func TestLongRows(t *testing.T) {
	const n = 50000
	repeated := func(codes ...int) []int { return slices.Repeat(codes, n) }
	for _, x := range []struct {
		codes   []int
		lengths []int
	}{
		{repeated(0x41), slices.Repeat([]int{1}, n)},
		{repeated(0x41, 0x301), slices.Repeat([]int{2}, n)},
		{repeated(0xd, 0xa), slices.Repeat([]int{2}, n)},
		{repeated(0x1f1e6), slices.Repeat([]int{2}, n/2)},
		{repeated(0x1100), []int{n}},
		{repeated(0x600), []int{n}},
		{repeated(0x301, 0x200d), []int{2 * n}},
		{repeated(0x1f468, 0x200d), []int{2 * n}},
		{slices.Concat([]int{0x1f468}, repeated(0x301), []int{0x200d, 0x1f468, 0x41}), []int{n + 3, 1}},
		{slices.Concat([]int{0x41}, repeated(0x301), []int{0x200d, 0x1f468}), []int{n + 2, 1}},
	} {
		if got := lengths(x.codes...); !slices.Equal(got, x.lengths) {
			t.Errorf("%d of %x ..: %d clusters, not %d", len(x.codes), x.codes[:3], len(got), len(x.lengths))
		}
	}
}

// texts are some with whole code points and odd bytes, and with clusters of all sorts.
func texts() []string {
	return []string{
		"", "a", "\x00", "\x7f", "\n", "\r", "\r\n", "\xff", "\xc3", "\xe2\x82", "\xf0\x9f\x98", "\xed\xa0\x80", "\xf4\x90\x80\x80",
		"a\u0301\u0302b\xcc", "\xcc\x81", "\xffa\xc3é\xe2\x82€\xf0\x9f\x98\U0001f600\x80\u0301",
		"\u05d0\u05b8\u05d1 \u0627\u0660\u200d\ufffdz", "\u0600\u0661\u0662\r\n\u0600\r\n",
		"\U0001f468\U0001f3fb\u200d\u2764\ufe0f\u200d\U0001f468 \u2764\xff\ufe0f",
		"\U0001f1e6\U0001f1e7\xff\U0001f1e6\U0001f1e7\U0001f1e8\U0001f1e6\u0301\U0001f1e6\U0001f1e7",
		"\u1100\u1161\u11a8\uac00\u11a8\uac01\u1161\u4e00\u4e01",
		runes.Text(sampler()...),
		strings.Repeat("e\u0301\xff\r\n", 500),
	}
}

// P6.1: the clusters of a text are those of its runes.
func TestSplitOfTexts(t *testing.T) {
	split := func(s string) {
		if l, want := Split(s), docClusters(runes.Split(s)); !slices.Equal(l, want) {
			t.Errorf("%x: %v, not %v", s, l, want)
		}
	}
	for _, s := range texts() {
		split(s)
	}
	for a := range 256 {
		split(string([]byte{byte(a)}))
		for b := range 256 {
			split(string([]byte{byte(a), byte(b)}))
			split(string([]byte{0xcc, byte(a), 0xcc, byte(b), 0x81}))
		}
	}
}

// docFind is the chapter's words, with numbers that always fit.
func docFind(l []api.Cluster, at int) (int, bool) {
	for place, c := range l {
		end := new(big.Int).Add(big.NewInt(int64(c.At)), big.NewInt(int64(c.Size)))
		if c.Size >= 1 && c.At <= at && big.NewInt(int64(at)).Cmp(end) < 0 {
			return place, true
		}
	}
	return 0, false
}

// P6.2
func TestFindExamples(t *testing.T) {
	const least, most = math.MinInt, math.MaxInt
	text := Split("a\u0301b\r\n")
	for _, x := range []struct {
		l     []api.Cluster
		at    int
		place int
		ok    bool
	}{
		{nil, 0, 0, false}, {[]api.Cluster{}, 0, 0, false}, {nil, least, 0, false},
		{text, 0, 0, true}, {text, 1, 0, true}, {text, 2, 0, true}, {text, 3, 1, true}, {text, 4, 2, true}, {text, 5, 2, true},
		{text, 6, 0, false}, {text, -1, 0, false}, {text, least, 0, false}, {text, most, 0, false},
		// The first one of several.
		{[]api.Cluster{{At: 5, Size: 2}, {At: 0, Size: 9}, {At: 5, Size: 2}}, 5, 0, true},
		{[]api.Cluster{{At: 5, Size: 2}, {At: 0, Size: 9}, {At: 4, Size: 2}}, 4, 1, true},
		{[]api.Cluster{{At: 5, Size: 2}, {At: 3, Size: 1}, {At: 4, Size: 2}}, 4, 2, true},
		{[]api.Cluster{{At: 5, Size: 2}, {At: 3, Size: 1}, {At: 8, Size: 2}}, 7, 0, false},
		{[]api.Cluster{{At: 9, Size: 1}, {At: 1, Size: 1}}, 1, 1, true},
		// A Size below 1.
		{[]api.Cluster{{At: 5, Size: 0}}, 5, 0, false}, {[]api.Cluster{{At: 5, Size: -1}}, 5, 0, false}, {[]api.Cluster{{At: 5, Size: -1}}, 4, 0, false}, {[]api.Cluster{{At: 5, Size: -3}}, 6, 0, false},
		{[]api.Cluster{{At: 5, Size: least}}, 5, 0, false}, {[]api.Cluster{{At: least, Size: least}}, least, 0, false}, {[]api.Cluster{{At: least, Size: least}}, 0, 0, false}, {[]api.Cluster{{At: -5, Size: least}}, most, 0, false},
		{[]api.Cluster{{At: 5, Size: 0}, {At: 5, Size: -1}, {At: 5, Size: 1}}, 5, 2, true},
		// Ends that do not fit, and such that just fit.
		{[]api.Cluster{{At: most, Size: 1}}, most, 0, true}, {[]api.Cluster{{At: most, Size: most}}, most, 0, true}, {[]api.Cluster{{At: 2, Size: most}}, most, 0, true}, {[]api.Cluster{{At: 2, Size: most}}, 1, 0, false},
		{[]api.Cluster{{At: 2, Size: most}}, least, 0, false}, {[]api.Cluster{{At: 0, Size: most}}, most, 0, false}, {[]api.Cluster{{At: 0, Size: most}}, most - 1, 0, true}, {[]api.Cluster{{At: 1, Size: most}}, most, 0, true},
		{[]api.Cluster{{At: least, Size: most}}, least, 0, true}, {[]api.Cluster{{At: least, Size: most}}, -2, 0, true}, {[]api.Cluster{{At: least, Size: most}}, -1, 0, false}, {[]api.Cluster{{At: least, Size: most}}, most, 0, false}, {[]api.Cluster{{At: least, Size: 1}}, least + 1, 0, false},
		// The other fields count for nothing.
		{[]api.Cluster{{At: 5, Size: 0, From: 0, To: 9, Wide: 9, Code: 5}, {At: 5, Size: 1, From: -3, To: -9, Wide: -1, Code: -1}}, 5, 1, true},
	} {
		if place, ok := Find(x.l, x.at); place != x.place || ok != x.ok {
			t.Errorf("%v, %d: %d, %v", x.l, x.at, place, ok)
		}
	}
}

// P6.2: rows of one, two and three clusters at the ends of all numbers, and near 0.
func TestFindOfEdges(t *testing.T) {
	edges := []int{math.MinInt, math.MinInt + 1, -2, -1, 0, 1, 2, math.MaxInt - 1, math.MaxInt}
	var ones []api.Cluster
	for _, at := range edges {
		for _, size := range edges {
			ones = append(ones, api.Cluster{At: at, Size: size})
		}
	}
	find := func(l ...api.Cluster) {
		for _, at := range edges {
			place, ok := Find(l, at)
			if want, there := docFind(l, at); place != want || ok != there {
				t.Errorf("%v, %d: %d, %v, not %d, %v", l, at, place, ok, want, there)
			}
		}
	}
	for a, first := range ones {
		find(first)
		for b, second := range ones {
			find(first, second)
			find(first, second, ones[(7*a+11*b)%len(ones)])
		}
	}
}

// P6.2: each byte of a text is of the cluster that has it, and none beside the text is of any.
func TestFindInTexts(t *testing.T) {
	for _, s := range texts() {
		s = s[:min(len(s), 200)]
		l := Split(s)
		at := 0
		for place, c := range l {
			for range c.Size {
				if found, ok := Find(l, at); found != place || !ok {
					t.Errorf("%x, %d: %d, %v, not %d", s, at, found, ok, place)
				}
				at++
			}
		}
		for _, at := range []int{-1, len(s), len(s) + 1, math.MinInt, math.MaxInt} {
			if found, ok := Find(l, at); found != 0 || ok {
				t.Errorf("%x, %d: %d, %v", s, at, found, ok)
			}
		}
	}
}

// P6.3
func TestWide(t *testing.T) {
	for _, x := range []struct {
		l    []api.Cluster
		want int
	}{
		{nil, 0}, {[]api.Cluster{}, 0}, {[]api.Cluster{{Wide: 1}}, 1}, {[]api.Cluster{{Wide: 2}, {Wide: 0}, {Wide: 1}, {Wide: 2}}, 5},
		{Split("a\u0301b"), 2}, {Split("\r\n\n\u0301"), 0}, {Split("\u4e00\xff\U0001f1e6\U0001f1e7\U0001f1e8\u2764\u2764\ufe0f"), 10},
		// Fields beside Wide count for nothing, and Wide may be anything.
		{[]api.Cluster{{At: 1, Size: 2, From: 3, To: 4, Code: 5}}, 0}, {[]api.Cluster{{Wide: 100}, {Wide: 1000}}, 1100}, {[]api.Cluster{{Wide: math.MaxInt}}, math.MaxInt},
	} {
		if n := Wide(x.l...); n != x.want {
			t.Errorf("%v: %d, not %d", x.l, n, x.want)
		}
	}
	for _, s := range texts() {
		sum := 0
		for _, c := range docClusters(runes.Split(s)) {
			sum += c.Wide
		}
		if n := Wide(Split(s)...); n != sum {
			t.Errorf("%x: %d, not %d", s, n, sum)
		}
	}
}

// P6.4: also what lies behind the rows' ends.
func TestWhatIsHandedInStays(t *testing.T) {
	l := row(append(sampler(), 0x41, 0x301, 0xd, 0xa)...)
	kept := slices.Clone(l)
	for _, n := range []int{0, 1, 2, 5, len(l) - 3, len(l)} {
		first, second := Of(l[:n]), Of(l[:n])
		if !slices.Equal(first, second) || !slices.Equal(first, docClusters(kept[:n])) {
			t.Errorf("the same %d runes twice: %v, %v", n, first, second)
		}
		if !slices.Equal(l, kept) {
			t.Fatalf("%d runes: what was handed in has changed", n)
		}
	}
	clusters := Of(l)
	stay := slices.Clone(clusters)
	for _, n := range []int{0, 1, 5, len(clusters) - 2, len(clusters)} {
		Find(clusters[:n], l[len(l)-1].At)
		Find(clusters[:n], 3)
		Find(clusters[:n], -1)
		Wide(clusters[:n]...)
		if !slices.Equal(clusters, stay) {
			t.Fatalf("%d clusters: what was handed in has changed", n)
		}
	}
}

// P6.4: who writes into an answer, or into what was handed in, changes no other answer.
func TestAnswersAreNew(t *testing.T) {
	const s = "a\u0301b\r\n\u2764\ufe0f\xff"
	l := runes.Split(s)
	want := docClusters(l)
	for name, of := range map[string]func() []api.Cluster{
		"Of":    func() []api.Cluster { return Of(l) },
		"Split": func() []api.Cluster { return Split(s) },
	} {
		first, second := of(), of()
		spoil(first)
		if !slices.Equal(second, want) || !slices.Equal(l, runes.Split(s)) {
			t.Errorf("%s: %v", name, second)
		}
		if third := of(); !slices.Equal(third, want) {
			t.Errorf("%s: %v, not %v", name, third, want)
		}
	}
	kept := Of(l)
	for k := range l {
		l[k] = api.Rune{At: -9, Size: -9, Code: 0x301}
	}
	if !slices.Equal(kept, want) {
		t.Errorf("%v, not %v", kept, want)
	}
}

// spoil writes into all of a list, and behind its end.
func spoil(l []api.Cluster) {
	for k := range cap(l) {
		l[:cap(l)][k] = api.Cluster{At: -9, Size: -9, From: -9, To: -9, Wide: -9, Code: -9}
	}
}

// P6.5
func TestWhole(t *testing.T) {
	whole := func(s string) {
		end, to := 0, 0
		for _, c := range Split(s) {
			if c.At != end || c.From != to || c.Size < 1 || c.To <= c.From || c.Wide < 0 || c.Wide > 2 {
				t.Fatalf("%x: %v behind %d", s, c, end)
			}
			end, to = c.At+c.Size, c.To
		}
		if end != len(s) || to != len(runes.Split(s)) {
			t.Fatalf("%x: ends at %d", s, end)
		}
	}
	for _, s := range texts() {
		// Cut anywhere, also within a code point or a cluster, a text is a text.
		for cut := range min(len(s), 300) {
			whole(s[:cut])
			whole(s[cut:])
		}
		whole(s)
	}
	shortRows(func(codes []int) { whole(runes.Text(codes...)) })
}

// cutAhead cuts runes ahead of each of their clusters, and holds the parts' clusters against those of all.
func cutAhead(t *testing.T, l []api.Rune) {
	t.Helper()
	all := Of(l)
	for k, c := range all {
		behind := Of(l[c.From:])
		for i := range behind {
			behind[i].From += c.From
			behind[i].To += c.From
		}
		if ahead := Of(l[:c.From]); !slices.Equal(ahead, all[:k]) || !slices.Equal(behind, all[k:]) {
			t.Fatalf("%x, cut at %d: %v and %v, not %v", codesOf(l), c.From, ahead, behind, all)
		}
	}
}

// P6.6
func TestCut(t *testing.T) {
	shortRows(func(codes []int) { cutAhead(t, row(codes...)) })
	for _, s := range texts() {
		cutAhead(t, runes.Split(s))
	}
	for n := range 12 {
		flags := slices.Repeat([]int{0x1f1e6}, n)
		cutAhead(t, row(slices.Concat(flags, []int{0x600}, flags, []int{0x301}, flags)...))
	}
	l := row(sampler()...)
	for k := range l {
		l[k].At, l[k].Size = math.MaxInt-k, math.MinInt+k*k
	}
	cutAhead(t, l)
}
