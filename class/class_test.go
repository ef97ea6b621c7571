package class

import (
	"math"
	"slices"
	"strconv"
	"strings"
	"testing"

	"parquetry/api"
	"parquetry/runes"
)

// rows are the document's table, in its own words: a class, and its code points.
var rows = []struct {
	class int
	codes string
}{
	{api.BidiR, "590, 5BE, 5C0, 5C3, 5C6, 5C8-5FF, 200F, FB1D, FB1F-FB28, FB2A-FB4F"},
	{api.BidiAL, "608, 60B, 60D, 61B-64A, 66D-66F, 671-6D5, 6E5-6E6, 6EE-6EF, 6FA-6FF, 750-77F, FE70-FEFE"},
	{api.BidiEN, "30-39, B2-B3, B9, 6F0-6F9, 2070, 2074-2079, 2080-2089, 2488-249B, FF10-FF19"},
	{api.BidiES, "2B, 2D, 207A-207B, 208A-208B, 2212, FB29, FE62-FE63, FF0B, FF0D"},
	{api.BidiET, "23-25, A2-A5, B0-B1, 58F, 609-60A, 66A, 2030-2034, 20A0-20CF, 2213, FE5F, FE69-FE6A, FF03-FF05, FFE0-FFE1, FFE5-FFE6"},
	{api.BidiAN, "600-605, 660-669, 66B-66C, 6DD, 8E2"},
	{api.BidiCS, "2C, 2E-2F, 3A, A0, 60C, 202F, 2044, FE50, FE52, FE55, FF0C, FF0E-FF0F, FF1A"},
	{api.BidiNSM, "300-36F, 483-489, 591-5BD, 5BF, 5C1-5C2, 5C4-5C5, 5C7, 610-61A, 64B-65F, 670, 6D6-6DC, 6DF-6E4, 6E7-6E8, 6EA-6ED, 93C, 941-948, 94D, 20D0-20F0, 302A-302D, 3099-309A, FB1E, FE00-FE0F, FE20-FE2F, E0100-E01EF"},
	{api.BidiBN, "0-8, E-1B, 7F-84, 86-9F, AD, 200B-200D, 2060-2065, 206A-206F, FEFF"},
	{api.BidiB, "A, D, 1C-1E, 85, 2029"},
	{api.BidiS, "9, B, 1F"},
	{api.BidiWS, "C, 20, 1680, 2000-200A, 2028, 205F, 3000"},
	{api.BidiON, "21-22, 26-2A, 3B-40, 5B-60, 7B-7E, A1, A6-A9, AB-AC, AE-AF, B4, B6-B8, BB-BF, D7, F7, 606-607, 60E-60F, 6DE, 6E9, 2010-2027, 2035-2043, 2045-205E, 207C-207E, 208C-208E, 2190-2211, 2214-2335, 2500-26AB, 26AD-27FF, 2E80-2E99, 3001-3004, 3008-3020, 3030, FF01-FF02, FF06-FF0A, FF1B-FF20, FF3B-FF40, FF5B-FF65, FFF9-FFFD, 1F300-1F64F"},
	{api.BidiLRE, "202A"}, {api.BidiRLE, "202B"}, {api.BidiPDF, "202C"}, {api.BidiLRO, "202D"}, {api.BidiRLO, "202E"},
	{api.BidiLRI, "2066"}, {api.BidiRLI, "2067"}, {api.BidiFSI, "2068"}, {api.BidiPDI, "2069"},
}

// docNames are the classes' names in the order of their numbers, as the document lists them.
var docNames = strings.Fields("L R AL EN ES ET AN CS NSM BN B S WS ON LRE LRO RLE RLO PDF LRI RLI FSI PDI")

// eachSpan calls look with each span of the document's table.
func eachSpan(t *testing.T, look func(first, last, class int)) {
	t.Helper()
	number := func(s string) int {
		n, err := strconv.ParseInt(s, 16, 32)
		if err != nil {
			t.Fatal(err)
		}
		return int(n)
	}
	for _, row := range rows {
		for _, item := range strings.Split(row.codes, ", ") {
			first, last, both := strings.Cut(item, "-")
			if !both {
				last = first
			}
			look(number(first), number(last), row.class)
		}
	}
}

// docClasses answers each code point's class by the document's table, which must name none of them twice.
func docClasses(t *testing.T) []int {
	t.Helper()
	classes := make([]int, 0x110000)
	eachSpan(t, func(first, last, class int) {
		for code := first; code <= last; code++ {
			if classes[code] != api.BidiL {
				t.Fatalf("%x stands twice in the table", code)
			}
			classes[code] = class
		}
	})
	return classes
}

// P2.1
func TestOfExamples(t *testing.T) {
	for code, want := range map[int]int{
		0x41: 0, 0x30: 3, 0x5d0: 1, 0x627: 2, 0x660: 6, 0x20: 12, 0x2067: 20,
		-1: 0, 0x4e00: 0, 0x10ffff: 0, 0xff10: 3,
		0: 9, 0x61: 0, 0x2b: 4, 0x24: 5, 0x2c: 7, 0x301: 8, 0xa: 10, 0x9: 11, 0x21: 13,
		0x200e: 0, 0x200f: 1, 0x202a: 14, 0x202d: 15, 0x202b: 16, 0x202e: 17, 0x202c: 18, 0x2066: 19, 0x2068: 21, 0x2069: 22,
	} {
		if class := Of(code); class != want {
			t.Errorf("%x: %d, not %d", code, class, want)
		}
	}
}

// P2.1: both ends of each span, and the numbers beside them.
func TestOfSpanEnds(t *testing.T) {
	want := docClasses(t)
	classAt := func(code int) int {
		if code < 0 {
			return api.BidiL
		}
		return want[code]
	}
	eachSpan(t, func(first, last, class int) {
		if Of(first) != class || Of(last) != class {
			t.Errorf("%x-%x: %d, %d, not %d", first, last, Of(first), Of(last), class)
		}
		if Of(first-1) != classAt(first-1) || Of(last+1) != classAt(last+1) {
			t.Errorf("beside %x-%x: %d, %d", first, last, Of(first-1), Of(last+1))
		}
	})
}

// P2.1: what stands in no row is L, what is no code point as well.
func TestOfNumbersOfNoRow(t *testing.T) {
	for _, code := range []int{
		0x41, 0x5a, 0x61, 0x7a, 0xaa, 0xb5, 0xba, 0xd6, 0xf8, 0x2ff, 0x370, 0x482, 0x48a, 0x58e, 0x700, 0x74f, 0x780, 0x8e1, 0x8e3,
		0x200e, 0x2071, 0x2336, 0x26ac, 0x2800, 0x3005, 0x4e00, 0xac00, 0xfb1c, 0xfb50, 0xff00, 0xffff, 0x10000, 0x1f2ff, 0x1f650, 0xe00ff, 0xe01f0, 0x10ffff,
		0xd7ff, 0xd800, 0xdbff, 0xdc00, 0xdfff, 0xe000,
		-1, -0x30, -0x5d0, math.MinInt32, math.MinInt, math.MinInt + 0x30, math.MinInt | 0x5d0,
		0x110000, 0x110030, math.MaxInt32, math.MaxUint32, 1 << 32, 1<<32 | 0x30, 1<<40 | 0x5d0, math.MaxInt,
	} {
		if class := Of(code); class != api.BidiL {
			t.Errorf("%x: %d", code, class)
		}
	}
}

// P2.1: each number up to 10FFFF, by Of and by All.
func TestOfAndAllOfEachCodePoint(t *testing.T) {
	want := docClasses(t)
	var l []api.Rune
	for code := range want {
		if class := Of(code); class != want[code] {
			t.Fatalf("Of %x: %d, not %d", code, class, want[code])
		}
		l = append(l, api.Rune{Code: code})
	}
	for code, class := range All(l) {
		if class != want[code] {
			t.Fatalf("All %x: %d, not %d", code, class, want[code])
		}
	}
	if n := len(All(l)); n != len(l) {
		t.Errorf("%d classes of %d runes", n, len(l))
	}
}

// P2.1: in order, and of the Codes alone.
func TestAllExamples(t *testing.T) {
	for _, x := range []struct {
		l    []api.Rune
		want []int
	}{
		{nil, nil},
		{[]api.Rune{}, nil},
		{runes.Split("a \u05d0\xff"), []int{api.BidiL, api.BidiWS, api.BidiR, api.BidiON}},
		{runes.Split("\u0627\u06611-\u0301\u2067x\u2069\n"), []int{api.BidiAL, api.BidiAN, api.BidiEN, api.BidiES, api.BidiNSM, api.BidiRLI, api.BidiL, api.BidiPDI, api.BidiB}},
		{runes.Split("\ufffd\xe2\x82a"), []int{api.BidiON, api.BidiON, api.BidiON, api.BidiL}},
		{[]api.Rune{{At: 0x5d0, Size: 0x30, Code: 0x627}, {At: -7, Size: -7, Code: 0x20}, {At: 1, Size: 1, Code: 0x20}}, []int{api.BidiAL, api.BidiWS, api.BidiWS}},
		{[]api.Rune{{Code: -1}, {Code: 0x30}, {Code: math.MaxInt}, {Code: 0xd800}, {Code: 1<<32 | 0x30}, {Code: math.MinInt}}, []int{api.BidiL, api.BidiEN, api.BidiL, api.BidiL, api.BidiL, api.BidiL}},
	} {
		if l := All(x.l); !slices.Equal(l, x.want) {
			t.Errorf("%v: %v, not %v", x.l, l, x.want)
		}
	}
}

// P2.2
func TestPrint(t *testing.T) {
	for _, x := range []struct {
		l    []int
		want string
		ok   bool
	}{
		{nil, "", true},
		{[]int{}, "", true},
		{[]int{0}, "L", true},
		{[]int{1, 22}, "R PDI", true},
		{[]int{2, 0, 0, 2}, "AL L L AL", true},
		{[]int{23}, "", false},
		{[]int{-1}, "", false},
		{[]int{0, 23}, "", false},
		{[]int{-1, 0}, "", false},
		{[]int{0, 1, 2, 100, 3}, "", false},
		{[]int{math.MaxInt}, "", false},
		{[]int{math.MinInt}, "", false},
		{[]int{1 << 32}, "", false},
	} {
		if s, ok := Print(x.l...); s != x.want || ok != x.ok {
			t.Errorf("%v: %q, %v", x.l, s, ok)
		}
	}
	var all []int
	for class, name := range docNames {
		if s, ok := Print(class); s != name || !ok {
			t.Errorf("%d: %q, %v, not %q", class, s, ok, name)
		}
		all = append(all, class)
	}
	if s, ok := Print(all...); s != strings.Join(docNames, " ") || !ok {
		t.Errorf("all: %q, %v", s, ok)
	}
}

// P2.2
func TestRead(t *testing.T) {
	for _, x := range []struct {
		s    string
		want []int
	}{
		{"", nil},
		{"L", []int{0}},
		{"EN", []int{3}},
		{"R PDI", []int{1, 22}},
		{"AL L L AL", []int{2, 0, 0, 2}},
	} {
		if l, ok := Read(x.s); !slices.Equal(l, x.want) || !ok {
			t.Errorf("%q: %v, %v", x.s, l, ok)
		}
	}
	for class, name := range docNames {
		if l, ok := Read(name); !slices.Equal(l, []int{class}) || !ok {
			t.Errorf("%q: %v, %v", name, l, ok)
		}
	}
}

// P2.2: texts that are none's.
func TestReadOfWrongTexts(t *testing.T) {
	for _, s := range []string{
		" ", "  ", "L ", " L", " L ", "L  R", "AL  L", "L   R", "L R ", " L R",
		"x", "l", "en", "LR", "LRX", "LREX", "XL", "RLR", "NS", "0", "22", "L x", "x L", "L R l",
		"L\tR", "\tL", "L\n", "L\nR", "L\r\n", "L,R", "L\u00a0R", "L\u3000R", "L\x00", "\x00", "L\x00R",
		"\xff", "L\xff", "\xffL", "L \xff", "L\xffR", "\xe2\x82", "L \xc0\x80", "\ufffd", "\ufeffL", "\uff2c", "L\u0301",
	} {
		if l, ok := Read(s); ok || len(l) != 0 {
			t.Errorf("%q: %v, %v", s, l, ok)
		}
	}
}

// P2.3
func TestWhatIsHandedInStays(t *testing.T) {
	l := []api.Rune{{At: 0, Size: 2, Code: 0x5d0}, {At: 2, Size: 1, Code: -1}, {At: 3, Size: 1, Code: 0x20}, {At: 4, Size: 1, Code: 0x30}}
	kept := slices.Clone(l)
	if classes := All(l[:3]); !slices.Equal(classes, []int{api.BidiR, api.BidiL, api.BidiWS}) {
		t.Errorf("%v", classes)
	}
	if !slices.Equal(l, kept) {
		t.Errorf("%v, not %v", l, kept)
	}
	numbers := []int{22, 1, 0, 23, -1, 7}
	keptNumbers := slices.Clone(numbers)
	Print(numbers[:3]...)
	Print(numbers[:5]...)
	if !slices.Equal(numbers, keptNumbers) {
		t.Errorf("%v, not %v", numbers, keptNumbers)
	}
}

// P2.3
func TestAnswersAreNew(t *testing.T) {
	l := runes.Split("a\u05d0 1")
	first := All(l)
	want := slices.Clone(first)
	spoil(first)
	if second := All(l); !slices.Equal(second, want) {
		t.Errorf("%v, not %v", second, want)
	}
	read, _ := Read("R AL PDI")
	spoil(read)
	if again, ok := Read("R AL PDI"); !slices.Equal(again, []int{1, 2, 22}) || !ok {
		t.Errorf("%v, %v", again, ok)
	}
	numbers := []int{1, 2}
	text, _ := Print(numbers...)
	numbers[0] = 22
	if text != "R AL" {
		t.Errorf("%q", text)
	}
}

// spoil writes into all of a list, and behind its end.
func spoil(l []int) {
	for k := range cap(l) {
		l[:cap(l)][k] = -9
	}
}

// eachRow calls look with all rows of up to three numbers from -1 to 23.
func eachRow(look func(l ...int)) {
	look()
	for a := -1; a <= 23; a++ {
		look(a)
		for b := -1; b <= 23; b++ {
			look(a, b)
			for c := -1; c <= 23; c++ {
				look(a, b, c)
			}
		}
	}
}

// P2.4: printed, and read as they were.
func TestThereAndBack(t *testing.T) {
	isClass := func(n int) bool { return n >= 0 && n <= 22 }
	eachRow(func(l ...int) {
		s, ok := Print(l...)
		wrong := slices.ContainsFunc(l, func(n int) bool { return !isClass(n) })
		if ok == wrong || wrong && s != "" {
			t.Fatalf("%v: %q, %v", l, s, ok)
		}
		if back, read := Read(s); ok && (!read || !slices.Equal(back, l)) {
			t.Fatalf("%v: %q is read as %v, %v", l, s, back, read)
		}
	})
}

// P2.4: read, and printed as it was; just what Print could have told is read.
func TestBackAndThere(t *testing.T) {
	words := append([]string{"", " ", "x", "\xff"}, docNames...)
	look := func(s string) {
		l, ok := Read(s)
		isText := true
		for _, word := range strings.Split(s, " ") {
			isText = isText && slices.Contains(docNames, word)
		}
		if ok != (isText || s == "") || !ok && len(l) != 0 {
			t.Fatalf("%q: %v, %v", s, l, ok)
		}
		if back, printed := Print(l...); ok && (!printed || back != s) {
			t.Fatalf("%q: %v is printed as %q, %v", s, l, back, printed)
		}
	}
	for _, a := range words {
		look(a)
		for _, b := range words {
			look(a + b)
			look(a + " " + b)
			for _, c := range words {
				look(a + " " + b + " " + c)
			}
		}
	}
}

// P2.5: the second text may have odd bytes, also at its beginning.
func TestTexts(t *testing.T) {
	texts := []string{
		"", "a", "1", " ", "\u05d0", "a\u05d0 \u0627\u06611", "\u202bx\u202c", "\u2067\u05d0\u2069\n", "\u0301", "e\u0301",
		"\ufffd", "\U0001f600", "\U0010ffff\x00", strings.Repeat("\u05d0 1", 200),
		"\xff", "\x80", "\x82\xaca", "\xe2\x82", "a\xc3", "\xbd\u05d0", "\xf0\x9f\x98", "\xed\xa0\x80",
	}
	for _, first := range texts {
		if !runes.Valid(first) {
			continue
		}
		for _, second := range texts {
			want := append(All(runes.Split(first)), All(runes.Split(second))...)
			if l := All(runes.Split(first + second)); !slices.Equal(l, want) {
				t.Errorf("%q, %q: %v, not %v", first, second, l, want)
			}
		}
	}
}
