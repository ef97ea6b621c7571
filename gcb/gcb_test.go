package gcb

import (
	"math"
	"slices"
	"strconv"
	"strings"
	"testing"

	"parquetry/api"
)

// The document's rows, in its own words.
var docRows = []struct {
	kind  int
	codes string
}{
	{api.GcbCR, "D"},
	{api.GcbLF, "A"},
	{api.GcbControl, "0-9, B-C, E-1F, 7F-9F, AD, 61C, 180E, 200B, 200E-200F, 2028-202E, 2060-206F, FEFF, FFF0-FFFB, E0000-E001F, E0080-E00FF"},
	{api.GcbExtend, "300-36F, 483-489, 591-5BD, 5BF, 5C1-5C2, 5C4-5C5, 5C7, 610-61A, 64B-65F, 670, 6D6-6DC, 6DF-6E4, 6E7-6E8, 6EA-6ED, 93A, 93C, 941-948, 94D, 9BE, E31, E34-E3A, E47-E4E, 1AB0-1ACE, 1DC0-1DFF, 200C, 20D0-20F0, 302A-302F, 3099-309A, A66F-A672, FB1E, FE00-FE0F, FE20-FE2F, FF9E-FF9F, 1F3FB-1F3FF, E0020-E007F, E0100-E01EF"},
	{api.GcbZWJ, "200D"},
	{api.GcbRI, "1F1E6-1F1FF"},
	{api.GcbPrepend, "600-605, 6DD, 70F, 8E2, D4E"},
	{api.GcbMark, "903, 93B, 93E-940, 949-94C, 94E-94F, 982-983, E33, EB3"},
	{api.GcbL, "1100-115F, A960-A97C"},
	{api.GcbV, "1160-11A7, D7B0-D7C6"},
	{api.GcbT, "11A8-11FF, D7CB-D7FB"},
}

const docPictographs = "A9, AE, 203C, 2049, 2122, 2139, 2194-2199, 21A9-21AA, 231A-231B, 2328, 23CF, 23E9-23F3, 23F8-23FA, 24C2, 25AA-25AB, 25B6, 25C0, 25FB-25FE, 2600-2605, 2607-2612, 2614-2685, 2690-2705, 2708-2712, 2714, 2716, 271D, 2721, 2728, 2733-2734, 2744, 2747, 274C, 274E, 2753-2755, 2757, 2763-2767, 2795-2797, 27A1, 27B0, 27BF, 2934-2935, 2B05-2B07, 2B1B-2B1C, 2B50, 2B55, 3030, 303D, 3297, 3299, 1F000-1F0FF, 1F10D-1F10F, 1F12F, 1F16C-1F171, 1F17E-1F17F, 1F18E, 1F191-1F19A, 1F1AD-1F1E5, 1F201-1F20F, 1F21A, 1F22F, 1F232-1F23A, 1F23C-1F23F, 1F249-1F3FA, 1F400-1F53D, 1F546-1F64F, 1F680-1F6FF, 1F774-1F77F, 1F7D5-1F7FF, 1F80C-1F80F, 1F848-1F84F, 1F85A-1F85F, 1F888-1F88F, 1F8AE-1F8FF, 1F90C-1F93A, 1F93C-1F945, 1F947-1FAFF, 1FC00-1FFFD"

const lastCode = 0x10ffff

// wrong are numbers that are no code points; some are of a span, if bits of them are lost.
var wrong = []int{
	-1, -2, -0xa, -0xd, -0x301, -0xac00, -0xac1c, -0x1f600, lastCode + 1, lastCode + 2, 0x110000 + 0x301, 0x110000 + 0xac00, 0x200000, 0x20000d,
	1<<16 | 0x110000, 1<<32 | 0xa, 1<<32 | 0x301, 1<<32 | 0x200d, 1<<32 | 0xac00, 1<<32 | 0x1f1e6, 1<<32 | 0x1f600, 1<<40 | 0x1100, 1<<32 | 0xa9,
	-1<<32 | 0x301, -1<<32 | 0xac00, -1<<32 | 0xa9, -1 << 32, 1 << 32,
	math.MinInt32, math.MinInt32 - 1, math.MaxInt32, math.MaxInt32 + 1, math.MaxUint32, math.MinInt, math.MinInt + 0xa, math.MinInt | 0xac00, math.MinInt | 0xa9, math.MaxInt, math.MaxInt - 1,
}

// each calls look with both ends of each span of a row of the document.
func each(t *testing.T, codes string, look func(first, last int)) {
	t.Helper()
	number := func(s string) int {
		n, err := strconv.ParseInt(s, 16, 32)
		if err != nil {
			t.Fatal(err)
		}
		return int(n)
	}
	for _, item := range strings.Split(codes, ", ") {
		first, last, both := strings.Cut(item, "-")
		if !both {
			last = first
		}
		look(number(first), number(last))
	}
}

// docKind answers a function that tells a number's kind by the document's rows, and by what it says of syllables; they must name none of the numbers twice.
func docKind(t *testing.T) func(code int) int {
	t.Helper()
	kinds := map[int]int{}
	put := func(code, kind int) {
		if _, twice := kinds[code]; twice {
			t.Fatalf("%x stands twice in the document", code)
		}
		kinds[code] = kind
	}
	for _, row := range docRows {
		each(t, row.codes, func(first, last int) {
			for code := first; code <= last; code++ {
				put(code, row.kind)
			}
		})
	}
	for code := 0xac00; code <= 0xd7a3; code++ {
		if (code-0xac00)%28 == 0 {
			put(code, api.GcbLV)
		} else {
			put(code, api.GcbLVT)
		}
	}
	return func(code int) int { return kinds[code] }
}

// docPict answers a function that tells by the document's spans whether a number is a pictograph; they must name none of the numbers twice.
func docPict(t *testing.T) func(code int) bool {
	t.Helper()
	pictographs := map[int]bool{}
	each(t, docPictographs, func(first, last int) {
		for code := first; code <= last; code++ {
			if pictographs[code] {
				t.Fatalf("%x stands twice among the pictographs", code)
			}
			pictographs[code] = true
		}
	})
	return func(code int) bool { return pictographs[code] }
}

// numbers answers all code points, the numbers around them, and wrong ones.
func numbers() []int {
	var codes []int
	for code := -0x400; code <= lastCode+0x400; code++ {
		codes = append(codes, code)
	}
	return append(codes, wrong...)
}

// nearEnds answers both ends of each span with the numbers beside them, and wrong numbers.
func nearEnds(t *testing.T) []int {
	t.Helper()
	var codes []int
	put := func(first, last int) { codes = append(codes, first-1, first, last, last+1) }
	for _, row := range docRows {
		each(t, row.codes, put)
	}
	each(t, docPictographs, put)
	put(0xac00, 0xd7a3)
	return append(codes, wrong...)
}

// ofEachKind are code points, three of each kind in the kinds' order.
var ofEachKind = [...][3]int{
	api.GcbOther:   {0x41, -1, 0x110000},
	api.GcbCR:      {0xd, 0xd, 0xd},
	api.GcbLF:      {0xa, 0xa, 0xa},
	api.GcbControl: {0, 0x7f, 0xe00ff},
	api.GcbExtend:  {0x300, 0x200c, 0x1f3fb},
	api.GcbZWJ:     {0x200d, 0x200d, 0x200d},
	api.GcbRI:      {0x1f1e6, 0x1f1f0, 0x1f1ff},
	api.GcbPrepend: {0x600, 0x6dd, 0xd4e},
	api.GcbMark:    {0x903, 0x93f, 0xe33},
	api.GcbL:       {0x1100, 0x115f, 0xa960},
	api.GcbV:       {0x1160, 0x11a7, 0xd7b0},
	api.GcbT:       {0x11a8, 0x11ff, 0xd7fb},
	api.GcbLV:      {0xac00, 0xac1c, 0xd788},
	api.GcbLVT:     {0xac01, 0xac1b, 0xd7a3},
}

// docRuns tells runs by the document's kinds, from the back.
func docRuns(kind func(code int) int, codes []int) []int {
	var runs []int
	for end := len(codes); end > 0; {
		begin := end - 1
		for begin > 0 && kind(codes[begin-1]) == kind(codes[end-1]) {
			begin--
		}
		runs = append(runs, end-begin)
		end = begin
	}
	slices.Reverse(runs)
	return runs
}

// P5.1
func TestOfExamples(t *testing.T) {
	for code, want := range map[int]int{
		0xd: 1, 0x41: 0, 0x301: 4, 0x200d: 5, 0x1f1e6: 6, -1: 0,
		0x1100: 9, 0xac00: 12, 0xac01: 13, 0xd7a3: 13, 0x11a8: 11,
		0: 3, 9: 3, 0xa: 2, 0xb: 3, 0xc: 3, 0xe: 3, 0x1f: 3, 0x20: 0, 0x7e: 0, 0x7f: 3, 0x9f: 3, 0xa0: 0, 0xa9: 0, 0xac: 0, 0xad: 3, 0xae: 0,
		0x2ff: 0, 0x300: 4, 0x36f: 4, 0x370: 0, 0x482: 0, 0x489: 4, 0x5be: 0, 0x5bf: 4, 0x5c0: 0, 0x5c3: 0, 0x5c7: 4, 0x5c8: 0, 0x5ff: 0, 0x600: 7, 0x605: 7, 0x606: 0,
		0x61a: 4, 0x61b: 0, 0x61c: 3, 0x61d: 0, 0x6d5: 0, 0x6dc: 4, 0x6dd: 7, 0x6de: 0, 0x6df: 4, 0x70f: 7, 0x8e2: 7, 0xd4e: 7,
		0x903: 8, 0x939: 0, 0x93a: 4, 0x93b: 8, 0x93c: 4, 0x93d: 0, 0x93e: 8, 0x940: 8, 0x941: 4, 0x948: 4, 0x949: 8, 0x94c: 8, 0x94d: 4, 0x94e: 8, 0x94f: 8, 0x950: 0,
		0x982: 8, 0x983: 8, 0x9be: 4, 0xe32: 0, 0xe33: 8, 0xe34: 4, 0xeb3: 8,
		0x10ff: 0, 0x115f: 9, 0x1160: 10, 0x11a7: 10, 0x11ff: 11, 0x1200: 0, 0x180d: 0, 0x180e: 3, 0x180f: 0,
		0x200a: 0, 0x200b: 3, 0x200c: 4, 0x200e: 3, 0x200f: 3, 0x2010: 0, 0x2027: 0, 0x2028: 3, 0x202e: 3, 0x202f: 0, 0x2060: 3, 0x206f: 3, 0x2070: 0,
		0x302a: 4, 0x302f: 4, 0x3030: 0, 0xa95f: 0, 0xa960: 9, 0xa97c: 9, 0xa97d: 0, 0xabff: 0, 0xd7a4: 0, 0xd7af: 0, 0xd7b0: 10, 0xd7c6: 10, 0xd7c7: 0, 0xd7ca: 0, 0xd7cb: 11, 0xd7fb: 11, 0xd7fc: 0,
		0xd800: 0, 0xdfff: 0, 0xfdff: 0, 0xfe00: 4, 0xfe0f: 4, 0xfe10: 0, 0xfeff: 3, 0xff9e: 4, 0xffa0: 0, 0xffef: 0, 0xfff0: 3, 0xfffb: 3, 0xfffc: 0, 0xfffd: 0,
		0x1f1e5: 0, 0x1f1ff: 6, 0x1f200: 0, 0x1f3fa: 0, 0x1f3fb: 4, 0x1f3ff: 4, 0x1f400: 0, 0x1f600: 0,
		0xdffff: 0, 0xe0000: 3, 0xe001f: 3, 0xe0020: 4, 0xe007f: 4, 0xe0080: 3, 0xe00ff: 3, 0xe0100: 4, 0xe01ef: 4, 0xe01f0: 0, 0x10ffff: 0, 0x110000: 0,
	} {
		if kind := Of(code); kind != want {
			t.Errorf("%x: %d, not %d", code, kind, want)
		}
	}
}

// P5.1
func TestPictExamples(t *testing.T) {
	for code, want := range map[int]bool{
		0xa9: true, 0x1f600: true, 0x1f3fb: false, 0x41: false,
		-1: false, 0: false, 0xa: false, 0x23: false, 0x2a: false, 0x30: false, 0xa8: false, 0xaa: false, 0xad: false, 0xae: true, 0xaf: false, 0x301: false, 0x200d: false,
		0x203b: false, 0x203c: true, 0x203d: false, 0x2049: true, 0x2193: false, 0x2194: true, 0x2199: true, 0x219a: false, 0x25b6: true, 0x25b7: false,
		0x25ff: false, 0x2600: true, 0x2605: true, 0x2606: false, 0x2607: true, 0x2612: true, 0x2613: false, 0x2614: true, 0x2685: true, 0x2686: false, 0x2690: true, 0x2705: true, 0x2706: false,
		0x2764: true, 0x3030: true, 0x303d: true, 0x3297: true, 0x3298: false, 0x3299: true, 0xac00: false, 0xfe0f: false,
		0x1efff: false, 0x1f000: true, 0x1f0ff: true, 0x1f100: false, 0x1f10c: false, 0x1f1e5: true, 0x1f1e6: false, 0x1f1ff: false, 0x1f200: false, 0x1f201: true,
		0x1f3fa: true, 0x1f3ff: false, 0x1f400: true, 0x1f53d: true, 0x1f53e: false, 0x1f90b: false, 0x1f93b: false, 0x1f946: false, 0x1faff: true, 0x1fb00: false,
		0x1fbff: false, 0x1fc00: true, 0x1fffd: true, 0x1fffe: false, 0x10ffff: false, 0x110000: false, 0x1100a9: false,
	} {
		if Pict(code) != want {
			t.Errorf("%x: %v", code, !want)
		}
	}
}

// P5.1: both ends of each span, and the numbers beside them, which may be of a span of another kind.
func TestOfSpanEnds(t *testing.T) {
	want := docKind(t)
	spans := 0
	for _, row := range docRows {
		each(t, row.codes, func(first, last int) {
			spans++
			if Of(first) != row.kind || Of(last) != row.kind || Of(first+(last-first)/2) != row.kind {
				t.Errorf("%x-%x: %d, %d, not %d", first, last, Of(first), Of(last), row.kind)
			}
			if Of(first-1) == row.kind || Of(last+1) == row.kind {
				t.Errorf("beside %x-%x: %d, %d", first, last, Of(first-1), Of(last+1))
			}
			if Of(first-1) != want(first-1) || Of(last+1) != want(last+1) {
				t.Errorf("beside %x-%x: %d, %d, not %d, %d", first, last, Of(first-1), Of(last+1), want(first-1), want(last+1))
			}
		})
	}
	if spans != 74 {
		t.Errorf("%d spans", spans)
	}
}

// P5.1: both ends of each span of pictographs, and the numbers beside them.
func TestPictSpanEnds(t *testing.T) {
	spans := 0
	each(t, docPictographs, func(first, last int) {
		spans++
		if !Pict(first) || !Pict(last) || !Pict(first+(last-first)/2) {
			t.Errorf("%x-%x: %v, %v", first, last, Pict(first), Pict(last))
		}
		if Pict(first-1) || Pict(last+1) {
			t.Errorf("beside %x-%x: %v, %v", first, last, Pict(first-1), Pict(last+1))
		}
	})
	if spans != 77 {
		t.Errorf("%d spans", spans)
	}
}

// P5.1: each code point, the numbers around them, and wrong ones.
func TestEachNumber(t *testing.T) {
	kind, pict := docKind(t), docPict(t)
	for _, code := range numbers() {
		if Of(code) != kind(code) {
			t.Errorf("%x: %d, not %d", code, Of(code), kind(code))
		}
		if Pict(code) != pict(code) {
			t.Errorf("%x: %v", code, Pict(code))
		}
	}
}

// P5.1: a number that is no code point is of no row.
func TestWrongNumbers(t *testing.T) {
	look := func(code int) {
		if Of(code) != api.GcbOther || Pict(code) {
			t.Errorf("%x: %d, %v", code, Of(code), Pict(code))
		}
	}
	for _, code := range wrong {
		look(code)
	}
	for code := 0xd800; code <= 0xdfff; code++ {
		look(code)
	}
	for far := 1; far > 0; far *= 2 {
		for _, near := range []int{0, 0xa, 0xa9, 0x301, 0xac00, 0xac01, 0x1f1e6, 0x1f600} {
			look(-far - near)
			look(lastCode + far + near)
		}
	}
}

// P5.2
func TestRunsExamples(t *testing.T) {
	for _, x := range []struct{ codes, want []int }{
		{nil, nil},
		{[]int{}, nil},
		{[]int{0x41}, []int{1}},
		{[]int{-1}, []int{1}},
		{[]int{0xd}, []int{1}},
		{[]int{0xd7a3}, []int{1}},
		{[]int{0x41, 0x42, 0x301, 0x302, 0x41}, []int{2, 2, 1}},
		{[]int{0x301, 0x302, 0x41}, []int{2, 1}},
		{[]int{0xd, 0xa}, []int{1, 1}},
		{[]int{0xa, 0xd}, []int{1, 1}},
		{[]int{0xd, 0xd, 0xa, 0xa, 0, 9, 0xb}, []int{2, 2, 3}},
		{[]int{0x9, 0xa, 0xb, 0xc, 0xd, 0xe}, []int{1, 1, 2, 1, 1}},
		{[]int{0x1f1e6, 0x1f1e7, 0x1f1e8}, []int{3}},
		{[]int{0x1f1e6, 0x41, 0x1f1e7, 0x1f1e8, 0x41, 0x41, 0x41}, []int{1, 1, 2, 3}},
		{[]int{0xabff, 0xac00, 0xac01, 0xac02, 0xac1b, 0xac1c, 0xac38, 0xd7a3, 0xd7a4}, []int{1, 1, 3, 2, 1, 1}},
		{[]int{0x1100, 0xa960, 0x1160, 0xd7b0, 0x11a8, 0xd7cb, 0xac00, 0xac01}, []int{2, 2, 2, 1, 1}},
		{[]int{0x600, 0x903, 0x300, 0x200c, 0x200d, 0xfe0f}, []int{1, 1, 2, 1, 1}},
		{[]int{0x41, 0xa9, 0x1f600, 0x4e00, -1, 0x110000, 0xd800, math.MaxInt, math.MinInt, 1<<32 | 0x301}, []int{10}},
		{[]int{-1, 0x301, -1, 1<<32 | 0x301, 0x301, 0x110000}, []int{1, 1, 2, 1, 1}},
	} {
		if runs := Runs(x.codes...); !slices.Equal(runs, x.want) {
			t.Errorf("%x: %v, not %v", x.codes, runs, x.want)
		}
	}
}

// P5.2: rows of one kind alone are one run, however long.
func TestRunsOfOneKind(t *testing.T) {
	for kind, codes := range ofEachKind {
		for _, code := range codes {
			if Of(code) != kind {
				t.Fatalf("%x: %d, not %d", code, Of(code), kind)
			}
		}
		for n := 1; n <= 3; n++ {
			if runs := Runs(codes[:n]...); !slices.Equal(runs, []int{n}) {
				t.Errorf("%x: %v", codes[:n], runs)
			}
		}
		for _, times := range []int{2, 100, 20000} {
			if runs := Runs(slices.Repeat(codes[:], times)...); !slices.Equal(runs, []int{3 * times}) {
				t.Errorf("%x, %d times: %v", codes, times, runs)
			}
		}
	}
}

// P5.2: rows in which each number is of another kind than the one ahead of it, so that each is a run by itself.
func TestRunsOfKindsInTurns(t *testing.T) {
	ones := func(n int) []int { return slices.Repeat([]int{1}, n) }
	for a := range ofEachKind {
		for b := range ofEachKind {
			if a == b {
				continue
			}
			for _, times := range []int{1, 2, 50} {
				codes := slices.Repeat([]int{ofEachKind[a][0], ofEachKind[b][2]}, times)
				if runs := Runs(codes...); !slices.Equal(runs, ones(2*times)) {
					t.Errorf("%x: %v", codes, runs)
				}
			}
			// As many of one as of the other one, and one more, in the same row.
			codes := append(append(slices.Clone(ofEachKind[a][:]), ofEachKind[b][:]...), ofEachKind[a][1])
			if runs := Runs(codes...); !slices.Equal(runs, []int{3, 3, 1}) {
				t.Errorf("%x: %v", codes, runs)
			}
		}
	}
	var codes []int
	for _, l := range ofEachKind {
		codes = append(codes, l[0])
	}
	if runs := Runs(codes...); !slices.Equal(runs, ones(14)) {
		t.Errorf("%x: %v", codes, runs)
	}
	if runs := Runs(slices.Repeat(codes, 5000)...); !slices.Equal(runs, ones(14*5000)) {
		t.Errorf("%d runs of 5000 times each kind", len(runs))
	}
}

// P5.2: long rows, against the document's kinds.
func TestRunsOfLongRows(t *testing.T) {
	kind := docKind(t)
	all := numbers()
	var far []int
	for at := range all {
		far = append(far, all[at*7919%len(all)])
	}
	for at, codes := range [][]int{all, far, nearEnds(t), slices.Repeat([]int{0x41, 0x42, 0x301, 0x302, 0x41}, 10000)} {
		if !slices.Equal(Runs(codes...), docRuns(kind, codes)) {
			t.Errorf("row %d, of %d numbers", at, len(codes))
		}
	}
}

// P5.2: all rows of up to four out of some kinds.
func TestRunsOfShortRows(t *testing.T) {
	kind := docKind(t)
	some := []int{0x41, -1, 0x301, 0x200c, 0xd, 0xac00, 0xac01}
	var look func(codes []int)
	look = func(codes []int) {
		if runs, want := Runs(codes...), docRuns(kind, codes); !slices.Equal(runs, want) {
			t.Errorf("%x: %v, not %v", codes, runs, want)
		}
		if len(codes) == 4 {
			return
		}
		for _, code := range some {
			look(append(slices.Clone(codes), code))
		}
	}
	look(nil)
}

// P5.3: also what lies behind the row's end.
func TestWhatIsHandedInStays(t *testing.T) {
	codes := append(nearEnds(t), 0x41, 0x42, 0x301, 0x302, 0x41)
	kept := slices.Clone(codes)
	for _, n := range []int{0, 1, 2, 5, len(codes) - 3, len(codes)} {
		first, second := Runs(codes[:n]...), Runs(codes[:n]...)
		if !slices.Equal(first, second) {
			t.Errorf("the same %d numbers twice: %v, %v", n, first, second)
		}
		if !slices.Equal(codes, kept) {
			t.Fatalf("%d numbers: what was handed in has changed", n)
		}
	}
}

// P5.3: who writes into an answer, or into the row, changes no other answer.
func TestAnswersAreNew(t *testing.T) {
	codes := []int{0x41, 0x42, 0x301, 0x302, 0x41, 0xac00, 0xd, -1}
	kept := slices.Clone(codes)
	want := []int{2, 2, 1, 1, 1, 1}
	first, second := Runs(codes...), Runs(codes...)
	spoil(first)
	if !slices.Equal(second, want) || !slices.Equal(codes, kept) {
		t.Errorf("%v of %x", second, codes)
	}
	if third := Runs(codes...); !slices.Equal(third, want) {
		t.Errorf("%v, not %v", third, want)
	}
	spoil(codes)
	if !slices.Equal(second, want) {
		t.Errorf("%v, not %v", second, want)
	}
	if kinds := []int{Of(0x41), Of(0x301), Of(0xac00), Of(0xd)}; !slices.Equal(kinds, []int{0, 4, 12, 1}) || !Pict(0xa9) {
		t.Errorf("%v", kinds)
	}
}

// spoil writes into all of a list, and behind its end.
func spoil(l []int) {
	for k := range cap(l) {
		l[:cap(l)][k] = -9
	}
}

// P5.4: of 28 syllables that follow one another just one is LV, wherever they begin.
func TestSyllables(t *testing.T) {
	for first := 0xac00; first+27 <= 0xd7a3; first++ {
		seen := [14]int{}
		for code := first; code < first+28; code++ {
			seen[Of(code)]++
		}
		if seen[api.GcbLV] != 1 || seen[api.GcbLVT] != 27 {
			t.Fatalf("from %x on: %d, %d", first, seen[api.GcbLV], seen[api.GcbLVT])
		}
	}
	for code := 0xac00; code <= 0xd7a3; code += 28 {
		if Of(code) != api.GcbLV || Of(code+1) != api.GcbLVT || Of(code+27) != api.GcbLVT {
			t.Errorf("%x: %d, %d, %d", code, Of(code), Of(code+1), Of(code+27))
		}
	}
}

// P5.4: what stands ahead of the syllables, and behind them, is none.
func TestBesideSyllables(t *testing.T) {
	for _, code := range numbers() {
		kind := Of(code)
		if one := kind == api.GcbLV || kind == api.GcbLVT; one != (code >= 0xac00 && code <= 0xd7a3) {
			t.Errorf("%x: %d", code, kind)
		}
	}
	for _, code := range []int{0xabff, 0xabe4, 0xd7a4, 0xd7af, 0xd7a4 + 27} {
		if kind := Of(code); kind == api.GcbLV || kind == api.GcbLVT {
			t.Errorf("%x: %d", code, kind)
		}
	}
}

// P5.5: of a row that is cut at each place, each run counts from 1 on, and all are as many as there are code points.
func TestCounted(t *testing.T) {
	look := func(codes []int) {
		sum := 0
		for _, n := range Runs(codes...) {
			if n < 1 {
				t.Errorf("%d numbers: a run of %d", len(codes), n)
			}
			sum += n
		}
		if sum != len(codes) {
			t.Errorf("%d numbers: %d in runs", len(codes), sum)
		}
	}
	codes := nearEnds(t)
	for cut := range len(codes) + 1 {
		look(codes[:cut])
		look(codes[cut:])
	}
	look(numbers())
	for _, l := range ofEachKind {
		look(l[:])
		look(slices.Repeat(l[:], 1000))
	}
}
