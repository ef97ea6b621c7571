package cols

import (
	"math"
	"slices"
	"strconv"
	"strings"
	"testing"
)

// The document's spans, in its own words.
const (
	narrowSpans = "0-1F, 7F-9F, AD, 300-36F, 483-489, 591-5BD, 5BF, 5C1-5C2, 5C4-5C5, 5C7, 600-605, 610-61A, 61C, 64B-65F, 670, 6D6-6DD, 6DF-6E4, 6E7-6E8, 6EA-6ED, 8E2, 93A, 93C, 941-948, 94D, E31, E34-E3A, E47-E4E, 1160-11FF, 1AB0-1ACE, 1DC0-1DFF, 200B-200F, 2028-202E, 2060-206F, 20D0-20F0, 302A-302D, 3099-309A, A66F-A672, D7B0-D7FB, FB1E, FE00-FE0F, FE20-FE2F, FEFF, FFF9-FFFB, E0001-E007F, E0100-E01EF"
	wideSpans   = "1100-115F, 231A-231B, 23E9-23EC, 23F0, 23F3, 25FD-25FE, 2614-2615, 2648-2653, 267F, 2693, 26A1, 26AA-26AB, 26BD-26BE, 26C4-26C5, 26CE, 26D4, 26EA, 26F2-26F3, 26F5, 26FA, 26FD, 2705, 270A-270B, 2728, 274C, 274E, 2753-2755, 2757, 2795-2797, 27B0, 27BF, 2B1B-2B1C, 2B50, 2B55, 2E80-2E99, 2E9B-2EF3, 2F00-2FD5, 2FF0-3029, 302E-303E, 3041-3096, 309B-30FF, 3105-312F, 3131-318E, 3190-31E3, 31F0-321E, 3220-3247, 3250-4DBF, 4E00-A48C, A490-A4C6, A960-A97C, AC00-D7A3, F900-FAFF, FE10-FE19, FE30-FE52, FE54-FE66, FE68-FE6B, FF01-FF60, FFE0-FFE6, 1F004, 1F0CF, 1F18E, 1F191-1F19A, 1F1E6-1F202, 1F300-1F320, 1F32D-1F335, 1F337-1F37C, 1F37E-1F393, 1F3A0-1F3CA, 1F3CF-1F3D3, 1F3E0-1F3F0, 1F3F4, 1F3F8-1F43E, 1F440, 1F442-1F4FC, 1F4FF-1F53D, 1F54B-1F54E, 1F550-1F567, 1F57A, 1F595-1F596, 1F5A4, 1F5FB-1F64F, 1F680-1F6C5, 1F6CC, 1F6D0-1F6D2, 1F6EB-1F6EC, 1F6F4-1F6FC, 1F90C-1F93A, 1F93C-1F945, 1F947-1F9FF, 1FA70-1FAFF, 20000-2FFFD, 30000-3FFFD"
)

const lastCode = 0x10ffff

// wrong are numbers that are no code points; some are of a span, if bits of them are lost.
var wrong = []int{
	-1, -2, -0x301, -0x4e00, -0x20000, lastCode + 1, lastCode + 2, 0x110301, 0x114e00, 0x200000, 0x20000a,
	1<<16 | 0x110000, 1<<32 | 0x301, 1<<32 | 0x4e00, 1<<32 | 0xa, 1<<40 | 0x1100, -1<<32 | 0x301, -1<<32 | 0x4e00, -1 << 32, 1 << 32,
	math.MinInt32, math.MaxInt32, math.MaxInt32 + 1, math.MaxUint32, math.MinInt, math.MinInt + 0xa, math.MinInt | 0x4e00, math.MaxInt, math.MaxInt - 1,
}

// eachSpan calls look with each span of the document, and how many slots its numbers take.
func eachSpan(t *testing.T, look func(first, last, slots int)) {
	t.Helper()
	number := func(s string) int {
		n, err := strconv.ParseInt(s, 16, 32)
		if err != nil {
			t.Fatal(err)
		}
		return int(n)
	}
	for _, row := range []struct {
		slots int
		codes string
	}{{0, narrowSpans}, {2, wideSpans}} {
		for _, item := range strings.Split(row.codes, ", ") {
			first, last, both := strings.Cut(item, "-")
			if !both {
				last = first
			}
			look(number(first), number(last), row.slots)
		}
	}
}

// docSlots answers a function that tells by the document's spans how many slots a number takes; they must name none of the numbers twice.
func docSlots(t *testing.T) func(code int) int {
	t.Helper()
	spanned := map[int]int{}
	eachSpan(t, func(first, last, slots int) {
		for code := first; code <= last; code++ {
			if _, twice := spanned[code]; twice {
				t.Fatalf("%x stands twice in the document", code)
			}
			spanned[code] = slots
		}
	})
	return func(code int) int {
		if slots, ok := spanned[code]; ok {
			return slots
		}
		return 1
	}
}

// numbers answers all code points, the numbers around them, and wrong ones.
func numbers() []int {
	var codes []int
	for code := -0x400; code <= lastCode+0x400; code++ {
		codes = append(codes, code)
	}
	return append(codes, wrong...)
}

// nearEnds answers both ends of each span with the numbers beside them, and wrong numbers: all three widths, in turns.
func nearEnds(t *testing.T) []int {
	t.Helper()
	var codes []int
	eachSpan(t, func(first, last, _ int) {
		codes = append(codes, first-1, first, last, last+1)
	})
	return append(codes, wrong...)
}

// P4.1
func TestOfExamples(t *testing.T) {
	for code, want := range map[int]int{
		0x41: 1, 0x4e00: 2, 0x301: 0, 0xa: 0, -1: 1,
		0x3029: 2, 0x302a: 0, 0x302d: 0, 0x302e: 2,
		0: 0, 0x1f: 0, 0x20: 1, 0x7e: 1, 0x7f: 0, 0x9f: 0, 0xa0: 1, 0xac: 1, 0xad: 0, 0xae: 1, 0x2ff: 1, 0x300: 0, 0x36f: 0, 0x370: 1,
		0x5bd: 0, 0x5be: 1, 0x5bf: 0, 0x5c0: 1, 0x5c7: 0, 0x5d0: 1, 0x605: 0, 0x606: 1, 0x61b: 1, 0x61c: 0, 0x61d: 1, 0x627: 1, 0x660: 1, 0x6dd: 0, 0x6de: 1,
		0x10ff: 1, 0x1100: 2, 0x115f: 2, 0x1160: 0, 0x11ff: 0, 0x1200: 1, 0x200a: 1, 0x200b: 0, 0x200f: 0, 0x2010: 1, 0x2028: 0, 0x2066: 0, 0x2070: 1,
		0x231a: 2, 0x231c: 1, 0x2e99: 2, 0x2e9a: 1, 0x2e9b: 2, 0x3000: 2, 0x303e: 2, 0x303f: 1, 0x3040: 1, 0x3041: 2, 0x3096: 2, 0x3097: 1, 0x3099: 0, 0x309b: 2,
		0x4dbf: 2, 0x4dc0: 1, 0x4dff: 1, 0xa48c: 2, 0xa48d: 1, 0xac00: 2, 0xd7a3: 2, 0xd7a4: 1, 0xd7b0: 0, 0xd7fb: 0, 0xd7fc: 1,
		0xfdff: 1, 0xfe00: 0, 0xfe0f: 0, 0xfe10: 2, 0xfe19: 2, 0xfe1a: 1, 0xfe20: 0, 0xfe2f: 0, 0xfe30: 2, 0xfe52: 2, 0xfe53: 1, 0xfe54: 2, 0xfefe: 1, 0xfeff: 0, 0xff00: 1,
		0xff01: 2, 0xff60: 2, 0xff61: 1, 0xfff9: 0, 0xfffd: 1, 0x1f1e5: 1, 0x1f1e6: 2, 0x1f1ff: 2, 0x1f600: 2, 0x1faff: 2, 0x1fb00: 1,
		0x1ffff: 1, 0x20000: 2, 0x2fffd: 2, 0x2fffe: 1, 0x2ffff: 1, 0x30000: 2, 0x3fffd: 2, 0x3fffe: 1, 0xe0000: 1, 0xe0001: 0, 0xe007f: 0, 0xe0080: 1, 0xe0100: 0, 0xe01ef: 0, 0xe01f0: 1,
		0x10ffff: 1, 0x110000: 1,
	} {
		if slots := Of(code); slots != want {
			t.Errorf("%x: %d, not %d", code, slots, want)
		}
	}
}

// P4.1: both ends of each span, and the numbers beside them, which may be of a span of the other width.
func TestOfSpanEnds(t *testing.T) {
	want := docSlots(t)
	spans := 0
	eachSpan(t, func(first, last, slots int) {
		spans++
		if Of(first) != slots || Of(last) != slots || Of(first+(last-first)/2) != slots {
			t.Errorf("%x-%x: %d, %d, not %d", first, last, Of(first), Of(last), slots)
		}
		if Of(first-1) == slots || Of(last+1) == slots {
			t.Errorf("beside %x-%x: %d, %d", first, last, Of(first-1), Of(last+1))
		}
		if Of(first-1) != want(first-1) || Of(last+1) != want(last+1) {
			t.Errorf("beside %x-%x: %d, %d, not %d, %d", first, last, Of(first-1), Of(last+1), want(first-1), want(last+1))
		}
	})
	if spans != 45+92 {
		t.Errorf("%d spans", spans)
	}
}

// P4.1, P4.2: each code point, the numbers around them, and wrong ones; alone, and all in one row.
func TestEachNumber(t *testing.T) {
	want := docSlots(t)
	codes := numbers()
	all := All(codes...)
	if len(all) != len(codes) {
		t.Fatalf("%d of %d numbers", len(all), len(codes))
	}
	sum := 0
	for at, code := range codes {
		slots := want(code)
		sum += slots
		if Of(code) != slots || all[at] != slots {
			t.Errorf("%x: Of %d, All %d, not %d", code, Of(code), all[at], slots)
		}
		if Sum(code) != slots {
			t.Errorf("%x: Sum %d, not %d", code, Sum(code), slots)
		}
	}
	if got := Sum(codes...); got != sum {
		t.Errorf("together %d, not %d", got, sum)
	}
}

// P4.2
func TestAllAndSum(t *testing.T) {
	for _, x := range []struct {
		codes, want []int
		sum         int
	}{
		{nil, nil, 0},
		{[]int{}, nil, 0},
		{[]int{0x41}, []int{1}, 1},
		{[]int{0x301}, []int{0}, 0},
		{[]int{0x4e00}, []int{2}, 2},
		{[]int{-1}, []int{1}, 1},
		{[]int{0x41, 0x4e00, 0x301}, []int{1, 2, 0}, 3},
		{[]int{0x301, 0x4e00, 0x41}, []int{0, 2, 1}, 3},
		{[]int{0x4e00, 0x4e00, 0x4e00}, []int{2, 2, 2}, 6},
		{[]int{0xa, 0xd, 0x200d, 0xfe0f}, []int{0, 0, 0, 0}, 0},
		{[]int{0x1f1e6, 0x1f1ff, 0x20, 0x5d0, 0x5b0, 0x1100, 0x1161, 0x11a8}, []int{2, 2, 1, 1, 0, 2, 0, 0}, 8},
		{[]int{-1, 0x110000, 0xd800, 0xdfff, math.MaxInt, math.MinInt, 1<<32 | 0x4e00}, []int{1, 1, 1, 1, 1, 1, 1}, 7},
	} {
		if l := All(x.codes...); !slices.Equal(l, x.want) {
			t.Errorf("All %x: %v, not %v", x.codes, l, x.want)
		}
		if sum := Sum(x.codes...); sum != x.sum {
			t.Errorf("Sum %x: %d, not %d", x.codes, sum, x.sum)
		}
	}
}

// P4.2: in order, also of a long row; each number counts, however often it comes.
func TestLongRow(t *testing.T) {
	part, slots := []int{0x41, 0x4e00, 0x301, -1, 0x1f600, 0xad, 0x110000}, []int{1, 2, 0, 1, 2, 0, 1}
	for _, times := range []int{1, 2, 100, 20000} {
		codes := slices.Repeat(part, times)
		if l := All(codes...); !slices.Equal(l, slices.Repeat(slots, times)) {
			t.Errorf("%d times: %d numbers' slots are wrong", times, len(codes))
		}
		if sum := Sum(codes...); sum != 7*times {
			t.Errorf("%d times: %d, not %d", times, sum, 7*times)
		}
	}
}

// P4.3: also what lies behind the row's end.
func TestWhatIsHandedInStays(t *testing.T) {
	codes := append(nearEnds(t), 0x41, 0x4e00, 0x301)
	kept := slices.Clone(codes)
	for _, n := range []int{0, 1, 2, len(codes) - 3, len(codes)} {
		first, second := All(codes[:n]...), All(codes[:n]...)
		if !slices.Equal(first, second) || len(first) != n {
			t.Errorf("the same %d numbers twice: %v, %v", n, first, second)
		}
		if one, two := Sum(codes[:n]...), Sum(codes[:n]...); one != two {
			t.Errorf("the same %d numbers twice: %d, %d", n, one, two)
		}
		if !slices.Equal(codes, kept) {
			t.Fatalf("%d numbers: what was handed in has changed", n)
		}
	}
}

// P4.3: who writes into an answer, or into the row, changes no other answer.
func TestAnswersAreNew(t *testing.T) {
	codes := []int{0x41, 0x4e00, 0x301, 0x302a, 0x302e, -1}
	kept := slices.Clone(codes)
	want := []int{1, 2, 0, 0, 2, 1}
	first, second := All(codes...), All(codes...)
	spoil(first)
	if !slices.Equal(second, want) || !slices.Equal(codes, kept) {
		t.Errorf("%v of %x", second, codes)
	}
	if third := All(codes...); !slices.Equal(third, want) {
		t.Errorf("%v, not %v", third, want)
	}
	if sum := Sum(codes...); sum != 6 {
		t.Errorf("%d, not 6", sum)
	}
	spoil(codes)
	if !slices.Equal(second, want) {
		t.Errorf("%v, not %v", second, want)
	}
	for at, code := range kept {
		if slots := Of(code); slots != want[at] {
			t.Errorf("%x: %d, not %d", code, slots, want[at])
		}
	}
}

// spoil writes into all of a list, and behind its end.
func spoil(l []int) {
	for k := range cap(l) {
		l[:cap(l)][k] = -9
	}
}

// P4.4: each is 0, 1 or 2, and no row takes less than nothing, or more than two slots a number.
func TestBounds(t *testing.T) {
	codes := numbers()
	seen := [3]int{}
	for at, slots := range All(codes...) {
		if slots < 0 || slots > 2 {
			t.Fatalf("%x: %d", codes[at], slots)
		}
		seen[slots]++
	}
	if seen[0] == 0 || seen[1] == 0 || seen[2] == 0 {
		t.Errorf("%v", seen)
	}
	if sum := Sum(codes...); sum != seen[1]+2*seen[2] {
		t.Errorf("%d, not %d", sum, seen[1]+2*seen[2])
	}
}

// P4.4: a row that is cut in two at each place has the slots of both parts.
func TestCutInTwo(t *testing.T) {
	for _, codes := range [][]int{nil, {0x4e00}, {0x41, 0x4e00, 0x301}, {-1, 0x301, 0x110000, 0x4e00}, nearEnds(t)} {
		all, sum := All(codes...), Sum(codes...)
		for cut := range len(codes) + 1 {
			if first, rest := Sum(codes[:cut]...), Sum(codes[cut:]...); first+rest != sum {
				t.Errorf("cut at %d of %d: %d and %d, not %d", cut, len(codes), first, rest, sum)
			}
			if l := append(All(codes[:cut]...), All(codes[cut:]...)...); !slices.Equal(l, all) {
				t.Errorf("cut at %d of %d: %v, not %v", cut, len(codes), l, all)
			}
		}
		for at, code := range codes {
			if Sum(codes[at:]...) != Of(code)+Sum(codes[at+1:]...) {
				t.Errorf("at %d of %d: %x is %d", at, len(codes), code, Of(code))
			}
		}
	}
}

// P4.5
func TestSteps(t *testing.T) {
	for code := 0x20; code <= 0x7e; code++ {
		if slots := Of(code); slots != 1 {
			t.Errorf("%x: %d", code, slots)
		}
	}
	for code := range 0x20 {
		if Of(code) != 0 || Of(code+0x80) != 0 {
			t.Errorf("%x: %d; %x: %d", code, Of(code), code+0x80, Of(code+0x80))
		}
	}
	if slots := Of(0x7f); slots != 0 {
		t.Errorf("7f: %d", slots)
	}
	for code := 0xd800; code <= 0xdfff; code++ {
		if slots := Of(code); slots != 1 {
			t.Errorf("%x: %d", code, slots)
		}
	}
	for _, code := range wrong {
		if slots := Of(code); slots != 1 {
			t.Errorf("%x: %d", code, slots)
		}
	}
	for far := 1; far > 0; far *= 2 {
		if Of(-far) != 1 || Of(lastCode+far) != 1 || Of(math.MinInt+far) != 1 || Of(math.MaxInt-far) != 1 {
			t.Errorf("%x from the bounds: %d, %d", far, Of(-far), Of(lastCode+far))
		}
	}
	var text []int
	for code := range 0x80 {
		text = append(text, code)
	}
	if sum := Sum(text...); sum != 0x7f-0x20 {
		t.Errorf("ASCII takes %d", sum)
	}
}
