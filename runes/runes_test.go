package runes

import (
	"math"
	"slices"
	"strings"
	"testing"

	"parquetry/api"
)

// bytesOf writes a code point's bytes by the document's table of bits, beside the library's own.
func bytesOf(code int) string {
	switch {
	case code < 0x80:
		return string([]byte{byte(code)})
	case code < 0x800:
		return string([]byte{0xc0 | byte(code>>6), tail(code)})
	case code < 0x10000:
		return string([]byte{0xe0 | byte(code>>12), tail(code >> 6), tail(code)})
	}
	return string([]byte{0xf0 | byte(code>>18), tail(code >> 12), tail(code >> 6), tail(code)})
}

func tail(bits int) byte { return 0x80 | byte(bits&0x3f) }

func isPoint(code int) bool {
	return code >= 0 && code <= 0x10ffff && !(code >= 0xd800 && code <= 0xdfff)
}

// firstOf reads the first rune of a text that is not empty: of each possible size it tries the code point that the bits would be, and holds its bytes against those that stand there.
func firstOf(s string) (size, code int) {
	for size := 1; size <= 4 && size <= len(s); size++ {
		code := int(s[0]) & [5]int{0, 0x7f, 0x1f, 0x0f, 0x07}[size]
		for i := 1; i < size; i++ {
			code = code<<6 | int(s[i])&0x3f
		}
		if isPoint(code) && bytesOf(code) == s[:size] {
			return size, code
		}
	}
	return 1, 0xfffd
}

func splitOf(s string) (l []api.Rune, odd int) {
	for at := 0; at < len(s); {
		size, code := firstOf(s[at:])
		if size == 1 && code == 0xfffd {
			odd++
		}
		l = append(l, api.Rune{At: at, Size: size, Code: code})
		at += size
	}
	return l, odd
}

// edgeBytes are the ends of the spans in which UTF-8 treats bytes alike.
var edgeBytes = []byte{0x00, 'a', 0x7f, 0x80, 0x8f, 0x90, 0x9f, 0xa0, 0xbd, 0xbf, 0xc0, 0xc1, 0xc2, 0xdf, 0xe0, 0xe2, 0xed, 0xee, 0xef, 0xf0, 0xf1, 0xf4, 0xf5, 0xf8, 0xfe, 0xff}

// eachText calls look with the empty text, all texts of one and two bytes, and all of three and four out of edgeBytes.
func eachText(look func(s string)) {
	look("")
	for a := range 256 {
		look(string([]byte{byte(a)}))
		for b := range 256 {
			look(string([]byte{byte(a), byte(b)}))
		}
	}
	for _, a := range edgeBytes {
		for _, b := range edgeBytes {
			for _, c := range edgeBytes {
				look(string([]byte{a, b, c}))
				for _, d := range edgeBytes {
					look(string([]byte{a, b, c, d}))
				}
			}
		}
	}
}

// longTexts are longer ones, in which whole code points and odd bytes stand beside each other.
func longTexts() []string {
	return []string{
		"aé€\U0001f600",
		"\x00\x7f\u0080\u07ff\u0800\ud7ff\ue000\uffff\U00010000\U0010ffff",
		"a\u05d0\u05d1 \u0627\u0660\u200d\ufffdz",
		"\xffa\xc3é\xe2\x82€\xf0\x9f\x98\U0001f600\x80",
		"\xed\xa0\x80\xed\xbf\xbf\xee\x80\x80",
		"\xf4\x8f\xbf\xbf\xf4\x90\x80\x80\xf8\x88\x80\x80\x80",
		"\xef\xbf\xef\xbf\xbd\xef\xbd\xbf\xef",
		strings.Repeat("é\xff", 700),
	}
}

// P1.1
func TestSplitExamples(t *testing.T) {
	for _, x := range []struct {
		s    string
		want []api.Rune
	}{
		{"", nil},
		{"\x00", []api.Rune{{At: 0, Size: 1, Code: 0}}},
		{"aé", []api.Rune{{At: 0, Size: 1, Code: 0x61}, {At: 1, Size: 2, Code: 0xe9}}},
		{"€\U0001f600", []api.Rune{{At: 0, Size: 3, Code: 0x20ac}, {At: 3, Size: 4, Code: 0x1f600}}},
		{"\u007f\u0080", []api.Rune{{At: 0, Size: 1, Code: 0x7f}, {At: 1, Size: 2, Code: 0x80}}},
		{"\u07ff\u0800", []api.Rune{{At: 0, Size: 2, Code: 0x7ff}, {At: 2, Size: 3, Code: 0x800}}},
		{"\uffff\U00010000", []api.Rune{{At: 0, Size: 3, Code: 0xffff}, {At: 3, Size: 4, Code: 0x10000}}},
		{"\U0010ffff", []api.Rune{{At: 0, Size: 4, Code: 0x10ffff}}},
		{"\ufffd\xff", []api.Rune{{At: 0, Size: 3, Code: 0xfffd}, {At: 3, Size: 1, Code: 0xfffd}}},
		{"\xe2\x82a", []api.Rune{{At: 0, Size: 1, Code: 0xfffd}, {At: 1, Size: 1, Code: 0xfffd}, {At: 2, Size: 1, Code: 0x61}}},
	} {
		if l := Split(x.s); !slices.Equal(l, x.want) {
			t.Errorf("%x: %v, not %v", x.s, l, x.want)
		}
	}
}

// P1.1: odd bytes stand alone, each of them.
func TestSplitOddBytes(t *testing.T) {
	for _, s := range []string{
		"\x80", "\xbf", "\xff", "\xfe",
		"\xc3", "\xe2", "\xe2\x82", "\xf0", "\xf0\x9f", "\xf0\x9f\x98", "\xef\xbf",
		"\xc0\x80", "\xc1\xbf", "\xe0\x80\x80", "\xe0\x9f\xbf", "\xf0\x80\x80\x80", "\xf0\x8f\xbf\xbf",
		"\xed\xa0\x80", "\xed\xaf\xbf", "\xed\xb0\x80", "\xed\xbf\xbf",
		"\xf4\x90\x80\x80", "\xf7\xbf\xbf\xbf", "\xf8\x88\x80\x80\x80", "\xfc\x84\x80\x80\x80\x80",
	} {
		l := Split(s)
		if len(l) != len(s) {
			t.Errorf("%x: %v", s, l)
		}
		for k, r := range l {
			if r != (api.Rune{At: k, Size: 1, Code: 0xfffd}) {
				t.Errorf("%x: %v at %d", s, r, k)
			}
		}
	}
}

// P1.1, P1.3: Split and Valid, against the document's words.
func TestSplitAndValidOfAll(t *testing.T) {
	look := func(s string) {
		want, odd := splitOf(s)
		if l := Split(s); !slices.Equal(l, want) {
			t.Fatalf("Split %x: %v, not %v", s, l, want)
		}
		if Valid(s) != (odd == 0) {
			t.Fatalf("Valid %x: %v", s, Valid(s))
		}
	}
	eachText(look)
	for _, s := range longTexts() {
		look(s)
	}
}

// P1.2
func TestTextOfEachCodePoint(t *testing.T) {
	for code := range 0x110000 {
		want := "\ufffd"
		if isPoint(code) {
			want = bytesOf(code)
		}
		if s := Text(code); s != want {
			t.Fatalf("%x: %x, not %x", code, s, want)
		}
	}
}

// P1.2
func TestTextOfWrongNumbers(t *testing.T) {
	for _, code := range []int{
		-1, -0x61, -0xd800, math.MinInt32, math.MinInt, 0xd800, 0xdbff, 0xdc00, 0xdfff,
		0x110000, 0x1fffff, math.MaxInt32, math.MaxUint32, 1<<32 | 0x61, 1<<40 | 0x20ac, math.MinInt | 0x61, math.MaxInt,
	} {
		if s := Text(code); s != "\xef\xbf\xbd" {
			t.Errorf("%x: %x", code, s)
		}
		if s := Text(0x61, code, 0xe9); s != "a\xef\xbf\xbdé" {
			t.Errorf("%x within others: %x", code, s)
		}
	}
}

// P1.2
func TestTextOfRows(t *testing.T) {
	for _, x := range []struct {
		codes []int
		want  string
	}{
		{nil, ""},
		{[]int{}, ""},
		{[]int{0}, "\x00"},
		{[]int{0x61, 0xe9, 0x20ac, 0x1f600, 0x61}, "a\xc3\xa9\xe2\x82\xac\xf0\x9f\x98\x80a"},
		{[]int{0x7f, 0x80, 0x7ff, 0x800, 0xffff, 0x10000, 0x10ffff}, "\x7f\xc2\x80\xdf\xbf\xe0\xa0\x80\xef\xbf\xbf\xf0\x90\x80\x80\xf4\x8f\xbf\xbf"},
		{[]int{0xd7ff, 0xd800, 0xdfff, 0xe000}, "\xed\x9f\xbf\xef\xbf\xbd\xef\xbf\xbd\xee\x80\x80"},
		{[]int{0xd83d, 0xde00}, "\xef\xbf\xbd\xef\xbf\xbd"},
	} {
		if s := Text(x.codes...); s != x.want {
			t.Errorf("%x: %x, not %x", x.codes, s, x.want)
		}
	}
}

// P1.3
func TestPlaceExamples(t *testing.T) {
	for _, x := range []struct {
		s     string
		at, k int
		ok    bool
	}{
		{"aéb", 0, 0, true}, {"aéb", 1, 1, true}, {"aéb", 3, 2, true},
		{"aéb", 2, 0, false}, {"aéb", 4, 0, false}, {"aéb", 5, 0, false}, {"aéb", -1, 0, false},
		{"aéb", math.MinInt, 0, false}, {"aéb", math.MaxInt, 0, false},
		{"a", 1, 0, false}, {"", 0, 0, false}, {"", -1, 0, false}, {"", 1, 0, false},
		{"\xe2\x82a", 1, 1, true}, {"\xe2\x82a", 2, 2, true}, {"\xe2\x82\xaca", 1, 0, false}, {"\xe2\x82\xaca", 3, 1, true},
		{"\U0001f600a", 3, 0, false}, {"\U0001f600a", 4, 1, true},
	} {
		if k, ok := Place(x.s, x.at); k != x.k || ok != x.ok {
			t.Errorf("%x, %d: %d, %v", x.s, x.at, k, ok)
		}
	}
}

// P1.3: each number around a text is the At of a rune, or of none.
func TestPlaceOfAll(t *testing.T) {
	look := func(s string) {
		l, _ := splitOf(s)
		for at := -2; at <= len(s)+2; at++ {
			want := slices.IndexFunc(l, func(r api.Rune) bool { return r.At == at })
			k, ok := Place(s, at)
			if ok != (want >= 0) || k != max(want, 0) {
				t.Fatalf("%x, %d: %d, %v", s, at, k, ok)
			}
		}
	}
	eachText(look)
	for _, s := range longTexts() {
		look(s)
	}
}

// P1.3
func TestValidExamples(t *testing.T) {
	for s, want := range map[string]bool{
		"": true, "a": true, "aé€\U0001f600": true, "\xef\xbf\xbd": true, "\x00": true, "\xf4\x8f\xbf\xbf": true,
		"\xc0\x80": false, "\xef\xbf": false, "a\xff": false, "\x80a": false, "\ufffd\xff\ufffd": false,
		"\xed\xa0\x80": false, "\xed\xbf\xbf": false, "\xf4\x90\x80\x80": false, "é\xc3": false,
	} {
		if Valid(s) != want {
			t.Errorf("%x: %v", s, Valid(s))
		}
	}
}

// P1.4
func TestCodesStay(t *testing.T) {
	all := []int{-1, 0x61, 0xd800, 1 << 40, 0x62, 0x63}
	kept := slices.Clone(all)
	if s := Text(all[:4]...); s != "\ufffda\ufffd\ufffd" {
		t.Errorf("%x", s)
	}
	if !slices.Equal(all, kept) {
		t.Errorf("%v, not %v", all, kept)
	}
}

// P1.4
func TestAnswersAreNew(t *testing.T) {
	s := "aé\xff€"
	first := Split(s)
	want := slices.Clone(first)
	for k := range first {
		first[k] = api.Rune{At: -1, Size: -1, Code: -1}
	}
	_ = append(first, api.Rune{At: 9})
	if second := Split(s); !slices.Equal(second, want) || s != "aé\xff€" {
		t.Errorf("%v, not %v", second, want)
	}
	codes := []int{0x61, 0x62}
	text := Text(codes...)
	codes[0] = 0x63
	if text != "ab" {
		t.Errorf("%q", text)
	}
}

// P1.5
func TestWhole(t *testing.T) {
	look := func(s string) {
		end := 0
		for _, r := range Split(s) {
			if r.At != end || r.Size < 1 || r.Size > 4 {
				t.Fatalf("%x: %v behind %d", s, r, end)
			}
			end += r.Size
		}
		if end != len(s) {
			t.Fatalf("%x: ends at %d", s, end)
		}
	}
	eachText(look)
	for _, s := range longTexts() {
		look(s)
	}
}

func codesOf(l []api.Rune) []int {
	var codes []int
	for _, r := range l {
		codes = append(codes, r.Code)
	}
	return codes
}

// P1.6: from code points to a text, and back.
func TestThereAndBack(t *testing.T) {
	var codes []int
	for code := range 0x110000 {
		if isPoint(code) {
			codes = append(codes, code)
		}
	}
	for part := range slices.Chunk(codes, 1000) {
		s := Text(part...)
		if !Valid(s) || !slices.Equal(codesOf(Split(s)), part) {
			t.Fatalf("from %x on", part[0])
		}
	}
	if s := Text(-1, 0xdfff, 0x110000); !Valid(s) {
		t.Errorf("%x", s)
	}
}

// P1.6: from a valid text to code points, and back; of one that is not valid each odd byte comes back as FFFD.
func TestBackAndThere(t *testing.T) {
	look := func(s string) {
		back := Text(codesOf(Split(s))...)
		if (back == s) != Valid(s) || !Valid(back) {
			t.Fatalf("%x: %x", s, back)
		}
	}
	eachText(look)
	for _, s := range longTexts() {
		look(s)
	}
}

// P1.7
func TestCutBetween(t *testing.T) {
	look := func(s string) {
		l := Split(s)
		for k, cut := range l {
			behind := Split(s[cut.At:])
			for i := range behind {
				behind[i].At += cut.At
			}
			if !slices.Equal(Split(s[:cut.At]), l[:k]) || !slices.Equal(behind, l[k:]) {
				t.Fatalf("%x, cut at %d", s, cut.At)
			}
		}
	}
	eachText(look)
	for _, s := range longTexts() {
		look(s)
	}
}
