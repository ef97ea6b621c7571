package base

import (
	"math"
	"slices"
	"strings"
	"testing"

	"parquetry/api"
	"parquetry/class"
	"parquetry/runes"
)

// The classes that tests write by name.
const (
	clL   = api.BidiL
	clR   = api.BidiR
	clAL  = api.BidiAL
	clEN  = api.BidiEN
	clON  = api.BidiON
	clLRI = api.BidiLRI
	clRLI = api.BidiRLI
	clFSI = api.BidiFSI
	clPDI = api.BidiPDI
)

// nones are numbers that are no class's, some of which would be one's if bits of theirs were lost.
var nones = []int{
	-1, -2, clPDI + 1, 99, math.MaxInt, math.MinInt, math.MaxInt32, math.MinInt32,
	1<<8 | clR, 1<<16 | clL, 1<<32 | clR, 1<<32 | clFSI, 1<<8 | clPDI, 1<<32 | clPDI, math.MinInt | clAL, math.MinInt | clPDI, -clR, -clAL, -clRLI, -clPDI,
}

var initiators = []int{clLRI, clRLI, clFSI}

// docEnds are the code points of the class B, as the table of layer 2 has them.
var docEnds = []int{0xa, 0xd, 0x1c, 0x1d, 0x1e, 0x85, 0x2029}

// eachRow calls look with all rows of up to so many of the items.
func eachRow(most int, items []int, look func(row []int)) {
	var grow func(ahead []int)
	grow = func(ahead []int) {
		look(ahead)
		if len(ahead) < most {
			for _, item := range items {
				grow(append(slices.Clip(ahead), item))
			}
		}
	}
	grow(nil)
}

// coded answers runes with these codes, one behind the other.
func coded(codes ...int) []api.Rune {
	var l []api.Rune
	for at, code := range codes {
		l = append(l, api.Rune{At: at, Size: 1, Code: code})
	}
	return l
}

// row answers the classes of rows, one behind the other.
func row(parts ...[]int) []int {
	return slices.Concat(parts...)
}

// named answers the classes of a text of names.
func named(t *testing.T, text string) []int {
	t.Helper()
	classes, ok := class.Read(text)
	if !ok {
		t.Fatalf("%q: no names of classes", text)
	}
	return classes
}

// docParagraphs answers the paragraphs' ends by the chapter's words.
func docParagraphs(l []api.Rune) []int {
	var ends []int
	for at := 1; at <= len(l); at++ {
		behindB := slices.Contains(docEnds, l[at-1].Code)
		between := at < len(l) && l[at-1].Code == 0xd && l[at].Code == 0xa
		if at == len(l) || behindB && !between {
			ends = append(ends, at)
		}
	}
	return ends
}

func initiates(c int) bool {
	return slices.Contains(initiators, c)
}

// docPDI answers by the chapter's words the place of an initiator's PDI, or how many classes there are.
func docPDI(classes []int, initiator int) int {
	for at := initiator + 1; at < len(classes); at++ {
		if classes[at] == clPDI && levelled(classes[initiator+1:at]) {
			return at
		}
	}
	return len(classes)
}

// levelled answers whether as many PDIs as initiators stand there.
func levelled(classes []int) bool {
	initiators, pdis := 0, 0
	for _, c := range classes {
		if initiates(c) {
			initiators++
		}
		if c == clPDI {
			pdis++
		}
	}
	return initiators == pdis
}

// docMatch answers the matches by the chapter's words.
func docMatch(classes []int) []int {
	matches := slices.Repeat([]int{-1}, len(classes))
	for at, c := range classes {
		if initiates(c) {
			matches[at] = docPDI(classes, at)
			if matches[at] < len(classes) {
				matches[matches[at]] = at
			}
		}
	}
	return matches
}

// docInIsolate answers by the chapter's words whether a place stands in an isolate.
func docInIsolate(classes []int, place int) bool {
	for at, c := range classes[:place] {
		if initiates(c) && place < docPDI(classes, at) {
			return true
		}
	}
	return false
}

// docLevel answers the level by the chapter's words, and whether a letter stands in no isolate.
func docLevel(classes []int) (int, bool) {
	for at, c := range classes {
		letter := c == clL || c == clR || c == clAL
		if letter && !docInIsolate(classes, at) {
			if c == clL {
				return 0, true
			}
			return 1, true
		}
	}
	return 0, false
}

// itself answers whether each initiator and each PDI of a stretch has its own there.
func itself(stretch []int) bool {
	matches := docMatch(stretch)
	for at, c := range stretch {
		if initiates(c) && matches[at] == len(stretch) || c == clPDI && matches[at] == -1 {
			return false
		}
	}
	return true
}

func areParagraphs(t *testing.T, l []api.Rune, want ...int) {
	t.Helper()
	if ends := Paragraphs(l); !slices.Equal(ends, want) {
		t.Errorf("%.80x: %v, not %v", l, ends, want)
	}
}

func isMatched(t *testing.T, classes []int, want ...int) {
	t.Helper()
	if matches := Match(classes); !slices.Equal(matches, want) {
		t.Errorf("%v: %v, not %v", classes, matches, want)
	}
}

func hasLevel(t *testing.T, classes []int, level int, found bool) {
	t.Helper()
	if l, ok := Level(classes); l != level || ok != found {
		t.Errorf("%v: %d, %v, not %d, %v", classes, l, ok, level, found)
	}
}

// P10.1 to P10.3: the chapter's examples.
func TestExamples(t *testing.T) {
	areParagraphs(t, runes.Split("a\r\nb\u2029c"), 3, 5, 6)
	isMatched(t, named(t, "RLI L LRI PDI PDI PDI"), 4, -1, 3, 2, 0, -1)
	isMatched(t, named(t, "FSI L"), 2, -1)
	hasLevel(t, named(t, "ON RLI R PDI L"), 0, true)
	hasLevel(t, named(t, "EN AL"), 1, true)
	hasLevel(t, named(t, "RLI R"), 0, false)
	hasLevel(t, nil, 0, false)
}

// P10.1
func TestParagraphs(t *testing.T) {
	for _, x := range []struct {
		text string
		want []int
	}{
		{"", nil}, {"a", []int{1}}, {"abc", []int{3}}, {"a b\u05d0", []int{4}},
		// At the beginning, at the end, side by side.
		{"\n", []int{1}}, {"\na", []int{1, 2}}, {"a\n", []int{2}}, {"a\nb", []int{2, 3}}, {"\n\n", []int{1, 2}}, {"\n\n\n", []int{1, 2, 3}}, {"a\n\n\nb", []int{2, 3, 4, 5}}, {"\u2029\x1c\x1d\x1e\u0085", []int{1, 2, 3, 4, 5}}, {"ab\u2029cd\u0085", []int{3, 6}},
		// A D alone, at the end, ahead of another sign; an A without a D.
		{"\r", []int{1}}, {"a\r", []int{2}}, {"\ra", []int{1, 2}}, {"a\rb", []int{2, 3}}, {"\r\r", []int{1, 2}}, {"\r\u2029", []int{1, 2}}, {"\ra\n", []int{1, 3}}, {"\n\r", []int{1, 2}}, {"\n\ra", []int{1, 2, 3}}, {"\u2029\n", []int{1, 2}}, {"\x1c\n", []int{1, 2}},
		// A D right ahead of an A.
		{"\r\n", []int{2}}, {"\r\na", []int{2, 3}}, {"a\r\n", []int{3}}, {"a\r\nb", []int{3, 4}}, {"\r\n\r\n", []int{2, 4}}, {"\r\r\n", []int{1, 3}}, {"\r\n\n", []int{2, 3}}, {"\r\n\r", []int{2, 3}}, {"\n\r\n", []int{1, 3}}, {"a\r\r\nb", []int{2, 4, 5}}, {"a\r\n\nb", []int{3, 4, 5}}, {"\r\r\n\n", []int{1, 3, 4}},
		// What only looks alike: no code of the class B; odd bytes.
		{"\t\x0b\x0c\x1f\u2028", []int{5}}, {"a\u2028b c", []int{5}}, {"\xff\x85\n\xff", []int{3, 4}}, {`\r\n`, []int{4}},
		// A row of more bytes than runes.
		{"\u05d0\u4e00\n\U0001f600", []int{3, 4}},
	} {
		areParagraphs(t, runes.Split(x.text), x.want...)
	}
	areParagraphs(t, nil)
	areParagraphs(t, []api.Rune{})
}

// P10.1: each rune of the class B ends a paragraph, and no other one.
func TestEachEnd(t *testing.T) {
	for _, code := range docEnds {
		areParagraphs(t, coded(code), 1)
		areParagraphs(t, coded(code, 'b'), 1, 2)
		areParagraphs(t, coded('a', code), 2)
		areParagraphs(t, coded('a', code, 'b'), 2, 3)
		areParagraphs(t, coded('a', code, code, 'b'), 2, 3, 4)
	}
	var codes, want []int
	for code := range 0x110000 {
		codes = append(codes, code, 'a')
		if slices.Contains(docEnds, code) {
			want = append(want, 2*code+1)
		}
	}
	if ends := Paragraphs(coded(codes...)); !slices.Equal(ends, append(want, len(codes))) {
		t.Errorf("%.80v, not %v and %d", ends, want, len(codes))
	}
	for _, code := range []int{-1, -0xa, -0xd, 1<<8 | 0xa, 1<<16 | 0xd, 1<<32 | 0xa, 1<<32 | 0x2029, math.MinInt | 0xa, math.MaxInt, math.MinInt, 0x110000} {
		areParagraphs(t, coded('a', code, 'b'), 3)
		// Neither does it count as one of the two that stand together.
		areParagraphs(t, coded(0xd, code), 1, 2)
		areParagraphs(t, coded(code, 0xa), 2)
		areParagraphs(t, coded(code, 0xa, 'b'), 2, 3)
	}
}

// P10.1: runes count, in their row: their places and sizes do not.
func TestParagraphsOfAnyRunes(t *testing.T) {
	for _, x := range []struct{ at, size int }{{0, 0}, {7, 3}, {-1, -1}, {math.MaxInt, math.MaxInt}, {math.MinInt, math.MinInt}} {
		rune := func(code int) api.Rune { return api.Rune{At: x.at, Size: x.size, Code: code} }
		areParagraphs(t, []api.Rune{rune('a'), rune(0xd), rune(0xa), rune('b'), rune(0xa), rune(0xd)}, 3, 5, 6)
	}
	areParagraphs(t, []api.Rune{{At: 9, Size: 1, Code: 0xd}, {At: 0, Size: 1, Code: 0xa}}, 2)
}

// P10.1, P10.7: all small rows.
func TestSmallTexts(t *testing.T) {
	eachRow(6, []int{'a', 0xd, 0xa, 0x2029, 0x1f}, func(codes []int) {
		l := coded(codes...)
		ends := Paragraphs(l)
		if want := docParagraphs(l); !slices.Equal(ends, want) {
			t.Errorf("%x: %v, not %v", codes, ends, want)
		}
		rises(t, l, ends)
	})
}

// rises holds ends against what is told of all: they rise, and the last one stands behind the last rune.
func rises(t *testing.T, l []api.Rune, ends []int) {
	t.Helper()
	if len(ends) == 0 != (len(l) == 0) || len(ends) > 0 && ends[len(ends)-1] != len(l) {
		t.Errorf("%x: %v", l, ends)
	}
	ahead := 0
	for _, end := range ends {
		if end <= ahead {
			t.Errorf("%x: %v does not rise", l, ends)
		}
		ahead = end
	}
}

// shifted answers the ends with so many runes more ahead of them.
func shifted(ends []int, by int) []int {
	var l []int
	for _, end := range ends {
		l = append(l, end+by)
	}
	return l
}

// P10.7: with an end ahead of it a text has one paragraph more, and those that it has by itself.
func TestEndAhead(t *testing.T) {
	eachRow(4, []int{'a', 0xd, 0xa, 0x2029}, func(codes []int) {
		for _, end := range [][]int{{0xa}, {0xd}, {0xd, 0xa}, {0x1c}, {0x1d}, {0x1e}, {0x85}, {0x2029}, {'b', 0xa}, {'b', 0xd}, {'b', 'c', 0xd, 0xa}, {0x2028, 0x2029}} {
			// A D right ahead of an A ends no paragraph.
			if end[len(end)-1] == 0xd && len(codes) > 0 && codes[0] == 0xa {
				continue
			}
			by := Paragraphs(coded(codes...))
			areParagraphs(t, coded(row(end, codes)...), append([]int{len(end)}, shifted(by, len(end))...)...)
		}
	})
	// Likewise where the text ahead has paragraphs itself: the two have theirs, one behind the other.
	eachRow(3, []int{'a', 0xd, 0xa, 0x2029}, func(ahead []int) {
		if len(ahead) == 0 || !slices.Contains(docEnds, ahead[len(ahead)-1]) {
			return
		}
		eachRow(3, []int{'a', 0xd, 0xa, 0x2029}, func(behind []int) {
			if ahead[len(ahead)-1] == 0xd && len(behind) > 0 && behind[0] == 0xa {
				return
			}
			areParagraphs(t, coded(row(ahead, behind)...), row(Paragraphs(coded(ahead...)), shifted(Paragraphs(coded(behind...)), len(ahead)))...)
		})
	})
}

// P10.2
func TestMatch(t *testing.T) {
	isMatched(t, nil)
	isMatched(t, []int{})
	isMatched(t, []int{clPDI}, -1)
	isMatched(t, []int{clPDI, clL, clPDI}, -1, -1, -1)
	for _, one := range initiators {
		isMatched(t, []int{one}, 1)
		isMatched(t, []int{one, clL}, 2, -1)
		isMatched(t, []int{clL, one}, -1, 2)
		isMatched(t, []int{one, clPDI}, 1, 0)
		isMatched(t, []int{clL, one, clR, clPDI, clL}, -1, 3, -1, 1, -1)
		isMatched(t, []int{clPDI, one}, -1, 2)
		isMatched(t, []int{clPDI, one, clPDI, clPDI}, -1, 2, 1, -1)
		for _, two := range initiators {
			// One in another, side by side, both.
			isMatched(t, []int{one, two, clPDI, clPDI}, 3, 2, 1, 0)
			isMatched(t, []int{one, clL, two, clL, clPDI, clL, clPDI}, 6, -1, 4, -1, 2, -1, 0)
			isMatched(t, []int{one, clPDI, two, clPDI}, 1, 0, 3, 2)
			isMatched(t, []int{one, two, clPDI, two, clPDI, clPDI}, 5, 2, 1, 4, 3, 0)
			// Without a PDI, ahead of such as have one, and the other way round.
			isMatched(t, []int{one, two, clPDI}, 3, 2, 1)
			isMatched(t, []int{one, clL, two, clPDI, clR}, 5, -1, 3, 2, -1)
			isMatched(t, []int{one, two}, 2, 2)
			isMatched(t, []int{one, clPDI, two}, 1, 0, 3)
			isMatched(t, []int{one, one, two, clPDI, two, clPDI}, 6, 6, 3, 2, 5, 4)
			isMatched(t, []int{one, two, clPDI, clPDI, clPDI, one}, 3, 2, 1, 0, -1, 6)
		}
	}
}

// P10.2: other classes, an end of a paragraph among them, and numbers that are none's change nothing.
func TestMatchOfOthers(t *testing.T) {
	for c := range clPDI {
		if !initiates(c) {
			isMatched(t, []int{c}, -1)
			isMatched(t, []int{c, clRLI, c, clPDI, c}, -1, 3, -1, 1, -1)
			isMatched(t, []int{c, clFSI, c}, -1, 3, -1)
			isMatched(t, []int{c, clPDI, c}, -1, -1, -1)
		}
	}
	for _, c := range nones {
		isMatched(t, []int{c}, -1)
		isMatched(t, []int{c, clPDI}, -1, -1)
		isMatched(t, []int{clLRI, c}, 2, -1)
		isMatched(t, []int{c, clLRI, c, clPDI, c}, -1, 3, -1, 1, -1)
		isMatched(t, []int{c, clLRI, c, clFSI, c}, -1, 5, -1, 5, -1)
	}
}

// P10.2, P10.5: all small rows.
func TestSmallMatches(t *testing.T) {
	eachRow(7, []int{clL, clLRI, clRLI, clFSI, clPDI}, func(classes []int) {
		matches := Match(classes)
		if want := docMatch(classes); !slices.Equal(matches, want) {
			t.Errorf("%v: %v, not %v", classes, matches, want)
		}
	})
	eachRow(10, []int{clFSI, clPDI}, func(classes []int) { isMatched(t, classes, docMatch(classes)...) })
}

// P10.5: what is told at an initiator and at its PDI is the other one, and no two isolates that have a PDI cross.
func TestNested(t *testing.T) {
	eachRow(6, []int{clL, clLRI, clFSI, clPDI}, func(classes []int) {
		matches := Match(classes)
		for one, pdi := range matches {
			if !initiates(classes[one]) || pdi == len(classes) {
				continue
			}
			if pdi <= one || classes[pdi] != clPDI || matches[pdi] != one {
				t.Fatalf("%v: %v", classes, matches)
			}
			for other := one + 1; other < pdi; other++ {
				if initiates(classes[other]) && (matches[other] <= other || matches[other] >= pdi) {
					t.Errorf("%v: %v: from %d to %d crosses from %d to %d", classes, matches, one, pdi, other, matches[other])
				}
			}
		}
	})
}

// P10.3
func TestLevel(t *testing.T) {
	for _, x := range []struct {
		names string
		level int
		found bool
	}{
		{"", 0, false}, {"L", 0, true}, {"R", 1, true}, {"AL", 1, true},
		// The first one of several.
		{"L R", 0, true}, {"L AL", 0, true}, {"R L", 1, true}, {"AL L", 1, true}, {"R AL L", 1, true}, {"L L R AL", 0, true},
		// None of them.
		{"EN", 0, false}, {"AN", 0, false}, {"ON WS S B BN", 0, false}, {"NSM ES ET CS", 0, false},
		// Other classes ahead of them: also embeddings and overrides count for nothing.
		{"WS L", 0, true}, {"WS R", 1, true}, {"AN L", 0, true}, {"EN R", 1, true}, {"ON BN NSM AL R L", 1, true}, {"RLE L", 0, true}, {"RLO L PDF R", 0, true}, {"LRE R PDF", 1, true}, {"LRO AL", 1, true}, {"B L", 0, true}, {"R B L", 1, true}, {"B S AL", 1, true},
		// In isolates that are closed, and behind them.
		{"RLI R PDI", 0, false}, {"LRI L PDI", 0, false}, {"FSI AL PDI", 0, false}, {"LRI R PDI L", 0, true}, {"LRI L PDI R", 1, true}, {"RLI AL PDI L", 0, true}, {"FSI L R PDI ON AL", 1, true}, {"RLI PDI L", 0, true}, {"LRI PDI R", 1, true}, {"RLI R PDI LRI L PDI", 0, false}, {"RLI R PDI L LRI L PDI R", 0, true}, {"RLI R PDI WS LRI L PDI R", 1, true},
		// In isolates one in another.
		{"LRI RLI R PDI L PDI R", 1, true}, {"LRI RLI R PDI L PDI", 0, false}, {"FSI FSI FSI R PDI PDI PDI L", 0, true}, {"LRI RLI PDI R PDI L", 0, true}, {"FSI LRI PDI R PDI RLI PDI L", 0, true},
		// In isolates that are not closed: nothing behind them counts.
		{"RLI R", 0, false}, {"LRI R L AL", 0, false}, {"FSI L", 0, false}, {"RLI LRI L PDI R", 0, false}, {"LRI RLI PDI PDI R", 1, true}, {"FSI RLI LRI PDI PDI AL", 0, false}, {"R RLI L", 1, true}, {"L FSI R", 0, true}, {"RLI", 0, false},
		// Behind a PDI without an initiator: it closes nothing that begins behind it.
		{"PDI", 0, false}, {"PDI L", 0, true}, {"PDI R", 1, true}, {"PDI PDI AL", 1, true}, {"PDI RLI R PDI L", 0, true}, {"PDI LRI R", 0, false}, {"PDI PDI LRI R PDI AL", 1, true}, {"LRI PDI PDI R", 1, true}, {"LRI PDI PDI RLI L PDI AL", 1, true}, {"PDI LRI RLI PDI R", 0, false},
		// An embedding's end is no PDI.
		{"RLI PDF R", 0, false}, {"RLE PDI L", 0, true}, {"LRI RLE PDF PDI AL", 1, true},
		// An end of a paragraph closes no isolate, for all are classes of one.
		{"RLI B R", 0, false}, {"LRI B PDI R", 1, true},
	} {
		hasLevel(t, named(t, x.names), x.level, x.found)
	}
	hasLevel(t, []int{}, 0, false)
}

// P10.3: each class alone, ahead of a letter, and ahead of an isolate.
func TestLevelOfEach(t *testing.T) {
	for c := range clPDI + 1 {
		switch c {
		case clL:
			hasLevel(t, []int{c, clR}, 0, true)
		case clR, clAL:
			hasLevel(t, []int{c, clL}, 1, true)
		case clLRI, clRLI, clFSI:
			hasLevel(t, []int{c, clR}, 0, false)
			hasLevel(t, []int{c, clL}, 0, false)
			hasLevel(t, []int{c, clR, clPDI, clL}, 0, true)
			hasLevel(t, []int{c, clL, clPDI, clR}, 1, true)
		default:
			isPassedBy(t, c)
		}
	}
	for _, c := range nones {
		isPassedBy(t, c)
	}
}

// isPassedBy tells of a number that is no letter's, no initiator's.
func isPassedBy(t *testing.T, c int) {
	t.Helper()
	hasLevel(t, []int{c}, 0, false)
	hasLevel(t, []int{c, c, clL, clR}, 0, true)
	hasLevel(t, []int{c, clR, clL}, 1, true)
	hasLevel(t, []int{c, clAL, c, clL}, 1, true)
	hasLevel(t, []int{c, clLRI, clR, clPDI, c, clL}, 0, true)
	hasLevel(t, []int{clRLI, clPDI, c, clAL}, 1, true)
	if c != clPDI {
		hasLevel(t, []int{clFSI, c, clR}, 0, false)
		hasLevel(t, []int{clFSI, c, clR, clPDI, c, clAL}, 1, true)
	}
}

// P10.3: all small rows.
func TestSmallLevels(t *testing.T) {
	isTold := func(classes []int) {
		level, found := docLevel(classes)
		hasLevel(t, classes, level, found)
	}
	eachRow(5, []int{clL, clR, clAL, clEN, clON, clLRI, clRLI, clFSI, clPDI, 99}, isTold)
	eachRow(7, []int{clL, clR, clRLI, clFSI, clPDI}, isTold)
	eachRow(8, []int{clAL, clLRI, clPDI}, isTold)
}

// P10.6: what stands between an initiator and a PDI, where each one there has its own there, changes nothing of the level around.
func TestIsolated(t *testing.T) {
	var stretches [][]int
	eachRow(4, []int{clL, clR, clLRI, clRLI, clPDI}, func(stretch []int) {
		if itself(stretch) {
			stretches = append(stretches, stretch)
		}
	})
	if len(stretches) < 100 {
		t.Errorf("only %d stretches", len(stretches))
	}
	around := []int{clL, clAL, clON, clFSI, clPDI}
	eachRow(2, around, func(ahead []int) {
		eachRow(2, around, func(behind []int) {
			for _, one := range initiators {
				level, found := Level(row(ahead, []int{one, clPDI}, behind))
				for _, stretch := range stretches {
					hasLevel(t, row(ahead, []int{one}, stretch, []int{clPDI}, behind), level, found)
				}
			}
		})
	})
}

// P10.4: nothing of what is handed in changes, nor does what lies behind its end.
func TestStays(t *testing.T) {
	eachRow(5, []int{'a', 0xd, 0xa, 0x2029}, func(codes []int) {
		want := append(coded(codes...), api.Rune{At: 77, Size: 3, Code: 0xa}, api.Rune{At: -1, Size: -1, Code: 'x'})
		l := slices.Clone(want)
		Paragraphs(l[:len(codes)])
		if !slices.Equal(l, want) {
			t.Errorf("%x has become %x", want, l)
		}
	})
	eachRow(5, []int{clL, clR, clRLI, clPDI, 99}, func(classes []int) {
		want := row(classes, []int{clPDI, 77})
		l := slices.Clone(want)
		Match(l[:len(classes)])
		Level(l[:len(classes)])
		if !slices.Equal(l, want) {
			t.Errorf("%v has become %v", want, l)
		}
	})
}

// P10.4: what lies behind an end is not looked at either.
func TestBehindEnds(t *testing.T) {
	areParagraphs(t, coded('a', 0xd, 0xa)[:2], 2)
	areParagraphs(t, coded('a', 0xd, 0xa, 'b')[:0])
	isMatched(t, []int{clRLI, clL, clPDI}[:2], 2, -1)
	hasLevel(t, []int{clRLI, clPDI, clR}[:2], 0, false)
	hasLevel(t, []int{clR, clR}[:0], 0, false)
}

// P10.4: what is answered stays when what was handed in changes, and the other way round; nothing is kept for the next call.
func TestNewMemory(t *testing.T) {
	eachRow(4, []int{'a', 0xd, 0xa, 0x2029}, func(codes []int) {
		isApart(t, coded(codes...), Paragraphs, api.Rune{At: 5, Size: 5, Code: 0x1c})
	})
	eachRow(5, []int{clL, clRLI, clFSI, clPDI}, func(classes []int) {
		isApart(t, classes, Match, clLRI)
	})
}

// isApart tells whether a call shares memory, of its own or of what is handed in, with what it answers.
func isApart[T comparable](t *testing.T, items []T, call func([]T) []int, spoilt T) {
	t.Helper()
	handed := append(slices.Clone(items), spoilt, spoilt)[:len(items)]
	answer := call(handed)
	before := slices.Clone(answer)
	again := call(handed)
	spoil(again, -77)
	if !slices.Equal(answer, before) || !slices.Equal(handed, items) {
		t.Errorf("%v: %v has become %v, %v", items, before, answer, handed)
	}
	if behind := handed[:len(items)+2][len(items):]; behind[0] != spoilt || behind[1] != spoilt {
		t.Errorf("%v: behind it stands %v", items, behind)
	}
	if third := call(handed); !slices.Equal(third, before) {
		t.Errorf("%v: %v, then %v", items, before, third)
	}
	spoil(handed, spoilt)
	if !slices.Equal(answer, before) {
		t.Errorf("%v: %v has become %v", items, before, answer)
	}
}

// spoil writes into all that a list holds, also behind its end.
func spoil[T any](l []T, item T) {
	l = l[:cap(l)]
	for at := range l {
		l[at] = item
	}
}

// P10.1 to P10.3, P10.5: long rows, deep ones among them, which take no longer than a row of that length needs.
func TestLong(t *testing.T) {
	const n = 1 << 18
	open, closed := slices.Repeat([]int{clRLI}, n), slices.Repeat([]int{clPDI}, n)
	// One in another, n deep, and a letter behind.
	deep := row(open, []int{clL}, closed, []int{clAL})
	matches := Match(deep)
	for at := range n {
		if matches[at] != 2*n-at || matches[2*n-at] != at {
			t.Fatalf("at %d: %d, and %d", at, matches[at], matches[2*n-at])
		}
	}
	hasEnds(t, matches[n:n+1], -1)
	hasEnds(t, matches[2*n+1:], -1)
	if l, ok := Level(deep); l != 1 || !ok {
		t.Errorf("%d, %v", l, ok)
	}
	// Without a PDI, without an initiator.
	hasEnds(t, Match(open), n)
	hasEnds(t, Match(closed), -1)
	if l, ok := Level(row(open, []int{clR})); l != 0 || ok {
		t.Errorf("%d, %v", l, ok)
	}
	if l, ok := Level(row(closed, []int{clR})); l != 1 || !ok {
		t.Errorf("%d, %v", l, ok)
	}
	// Paragraphs.
	areParagraphs(t, runes.Split(strings.Repeat("a", n)), n)
	for k, end := range Paragraphs(runes.Split(strings.Repeat("ab\r\n", n))) {
		if end != 4*(k+1) {
			t.Fatalf("end %d: %d", k, end)
		}
	}
}

// hasEnds tells whether the same number stands everywhere.
func hasEnds(t *testing.T, l []int, want int) {
	t.Helper()
	for at, n := range l {
		if n != want {
			t.Fatalf("at %d: %d, not %d", at, n, want)
		}
	}
}
