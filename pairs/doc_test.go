package pairs

import (
	"math"
	"slices"
	"strings"
	"testing"

	"parquetry/api"
	"parquetry/class"
)

// The classes that tests write by name.
const (
	clL   = api.BidiL
	clR   = api.BidiR
	clAL  = api.BidiAL
	clEN  = api.BidiEN
	clAN  = api.BidiAN
	clNSM = api.BidiNSM
	clWS  = api.BidiWS
	clON  = api.BidiON
	clPDI = api.BidiPDI
)

// nones are numbers that are no class's, some of which would be one's if bits of theirs were lost.
var nones = []int{
	-1, -2, clPDI + 1, 99, math.MaxInt, math.MinInt, math.MaxInt32, math.MinInt32,
	1<<8 | clNSM, 1<<16 | clON, 1<<32 | clON, 1<<32 | clEN, 1<<8 | clR, 1 << 32, 1 << 8, math.MinInt | clNSM, math.MinInt | clON, -clR, -clEN, -clAN, -clNSM, -clON,
}

// noCodes are numbers that are no character's, some of which would be a bracket's if bits of theirs were lost.
var noCodes = []int{
	-1, -'(', -')', 0x110000, 0x110000 | '(', 0xd800, math.MaxInt, math.MinInt, math.MinInt | '(', math.MinInt | ')', 1<<32 | '(', 1<<32 | ')', 1<<21 | ')', 1<<16 | '[', 1<<8 | ']', ^'(', ^')',
}

// A place is what is told of one of a sequence's.
type place struct{ class, code, own int }

// lists answers what is told of places, list by list.
func lists(l []place) (types, codes, own []int) {
	for _, p := range l {
		types, codes, own = append(types, p.class), append(codes, p.code), append(own, p.own)
	}
	return types, codes, own
}

// bracket answers an ON of that code.
func bracket(code int) place {
	return place{clON, code, clON}
}

// of answers a class with a code that is no bracket's.
func of(class int) place {
	return place{class, 'x', class}
}

// mark answers what was written as an NSM, and is another class by now.
func mark(class int) place {
	return place{class, 0x300, clNSM}
}

// read answers places out of words: a bracket, or the name of a class; behind a stroke the name of the class that it is by now.
func read(t *testing.T, text string) []place {
	t.Helper()
	var l []place
	for _, word := range strings.Fields(text) {
		first, now, changed := strings.Cut(word, "/")
		p := place{code: 'x'}
		if code := []rune(first); len(code) == 1 && code[0] != 'L' && code[0] != 'R' && code[0] != 'B' && code[0] != 'S' {
			p = bracket(int(code[0]))
		} else {
			p.own = named(t, first)[0]
			p.class = p.own
		}
		if changed {
			p.class = named(t, now)[0]
		}
		l = append(l, p)
	}
	return l
}

// What stands here is the chapter read place by place, with no stack: of each place it is kept whether it is open, and by which one it is closed.

// counterparts say by what a bracket is closed; angle brackets stand there in all ways to write them.
var counterparts = map[int][]int{
	'(': {')'}, '[': {']'}, '{': {'}'}, 0x2329: {0x232a, 0x3009}, 0x3008: {0x232a, 0x3009}, 0x300a: {0x300b}, 0xff08: {0xff09}, 0xff62: {0xff63},
}

// isClosing answers whether a code is that of a bracket that closes.
func isClosing(code int) bool {
	for _, l := range counterparts {
		if slices.Contains(l, code) {
			return true
		}
	}
	return false
}

// docFind answers a sequence's pairs.
func docFind(types, codes []int) []api.Pair {
	if len(types) != len(codes) {
		return nil
	}
	open := make([]bool, len(codes))
	closedBy := map[int]int{}
	for at, code := range codes {
		if types[at] != clON {
			continue
		}
		if counterparts[code] != nil {
			if count(open) == 63 {
				break
			}
			open[at] = true
		}
		for from := at - 1; from >= 0 && isClosing(code); from-- {
			if open[from] && slices.Contains(counterparts[codes[from]], code) {
				closedBy[from] = at
				clear(open[from:])
				break
			}
		}
	}
	var l []api.Pair
	for at := range codes {
		if end, ok := closedBy[at]; ok {
			l = append(l, api.Pair{Open: at, Close: end})
		}
	}
	return l
}

func count(l []bool) int {
	n := 0
	for _, yes := range l {
		if yes {
			n++
		}
	}
	return n
}

// letters answers classes' letters as a text, with a dash where there is none.
func letters(classes []int) string {
	var text strings.Builder
	for _, c := range classes {
		switch {
		case c == clL:
			text.WriteByte('L')
		case c == clR || c == clEN || c == clAN:
			text.WriteByte('R')
		default:
			text.WriteByte('-')
		}
	}
	return text.String()
}

// docBrackets answers what a sequence's classes become.
func docBrackets(types, codes, own []int, level, sos int) []int {
	if len(types) != len(codes) || len(types) != len(own) {
		return nil
	}
	l := slices.Clone(types)
	number := map[string]int{"L": clL, "R": clR}
	own1, other := "L", "R"
	if level&1 == 1 {
		own1, other = "R", "L"
	}
	for _, pair := range docFind(types, codes) {
		text := letters(l)
		inside, ahead := text[pair.Open+1:pair.Close], strings.TrimRight(text[:pair.Open], "-")
		otherAhead := strings.HasSuffix(ahead, other) || ahead == "" && sos == number[other]
		to := own1
		switch {
		case strings.Contains(inside, own1):
		case !strings.Contains(inside, other):
			continue
		case otherAhead:
			to = other
		}
		for _, at := range []int{pair.Open, pair.Close} {
			end := at + 1
			for end < len(own) && own[end] == clNSM {
				end++
			}
			for ; at < end; at++ {
				l[at] = number[to]
			}
		}
	}
	return l
}

// eachRow calls look with all rows of up to so many of the items.
func eachRow[T any](most int, items []T, look func(row []T)) {
	var grow func(ahead []T)
	grow = func(ahead []T) {
		look(ahead)
		if len(ahead) < most {
			for _, item := range items {
				grow(append(slices.Clip(ahead), item))
			}
		}
	}
	grow(nil)
}

// row answers what stands in rows, one behind the other.
func row[T any](parts ...[]T) []T {
	return slices.Concat(parts...)
}

// times answers so many of a thing.
func times[T any](n int, item T) []T {
	return slices.Repeat([]T{item}, n)
}

// all answers all classes' numbers, and those that are no class's.
func all() []int {
	var l []int
	for class := range clPDI + 1 {
		l = append(l, class)
	}
	return append(l, nones...)
}

// named answers the classes of a text of names.
func named(t *testing.T, text string) []int {
	t.Helper()
	classes, ok := class.Read(text)
	if !ok {
		t.Fatalf("%q: no names of classes", text)
	}
	return classes
}
