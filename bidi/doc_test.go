package bidi

import (
	"math"
	"slices"
	"strconv"
	"strings"
	"testing"

	"parquetry/api"
	"parquetry/class"
	"parquetry/level"
	"parquetry/neutral"
	"parquetry/pairs"
	"parquetry/seqs"
	"parquetry/weak"
)

// samples are a code of each class, by the class.
var samples = [...]int{
	api.BidiL: 'a', api.BidiR: 0x5d0, api.BidiAL: 0x627,
	api.BidiEN: '1', api.BidiES: '+', api.BidiET: '$', api.BidiAN: 0x660, api.BidiCS: ',',
	api.BidiNSM: 0x300, api.BidiBN: 0xad,
	api.BidiB: 0x2029, api.BidiS: '\t', api.BidiWS: ' ', api.BidiON: '!',
	api.BidiLRE: 0x202a, api.BidiLRO: 0x202d, api.BidiRLE: 0x202b, api.BidiRLO: 0x202e, api.BidiPDF: 0x202c,
	api.BidiLRI: 0x2066, api.BidiRLI: 0x2067, api.BidiFSI: 0x2068, api.BidiPDI: 0x2069,
}

// noCodes are numbers that are no code point's, some of which would be one of another class than L, or a bracket's, if bits of theirs were lost.
var noCodes = []int{
	-1, -0x5d0, -'(', 0x110000, 0x110000 | 0x5d0, 0xd800, 0xdfff, math.MaxInt, math.MinInt, math.MaxInt32, math.MinInt32,
	1<<32 | 0x5d0, 1<<21 | 0x5d0, math.MinInt | 0x627, 1<<32 | '(', 1<<32 | ')', 1<<32 | '1', 1<<32 | 0x202e, 1<<32 | 0x2067, 1<<32 | 0x2029, 1<<32 | ' ', ^0x5d0,
}

// numbers are levels that no paragraph has.
var numbers = []int{
	-1, -2, 2, 3, 4, 61, 124, 125, 126, 127, 255, 256, 257, 1 << 16, 1<<16 | 1, 1 << 31, 1 << 32, 1<<32 | 1, 1<<62 | 1, math.MaxInt32, math.MinInt32, math.MaxInt, math.MinInt, math.MinInt | 1,
}

// of answers runes with these codes.
func of(codes ...int) []api.Rune {
	var l []api.Rune
	for at, code := range codes {
		l = append(l, api.Rune{At: at, Size: 1, Code: code})
	}
	return l
}

// read answers the codes that words tell: by a class's name its sample, by four digits or more a hexadecimal number, by one sign this; behind a star how often.
func read(t *testing.T, text string) []int {
	t.Helper()
	var l []int
	for _, word := range strings.Fields(text) {
		word, often, many := strings.Cut(word, "*")
		n := 1
		if many {
			n = number(t, often, 10)
		}
		for range n {
			l = append(l, codeOf(t, word))
		}
	}
	return l
}

func codeOf(t *testing.T, word string) int {
	t.Helper()
	if classes, ok := class.Read(word); ok && len(classes) == 1 {
		return samples[classes[0]]
	}
	if signs := []rune(word); len(signs) == 1 {
		return int(signs[0])
	}
	return number(t, word, 16)
}

func number(t *testing.T, text string, base int) int {
	t.Helper()
	n, err := strconv.ParseInt(text, base, 64)
	if err != nil {
		t.Fatal(err)
	}
	return int(n)
}

// levelsOf answers the numbers of a text; behind a star how often.
func levelsOf(t *testing.T, text string) []int {
	t.Helper()
	var l []int
	for _, word := range strings.Fields(text) {
		word, often, many := strings.Cut(word, "*")
		n := 1
		if many {
			n = number(t, often, 10)
		}
		l = append(l, times(n, number(t, word, 10))...)
	}
	return l
}

// What stands here is the chapter read place by place: of each place it is asked by itself what holds of it.

// docResolve answers a paragraph's levels.
func docResolve(l []api.Rune, own int) []int {
	if own < 0 || own > 1 {
		return nil
	}
	classes := class.All(l)
	all := seqs.Sequences(classes, own)
	ahead := own
	var levels []int
	for at := range l {
		for _, seq := range all {
			if i := slices.Index(seq.At, at); i >= 0 {
				ahead = docSequence(l, classes, seq, own)[i]
			}
		}
		levels = append(levels, ahead)
	}
	return levels
}

// docSequence answers the levels of a sequence's places.
func docSequence(l []api.Rune, classes []int, seq api.Seq, own int) []int {
	_, told := level.Explicit(classes, own)
	var types, codes, written []int
	for _, at := range seq.At {
		types, codes, written = append(types, told[at]), append(codes, l[at].Code), append(written, classes[at])
	}
	settled := weak.Weak(types, seq.Sos)
	bracketed := pairs.Brackets(settled, codes, written, seq.Level, seq.Sos)
	return neutral.Levels(neutral.Settle(bracketed, seq.Level, seq.Sos, seq.Eos), seq.Level)
}

// blanks are the classes of what has the paragraph's level at an end, by their names.
const blanks = " WS LRI RLI FSI PDI RLE LRE RLO LRO PDF BN "

// shape tells a line by a sign a rune: what is an end of its own, what is blank, and all others; and behind them its end.
func shape(l []api.Rune) string {
	var text strings.Builder
	for _, c := range class.All(l) {
		name, _ := class.Print(c)
		switch {
		case name == "S" || name == "B":
			text.WriteByte('|')
		case strings.Contains(blanks, " "+name+" "):
			text.WriteByte('_')
		default:
			text.WriteByte('x')
		}
	}
	return text.String() + "|"
}

// docLine answers a line's levels.
func docLine(l []api.Rune, levels []int, own int) []int {
	if len(l) != len(levels) {
		return nil
	}
	text := shape(l)
	var line []int
	for at, level := range levels {
		if strings.HasPrefix(strings.TrimLeft(text[at:], "_"), "|") {
			level = own
		}
		line = append(line, level)
	}
	return line
}

// docOrder answers the order of levels, from the lowest one inward: what stands at a level or above is what stands there by the levels above that, turned round.
func docOrder(levels []int) []int {
	return docOrderFrom(levels, 0, len(levels), 1)
}

func docOrderFrom(levels []int, from, to, level int) []int {
	var order []int
	for at := from; at < to; {
		if level > 126 || levels[at] < level {
			order = append(order, at)
			at++
			continue
		}
		end := at
		for end < to && levels[end] >= level {
			end++
		}
		inner := docOrderFrom(levels, at, end, level+1)
		for i := len(inner) - 1; i >= 0; i-- {
			order = append(order, inner[i])
		}
		at = end
	}
	return order
}

// eachRow calls look with all rows of up to so many of the items.
func eachRow(most int, items []int, look func(row []int)) {
	var grow func(ahead []int)
	grow = func(ahead []int) {
		look(ahead)
		if len(ahead) < most {
			for _, item := range items {
				grow(append(slices.Clip(ahead), item))
			}
		}
	}
	grow(nil)
}

// row answers what stands in rows, one behind the other.
func row(parts ...[]int) []int {
	return slices.Concat(parts...)
}

// times answers so many of a number.
func times(n, item int) []int {
	return slices.Repeat([]int{item}, n)
}

// turns answers so many numbers, in turns of the two.
func turns(n, one, two int) []int {
	return slices.Repeat([]int{one, two}, n)[:n]
}

// span answers the numbers from one to another one.
func span(from, to int) []int {
	var l []int
	for n := from; n <= to; n++ {
		l = append(l, n)
	}
	return l
}
