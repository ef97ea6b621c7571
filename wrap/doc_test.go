package wrap

import (
	"math"
	"math/big"
	"slices"
	"testing"

	"parquetry/api"
)

// samples are a code of each class, by the class.
var samples = [...]int{
	api.BidiL: 'a', api.BidiR: 0x5d0, api.BidiAL: 0x627,
	api.BidiEN: '1', api.BidiES: '+', api.BidiET: '$', api.BidiAN: 0x660, api.BidiCS: ',',
	api.BidiNSM: 0x300, api.BidiBN: 0xad,
	api.BidiB: 0x2029, api.BidiS: '\t', api.BidiWS: ' ', api.BidiON: '!',
	api.BidiLRE: 0x202a, api.BidiLRO: 0x202d, api.BidiRLE: 0x202b, api.BidiRLO: 0x202e, api.BidiPDF: 0x202c,
	api.BidiLRI: 0x2066, api.BidiRLI: 0x2067, api.BidiFSI: 0x2068, api.BidiPDI: 0x2069,
}

// noCodes are numbers that are no code point's, some of which would be a blank's, or a break's, if bits of theirs were lost.
var noCodes = []int{
	-1, -0x20, -0xa, ^0x20, ^0xa, 0x110000, 0x110020, 0x11000a, 1<<32 | 0x20, 1<<32 | 0xa, 1<<21 | 0x20, 1<<16 | 0x2029 | 1<<32, math.MinInt | 0x20, math.MinInt | 0xa, math.MaxInt, math.MinInt, math.MaxInt32, math.MinInt32, 256 + 0x20, 0xd800, 0xdfff,
}

// widths are numbers of slots at the ends of what numbers hold, and small ones.
var widths = []int{
	math.MinInt, math.MinInt + 1, math.MinInt32, -1024, -2, -1, 0, 1, 2, 3, 4, 5, 6, 7, 1024, math.MaxInt32, math.MaxInt32 + 1, math.MaxInt - 1, math.MaxInt,
}

// of answers clusters of one sign each: of a blank ('_') of one slot and a break ('|') of none; of 0 a letter of no slot, of 1 a blank of none, of 2 a letter of two, of 3 a blank of two, of 4 a break of one, of 5 a letter below none, of 6 a blank below none; of all others a letter of one slot.
func of(text string) []api.Cluster {
	var l []api.Cluster
	for at, sign := range []byte(text) {
		c := api.Cluster{At: at, Size: 1, From: at, To: at + 1, Wide: 1, Code: int(sign)}
		switch sign {
		case '_':
			c.Code = ' '
		case '|':
			c.Code, c.Wide = '\n', 0
		case '0':
			c.Wide = 0
		case '1':
			c.Code, c.Wide = ' ', 0
		case '2':
			c.Wide = 2
		case '3':
			c.Code, c.Wide = ' ', 2
		case '4':
			c.Code = 0x2029
		case '5':
			c.Wide = -3
		case '6':
			c.Code, c.Wide = ' ', math.MinInt
		}
		l = append(l, c)
	}
	return l
}

// wide answers letters of so many slots.
func wide(slots ...int) []api.Cluster {
	var l []api.Cluster
	for at, n := range slots {
		l = append(l, api.Cluster{At: at, Size: 1, From: at, To: at + 1, Wide: n, Code: 'a'})
	}
	return l
}

// What stands here is the chapter read place by place: of each place it is asked by itself what holds of it.

// takeMore answers whether clusters take more than w slots.
func takeMore(l []api.Cluster, w int) bool {
	sum := new(big.Int)
	for _, c := range l {
		if c.Wide > 0 {
			sum.Add(sum, big.NewInt(int64(c.Wide)))
		}
	}
	return sum.Cmp(big.NewInt(int64(w))) > 0
}

// docShown answers what is to be shown.
func docShown(l []api.Cluster) []api.Cluster {
	breaks := []int{0xa, 0xd, 0x1c, 0x1d, 0x1e, 0x85, 0x2029}
	if len(l) > 0 && slices.Contains(breaks, l[len(l)-1].Code) {
		return l[:len(l)-1]
	}
	return l
}

// docFits answers the place up to which clusters take at most w, from one on.
func docFits(l []api.Cluster, from, w int) int {
	if from >= len(l) {
		return len(l)
	}
	from = max(from, 0)
	for to := len(l); to > from; to-- {
		if !takeMore(l[from:to], w) {
			return to
		}
	}
	return from
}

// docLines answers a paragraph's lines.
func docLines(l []api.Cluster, w, wrap int) []api.Line {
	shown := docShown(l)
	if wrap == 0 || len(shown) == 0 {
		return []api.Line{{To: len(l), Show: len(shown), Hard: 1}}
	}
	var lines []api.Line
	for from, hard := 0, 0; hard == 0; from = lines[len(lines)-1].To {
		next := docFirst(l, shown, from, max(w, 1))
		lines, hard = append(lines, next), next.Hard
	}
	return lines
}

// docFirst answers the first line from a cluster on.
func docFirst(l, shown []api.Cluster, from, w int) api.Line {
	if !takeMore(shown[from:], w) {
		return api.Line{From: from, To: len(l), Show: len(shown), Hard: 1}
	}
	misfit := from
	for !takeMore(shown[from:misfit+1], w) {
		misfit++
	}
	show, to := docEnd(shown, from, misfit)
	if to == len(shown) {
		return api.Line{From: from, To: len(l), Show: show, Hard: 1}
	}
	return api.Line{From: from, To: to, Show: show}
}

// docEnd answers Show and To of a line in which not all fits.
func docEnd(shown []api.Cluster, from, misfit int) (int, int) {
	other := func(c api.Cluster) bool { return c.Code != 0x20 }
	last := -1
	for at := from; at <= misfit; at++ {
		if !other(shown[at]) && slices.ContainsFunc(shown[from:at], other) {
			last = at
		}
	}
	if last < 0 {
		if misfit == from {
			misfit++
		}
		return misfit, misfit
	}
	show, to := last, last
	for at := range shown {
		if at < show && !slices.ContainsFunc(shown[at:last+1], other) {
			show = at
		}
		if at >= last && !slices.ContainsFunc(shown[last:at+1], other) {
			to = at + 1
		}
	}
	return show, to
}

// eachText calls look with all texts of up to so many of the signs.
func eachText(most int, signs string, look func(text string)) {
	var grow func(ahead string)
	grow = func(ahead string) {
		look(ahead)
		if len(ahead) < most {
			for _, sign := range signs {
				grow(ahead + string(sign))
			}
		}
	}
	grow("")
}

// someTexts calls look with many small texts.
func someTexts(look func(text string)) {
	eachText(4, "a_|0123456", look)
	eachText(6, "a_|23", look)
	eachText(8, "a_|", look)
	eachText(11, "a_", look)
}

// isLines holds lines against others.
func isLines(t *testing.T, l []api.Cluster, w, wrap int, want []api.Line) {
	t.Helper()
	if got := Lines(l, w, wrap); !slices.Equal(got, want) {
		t.Errorf("%v in %d, wrap %d: %v, not %v", l, w, wrap, got, want)
	}
}
