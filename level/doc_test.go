package level

import (
	"math"
	"slices"
	"strconv"
	"strings"
	"testing"

	"parquetry/api"
	"parquetry/base"
	"parquetry/class"
)

// The classes that tests write by name.
const (
	clL   = api.BidiL
	clR   = api.BidiR
	clAL  = api.BidiAL
	clBN  = api.BidiBN
	clB   = api.BidiB
	clON  = api.BidiON
	clLRE = api.BidiLRE
	clLRO = api.BidiLRO
	clRLE = api.BidiRLE
	clRLO = api.BidiRLO
	clPDF = api.BidiPDF
	clLRI = api.BidiLRI
	clRLI = api.BidiRLI
	clFSI = api.BidiFSI
	clPDI = api.BidiPDI
)

// nones are numbers that are no class's, some of which would be one's if bits of theirs were lost.
var nones = []int{
	-1, -2, clPDI + 1, 99, math.MaxInt, math.MinInt, math.MaxInt32, math.MinInt32,
	1<<8 | clRLE, 1<<16 | clRLO, 1<<32 | clLRI, 1<<32 | clPDF, 1<<8 | clPDI, 1<<32 | clBN, 1<<32 | clFSI, 1<<32 | clB, math.MinInt | clRLI, math.MinInt | clPDI, -clBN, -clB, -clRLE, -clPDF, -clFSI, -clPDI,
}

var (
	embeddings = []int{clRLE, clLRE, clRLO, clLRO}
	isolates   = []int{clRLI, clLRI, clFSI}
)

// What stands here is the chapter read as a tree, without its counters. What is open around a place are the isolates in which it stands (by base) and the embeddings of the innermost one that no PDF has closed there; what is lost keeps the level and the override around it, for all that stands in it.

// around is what a place stands in.
type around struct {
	level, override int
	lost            bool
}

// inside answers what stands in an embedding, or in an isolate, that begins there.
func (a around) inside(class int) around {
	next := a.level + 1
	for next%2 != odd(class) {
		next++
	}
	switch {
	case a.lost || next > api.MaxDepth:
		return around{a.level, a.override, true}
	case class == clRLO:
		return around{next, clR, false}
	case class == clLRO:
		return around{next, clL, false}
	}
	return around{next, none, false}
}

// odd answers 1 of a class that opens an odd level, 0 of one that opens an even one.
func odd(class int) int {
	if class == clRLE || class == clRLO || class == clRLI {
		return 1
	}
	return 0
}

// tree is a paragraph, and what is told of it so far.
type tree struct {
	classes, matches []int
	level            int
	levels, told     []int
}

// docExplicit answers what is told of a paragraph.
func docExplicit(classes []int, level int) (levels, told []int) {
	t := tree{classes, base.Match(classes), level, slices.Repeat([]int{none}, len(classes)), slices.Clone(classes)}
	t.stretch(0, len(classes), around{level, none, false})
	return t.levels, t.told
}

// stretch tells of an isolate, or of the whole.
func (t tree) stretch(from, to int, in around) {
	rows := []around{in}
	for at := from; at < to; at++ {
		last := rows[len(rows)-1]
		switch c := t.classes[at]; {
		case slices.Contains(embeddings, c):
			rows = append(rows, last.inside(c))
		case c == clPDF:
			rows = rows[:max(1, len(rows)-1)]
		case c == clBN:
		case c == clB:
			t.levels[at] = t.level
		case slices.Contains(isolates, c):
			t.stamp(at, last)
			t.stretch(at+1, t.matches[at], last.inside(t.firm(at)))
			at = t.matches[at]
			if at < to {
				t.stamp(at, last)
			}
		default:
			t.stamp(at, last)
		}
	}
}

// stamp tells of one place.
func (t tree) stamp(at int, in around) {
	t.levels[at] = in.level
	if in.override != none {
		t.told[at] = in.override
	}
}

// firm answers an initiator, an FSI as what it stands for.
func (t tree) firm(at int) int {
	if t.classes[at] != clFSI {
		return t.classes[at]
	}
	if level, _ := base.Level(t.classes[at+1 : t.matches[at]]); level == 1 {
		return clRLI
	}
	return clLRI
}

// eachRow calls look with all rows of up to so many of the items.
func eachRow(most int, items []int, look func(row []int)) {
	var grow func(ahead []int)
	grow = func(ahead []int) {
		look(ahead)
		if len(ahead) < most {
			for _, item := range items {
				grow(append(slices.Clip(ahead), item))
			}
		}
	}
	grow(nil)
}

// row answers the classes of rows, one behind the other.
func row(parts ...[]int) []int {
	return slices.Concat(parts...)
}

// named answers the classes of a text of names.
func named(t *testing.T, text string) []int {
	t.Helper()
	classes, ok := class.Read(text)
	if !ok {
		t.Fatalf("%q: no names of classes", text)
	}
	return classes
}

// numbers answers the levels of a text of them, in which - stands for none.
func numbers(t *testing.T, text string) []int {
	t.Helper()
	var l []int
	for _, word := range strings.Fields(text) {
		if word == "-" {
			l = append(l, none)
			continue
		}
		n, err := strconv.Atoi(word)
		if err != nil {
			t.Fatalf("%q: %v", text, err)
		}
		l = append(l, n)
	}
	return l
}

// itself answers whether each initiator and each PDI of a stretch has its own there.
func itself(stretch []int) bool {
	matches := base.Match(stretch)
	for at, c := range stretch {
		if matches[at] == len(stretch) || c == clPDI && matches[at] == -1 {
			return false
		}
	}
	return true
}
