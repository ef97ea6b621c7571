package neutral

import (
	"math"
	"slices"
	"testing"

	"parquetry/api"
	"parquetry/class"
)

// The classes that tests write by name.
const (
	clL   = api.BidiL
	clR   = api.BidiR
	clAL  = api.BidiAL
	clEN  = api.BidiEN
	clAN  = api.BidiAN
	clNSM = api.BidiNSM
	clWS  = api.BidiWS
	clON  = api.BidiON
	clLRI = api.BidiLRI
	clPDI = api.BidiPDI
)

// nones are numbers that are no class's, some of which would be one's if bits of theirs were lost.
var nones = []int{
	-1, -2, clPDI + 1, 99, math.MaxInt, math.MinInt, math.MaxInt32, math.MinInt32,
	1 << 8, 1 << 32, 1<<8 | clR, 1<<16 | clR, 1<<32 | clR, 1<<8 | clEN, 1<<32 | clEN, 1<<16 | clAN, 1<<32 | clAN, math.MinInt | clR, math.MinInt | clEN, math.MinInt | clAN, -clR, -clEN, -clAN, ^clR, ^clEN, ^clAN,
}

// strong are the classes that have a direction.
var strong = []int{clL, clR, clEN, clAN}

// What stands here is the chapter read place by place: from each place without a direction one is looked for to both sides.

// docDirection answers the direction of a class, if it has one.
func docDirection(class int) (int, bool) {
	direction, ok := map[int]int{clL: clL, clR: clR, clEN: clR, clAN: clR}[class]
	return direction, ok
}

// side answers the first direction that is met from a place on, step by step, or the one at the sequence's end.
func side(types []int, at, step, end int) int {
	for at += step; at >= 0 && at < len(types); at += step {
		if direction, ok := docDirection(types[at]); ok {
			return direction
		}
	}
	return end
}

// isEven answers whether a level is two times something.
func isEven(level int) bool {
	return level/2*2 == level
}

// docSettle answers a sequence's classes, settled.
func docSettle(types []int, level, sos, eos int) []int {
	var l []int
	for at, c := range types {
		if _, ok := docDirection(c); !ok {
			ahead, behind := side(types, at, -1, sos), side(types, at, 1, eos)
			switch {
			case ahead == behind:
				c = ahead
			case isEven(level):
				c = clL
			default:
				c = clR
			}
		}
		l = append(l, c)
	}
	return l
}

// docLevel answers the level of a class in a sequence of one: the first one that is as it must be.
func docLevel(class, level int) int {
	wanted := func(int) bool { return true }
	switch class {
	case clL:
		wanted = isEven
	case clR:
		wanted = func(n int) bool { return !isEven(n) }
	case clEN, clAN:
		wanted = func(n int) bool { return isEven(n) && n > level }
	}
	n := level
	for !wanted(n) {
		n++
	}
	return n
}

func docLevels(types []int, level int) []int {
	var l []int
	for _, c := range types {
		l = append(l, docLevel(c, level))
	}
	return l
}

// eachRow calls look with all rows of up to so many of the items.
func eachRow(most int, items []int, look func(row []int)) {
	var grow func(ahead []int)
	grow = func(ahead []int) {
		look(ahead)
		if len(ahead) < most {
			for _, item := range items {
				grow(append(slices.Clip(ahead), item))
			}
		}
	}
	grow(nil)
}

// row answers the classes of rows, one behind the other.
func row(parts ...[]int) []int {
	return slices.Concat(parts...)
}

// times answers so many of a class.
func times(n, class int) []int {
	return slices.Repeat([]int{class}, n)
}

// turns answers so many classes, in turns of the two.
func turns(n, one, two int) []int {
	return slices.Repeat([]int{one, two}, n)[:n]
}

// span answers the numbers from one to another one.
func span(from, to int) []int {
	var l []int
	for n := from; n <= to; n++ {
		l = append(l, n)
	}
	return l
}

// all answers all classes' numbers, and those that are no class's.
func all() []int {
	return append(span(clL, clPDI), nones...)
}

// weak answers the numbers that have no direction.
func weak() []int {
	return slices.DeleteFunc(all(), func(c int) bool { return slices.Contains(strong, c) })
}

// named answers the classes of a text of names.
func named(t *testing.T, text string) []int {
	t.Helper()
	classes, ok := class.Read(text)
	if !ok {
		t.Fatalf("%q: no names of classes", text)
	}
	return classes
}
