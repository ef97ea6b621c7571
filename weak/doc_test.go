package weak

import (
	"math"
	"slices"
	"testing"

	"parquetry/api"
	"parquetry/class"
)

// The classes that tests write by name.
const (
	clL   = api.BidiL
	clR   = api.BidiR
	clAL  = api.BidiAL
	clEN  = api.BidiEN
	clES  = api.BidiES
	clET  = api.BidiET
	clAN  = api.BidiAN
	clCS  = api.BidiCS
	clNSM = api.BidiNSM
	clBN  = api.BidiBN
	clB   = api.BidiB
	clS   = api.BidiS
	clWS  = api.BidiWS
	clON  = api.BidiON
	clRLE = api.BidiRLE
	clPDF = api.BidiPDF
	clLRI = api.BidiLRI
	clRLI = api.BidiRLI
	clFSI = api.BidiFSI
	clPDI = api.BidiPDI
)

// nones are numbers that are no class's, some of which would be one's if bits of theirs were lost.
var nones = []int{
	-1, -2, clPDI + 1, 99, math.MaxInt, math.MinInt, math.MaxInt32, math.MinInt32,
	1<<8 | clNSM, 1<<16 | clAL, 1<<32 | clEN, 1<<32 | clES, 1<<8 | clET, 1<<32 | clCS, 1<<32 | clAN, 1<<16 | clLRI, 1 << 32, 1<<32 | clR, math.MinInt | clNSM, math.MinInt | clAL, -clR, -clAL, -clEN, -clES, -clET, -clCS, -clNSM, -clPDI,
}

// What stands here is the chapter read place by place: of each place a rule says what it becomes, by the classes as they are then, and looks for what it asks for anew.

// letterAhead answers the last L, R or AL ahead of a place, or the direction ahead.
func letterAhead(l []int, at, sos int) int {
	for at--; at >= 0; at-- {
		if l[at] == clL || l[at] == clR || l[at] == clAL {
			return l[at]
		}
	}
	return sos
}

// beside answers the class so many places further on, and -1, which no rule asks for, beyond the sequence.
func beside(l []int, at, steps int) int {
	if at += steps; at < 0 || at >= len(l) {
		return -1
	}
	return l[at]
}

// docRules say, one behind the other, what the class at a place becomes.
var docRules = []func(l []int, at, sos int) int{
	func(l []int, at, sos int) int {
		switch {
		case l[at] != clNSM:
			return l[at]
		case at == 0:
			return sos
		case slices.Contains([]int{clLRI, clRLI, clFSI, clPDI}, l[at-1]):
			return clON
		}
		return l[at-1]
	},
	func(l []int, at, sos int) int {
		if l[at] == clEN && letterAhead(l, at, sos) == clAL {
			return clAN
		}
		return l[at]
	},
	func(l []int, at, sos int) int {
		if l[at] == clAL {
			return clR
		}
		return l[at]
	},
	func(l []int, at, sos int) int {
		sides := [2]int{beside(l, at, -1), beside(l, at, 1)}
		switch {
		case sides == [2]int{clEN, clEN} && (l[at] == clES || l[at] == clCS):
			return clEN
		case sides == [2]int{clAN, clAN} && l[at] == clCS:
			return clAN
		}
		return l[at]
	},
	func(l []int, at, sos int) int {
		if l[at] != clET {
			return l[at]
		}
		from, to := at, at
		for beside(l, from, -1) == clET {
			from--
		}
		for beside(l, to, 1) == clET {
			to++
		}
		if beside(l, from, -1) == clEN || beside(l, to, 1) == clEN {
			return clEN
		}
		return clET
	},
	func(l []int, at, sos int) int {
		if l[at] == clES || l[at] == clET || l[at] == clCS {
			return clON
		}
		return l[at]
	},
	func(l []int, at, sos int) int {
		if l[at] == clEN && letterAhead(l, at, sos) == clL {
			return clL
		}
		return l[at]
	},
}

// docWeak answers what classes become by the rules.
func docWeak(classes []int, sos int) []int {
	l := slices.Clone(classes)
	for _, rule := range docRules {
		for at := range l {
			l[at] = rule(l, at, sos)
		}
	}
	return l
}

// eachRow calls look with all rows of up to so many of the items.
func eachRow(most int, items []int, look func(row []int)) {
	var grow func(ahead []int)
	grow = func(ahead []int) {
		look(ahead)
		if len(ahead) < most {
			for _, item := range items {
				grow(append(slices.Clip(ahead), item))
			}
		}
	}
	grow(nil)
}

// row answers the classes of rows, one behind the other.
func row(parts ...[]int) []int {
	return slices.Concat(parts...)
}

// times answers so many of a class.
func times(n, class int) []int {
	return slices.Repeat([]int{class}, n)
}

// turns answers so many classes, in turns of the two.
func turns(n, one, two int) []int {
	return slices.Repeat([]int{one, two}, n)[:n]
}

// span answers the numbers from one to another one.
func span(from, to int) []int {
	var l []int
	for n := from; n <= to; n++ {
		l = append(l, n)
	}
	return l
}

// all answers all classes' numbers, and those that are no class's.
func all() []int {
	return append(span(clL, clPDI), nones...)
}

// named answers the classes of a text of names.
func named(t *testing.T, text string) []int {
	t.Helper()
	classes, ok := class.Read(text)
	if !ok {
		t.Fatalf("%q: no names of classes", text)
	}
	return classes
}
