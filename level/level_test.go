package level

import (
	"math"
	"slices"
	"testing"

	"parquetry/api"
)

// isTold holds what is answered of a paragraph against levels, and classes as which it is told.
func isTold(t *testing.T, classes []int, level int, levels, told []int) {
	t.Helper()
	if l, m := Explicit(classes, level); !slices.Equal(l, levels) || !slices.Equal(m, told) {
		t.Errorf("%v at %d: %v, %v, not %v, %v", classes, level, l, m, levels, told)
	}
}

// isAsDoc holds what is answered of a paragraph, at both levels, against the chapter read as a tree.
func isAsDoc(t *testing.T, classes []int) {
	t.Helper()
	for level := range 2 {
		levels, told := docExplicit(classes, level)
		isTold(t, classes, level, levels, told)
	}
}

// example is a paragraph by names, its levels, and the names as which it is told, where these are others.
type example struct {
	names  string
	level  int
	levels string
	told   string
}

func areTold(t *testing.T, l []example) {
	t.Helper()
	for _, x := range l {
		told := x.told
		if told == "" {
			told = x.names
		}
		isTold(t, named(t, x.names), x.level, numbers(t, x.levels), named(t, told))
		isAsDoc(t, named(t, x.names))
	}
}

// P11.1
func TestRemoved(t *testing.T) {
	removed := []int{clRLE, clLRE, clRLO, clLRO, clPDF, clBN}
	for c := range clPDI + 1 {
		if Removed(c) != slices.Contains(removed, c) {
			t.Errorf("%d: %v", c, Removed(c))
		}
	}
	for _, c := range nones {
		if Removed(c) {
			t.Errorf("%d is removed", c)
		}
	}
	for n := range 1 << 16 {
		if n > clPDI && Removed(n) || Removed(-n-1) {
			t.Errorf("%d or %d is removed", n, -n-1)
		}
	}
}

// P11.2: the chapter's examples.
func TestExamples(t *testing.T) {
	areTold(t, []example{
		{"L RLE L PDF L", 0, "0 - 1 - 0", ""},
		{"RLO L PDF L", 0, "- 1 - 0", "RLO R PDF L"},
		{"RLI L PDI R", 1, "1 3 1 1", ""},
		{"LRO FSI R PDI", 0, "- 2 3 2", "LRO L R L"},
	})
	isTold(t, []int{clL}, 2, nil, nil)
}

// P11.2: of no classes, and of each one by itself.
func TestAlone(t *testing.T) {
	for level := range 2 {
		isTold(t, nil, level, nil, nil)
		isTold(t, []int{}, level, nil, nil)
		for c := range clPDI + 1 {
			want := level
			if Removed(c) {
				want = none
			}
			isTold(t, []int{c}, level, []int{want}, []int{c})
		}
		for _, c := range nones {
			isTold(t, []int{c}, level, []int{level}, []int{c})
		}
	}
}

// P11.2: a paragraph has the level 0 or 1.
func TestOtherLevels(t *testing.T) {
	for _, level := range []int{-1, -2, 2, 3, 99, 124, 125, 126, 127, 256, 257, 1 << 16, 1<<16 | 1, 1 << 32, 1<<32 | 1, math.MaxInt, math.MinInt, math.MinInt | 1, math.MaxInt32, math.MinInt32} {
		isTold(t, nil, level, nil, nil)
		isTold(t, []int{clL}, level, nil, nil)
		isTold(t, []int{clRLE, clR, clPDF, clL}, level, nil, nil)
		isTold(t, []int{clFSI, clR, clPDI, 99}, level, nil, nil)
		isTold(t, []int{clPDI, clPDF, clB, clBN}, level, nil, nil)
	}
}

// opener is a class that opens something: what it makes of the levels 0 to 3, and of what stands in it.
type opener struct {
	class    int
	next     [4]int
	override int
	end      int
}

var (
	nextOdd  = [4]int{1, 3, 3, 5}
	nextEven = [4]int{2, 2, 4, 4}
	openers  = []opener{
		{clRLE, nextOdd, none, clPDF}, {clLRE, nextEven, none, clPDF}, {clRLO, nextOdd, clR, clPDF}, {clLRO, nextEven, clL, clPDF},
		// No letter stands in any of them here, so that an FSI is as an LRI.
		{clRLI, nextOdd, none, clPDI}, {clLRI, nextEven, none, clPDI}, {clFSI, nextEven, none, clPDI},
	}
)

// stamped answers what is told of a class that stands at a level, under an override.
func stamped(class, level, override int) (int, int) {
	if Removed(class) {
		return none, class
	}
	if override != none {
		return level, override
	}
	return level, class
}

// P11.2: what opens something by itself, and each one in each other one, closed and not closed.
func TestEachInEach(t *testing.T) {
	for level := range 2 {
		for _, one := range openers {
			first := one.next[level]
			for _, two := range openers {
				second := two.next[first]
				classes := []int{clON, one.class, clON, two.class, clON, two.end, clON, one.end, clON}
				at := []int{level, level, first, first, second, first, first, level, level}
				by := []int{none, none, one.override, one.override, two.override, one.override, one.override, none, none}
				var levels, told []int
				for place, c := range classes {
					l, m := stamped(c, at[place], by[place])
					levels, told = append(levels, l), append(told, m)
				}
				for end := range len(classes) + 1 {
					isTold(t, classes[:end], level, levels[:end], told[:end])
				}
			}
		}
	}
}

// P11.2: the next level is the least one above that is odd, or even.
func TestNextLevels(t *testing.T) {
	areTold(t, []example{
		{"RLE ON RLE ON RLE ON PDF ON PDF ON PDF ON", 0, "- 1 - 3 - 5 - 3 - 1 - 0", ""},
		{"RLE ON RLE ON", 1, "- 3 - 5", ""},
		{"LRE ON LRE ON LRE ON PDF ON PDF ON PDF ON", 0, "- 2 - 4 - 6 - 4 - 2 - 0", ""},
		{"LRE ON LRE ON", 1, "- 2 - 4", ""},
		{"RLE ON LRE ON RLE ON LRE ON", 0, "- 1 - 2 - 3 - 4", ""},
		{"RLI ON LRI ON RLI ON PDI ON PDI ON PDI ON", 0, "0 1 1 2 2 3 2 2 1 1 0 0", ""},
		{"RLI ON RLI ON PDI PDI ON", 1, "1 3 3 5 3 1 1", ""},
		{"LRI ON LRI ON PDI PDI ON", 1, "1 2 2 4 2 1 1", ""},
		{"RLE ON PDF LRE ON PDF RLI ON PDI LRI ON PDI ON", 0, "- 1 - - 2 - 0 1 0 0 2 0 0", ""},
	})
}

// P11.2: PDF and PDI with nothing open, or with nothing open that they close.
func TestNothingOpen(t *testing.T) {
	areTold(t, []example{
		{"PDF L", 0, "- 0", ""}, {"PDF L", 1, "- 1", ""}, {"PDI L", 0, "0 0", ""}, {"PDI L", 1, "1 1", ""},
		{"PDF PDF PDI PDI L", 1, "- - 1 1 1", ""},
		// They close nothing that begins behind them.
		{"PDF RLE L", 0, "- - 1", ""}, {"PDF PDF LRE L PDF PDF L", 0, "- - - 2 - - 0", ""}, {"PDI RLI L", 0, "0 0 1", ""}, {"PDI PDI LRI L PDI PDI L", 0, "0 0 0 2 0 0 0", ""},
		{"RLE L PDF PDF L RLE L", 0, "- 1 - - 0 - 1", ""}, {"RLI L PDI PDI L RLI L", 0, "0 1 0 0 0 0 1", ""},
		// A PDI in an embedding, and in an override.
		{"RLE L PDI L PDF L", 0, "- 1 1 1 - 0", ""}, {"RLO PDI L PDF PDI", 0, "- 1 1 - 0", "RLO R R PDF PDI"}, {"LRO RLE PDI R PDF PDI R", 0, "- - 3 3 - 2 2", "LRO RLE PDI R PDF L L"},
		// A PDF in an isolate closes nothing around it.
		{"RLI PDF L PDI L", 0, "0 - 1 0 0", ""}, {"FSI PDF AL PDI L", 0, "0 - 1 0 0", ""},
		{"RLE RLI L PDF L PDI L PDF L", 0, "- 1 3 - 3 1 1 - 0", ""},
		{"LRO RLI R PDF PDF R PDI R PDF R", 0, "- 2 3 - - 3 2 2 - 0", "LRO L R PDF PDF R L L PDF R"},
		{"RLI RLE L PDF PDF L PDI L", 0, "0 - 3 - - 1 0 0", ""},
		{"LRE RLI LRI PDF L PDI PDF L PDI PDF L", 0, "- 2 3 - 4 3 - 3 2 - 0", ""},
	})
}

// P11.2: a PDI takes off all embeddings of its isolate.
func TestOverEmbeddings(t *testing.T) {
	areTold(t, []example{
		{"RLI RLE L PDI L", 0, "0 - 3 0 0", ""},
		{"RLI RLE LRE RLE L PDI L", 0, "0 - - - 5 0 0", ""},
		{"RLI RLE L PDI L PDF L", 0, "0 - 3 0 0 - 0", ""},
		{"RLE RLI RLE RLE PDI L PDF L", 0, "- 1 - - 1 1 - 0", ""},
		{"LRI RLI RLE PDI L PDI L", 0, "0 2 - 2 2 0 0", ""},
		{"LRI RLE RLI LRE L PDI L PDI L", 1, "1 - 3 - 6 3 3 1 1", ""},
		{"RLO RLI LRO R PDI L PDF L", 0, "- 1 - 4 1 1 - 0", "RLO R LRO L R R PDF L"},
		{"LRI RLO ON PDI ON PDI ON", 0, "0 - 3 0 0 0 0", "LRI RLO R PDI ON PDI ON"},
		{"RLI RLE LRI LRE PDI PDI L", 0, "0 - 3 - 3 0 0", ""},
	})
}

// P11.2: each class, and numbers that are none's, in an override, and behind it.
func TestOverridden(t *testing.T) {
	for _, o := range []struct{ class, direction, first, second int }{{clRLO, clR, 1, 3}, {clLRO, clL, 2, 2}} {
		for _, c := range slices.Concat(nones, []int{clPDI}, span(clL, clON)) {
			switch c {
			case clB:
				isTold(t, []int{o.class, c, clON, clPDF, c}, 0, []int{none, 0, o.first, none, 0}, []int{o.class, c, o.direction, clPDF, c})
				isTold(t, []int{o.class, c, clON, clPDF, c}, 1, []int{none, 1, o.second, none, 1}, []int{o.class, c, o.direction, clPDF, c})
			case clBN:
				isTold(t, []int{o.class, c, clON, clPDF, c}, 0, []int{none, none, o.first, none, none}, []int{o.class, c, o.direction, clPDF, c})
			default:
				isTold(t, []int{c, o.class, c, clON, clPDF, c}, 0, []int{0, none, o.first, o.first, none, 0}, []int{c, o.class, o.direction, o.direction, clPDF, c})
				isTold(t, []int{c, o.class, c, clON, clPDF, c}, 1, []int{1, none, o.second, o.second, none, 1}, []int{c, o.class, o.direction, o.direction, clPDF, c})
			}
		}
	}
	areTold(t, []example{
		// Embeddings and overrides in it, which have their own.
		{"RLO RLE L PDF L PDF L", 0, "- - 3 - 1 - 0", "RLO RLE L PDF R PDF L"},
		{"LRO LRE R PDF R PDF R", 0, "- - 4 - 2 - 0", "LRO LRE R PDF L PDF R"},
		{"RLO LRO R PDF L PDF R L", 0, "- - 2 - 1 - 0 0", "RLO LRO L PDF R PDF R L"},
		{"LRO RLO L RLO L PDF L PDF R PDF R", 1, "- - 3 - 5 - 3 - 2 - 1", "LRO RLO R RLO R PDF R PDF L PDF R"},
		// Isolates in it, in which it does not hold, and what stands behind each.
		{"RLO RLI L PDI L PDF L PDI", 0, "- 1 3 1 1 - 0 0", "RLO R L R R PDF L PDI"},
		{"RLO LRI L PDI L PDF LRI", 0, "- 1 2 1 1 - 0", "RLO R L R R PDF LRI"},
		{"LRO FSI R PDI R PDF FSI", 0, "- 2 3 2 2 - 0", "LRO L R L L PDF FSI"},
		{"LRO RLI RLO L PDI R PDF R", 0, "- 2 - 5 2 2 - 0", "LRO L RLO R L L PDF R"},
		{"RLO FSI LRI EN PDI AL PDI EN", 0, "- 1 3 4 3 3 1 1", "RLO R LRI EN PDI AL R R"},
		// An override in an isolate, which ends with it.
		{"RLI LRO R PDF R PDI R", 0, "0 - 2 - 1 0 0", "RLI LRO L PDF R PDI R"},
		{"LRI RLO L PDI L", 0, "0 - 3 0 0", "LRI RLO R PDI L"},
	})
}

// span answers the numbers from one to another one.
func span(from, to int) []int {
	var l []int
	for n := from; n <= to; n++ {
		l = append(l, n)
	}
	return l
}

// P11.2: an FSI is as an RLI, or as an LRI, by what stands in it.
func TestFSI(t *testing.T) {
	areTold(t, []example{
		{"FSI", 0, "0", ""}, {"FSI PDI", 1, "1 1", ""},
		{"FSI L", 0, "0 2", ""}, {"FSI R", 0, "0 1", ""}, {"FSI AL", 0, "0 1", ""}, {"FSI ON", 0, "0 2", ""}, {"FSI EN AN", 0, "0 2 2", ""},
		{"FSI L", 1, "1 2", ""}, {"FSI R", 1, "1 3", ""}, {"FSI AL", 1, "1 3", ""}, {"FSI ON", 1, "1 2", ""},
		{"FSI L PDI", 0, "0 2 0", ""}, {"FSI R PDI", 0, "0 1 0", ""}, {"FSI AL PDI R", 0, "0 1 0 0", ""}, {"FSI ON PDI L", 1, "1 2 1 1", ""},
		// The first one of several; what stands ahead of it, and what stands around.
		{"FSI L R PDI", 0, "0 2 2 0", ""}, {"FSI R L PDI", 0, "0 1 1 0", ""}, {"FSI AL L", 0, "0 1 1", ""}, {"FSI EN WS R L", 0, "0 1 1 1 1", ""},
		{"R FSI ON PDI R", 0, "0 0 2 0 0", ""}, {"FSI ON PDI R", 0, "0 2 0 0", ""}, {"FSI PDI R", 0, "0 0 0", ""}, {"R FSI L PDI FSI R PDI L", 0, "0 0 2 0 0 1 0 0", ""},
		{"PDI FSI R", 0, "0 0 1", ""}, {"FSI R PDI PDI FSI L", 0, "0 1 0 0 0 2", ""},
		// Letters in isolates, closed and not closed, do not count.
		{"FSI RLI R PDI ON PDI R", 0, "0 2 3 2 2 0 0", ""}, {"FSI RLI R PDI AL PDI L", 0, "0 1 3 1 1 0 0", ""}, {"FSI LRI L PDI R", 0, "0 1 2 1 1", ""}, {"FSI LRI R PDI L PDI", 1, "1 2 4 2 2 1", ""},
		{"FSI RLI R", 0, "0 2 3", ""}, {"FSI RLI R PDI ON", 0, "0 2 3 2 2", ""}, {"FSI LRI RLI R PDI R PDI ON AL PDI", 0, "0 1 2 3 2 2 1 1 1 0", ""}, {"FSI ON RLI R PDI PDI R", 0, "0 2 2 3 2 0 0", ""},
		{"FSI RLI PDI RLI PDI R PDI", 0, "0 1 1 1 1 1 0", ""}, {"FSI RLI AL PDI LRI R PDI L", 0, "0 2 3 2 2 4 2 2", ""},
		// FSIs in it.
		{"FSI FSI R PDI PDI", 0, "0 2 3 2 0", ""}, {"FSI FSI R", 0, "0 2 3", ""}, {"FSI FSI R PDI R", 0, "0 1 3 1 1", ""}, {"FSI FSI L PDI R PDI ON", 0, "0 1 2 1 1 0 0", ""}, {"FSI FSI FSI AL", 0, "0 2 4 5", ""},
		// Letters in embeddings and overrides do, as themselves.
		{"FSI RLE L PDF R PDI", 0, "0 - 3 - 2 0", ""}, {"FSI LRE R PDF L PDI", 0, "0 - 2 - 1 0", ""}, {"FSI RLO L PDI L", 0, "0 - 3 0 0", "FSI RLO R PDI L"}, {"FSI LRO AL PDI ON", 0, "0 - 2 0 0", "FSI LRO L PDI ON"}, {"FSI RLE PDF ON", 0, "0 - - 2", ""},
		// Behind what closes, or ends, nothing.
		{"FSI PDF R", 0, "0 - 1", ""}, {"FSI BN AL", 0, "0 - 1", ""}, {"FSI B R PDI", 0, "0 0 1 0", ""}, {"FSI B R PDI L", 1, "1 1 3 1 1", ""}, {"FSI RLI B PDI AL", 0, "0 1 0 1 1", ""},
	})
	for _, c := range nones {
		isTold(t, []int{clFSI, c, clR}, 0, []int{0, 1, 1}, []int{clFSI, c, clR})
		isTold(t, []int{clFSI, c, clPDI}, 1, []int{1, 2, 1}, []int{clFSI, c, clPDI})
	}
}

// P11.2: B has the paragraph's level, and is told as itself; BN has none; numbers that are no class's have the last level. None of them opens or closes anything.
func TestAtAnyDepth(t *testing.T) {
	for level := range 2 {
		for _, around := range [][]int{
			{}, {clRLE}, {clLRE, clRLE}, {clRLO}, {clLRO, clRLO, clLRE}, {clRLI}, {clLRI, clFSI}, {clRLE, clFSI, clRLO}, {clRLI, clLRE, clPDF}, {clLRI, clRLE, clPDI},
			slices.Repeat([]int{clRLE}, 63), slices.Repeat([]int{clLRO}, 70), slices.Repeat([]int{clRLI}, 70), row(slices.Repeat([]int{clLRE}, 70), []int{clRLI, clRLO}), row(slices.Repeat([]int{clRLO}, 70), []int{clLRI}),
		} {
			levels, told := Explicit(row(around, []int{clON, clEnd(around), clON}), level)
			in, as := levels[len(around)], told[len(around)]
			for _, c := range append([]int{clB, clBN}, nones...) {
				want, by := in, as
				switch {
				case c == clB:
					want, by = level, c
				case c == clBN:
					want, by = none, c
				case as == clON:
					by = c
				}
				l, m := Explicit(row(around, []int{c, clON, c, clEnd(around), clON}), level)
				if at := len(around); l[at] != want || l[at+2] != want || m[at] != by || m[at+2] != by {
					t.Errorf("%d in %v at %d: %v, %v", c, around, level, l, m)
				}
				if !slices.Equal(row(l[:len(around)], []int{l[len(around)+1]}, l[len(around)+3:]), levels) || !slices.Equal(row(m[:len(around)], []int{m[len(around)+1]}, m[len(around)+3:]), told) {
					t.Errorf("%d in %v at %d: %v, %v, without it %v, %v", c, around, level, l, m, levels, told)
				}
			}
		}
	}
}

// clEnd answers what closes the last one of a row.
func clEnd(l []int) int {
	if len(l) > 0 && slices.Contains(isolates, l[len(l)-1]) {
		return clPDI
	}
	return clPDF
}

// P11.2: all small rows.
func TestSmallRows(t *testing.T) {
	look := func(classes []int) { isAsDoc(t, classes) }
	eachRow(4, []int{clRLE, clLRE, clRLO, clLRO, clRLI, clLRI, clFSI, clPDF, clPDI, clL, clR, clBN, clAL, clB, clON, 99}, look)
	eachRow(5, []int{clRLE, clLRE, clRLO, clLRO, clRLI, clLRI, clFSI, clPDF, clPDI, clL, clR, clBN}, look)
	eachRow(7, []int{clRLO, clLRI, clFSI, clPDF, clPDI, clR}, look)
	eachRow(8, []int{clLRE, clRLI, clPDF, clPDI, clB}, look)
}

// P11.4: levels are from the paragraph's to MaxDepth.
func TestInBounds(t *testing.T) {
	eachRow(5, []int{clRLE, clLRO, clRLI, clFSI, clPDF, clPDI, clR, clB}, func(classes []int) {
		for level := range 2 {
			levels, told := Explicit(classes, level)
			if len(levels) != len(classes) || len(told) != len(classes) {
				t.Fatalf("%v at %d: %v, %v", classes, level, levels, told)
			}
			for at, c := range classes {
				if Removed(c) && (levels[at] != none || told[at] != c) || !Removed(c) && (levels[at] < level || levels[at] > api.MaxDepth) {
					t.Errorf("%v at %d: %v, %v", classes, level, levels, told)
				}
			}
		}
	})
}

// P11.4: without embeddings, overrides and isolates all that has a level has the paragraph's, and is told as itself.
func TestFlat(t *testing.T) {
	items := append(span(clL, clON), clPDF, clPDI)
	flat := func(classes []int) {
		for level := range 2 {
			var want []int
			for _, c := range classes {
				if c == clBN || c == clPDF {
					want = append(want, none)
				} else {
					want = append(want, level)
				}
			}
			isTold(t, classes, level, want, classes)
		}
	}
	eachRow(3, items, flat)
	eachRow(6, []int{clL, clAL, clPDF, clPDI, clB}, flat)
	eachRow(2, nones, flat)
}

// P11.5: what stands in an isolate, where each initiator and PDI there has its own there, changes no level around it, and as what nothing around it is told.
func TestIsolated(t *testing.T) {
	var stretches [][]int
	eachRow(3, []int{clL, clR, clRLE, clLRO, clRLI, clFSI, clPDF, clPDI, clB}, func(stretch []int) {
		if itself(stretch) {
			stretches = append(stretches, stretch)
		}
	})
	stretches = append(stretches, named(t, "LRI RLO PDF PDF PDI PDF"), named(t, "FSI RLI R PDI PDI RLE"), slices.Repeat([]int{clRLE}, 130), slices.Repeat([]int{clPDF}, 130), row(slices.Repeat([]int{clLRI}, 130), slices.Repeat([]int{clPDI}, 130)), row(slices.Repeat([]int{clRLO}, 65), []int{clLRI, clRLE, clPDI, clPDF}))
	if len(stretches) < 300 {
		t.Errorf("only %d stretches", len(stretches))
	}
	eachRow(2, []int{clL, clRLO, clLRI, clFSI, clPDI}, func(ahead []int) {
		eachRow(2, []int{clR, clLRE, clPDF, clPDI}, func(behind []int) {
			staysAround(t, ahead, behind, stretches)
		})
	})
	for _, n := range []int{61, 62, 63, 64} {
		for _, c := range []int{clLRE, clRLO, clLRI, clRLI} {
			for _, behind := range [][]int{{clL}, {clPDF, clL, clRLE, clL}, {clRLE, clL}, {clPDI, clRLI, clR}, {clPDF, clPDF, clR}, {clPDI, clPDI, clAL}} {
				staysAround(t, slices.Repeat([]int{c}, n), behind, stretches)
			}
		}
	}
}

// staysAround tells whether each of the stretches, in an isolate, leaves what is around it as it is.
func staysAround(t *testing.T, ahead, behind []int, stretches [][]int) {
	t.Helper()
	for _, one := range isolates {
		// What stands ahead is told likewise, if the isolate is not closed.
		for _, rest := range [][]int{row([]int{clPDI}, behind), nil} {
			level := (len(ahead) + len(behind)) % 2
			levels, told := Explicit(row(ahead, []int{one}, rest), level)
			from := len(ahead) + 1
			for _, stretch := range stretches {
				l, m := Explicit(row(ahead, []int{one}, stretch, rest), level)
				to := from + len(stretch)
				if !slices.Equal(row(l[:from], l[to:]), levels) || !slices.Equal(row(m[:from], m[to:]), told) {
					t.Errorf("%v, %d, %v, %v at %d: %v, %v, without what stands there %v, %v", ahead, one, stretch, rest, level, l, m, levels, told)
				}
			}
		}
	}
}

// P11.6: what comes behind changes nothing of what stands ahead of the first FSI.
func TestAhead(t *testing.T) {
	behinds := [][]int{}
	eachRow(2, []int{clL, clR, clRLE, clLRO, clRLI, clFSI, clPDF, clPDI, clBN, clB}, func(behind []int) {
		behinds = append(behinds, behind)
	})
	eachRow(4, []int{clL, clR, clLRE, clRLO, clRLI, clLRI, clPDF, clPDI}, func(ahead []int) {
		level := len(ahead) % 2
		levels, told := Explicit(ahead, level)
		for _, behind := range behinds {
			l, m := Explicit(row(ahead, behind), level)
			if !slices.Equal(l[:len(ahead)], levels) || !slices.Equal(m[:len(ahead)], told) {
				t.Errorf("%v, %v at %d: %v, %v, without what is behind %v, %v", ahead, behind, level, l, m, levels, told)
			}
		}
	})
}
