package neutral

import (
	"math"
	"slices"
	"testing"
)

// settles holds what a sequence's classes become against some.
func settles(t *testing.T, types []int, level, sos, eos int, want []int) {
	t.Helper()
	if l := Settle(types, level, sos, eos); !slices.Equal(l, want) {
		t.Errorf("%v of level %d between %d and %d: %v, not %v", types, level, sos, eos, l, want)
	}
}

// letters are the directions that stand ahead of a sequence, or behind it.
var letters = []int{clL, clR}

// isAsDoc holds what a sequence's classes become, even and odd, between some directions, against the chapter read place by place.
func isAsDoc(t *testing.T, types []int, directions ...int) {
	t.Helper()
	for level := range 2 {
		for _, sos := range directions {
			for _, eos := range directions {
				settles(t, types, level, sos, eos, docSettle(types, level, sos, eos))
			}
		}
	}
}

// example is classes by names, what is told of their sequence, and the names of what they become.
type example struct {
	names           string
	level, sos, eos int
	want            string
}

func areSettled(t *testing.T, l []example) {
	t.Helper()
	for _, x := range l {
		settles(t, named(t, x.names), x.level, x.sos, x.eos, named(t, x.want))
		isAsDoc(t, named(t, x.names), clL, clR, clEN, clON, 99)
	}
}

// P15.1: the chapter's examples.
func TestExamples(t *testing.T) {
	areSettled(t, []example{
		{"ON L ON ON R ON", 0, clL, clR, "L L L L R R"},
		{"R WS EN WS L", 0, clL, clL, "R R EN L L"},
		{"ON", 1, clL, clR, "R"},
	})
}

// P15.1: no classes.
func TestNothing(t *testing.T) {
	for _, level := range []int{0, 1, -1, math.MaxInt, math.MinInt} {
		for _, direction := range all() {
			settles(t, nil, level, direction, direction, nil)
			settles(t, []int{}, level, direction, clR, nil)
		}
	}
}

// P15.1: sequences that are one gap, have none, or some, ahead of all, behind all, and in between.
func TestGaps(t *testing.T) {
	areSettled(t, []example{
		{"ON", 0, clL, clL, "L"}, {"ON", 0, clR, clR, "R"}, {"ON", 1, clL, clL, "L"}, {"ON", 1, clR, clR, "R"},
		{"ON", 0, clL, clR, "L"}, {"ON", 0, clR, clL, "L"}, {"ON", 1, clR, clL, "R"}, {"ON WS S", 0, clR, clR, "R R R"}, {"ON WS S", 0, clR, clL, "L L L"}, {"B S WS ON", 1, clL, clR, "R R R R"},
		{"L", 1, clR, clR, "L"}, {"R L", 0, clL, clL, "R L"}, {"L R EN AN L", 1, clR, clR, "L R EN AN L"}, {"AN EN", 0, clL, clL, "AN EN"},
		{"ON L", 1, clL, clR, "L L"}, {"ON L", 1, clR, clR, "R L"}, {"ON L", 0, clR, clR, "L L"}, {"WS ON R", 0, clR, clL, "R R R"}, {"WS ON R", 0, clL, clL, "L L R"}, {"WS ON R", 1, clL, clL, "R R R"},
		{"L ON", 1, clR, clL, "L L"}, {"L ON", 1, clL, clR, "L R"}, {"R ON WS", 0, clL, clR, "R R R"}, {"R ON WS", 0, clR, clL, "R L L"},
		{"L ON L", 1, clR, clR, "L L L"}, {"R ON R", 0, clL, clL, "R R R"}, {"L ON R", 0, clR, clR, "L L R"}, {"R ON L", 0, clR, clR, "R L L"}, {"L ON R", 1, clL, clL, "L R R"}, {"R ON L", 1, clL, clL, "R R L"},
		{"L ON WS S R", 0, clL, clL, "L L L L R"}, {"L ON WS S R", 1, clL, clL, "L R R R R"}, {"L ON WS S L", 1, clR, clR, "L L L L L"}, {"R B PDI NSM R", 0, clL, clL, "R R R R R"},
		{"ON R ON L ON", 0, clR, clR, "R R L L L"}, {"ON R ON L ON", 1, clR, clL, "R R R L L"}, {"ON L ON R ON", 0, clR, clL, "L L L R L"}, {"ON L ON R ON", 1, clL, clR, "L L R R R"}, {"L WS L WS R WS R WS L", 0, clL, clL, "L L L L R R R L L"}, {"L WS L WS R WS R WS L", 1, clL, clL, "L L L R R R R R L"},
	})
}

// P15.1: numbers beside a gap go with R, and stay.
func TestNumbers(t *testing.T) {
	areSettled(t, []example{
		{"EN ON EN", 0, clL, clL, "EN R EN"}, {"AN ON AN", 0, clL, clL, "AN R AN"}, {"EN ON AN", 0, clL, clL, "EN R AN"}, {"AN ON EN", 0, clL, clL, "AN R EN"},
		{"R ON EN", 0, clL, clL, "R R EN"}, {"EN ON R", 0, clL, clL, "EN R R"}, {"R ON AN", 0, clL, clL, "R R AN"}, {"AN ON R", 0, clL, clL, "AN R R"},
		{"L ON EN", 0, clL, clL, "L L EN"}, {"L ON EN", 1, clL, clL, "L R EN"}, {"EN ON L", 0, clL, clL, "EN L L"}, {"AN ON L", 1, clL, clL, "AN R L"},
		{"ON EN", 0, clR, clL, "R EN"}, {"ON EN", 0, clL, clL, "L EN"}, {"AN ON", 0, clL, clR, "AN R"}, {"AN ON", 0, clR, clL, "AN L"}, {"ON AN WS EN ON", 0, clR, clR, "R AN R EN R"},
	})
}

// P15.1: each class, and each number that is no class's, by itself, and in a gap of any others.
func TestEachClass(t *testing.T) {
	for _, c := range all() {
		isAsDoc(t, []int{c}, all()...)
		for _, other := range all() {
			isAsDoc(t, []int{c, other}, clL, clR, clEN, c)
		}
		if slices.Contains(strong, c) {
			settles(t, []int{c, c}, 0, clR, clL, []int{c, c})
			continue
		}
		settles(t, []int{c}, 0, clR, clR, []int{clR})
		settles(t, []int{c}, 1, clL, clL, []int{clL})
		settles(t, []int{c}, 0, clR, clL, []int{clL})
		settles(t, []int{c}, 1, clR, clL, []int{clR})
		settles(t, []int{clR, c, clEN}, 0, clL, clL, []int{clR, clR, clEN})
		settles(t, []int{clL, clON, c, clWS, clL}, 1, clR, clR, times(5, clL))
		settles(t, []int{c, clL, c, clR, c}, 0, clR, clL, []int{clL, clL, clL, clR, clL})
		settles(t, []int{c, clL, c, clR, c}, 1, clL, clR, []int{clL, clL, clR, clR, clR})
	}
	settles(t, weak(), 0, clR, clR, times(len(weak()), clR))
	settles(t, row(strong, weak(), strong), 0, clL, clL, row(strong, times(len(weak()), clL), strong))
}

// P15.1: each two of what has a direction around a gap, and each direction ahead and behind.
func TestAround(t *testing.T) {
	gaps := [][]int{{clON}, {clWS, clON}, {clAL, clNSM, 99}, {clLRI, clPDI, -1, clON}, times(9, clWS)}
	for _, gap := range gaps {
		for _, one := range strong {
			for _, other := range strong {
				isAsDoc(t, row([]int{one}, gap, []int{other}), letters...)
				isAsDoc(t, row(gap, []int{one}, gap, []int{other}, gap), letters...)
				for level := range 2 {
					want := level
					if one == other || one != clL && other != clL {
						want = min(one, clR)
					}
					settles(t, row([]int{one}, gap, []int{other}), level, clL, clR, row([]int{one}, times(len(gap), want), []int{other}))
				}
			}
		}
	}
}

// P15.1: what is alike ahead and behind is what a gap between them becomes, whatever number it is; it is told from L and R, and goes with nothing else.
func TestOddDirections(t *testing.T) {
	gap := []int{clON, clWS, clAL}
	for _, c := range all() {
		for level := range 2 {
			settles(t, gap, level, c, c, times(3, c))
			settles(t, row(gap, []int{clL}, gap, []int{clEN}, gap), level, c, c, docSettle(row(gap, []int{clL}, gap, []int{clEN}, gap), level, c, c))
			if c != clL && c != clR {
				settles(t, gap, level, c, clL, times(3, level))
				settles(t, gap, level, clR, c, times(3, level))
				settles(t, row(gap, []int{clL}, gap), level, c, c, row(times(3, level), []int{clL}, times(3, level)))
				settles(t, row(gap, []int{clR}, gap), level, c, c, row(times(3, level), []int{clR}, times(3, level)))
				settles(t, row(gap, []int{clEN}, gap), level, c, c, row(times(3, level), []int{clEN}, times(3, level)))
			}
		}
		for _, other := range all() {
			if c != other {
				settles(t, gap, 0, c, other, times(3, clL))
				settles(t, gap, 1, c, other, times(3, clR))
			}
		}
	}
}

// P15.1: levels of all kinds, also such as no sequence has; even ones have L, odd ones R.
func TestLevelsOfSequences(t *testing.T) {
	types := []int{clON, clR, clON, clL, clON}
	for _, level := range []int{0, 2, 4, 126, 1 << 31, 1<<31 - 2, 1 << 62, math.MaxInt - 1, -2, -4, -126, math.MinInt} {
		settles(t, types, level, clL, clR, []int{clL, clR, clL, clL, clL})
		settles(t, types, level, clR, clL, []int{clR, clR, clL, clL, clL})
	}
	for _, level := range []int{1, 3, 5, 125, 1<<31 - 1, 1<<31 + 1, 1<<62 + 1, math.MaxInt, -1, -3, -125, math.MinInt + 1} {
		settles(t, types, level, clL, clR, []int{clR, clR, clR, clL, clR})
		settles(t, types, level, clR, clL, []int{clR, clR, clR, clL, clL})
	}
}

// small calls look with many small rows.
func small(look func(types []int)) {
	eachRow(3, append(span(clL, clPDI), 99), look)
	eachRow(6, []int{clL, clR, clEN, clAN, clON, clWS}, look)
}

// P15.1: all small rows.
func TestSmallRows(t *testing.T) {
	small(func(types []int) { isAsDoc(t, types, clL, clR) })
	eachRow(5, []int{clL, clR, clEN, clAN, clON, 99}, func(types []int) { isAsDoc(t, types, clL, clR, clEN, clON, 99) })
	eachRow(9, []int{clL, clR, clON}, func(types []int) { isAsDoc(t, types, clL, clR) })
}

// P15.1: long rows, which take no longer than a row of that length needs.
func TestLong(t *testing.T) {
	const n = 1 << 20
	settles(t, times(n, clON), 0, clR, clR, times(n, clR))
	settles(t, times(n, clON), 1, clL, clR, times(n, clR))
	settles(t, append(times(n, clON), clR), 0, clR, clL, times(n+1, clR))
	settles(t, append([]int{clL}, times(n, clON)...), 1, clR, clL, times(n+1, clL))
	settles(t, turns(n, clEN, clON), 0, clL, clR, turns(n, clEN, clR))
	settles(t, turns(n, clL, clON), 1, clR, clL, times(n, clL))
	settles(t, times(n, clAN), 0, clL, clL, times(n, clAN))
}

// P15.4: between L and R as directions nothing but L, R, EN and AN is left, and what is settled stays so.
func TestSettled(t *testing.T) {
	look := func(types []int) {
		for _, sos := range letters {
			for _, eos := range letters {
				for level := range 2 {
					l := Settle(types, level, sos, eos)
					if len(l) != len(types) || slices.ContainsFunc(l, func(c int) bool { return !slices.Contains(strong, c) }) {
						t.Errorf("%v of level %d between %d and %d: %v", types, level, sos, eos, l)
					}
					settles(t, l, level, sos, eos, l)
					settles(t, l, 1-level, eos, sos, l)
				}
			}
		}
	}
	small(look)
	eachRow(2, all(), look)
}

// P15.5: behind an L or an R the rest is settled by itself, and what stands ahead as what has it behind.
func TestParted(t *testing.T) {
	look := func(types []int, directions ...int) {
		for at, c := range types {
			if c != clL && c != clR {
				continue
			}
			for _, sos := range directions {
				for _, eos := range directions {
					for level := range 2 {
						settles(t, types, level, sos, eos, row(Settle(types[:at], level, sos, c), []int{c}, Settle(types[at+1:], level, c, eos)))
					}
				}
			}
		}
	}
	small(func(types []int) { look(types, letters...) })
	eachRow(2, all(), func(types []int) {
		for _, c := range letters {
			look(row(types, []int{c}, types), clL, clR, clAN, 99)
		}
	})
}

// turned answers numbers with L and R exchanged.
func turned(l []int) []int {
	l = slices.Clone(l)
	for at, c := range l {
		if c == clL || c == clR {
			l[at] = clL + clR - c
		}
	}
	return l
}

// P15.6: with L and R exchanged, in the classes, on both sides, and by the level, all becomes what it did, exchanged.
func TestTurnedRound(t *testing.T) {
	look := func(types []int) {
		if slices.Contains(types, clEN) || slices.Contains(types, clAN) {
			return
		}
		for _, sos := range []int{clL, clR, clEN, clAN, 99} {
			for _, eos := range []int{clL, clR, clEN, clAN, 99} {
				sides := turned([]int{sos, eos})
				for level := range 2 {
					want := turned(Settle(types, level, sos, eos))
					settles(t, turned(types), level+1, sides[0], sides[1], want)
					settles(t, turned(types), level-1, sides[0], sides[1], want)
				}
			}
		}
	}
	small(look)
	eachRow(2, all(), look)
	eachRow(7, []int{clL, clR, clON}, look)
}
