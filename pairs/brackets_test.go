package pairs

import (
	"math"
	"slices"
	"testing"
)

// become holds what a sequence's classes become against some.
func become(t *testing.T, places []place, level, sos int, want []int) {
	t.Helper()
	types, codes, own := lists(places)
	if l := Brackets(types, codes, own, level, sos); !slices.Equal(l, want) {
		t.Errorf("%v %x %v, level %d, behind %d: %v, not %v", types, codes, own, level, sos, l, want)
	}
}

// isAsDoc holds what a sequence's classes become, at each of some levels, behind each of some directions, against the chapter read place by place.
func isAsDoc(t *testing.T, places []place, levels, directions []int) {
	t.Helper()
	types, codes, own := lists(places)
	for _, level := range levels {
		for _, sos := range directions {
			become(t, places, level, sos, docBrackets(types, codes, own, level, sos))
		}
	}
}

// Levels and directions that each sequence told by hand is tried with.
var (
	levels     = []int{0, 1, 2, 3, 125, 126, -1, -2, math.MaxInt, math.MinInt, math.MinInt + 1}
	directions = []int{clL, clR, clAL, clEN, clAN, clON, clPDI, -1, 99, 1 << 32, 1<<32 | clR, math.MaxInt, math.MinInt}
)

// example is a sequence in words, its level, the direction ahead, and the names of what its classes become.
type example struct {
	places     string
	level, sos int
	want       string
}

func areSettled(t *testing.T, l []example) {
	t.Helper()
	for _, x := range l {
		places := read(t, x.places)
		become(t, places, x.level, x.sos, named(t, x.want))
		isAsDoc(t, places, levels, directions)
	}
}

// P14.2: the chapter's examples.
func TestBracketsExamples(t *testing.T) {
	areSettled(t, []example{
		{"R ( L )", 0, clL, "R L L L"},
		{"L ( R )", 0, clR, "L L R L"},
		{"R ( R )", 0, clL, "R R R R"},
		{"( ON )", 1, clL, "ON ON ON"},
	})
}

// P14.2: none of no places, and none of lists that are unlike long.
func TestBracketsUnlikeLong(t *testing.T) {
	become(t, nil, 0, clL, nil)
	types, codes, own := lists(read(t, "( R ) NSM/ON"))
	for n := range 5 {
		for m := range 5 {
			for o := range 5 {
				l := Brackets(types[:n], codes[:m], own[:o], 0, clL)
				if n != m || n != o {
					if len(l) != 0 {
						t.Errorf("%d, %d, %d places: %v", n, m, o, l)
					}
				} else if want := [][]int{nil, {clON}, {clON, clR}, {clL, clR, clL}, {clL, clR, clL, clL}}[n]; !slices.Equal(l, want) {
					t.Errorf("%d places: %v, not %v", n, l, want)
				}
			}
		}
	}
	for _, lists := range [][3][]int{{types, nil, nil}, {nil, codes, nil}, {nil, nil, own}, {types, codes, nil}, {types, nil, own}, {nil, codes, own}} {
		if l := Brackets(lists[0], lists[1], lists[2], 1, clR); len(l) != 0 {
			t.Errorf("%v: %v", lists, l)
		}
	}
}

// P14.2: where the sequence's direction stands between the brackets, they become that, whatever else stands there or ahead.
func TestBracketsOwnDirection(t *testing.T) {
	areSettled(t, []example{
		{"( L )", 0, clL, "L L L"}, {"( L )", 0, clR, "L L L"}, {"( R )", 1, clL, "R R R"}, {"( R )", 1, clR, "R R R"},
		{"R ( R L )", 0, clR, "R L R L L"}, {"R ( L R )", 0, clR, "R L L R L"}, {"R ( L EN AN R )", 2, clR, "R L L EN AN R L"},
		{"L ( L R )", 1, clL, "L R L R R"}, {"L ( R L )", 3, clL, "L R R L R"}, {"L ( L EN )", 1, clL, "L R L EN R"}, {"L ( L WS AN )", 125, clL, "L R L WS AN R"},
		{"( ON WS L ON )", 0, clR, "L ON WS L ON L"}, {"L ( L )", 1, clL, "L L L L"}, {"( L )", 1, clR, "R L R"},
		{"( L ) R", -2, clR, "L L L R"}, {"( R ) L", -1, clL, "R R R L"}, {"L ( R L )", math.MinInt + 1, clL, "L R R L R"}, {"R ( R L )", math.MinInt, clR, "R L R L L"}, {"L ( R L )", math.MaxInt, clL, "L R R L R"},
	})
}

// P14.2: where just the other one stands there, they become what is ahead of them.
func TestBracketsOtherDirection(t *testing.T) {
	areSettled(t, []example{
		// By the last letter ahead, past what has none.
		{"L ( R )", 0, clR, "L L R L"}, {"R ( R )", 0, clL, "R R R R"}, {"EN ( R )", 0, clL, "EN R R R"}, {"AN ( R )", 0, clL, "AN R R R"}, {"R L ( R )", 0, clR, "R L L R L"}, {"L R ( R )", 0, clL, "L R R R R"},
		{"L EN ( EN )", 0, clL, "L EN R EN R"}, {"EN L ( EN )", 0, clR, "EN L L EN L"}, {"R WS ON S ( R )", 0, clL, "R WS ON S R R R"}, {"L WS ON S ( R )", 0, clR, "L WS ON S L R L"}, {"R AL ET ES CS NSM ( R )", 0, clL, "R AL ET ES CS NSM R R R"},
		{"L ( L )", 1, clR, "L L L L"}, {"R ( L )", 1, clL, "R R L R"}, {"EN ( L )", 1, clL, "EN R L R"}, {"AN ( L )", 1, clL, "AN R L R"}, {"EN WS L ( L )", 1, clR, "EN WS L L L L"}, {"L AN ON ( L )", 1, clL, "L AN ON R L R"},
		// By the direction ahead of the sequence, where there is none.
		{"( R )", 0, clL, "L R L"}, {"( R )", 0, clR, "R R R"}, {"( L )", 1, clL, "L L L"}, {"( L )", 1, clR, "R L R"}, {"ON WS ( R )", 0, clR, "ON WS R R R"}, {"ON WS ( L )", 1, clL, "ON WS L L L"}, {"AL ( R )", 0, clL, "AL L R L"}, {"AL ( R )", 0, clR, "AL R R R"},
		{"( R )", -2, clR, "R R R"}, {"( L )", -1, clL, "L L L"}, {"( R )", math.MinInt, clR, "R R R"}, {"( L )", math.MaxInt, clL, "L L L"},
		// What stands behind them does not count.
		{"( R ) R", 0, clL, "L R L R"}, {"( L ) L", 1, clR, "R L R L"}, {"( R ) L", 0, clR, "R R R L"},
	})
	// A direction ahead that is neither of the two is not the other one, also if it is a number's class.
	for _, sos := range []int{clEN, clAN, clAL, clON, clPDI, -1, 99, 1<<32 | clR, 1 << 32, math.MinInt, math.MinInt | clR} {
		become(t, read(t, "( R )"), 0, sos, named(t, "L R L"))
		become(t, read(t, "ON ( EN )"), 2, sos, named(t, "ON L EN L"))
		become(t, read(t, "( L )"), 1, sos, named(t, "R L R"))
		become(t, read(t, "R ( R )"), 0, sos, named(t, "R R R R"))
		become(t, read(t, "L ( L )"), 1, sos, named(t, "L L L L"))
	}
}

// P14.2: EN and AN stand for R, between the brackets and ahead of them; other classes for nothing.
func TestBracketsNumbers(t *testing.T) {
	areSettled(t, []example{
		{"( EN )", 1, clL, "R EN R"}, {"( AN )", 1, clL, "R AN R"}, {"( EN )", 0, clR, "R EN R"}, {"( AN )", 0, clR, "R AN R"}, {"( EN )", 0, clL, "L EN L"}, {"( AN )", 0, clL, "L AN L"},
		{"L ( EN L )", 1, clL, "L R EN L R"}, {"R ( EN L )", 0, clR, "R L EN L L"},
	})
	for _, c := range all() {
		one := []place{of(clR), bracket('('), of(c), bracket(')')}
		want, odd := []int{clR, clON, c, clON}, []int{clR, clON, c, clON}
		switch c {
		case clL:
			want, odd = []int{clR, clL, c, clL}, []int{clR, clR, c, clR}
		case clR, clEN, clAN:
			want = []int{clR, clR, c, clR}
			odd = want
		}
		become(t, one, 0, clL, want)
		become(t, one, 1, clL, odd)
		ahead := []place{of(clL), of(c), bracket('('), of(clR), bracket(')')}
		want = []int{clL, c, clL, clR, clL}
		if c == clR || c == clEN || c == clAN {
			want = []int{clL, c, clR, clR, clR}
		}
		become(t, ahead, 0, clL, want)
		isAsDoc(t, one, levels, directions)
		isAsDoc(t, ahead, levels, directions)
	}
}

// P14.2: brackets stay, where no letter stands between them, or where they are no pair's.
func TestBracketsStay(t *testing.T) {
	areSettled(t, []example{
		{"( )", 0, clR, "ON ON"}, {"L ( ) L", 0, clL, "L ON ON L"}, {"R ( WS ON ) R", 1, clR, "R ON WS ON ON R"}, {"R ( AL ) R", 0, clR, "R ON AL ON R"}, {"L ( NSM S ) L", 0, clL, "L ON NSM S ON L"}, {"L ( [ ] ) L", 0, clL, "L ON ON ON ON L"},
		{"( L", 0, clL, "ON L"}, {"L )", 0, clL, "L ON"}, {") L (", 0, clL, "ON L ON"}, {"( L ]", 0, clL, "ON L ON"}, {"L (/L R )", 0, clR, "L L R ON"}, {"L ( R )/R", 0, clR, "L ON R R"}, {"R ( L [ R ) L ]", 0, clR, "R L L ON R L L ON"},
		{"L R EN AN ON WS", 0, clL, "L R EN AN ON WS"},
	})
	for _, c := range all() {
		if c != clON {
			become(t, []place{{c, '(', clON}, of(clL), bracket(')')}, 0, clL, []int{c, clL, clON})
			become(t, []place{bracket('('), of(clL), {c, ')', clON}}, 0, clL, []int{clON, clL, c})
		}
		// What the bracket was is no matter, but for a mark.
		if c != clNSM {
			become(t, []place{{clON, '(', c}, of(clL), {clON, ')', c}}, 0, clL, []int{clL, clL, clL})
		}
	}
	for _, code := range noCodes {
		become(t, []place{bracket(code), of(clL), bracket(code)}, 0, clL, []int{clON, clL, clON})
		become(t, []place{bracket('('), of(clL), bracket(code)}, 0, clL, []int{clON, clL, clON})
	}
}

// P14.2: pair by pair, by the places of what opens, of what the ones ahead have become.
func TestBracketsByThen(t *testing.T) {
	areSettled(t, []example{
		// What became of a pair is the last letter ahead of the next one.
		{"( R ) ( R )", 0, clR, "R R R R R R"}, {"R ( L ) ( R )", 0, clR, "R L L L L R L"}, {"( L ) ( R )", 0, clR, "L L L L R L"}, {"( R ) [ L ] { R }", 0, clR, "R R R L L L L R L"}, {"( L ) WS [ L ] ( R ) { L }", 1, clL, "L L L WS L L L R R R R L R"},
		{"R ( ) ( R )", 0, clL, "R ON ON R R R"}, {"( ON ) ( R )", 0, clR, "ON ON ON R R R"},
		// What became of the one around is so for the inner one, ahead of it.
		{"( [ R ] )", 0, clR, "R R R R R"}, {"R ( L [ R ] )", 0, clR, "R L L L R L L"}, {"R ( [ R ] L )", 0, clR, "R L L R L L L"}, {"R ( [ R ] [ L ] { R } )", 0, clR, "R L L R L L L L L R L L"}, {"( [ R ] )", 0, clL, "L L R L L"},
		{"L ( [ L ] R )", 1, clL, "L R R L R R R"}, {"L ( [ L ] )", 1, clR, "L L L L L L"},
		// Those around are told ahead of those in them.
		{"R ( [ R L ] )", 0, clR, "R L L R L L L"}, {"( ( ( EN ) ) )", 0, clR, "R R R EN R R R"}, {"( [ ] R )", 0, clR, "R ON ON R R"}, {"L ( [ R ] )", 0, clL, "L L L R L L"},
		// One between the two of another one that crosses it is none.
		{"R ( [ L ) R ]", 0, clR, "R L ON L L R ON"},
	})
	// The inner ones' brackets that were letters already, since marks have become so, count for those that come later.
	areSettled(t, []example{
		{"R ( NSM/ON [ R ] L )", 0, clR, "R L L L R L L L"}, {"( R ) NSM/R ( R )", 0, clL, "L R L L L R L"}, {"( R ) NSM/ON [ R ]", 0, clR, "R R R R R R R"},
	})
}

// P14.2: the marks behind a bracket become what it did, by their own classes.
func TestBracketsMarks(t *testing.T) {
	areSettled(t, []example{
		{"( NSM/ON L )", 0, clR, "L L L L"}, {"( L ) NSM/ON", 0, clR, "L L L L"}, {"( NSM/ON L ) NSM/ON R", 0, clR, "L L L L L R"}, {"R ( NSM/ON NSM/ON R ) NSM/ON NSM/ON NSM/ON", 0, clL, "R R R R R R R R R"},
		{"( L NSM/L )", 1, clL, "L L L L"}, {"R ( L NSM/L ) NSM/ON", 1, clL, "R R L L R R"},
		{"( L ) NSM/ON ON NSM/ON", 0, clL, "L L L L ON ON"}, {"( L ) ON NSM/ON", 0, clL, "L L L ON ON"}, {"( L ) R NSM/R", 0, clL, "L L L R R"}, {"( ON NSM/ON L )", 0, clL, "L ON ON L L"},
		// Whatever class they are by then.
		{"( L ) NSM NSM/R NSM/AL NSM/EN NSM/AN NSM/B NSM/LRI NSM/PDI R", 0, clL, "L L L L L L L L L L L R"}, {"( NSM/R L )", 0, clR, "L L L L"}, {"( NSM/EN )", 0, clR, "R R R"}, {"( NSM/L )", 1, clR, "R R R"}, {"( NSM/L )", 1, clL, "L L L"}, {"( NSM/R R )", 0, clL, "L L R L"},
		// Other classes are none, though by then they are NSM.
		{"( L ) ON/NSM NSM/ON", 0, clL, "L L L NSM ON"}, {"( BN/NSM L ) BN/ON", 0, clL, "L NSM L L ON"},
		// Right ahead of another bracket, and of the pair's own.
		{"( L ) NSM/ON [ R ]", 0, clL, "L L L L L R L"}, {"R ( L ) NSM/ON [ R ]", 0, clR, "R L L L L L R L"}, {"( R ) NSM/ON ( NSM/ON ) NSM/ON", 0, clR, "R R R R ON ON ON ON"}, {"( L NSM/ON ) NSM/ON", 0, clL, "L L ON L L"}, {"( NSM/L ) NSM/L", 0, clL, "L L L L"},
		// Behind brackets that stay they stay.
		{"( NSM/ON ) NSM/ON", 0, clL, "ON ON ON ON"}, {"( NSM/ON L", 0, clL, "ON ON L"}, {"L ) NSM/ON", 0, clL, "L ON ON"}, {"(/ON ON ) NSM/R", 0, clR, "ON ON ON R"}, {"NSM/ON ( L )", 0, clL, "ON L L L"}, {"[ NSM/ON ( L ]", 0, clL, "L L ON L L"}, {"( L [ NSM/ON )", 0, clL, "L L ON ON L"},
	})
	for n := range 40 {
		marks := times(n, mark(clON))
		places := row(read(t, "("), marks, read(t, "R )"), marks, read(t, "WS"), marks)
		become(t, places, 0, clR, row(times(2*n+3, clR), []int{clWS}, times(n, clON)))
		become(t, row(read(t, "( R )"), marks), 2, clL, row([]int{clL, clR}, times(n+1, clL)))
	}
	for _, c := range nones {
		become(t, []place{bracket('('), mark(c), of(clL), bracket(')'), mark(c)}, 0, clR, times(5, clL))
		become(t, []place{bracket('('), {clON, 'x', c}, of(clL), bracket(')'), {clON, 'x', c}}, 0, clR, []int{clL, clON, clL, clL, clON})
	}
}

// P14.2: a bracket that is a mark itself becomes what the one ahead did, and then what its own pair does, if that does.
func TestBracketsThatAreMarks(t *testing.T) {
	marked := func(code int) place { return place{clON, code, clNSM} }
	look := func(level, sos int, want []int, places ...place) {
		t.Helper()
		become(t, places, level, sos, want)
		isAsDoc(t, places, levels, directions)
	}
	look(0, clR, []int{clL, clL, clL, clL}, bracket('('), marked('['), of(clL), bracket(')'))
	look(0, clR, []int{clR, clR, clR, clR, clR}, bracket('('), of(clR), bracket(')'), marked('['), marked(']'))
	look(0, clR, []int{clR, clR, clR, clL, clL, clL}, bracket('('), of(clR), bracket(')'), marked('['), of(clL), marked(']'))
	look(1, clL, []int{clL, clL, clL, clR, clR, clR}, bracket('('), of(clL), bracket(')'), marked('['), of(clR), bracket(']'))
	// The mark is a letter by then, between the brackets that come later.
	look(0, clL, []int{clL, clL, clL, clL, clR, clL}, bracket('('), of(clL), bracket(')'), marked('['), of(clR), marked(']'))
	look(0, clR, []int{clR, clR, clR}, marked('('), of(clR), marked(')'))
}

// P14.2: many brackets: 63 in one another become something, behind more none does.
func TestBracketsMany(t *testing.T) {
	for _, n := range []int{1, 62, 63, 64, 65} {
		places := row(times(n, bracket('(')), read(t, "R"), times(n, bracket(')')))
		want := times(2*n+1, clR)
		if n > 63 {
			want = row(times(n, clON), []int{clR}, times(n, clON))
		}
		become(t, places, 0, clR, want)
		become(t, places, 1, clL, want)
		isAsDoc(t, places, levels, directions)
		behind := row(read(t, "[ L ]"), places, read(t, "[ L ]"))
		isAsDoc(t, behind, levels, directions)
	}
}

// someSequences calls look with many small sequences.
func someSequences(look func(places []place)) {
	on := mark(clON)
	eachRow(5, []place{of(clL), of(clR), of(clEN), bracket('x'), on, bracket('('), bracket(')'), bracket('['), bracket(']')}, look)
	eachRow(6, []place{of(clL), of(clR), on, bracket('('), bracket(')'), bracket('['), bracket(']')}, look)
	eachRow(7, []place{of(clL), of(clR), bracket('('), bracket(')'), bracket('[')}, look)
	eachRow(5, []place{of(clL), of(clR), mark(clR), {clON, '(', clNSM}, {clON, ')', clNSM}, bracket('('), bracket(')'), {clL, ')', clON}}, look)
	eachRow(5, []place{of(clL), of(clAN), {clNSM, 'x', clON}, of(1<<32 | clR), bracket(0x2329), bracket(0x3008), bracket(0x232a), bracket(0x3009)}, look)
	// In a pair, or two, behind a letter, so that more is told of what stands in it.
	eachRow(4, []place{of(clL), of(clR), of(clAN), on, bracket('('), bracket(')'), bracket('['), bracket(']')}, func(places []place) {
		look(row([]place{of(clR), bracket('[')}, places, []place{bracket(']'), on}))
		look(row([]place{bracket('('), bracket('{')}, places, []place{bracket('}'), on, bracket(')')}))
	})
}

// P14.2: all small sequences.
func TestBracketsSmall(t *testing.T) {
	someSequences(func(places []place) {
		isAsDoc(t, places, []int{0, 1}, []int{clL, clR})
	})
	eachRow(3, []place{of(clL), of(clR), of(clAL), of(clEN), of(clWS), mark(clL), bracket('('), bracket(')')}, func(places []place) {
		isAsDoc(t, places, levels, directions)
	})
}

// P14.5: just brackets of pairs, and marks behind these, become something, and that is L or R.
func TestBracketsJustThese(t *testing.T) {
	someSequences(func(places []place) {
		types, codes, own := lists(places)
		may := make([]bool, len(places))
		for _, pair := range Find(types, codes) {
			for _, at := range []int{pair.Open, pair.Close} {
				may[at] = true
				for at++; at < len(own) && own[at] == clNSM; at++ {
					may[at] = true
				}
			}
		}
		for level := range 2 {
			for _, sos := range []int{clL, clR} {
				for at, c := range Brackets(types, codes, own, level, sos) {
					if c != types[at] && (!may[at] || c != clL && c != clR) {
						t.Errorf("%v %x %v, level %d, behind %d: at %d stands %d", types, codes, own, level, sos, at, c)
					}
				}
			}
		}
	})
}

// exchanged answers classes with L and R exchanged.
func exchanged(l []int) []int {
	l = slices.Clone(l)
	for at, c := range l {
		switch c {
		case clL:
			l[at] = clR
		case clR:
			l[at] = clL
		}
	}
	return l
}

// P14.6: what has no number becomes what it did, exchanged, if L and R are exchanged in the classes, in the direction ahead, and in the level.
func TestBracketsTurnedRound(t *testing.T) {
	someSequences(func(places []place) {
		types, codes, own := lists(places)
		if slices.Contains(types, clEN) || slices.Contains(types, clAN) {
			return
		}
		for level := range 2 {
			for _, sos := range []int{clL, clR, clON} {
				l := Brackets(types, codes, own, level, sos)
				turned := Brackets(exchanged(types), codes, own, level+1, exchanged([]int{sos})[0])
				if !slices.Equal(turned, exchanged(l)) {
					t.Errorf("%v %x %v, level %d, behind %d: %v, but turned round %v", types, codes, own, level, sos, l, turned)
				}
			}
		}
	})
}

// P14.2: long sequences, which take no longer than one of that length needs.
func TestBracketsLong(t *testing.T) {
	const n = 1 << 17
	// Side by side, with the last letter far ahead of each, and of all.
	pair := read(t, "( R )")
	become(t, slices.Repeat(pair, n), 0, clR, times(3*n, clR))
	become(t, slices.Repeat(pair, n), 0, clL, slices.Repeat(named(t, "L R L"), n))
	become(t, row(times(n, of(clON)), slices.Repeat(pair, n)), 0, clR, row(times(n, clON), times(3*n, clR)))
	become(t, slices.Repeat(read(t, "( )"), n), 0, clR, times(2*n, clON))
	// As deep as may be, around much, and with many marks.
	open, closed := times(63, bracket('(')), times(63, bracket(')'))
	become(t, row(times(n, of(clWS)), open, times(n, of(clWS)), []place{of(clR)}, closed), 0, clR, row(times(n, clWS), times(63, clR), times(n, clWS), times(64, clR)))
	become(t, row(open, times(n, of(clWS)), closed), 0, clR, row(times(63, clON), times(n, clWS), times(63, clON)))
	become(t, row(read(t, "( L )"), times(n, mark(clON))), 0, clR, times(n+3, clL))
	become(t, slices.Repeat(read(t, "( L NSM/L ) NSM/ON NSM/ON"), n), 0, clR, times(6*n, clL))
}
