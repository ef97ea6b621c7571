package weak

import (
	"slices"
	"testing"

	"parquetry/api"
)

// becomes holds what classes become, behind a direction, against some.
func becomes(t *testing.T, classes []int, sos int, want []int) {
	t.Helper()
	if l := Weak(classes, sos); !slices.Equal(l, want) {
		t.Errorf("%v behind %d: %v, not %v", classes, sos, l, want)
	}
}

// isAsDoc holds what classes become, behind some directions, against the chapter read place by place.
func isAsDoc(t *testing.T, classes []int, directions ...int) {
	t.Helper()
	for _, sos := range directions {
		becomes(t, classes, sos, docWeak(classes, sos))
	}
}

// example is classes by names, the direction ahead of them, and the names of what they become.
type example struct {
	names string
	sos   int
	want  string
}

func areSettled(t *testing.T, l []example) {
	t.Helper()
	for _, x := range l {
		becomes(t, named(t, x.names), x.sos, named(t, x.want))
		isAsDoc(t, named(t, x.names), clL, clR, clAL, clEN, clON, clRLI, 99)
	}
}

// P13.1: the chapter's examples.
func TestExamples(t *testing.T) {
	areSettled(t, []example{
		{"AL NSM NSM", clL, "R R R"}, {"NSM", clR, "R"}, {"RLI NSM", clL, "RLI ON"},
		{"AL EN", clL, "R AN"}, {"L EN", clR, "L L"}, {"EN", clR, "EN"},
		{"EN ES EN CS EN", clR, "EN EN EN EN EN"}, {"AN CS AN", clL, "AN AN AN"}, {"AN ES AN", clR, "AN ON AN"},
		{"ET ET EN ET", clR, "EN EN EN EN"}, {"ET AN", clR, "ON AN"},
	})
}

// P13.1: no classes, and each class and number by itself, behind each class and number as direction.
func TestAlone(t *testing.T) {
	for _, sos := range all() {
		becomes(t, nil, sos, nil)
		becomes(t, []int{}, sos, nil)
		for _, c := range all() {
			isAsDoc(t, []int{c}, sos)
			want := c
			switch c {
			case clAL:
				want = clR
			case clES, clET, clCS:
				want = clON
			case clEN:
				want = map[int]int{clL: clL, clAL: clAN}[sos]
				if sos != clL && sos != clAL {
					want = clEN
				}
			case clNSM:
				// It becomes what stands ahead, which the later rules settle; as an EN it has no letter ahead.
				want = sos
				switch sos {
				case clAL:
					want = clR
				case clES, clET, clCS:
					want = clON
				}
			}
			becomes(t, []int{c}, sos, []int{want})
		}
	}
}

// P13.1: an NSM at the first place, in the middle, at the end, behind others, and behind what begins and ends isolates.
func TestMarks(t *testing.T) {
	areSettled(t, []example{
		{"NSM", clL, "L"}, {"NSM NSM NSM", clR, "R R R"}, {"NSM L", clR, "R L"}, {"NSM R", clL, "L R"}, {"NSM NSM EN", clL, "L L L"}, {"NSM EN", clR, "R EN"},
		{"L NSM", clR, "L L"}, {"R NSM L", clL, "R R L"}, {"L R NSM", clL, "L R R"}, {"WS NSM", clL, "WS WS"}, {"B NSM S NSM ON NSM BN NSM", clR, "B B S S ON ON BN BN"}, {"AN NSM", clL, "AN AN"}, {"R ON NSM NSM L", clR, "R ON ON ON L"},
		{"RLE NSM LRE NSM", clL, "RLE RLE LRE LRE"}, {"RLO NSM LRO NSM PDF NSM", clR, "RLO RLO LRO LRO PDF PDF"},
		{"LRI NSM", clR, "LRI ON"}, {"RLI NSM", clL, "RLI ON"}, {"FSI NSM", clL, "FSI ON"}, {"PDI NSM", clR, "PDI ON"},
		{"LRI NSM NSM NSM L", clR, "LRI ON ON ON L"}, {"R FSI NSM PDI NSM R NSM", clL, "R FSI ON PDI ON R R"}, {"RLI PDI NSM", clL, "RLI PDI ON"}, {"NSM PDI NSM NSM", clR, "R PDI ON ON"}, {"L PDI NSM EN", clR, "L PDI ON L"},
	})
	// Ahead of the sequence stands no isolate's end of the sequence; but at its first place then one stands.
	for _, sos := range []int{clLRI, clRLI, clFSI, clPDI} {
		becomes(t, times(1, clNSM), sos, []int{sos})
		becomes(t, times(3, clNSM), sos, []int{sos, clON, clON})
		becomes(t, []int{clL, clNSM}, sos, []int{clL, clL})
	}
	for _, c := range nones {
		becomes(t, []int{c, clNSM, clNSM, clL, clNSM}, clR, []int{c, c, c, clL, clL})
		becomes(t, []int{clNSM, clNSM}, c, []int{c, c})
	}
	becomes(t, []int{clNSM, clNSM, clL}, clNSM, []int{clNSM, clNSM, clL})
}

// P13.1: an NSM that has become what a later rule changes, or looks for.
func TestMarksThatBecome(t *testing.T) {
	areSettled(t, []example{
		{"AL NSM EN", clL, "R R AN"}, {"NSM EN", clAL, "R AN"}, {"NSM", clAL, "R"}, {"R AL NSM ON EN", clL, "R R R ON AN"},
		{"EN NSM", clR, "EN EN"}, {"EN NSM CS EN", clR, "EN EN EN EN"}, {"AL EN NSM", clR, "R AN AN"}, {"L EN NSM NSM", clR, "L L L L"}, {"EN NSM ES NSM EN", clR, "EN EN ON ON EN"}, {"ET EN NSM ET", clR, "EN EN EN EN"},
		{"NSM ET", clEN, "EN EN"}, {"NSM CS EN", clEN, "EN EN EN"},
		{"AN NSM CS AN", clL, "AN AN AN AN"}, {"AN CS NSM AN", clL, "AN ON ON AN"}, {"NSM CS AN", clAN, "AN AN AN"},
		{"EN CS NSM EN", clR, "EN ON ON EN"}, {"EN ES NSM", clR, "EN ON ON"}, {"ES NSM", clL, "ON ON"}, {"CS NSM", clL, "ON ON"},
		{"ET NSM", clL, "ON ON"}, {"ET NSM EN", clR, "EN EN EN"}, {"EN ET NSM NSM ET", clR, "EN EN EN EN EN"}, {"L ET NSM EN", clR, "L L L L"},
		{"NSM", clES, "ON"}, {"NSM NSM", clCS, "ON ON"}, {"NSM EN", clET, "EN EN"}, {"NSM", clET, "ON"}, {"NSM EN", clCS, "ON EN"},
		{"LRI NSM ET EN", clR, "LRI ON EN EN"}, {"EN PDI NSM ET", clR, "EN PDI ON ON"},
	})
}

// P13.1: an EN by its letter ahead, across whatever is none, and where there is none but the direction ahead.
func TestNumbers(t *testing.T) {
	areSettled(t, []example{
		{"EN", clL, "L"}, {"EN", clR, "EN"}, {"EN", clAL, "AN"}, {"EN", clEN, "EN"}, {"EN", clAN, "EN"}, {"EN", clON, "EN"}, {"EN EN", clAL, "AN AN"}, {"EN EN", clL, "L L"},
		{"AL EN", clL, "R AN"}, {"AL EN L", clR, "R AN L"}, {"AL R EN", clL, "R R EN"}, {"AL L EN", clR, "R L L"}, {"R AL EN", clR, "R R AN"}, {"L AL EN", clL, "L R AN"}, {"L R EN", clL, "L R EN"}, {"R L EN", clR, "R L L"}, {"L EN R EN AL EN L EN", clR, "L L R EN R AN L L"},
		{"EN AL EN", clR, "EN R AN"}, {"EN AL", clL, "L R"}, {"EN L", clR, "EN L"}, {"EN R EN", clAL, "AN R EN"},
		{"AL ON WS S B BN AN EN", clL, "R ON WS S B BN AN AN"}, {"L ON WS S B BN AN EN", clR, "L ON WS S B BN AN L"}, {"AL RLE LRE RLO LRO PDF EN", clR, "R RLE LRE RLO LRO PDF AN"}, {"AL LRI RLI FSI PDI EN", clR, "R LRI RLI FSI PDI AN"}, {"L LRI RLI FSI PDI EN", clR, "L LRI RLI FSI PDI L"},
		{"AL ES CS ET EN", clL, "R ON ON ON AN"}, {"L ES CS ET EN", clR, "L ON ON L L"}, {"AL EN WS EN", clL, "R AN WS AN"}, {"ON EN", clL, "ON L"}, {"ON EN", clAL, "ON AN"}, {"AN EN", clL, "AN L"}, {"AN EN", clR, "AN EN"},
		{"AL", clL, "R"}, {"AL AL L AL", clR, "R R L R"}, {"ON AL ON", clL, "ON R ON"},
	})
	for _, c := range nones {
		becomes(t, []int{clEN, c, clEN}, c, []int{clEN, c, clEN})
		becomes(t, []int{clAL, c, clEN, clL, c, clEN}, clR, []int{clR, c, clAN, clL, c, clL})
	}
}

// P13.1: ES and CS between numbers, alike and unlike ones.
func TestBetween(t *testing.T) {
	areSettled(t, []example{
		{"EN ES EN", clR, "EN EN EN"}, {"EN CS EN", clR, "EN EN EN"}, {"EN ES EN", clL, "L L L"}, {"AN CS AN", clR, "AN AN AN"}, {"AN ES AN", clL, "AN ON AN"},
		{"EN ES AN", clR, "EN ON AN"}, {"AN ES EN", clR, "AN ON EN"}, {"EN CS AN", clR, "EN ON AN"}, {"AN CS EN", clR, "AN ON EN"}, {"AN CS EN", clL, "AN ON L"},
		{"EN ES ES EN", clR, "EN ON ON EN"}, {"EN CS CS EN", clR, "EN ON ON EN"}, {"EN ES CS EN", clR, "EN ON ON EN"}, {"AN CS CS AN", clR, "AN ON ON AN"}, {"EN CS ES CS EN", clR, "EN ON ON ON EN"},
		{"EN ES EN ES EN", clR, "EN EN EN EN EN"}, {"AN CS AN CS AN", clR, "AN AN AN AN AN"}, {"EN CS EN CS AN CS AN", clR, "EN EN EN ON AN AN AN"}, {"R EN ES EN L", clR, "R EN EN EN L"},
		{"ES", clR, "ON"}, {"CS", clR, "ON"}, {"ES EN", clR, "ON EN"}, {"CS EN", clEN, "ON EN"}, {"CS AN", clAN, "ON AN"}, {"EN ES", clR, "EN ON"}, {"EN CS", clR, "EN ON"}, {"AN CS", clR, "AN ON"}, {"ES EN", clEN, "ON EN"},
		{"EN WS CS EN", clR, "EN WS ON EN"}, {"EN CS BN EN", clR, "EN ON BN EN"}, {"L CS L", clR, "L ON L"}, {"R ES R", clL, "R ON R"}, {"ON CS ON", clL, "ON ON ON"},
		// By what the rules ahead made of the numbers.
		{"AL EN CS EN", clR, "R AN AN AN"}, {"AL EN ES EN", clR, "R AN ON AN"}, {"AL EN CS AN", clR, "R AN AN AN"}, {"AN CS EN", clAL, "AN AN AN"}, {"EN AL CS EN", clR, "EN R ON AN"}, {"EN CS R EN", clR, "EN ON R EN"},
	})
}

// P13.1: rows of ET, by what stands at their ends.
func TestSigns(t *testing.T) {
	areSettled(t, []example{
		{"ET", clR, "ON"}, {"ET ET ET", clR, "ON ON ON"}, {"ET", clEN, "ON"}, {"ET ET", clEN, "ON ON"},
		{"ET EN", clR, "EN EN"}, {"ET ET ET EN", clR, "EN EN EN EN"}, {"EN ET", clR, "EN EN"}, {"EN ET ET ET", clR, "EN EN EN EN"}, {"EN ET EN", clR, "EN EN EN"}, {"EN ET ET EN", clR, "EN EN EN EN"}, {"ET EN ET ET", clR, "EN EN EN EN"},
		{"ET AN", clR, "ON AN"}, {"AN ET", clR, "AN ON"}, {"AN ET EN", clR, "AN EN EN"}, {"EN ET ET AN", clR, "EN EN EN AN"}, {"AN ET AN", clR, "AN ON AN"}, {"L ET R", clR, "L ON R"}, {"R ET ET EN R", clL, "R EN EN EN R"},
		{"ET WS EN", clR, "ON WS EN"}, {"EN WS ET", clR, "EN WS ON"}, {"ET BN EN", clR, "ON BN EN"}, {"EN ET WS ET EN", clR, "EN EN WS EN EN"}, {"EN ET WS ET ET WS ET EN", clR, "EN EN WS ON ON WS EN EN"}, {"EN PDI ET", clR, "EN PDI ON"},
		{"ET ET EN", clL, "L L L"}, {"L ET EN", clR, "L L L"}, {"L EN ET ET", clR, "L L L L"}, {"L ET", clR, "L ON"}, {"R ET EN L ET EN", clL, "R EN EN L L L"},
		// By what the rules ahead made.
		{"AL ET EN", clL, "R ON AN"}, {"AL EN ET", clL, "R AN ON"}, {"ET EN", clAL, "ON AN"}, {"EN AL ET", clR, "EN R ON"},
		{"EN ES EN ET", clR, "EN EN EN EN"}, {"ET EN CS EN ET", clR, "EN EN EN EN EN"}, {"EN CS ET EN", clR, "EN ON EN EN"}, {"EN ET CS EN", clR, "EN EN ON EN"}, {"EN ET ES ET EN", clR, "EN EN ON EN EN"}, {"L EN ES EN ET", clR, "L L L L L"}, {"ES ET CS", clL, "ON ON ON"}, {"EN CS ET", clR, "EN ON ON"},
	})
	for n := 1; n <= 40; n++ {
		signs := times(n, clET)
		becomes(t, signs, clR, times(n, clON))
		becomes(t, row(signs, []int{clEN}), clR, times(n+1, clEN))
		becomes(t, row([]int{clEN}, signs), clR, times(n+1, clEN))
		becomes(t, row([]int{clEN}, signs, []int{clEN}), clL, times(n+2, clL))
		becomes(t, row([]int{clAN}, signs, []int{clAN}), clL, row([]int{clAN}, times(n, clON), []int{clAN}))
	}
}

// P13.1: what no rule speaks of stays, wherever it stands.
func TestOthers(t *testing.T) {
	others := append([]int{clL, clR, clAN, clBN, clB, clS, clWS, clON}, append(span(api.BidiLRE, clPDI), nones...)...)
	for _, c := range others {
		for _, sos := range all() {
			becomes(t, []int{c, c, c}, sos, []int{c, c, c})
		}
		becomes(t, []int{c, clES, c, clET, c}, clL, []int{c, clON, c, clON, c})
		if c != clAN {
			becomes(t, []int{c, clCS, c}, clL, []int{c, clON, c})
		}
	}
	becomes(t, others, clR, others)
}

// P13.1: all small rows.
func TestSmallRows(t *testing.T) {
	look := func(classes []int) { isAsDoc(t, classes, clL, clR) }
	eachRow(3, append(span(clL, clPDI), 99), look)
	eachRow(4, []int{clL, clR, clAL, clEN, clES, clET, clAN, clCS, clNSM, clON, clRLI, clPDI, 99}, func(classes []int) {
		isAsDoc(t, classes, clL, clR, clAL)
	})
	eachRow(6, []int{clL, clR, clAL, clEN, clES, clET, clCS, clNSM}, look)
	eachRow(7, []int{clEN, clET, clCS, clAN, clNSM}, func(classes []int) { isAsDoc(t, classes, clR, clAL) })
	eachRow(8, []int{clEN, clET, clNSM, clLRI}, look)
	eachRow(2, all(), func(classes []int) {
		isAsDoc(t, classes, clL, clR, clAL, clEN, clES, clET, clAN, clCS, clNSM, clLRI, clPDI, 99)
	})
}

// P13.1: long rows, which take no longer than a row of that length needs.
func TestLong(t *testing.T) {
	const n = 1 << 20
	becomes(t, times(n, clNSM), clAL, times(n, clR))
	becomes(t, row([]int{clRLI}, times(n, clNSM)), clL, row([]int{clRLI}, times(n, clON)))
	becomes(t, times(n, clEN), clAL, times(n, clAN))
	becomes(t, row([]int{clL}, times(n, clON), times(n, clEN)), clR, row([]int{clL}, times(n, clON), times(n, clL)))
	becomes(t, turns(2*n+1, clEN, clES), clR, times(2*n+1, clEN))
	becomes(t, turns(2*n, clEN, clCS), clR, append(times(2*n-1, clEN), clON))
	becomes(t, times(n, clET), clR, times(n, clON))
	becomes(t, append(times(n, clET), clEN), clR, times(n+1, clEN))
	becomes(t, append([]int{clEN}, times(n, clET)...), clR, times(n+1, clEN))
	becomes(t, turns(n, clET, clAN), clR, turns(n, clON, clAN))
}

// small calls look with many small rows.
func small(look func(classes []int)) {
	eachRow(3, append(span(clL, clPDI), 99), look)
	eachRow(5, []int{clL, clR, clAL, clEN, clES, clET, clAN, clCS, clNSM, clRLI}, look)
}

// P13.3: behind L or R no NSM, AL, ES, ET or CS is left, and what is settled stays so.
func TestSettled(t *testing.T) {
	small(func(classes []int) {
		for _, sos := range []int{clL, clR} {
			l := Weak(classes, sos)
			if slices.ContainsFunc(l, func(c int) bool { return slices.Contains([]int{clNSM, clAL, clES, clET, clCS}, c) }) {
				t.Errorf("%v behind %d: %v", classes, sos, l)
			}
			becomes(t, l, sos, l)
		}
	})
}

// P13.4: behind an L or an R the rest is settled by itself, and so is what stands up to there.
func TestParted(t *testing.T) {
	letters := []int{clL, clR}
	small(func(classes []int) {
		for at, c := range classes {
			if !slices.Contains(letters, c) {
				continue
			}
			for _, sos := range letters {
				becomes(t, classes, sos, row(Weak(classes[:at+1], sos), Weak(classes[at+1:], c)))
			}
		}
	})
	eachRow(2, all(), func(classes []int) {
		for _, sos := range all() {
			for _, c := range letters {
				becomes(t, row(classes, []int{c}, classes), sos, row(Weak(classes, sos), []int{c}, Weak(classes, c)))
			}
		}
	})
}
