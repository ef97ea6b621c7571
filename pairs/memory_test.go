package pairs

import (
	"slices"
	"testing"

	"parquetry/api"
)

// some are places of each kind.
var some = []place{of(clL), of(clR), of(clEN), mark(clON), mark(clR), bracket('('), bracket(')'), bracket(0x3008), bracket(0x232a), of(99)}

// behinds are what stands behind the ends of lists, where it would be seen, if it were looked at.
var behinds = []place{bracket(')'), mark(clON), of(clR), bracket(')')}

// handed is what is told of places, list by list, with something behind the ends.
type handed struct {
	lists [3][]int
	n     int
}

func hand(places, behind []place) handed {
	types, codes, own := lists(row(places, behind))
	return handed{[3][]int{types, codes, own}, len(places)}
}

func (h handed) find() []api.Pair {
	return Find(h.lists[0][:h.n], h.lists[1][:h.n])
}

func (h handed) brackets(level, sos int) []int {
	return Brackets(h.lists[0][:h.n], h.lists[1][:h.n], h.lists[2][:h.n], level, sos)
}

// kept answers the lists' copies.
func (h handed) kept() [3][]int {
	var l [3][]int
	for at := range l {
		l[at] = slices.Clone(h.lists[at])
	}
	return l
}

// P14.3: nothing of what is handed in changes, nor does what lies behind its end, and that is not looked at either.
func TestStays(t *testing.T) {
	look := func(places []place) {
		h := hand(places, behinds)
		types, codes, own := lists(places)
		want := h.kept()
		if l := h.find(); !slices.Equal(l, docFind(types, codes)) {
			t.Errorf("%v: %v", places, l)
		}
		for _, sos := range []int{clL, clR} {
			if l := h.brackets(0, sos); !slices.Equal(l, docBrackets(types, codes, own, 0, sos)) {
				t.Errorf("%v: %v", places, l)
			}
		}
		same(t, h, want)
	}
	eachRow(4, some, look)
	whole := read(t, "R ( NSM/ON [ R ] NSM/ON ) NSM/ON EN { L ( R ) } NSM")
	for n := range whole {
		look(whole[:n])
	}
	// Nor if the lists are unlike long.
	h := hand(whole, behinds)
	want := h.kept()
	for n := range whole {
		Find(h.lists[0][:n], h.lists[1][:h.n])
		Find(h.lists[0][:h.n], h.lists[1][:n])
		Brackets(h.lists[0][:n], h.lists[1][:h.n], h.lists[2][:h.n], 0, clR)
		Brackets(h.lists[0][:h.n], h.lists[1][:n], h.lists[2][:h.n], 0, clR)
		Brackets(h.lists[0][:h.n], h.lists[1][:h.n], h.lists[2][:n], 0, clR)
	}
	same(t, h, want)
}

// same holds lists against what they were.
func same(t *testing.T, h handed, want [3][]int) {
	t.Helper()
	for at, l := range h.lists {
		if !slices.Equal(l, want[at]) {
			t.Errorf("%v has become %v", want[at], l)
		}
	}
}

// P14.3: what is answered stays when what was handed in changes, and the other way round; nothing is kept for the next call.
func TestNewMemory(t *testing.T) {
	look := func(places []place) {
		h := hand(places, behinds)
		kept := h.kept()
		pairs, l := h.find(), h.brackets(0, clR)
		wantPairs, want := slices.Clone(pairs), slices.Clone(l)
		stays := func() {
			t.Helper()
			if !slices.Equal(pairs, wantPairs) || !slices.Equal(l, want) {
				t.Errorf("%v: %v and %v have become %v and %v", places, wantPairs, want, pairs, l)
			}
		}
		againPairs, again := h.find(), h.brackets(0, clR)
		spoil(againPairs, api.Pair{Open: -77, Close: -77})
		spoil(again, -77)
		stays()
		same(t, h, kept)
		if !slices.Equal(h.find(), wantPairs) || !slices.Equal(h.brackets(0, clR), want) {
			t.Errorf("%v: another answer", places)
		}
		for _, list := range h.lists {
			spoil(list, -77)
		}
		stays()
		// What is answered may be handed in again, also as more than one of the lists.
		Brackets(l, l, l, 0, clR)
		Find(l, l)
		stays()
	}
	eachRow(4, some, look)
	look(slices.Repeat(read(t, "( NSM/ON R [ L ] )"), 100))
	look(times(1000, of(clON)))
}

// spoil writes into all that a list holds, also behind its end.
func spoil[T any](l []T, item T) {
	l = l[:cap(l)]
	for at := range l {
		l[at] = item
	}
}
