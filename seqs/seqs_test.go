package seqs

import (
	"math"
	"slices"
	"testing"

	"parquetry/api"
	"parquetry/base"
	"parquetry/level"
)

// areSeqs holds the sequences of a paragraph against some.
func areSeqs(t *testing.T, classes []int, level int, want []api.Seq) {
	t.Helper()
	if l := Sequences(classes, level); !alike(l, want) {
		t.Errorf("%v at %d: %s, not %s", classes, level, text(l), text(want))
	}
}

// isAsDoc holds the sequences of a paragraph, at both levels, against the chapter read place by place.
func isAsDoc(t *testing.T, classes []int) {
	t.Helper()
	for level := range 2 {
		areSeqs(t, classes, level, docSequences(classes, level))
	}
}

// example is a paragraph by names, and the text of its sequences.
type example struct {
	names string
	level int
	want  string
}

func areTold(t *testing.T, l []example) {
	t.Helper()
	for _, x := range l {
		if got := text(Sequences(named(t, x.names), x.level)); got != x.want {
			t.Errorf("%s at %d: %s, not %s", x.names, x.level, got, x.want)
		}
		isAsDoc(t, named(t, x.names))
	}
}

// P12.1: the chapter's examples.
func TestExamples(t *testing.T) {
	areTold(t, []example{
		{"L RLI R PDI L", 0, "0 LL: 0 1 3 4; 1 RR: 2"},
		{"RLE R PDF EN", 0, "1 RR: 1; 0 RL: 3"},
		{"L LRI EN", 1, "1 RR: 0 1; 2 LL: 2"},
		{"BN", 0, ""},
	})
	areSeqs(t, []int{clL}, 2, nil)
}

// P12.1: of no classes, of those of which none is kept, and of each one by itself.
func TestAlone(t *testing.T) {
	for level := range 2 {
		areSeqs(t, nil, level, nil)
		areSeqs(t, []int{}, level, nil)
		eachRow(4, []int{clBN, clRLE, clLRE, clRLO, clLRO, clPDF}, func(classes []int) {
			areSeqs(t, classes, level, nil)
		})
		areSeqs(t, times(200, clRLO), level, nil)
		side := letter(level)
		for _, c := range append(span(clL, clPDI), nones...) {
			want := []api.Seq{{Level: level, Sos: side, Eos: side, At: []int{0}}}
			if slices.Contains([]int{clBN, clRLE, clLRE, clRLO, clLRO, clPDF}, c) {
				want = nil
			}
			areSeqs(t, []int{c}, level, want)
		}
	}
}

// P12.1: none of a paragraph of a level that is neither 0 nor 1.
func TestNoLevel(t *testing.T) {
	levels := []int{-1, -2, -3, 2, 3, 4, 61, 62, 124, 125, 126, 127, 128, 255, 256, 257, math.MaxInt, math.MaxInt - 1, math.MinInt, math.MinInt + 1, math.MaxInt32, math.MinInt32, 1 << 32, 1<<32 | 1, -1 << 32, math.MinInt32 + 1}
	for _, level := range levels {
		for _, names := range []string{"", "L", "BN", "B", "R L", "L RLI R PDI L", "RLE R PDF", "PDI LRI", "FSI L"} {
			areSeqs(t, named(t, names), level, nil)
		}
		areSeqs(t, nones, level, nil)
	}
}

// P12.1: runs of one level, with what is not kept between, ahead and behind.
func TestRuns(t *testing.T) {
	areTold(t, []example{
		{"L R AL EN ON", 0, "0 LL: 0 1 2 3 4"}, {"L R AL EN ON", 1, "1 RR: 0 1 2 3 4"},
		{"BN L", 0, "0 LL: 1"}, {"L BN", 1, "1 RR: 0"}, {"L BN R", 0, "0 LL: 0 2"}, {"BN BN L BN BN R BN", 1, "1 RR: 2 5"},
		{"PDF L PDF R PDF", 0, "0 LL: 1 3"}, {"RLE PDF L", 0, "0 LL: 2"}, {"L RLE PDF R", 1, "1 RR: 0 3"}, {"L RLO LRO PDF PDF L", 0, "0 LL: 0 5"},
		// One level, though something ended and began between.
		{"RLE R PDF RLE R PDF", 0, "1 RR: 1 4"}, {"RLE R PDF BN RLO R", 0, "1 RR: 1 5"}, {"LRE L PDF LRO L PDF R", 1, "2 LL: 1 4; 1 LR: 6"},
		// Runs of one level with another one between are sequences by themselves.
		{"L RLE R PDF L", 0, "0 LR: 0; 1 RR: 2; 0 RL: 4"}, {"RLE R PDF L RLE R", 0, "1 RR: 1; 0 RR: 3; 1 RR: 5"}, {"R LRE L PDF R", 1, "1 RL: 0; 2 LL: 2; 1 LR: 4"},
		{"RLE R LRE L PDF R PDF L", 0, "1 RL: 1; 2 LL: 3; 1 LR: 5; 0 RL: 7"},
	})
}

// P12.1: isolates with a PDI and without one.
func TestIsolates(t *testing.T) {
	areTold(t, []example{
		{"LRI L PDI", 0, "0 LL: 0 2; 2 LL: 1"}, {"RLI R PDI", 0, "0 LL: 0 2; 1 RR: 1"}, {"LRI L PDI", 1, "1 RR: 0 2; 2 LL: 1"}, {"RLI R PDI", 1, "1 RR: 0 2; 3 RR: 1"}, {"FSI AL PDI L", 0, "0 LL: 0 2 3; 1 RR: 1"}, {"R FSI ON PDI", 1, "1 RR: 0 1 3; 2 LL: 2"},
		// Side by side.
		{"RLI R PDI RLI R PDI", 0, "0 LL: 0 2 3 5; 1 RR: 1; 1 RR: 4"}, {"RLI R PDI L LRI L PDI", 0, "0 LL: 0 2 3 4 6; 1 RR: 1; 2 LL: 5"}, {"RLI PDI RLI R PDI", 0, "0 LL: 0 1 2 4; 1 RR: 3"}, {"LRI L PDI BN RLI R PDI BN", 1, "1 RR: 0 2 4 6; 2 LL: 1; 3 RR: 5"},
		// One in another.
		{"RLI LRI L PDI PDI", 0, "0 LL: 0 4; 1 RR: 1 3; 2 LL: 2"}, {"RLI R LRI L PDI R PDI L", 0, "0 LL: 0 6 7; 1 RR: 1 2 4 5; 2 LL: 3"}, {"LRI LRI LRI L PDI PDI PDI", 0, "0 LL: 0 6; 2 LL: 1 5; 4 LL: 2 4; 6 LL: 3"}, {"RLI RLI R PDI LRI L PDI PDI", 0, "0 LL: 0 7; 1 RR: 1 3 4 6; 3 RR: 2; 2 LL: 5"},
		// Nothing in them, or just what is not kept.
		{"LRI PDI", 0, "0 LL: 0 1"}, {"RLI PDI", 1, "1 RR: 0 1"}, {"L FSI PDI R", 0, "0 LL: 0 1 2 3"}, {"RLI BN PDI", 0, "0 LL: 0 2"}, {"L LRI RLE PDF PDI L", 1, "1 RR: 0 1 4 5"}, {"RLI RLO PDI ON", 0, "0 LL: 0 2 3"}, {"RLI LRI PDI PDI", 0, "0 LL: 0 3; 1 RR: 1 2"}, {"RLI RLI BN PDI BN PDI", 0, "0 LL: 0 5; 1 RR: 1 3"}, {"LRI PDF PDI", 0, "0 LL: 0 2"},
		// Not closed.
		{"LRI", 0, "0 LL: 0"}, {"RLI R", 0, "0 LL: 0; 1 RR: 1"}, {"L FSI ON", 1, "1 RR: 0 1; 2 LL: 2"}, {"RLI RLI R", 0, "0 LL: 0; 1 RR: 1; 3 RR: 2"}, {"RLI LRI L PDI R", 0, "0 LL: 0; 1 RR: 1 3 4; 2 LL: 2"}, {"RLI R PDI LRI L", 0, "0 LL: 0 2 3; 1 RR: 1; 2 LL: 4"}, {"RLI BN", 0, "0 LL: 0"}, {"LRI BN L", 1, "1 RR: 0; 2 LL: 2"},
		// A PDI without an initiator.
		{"PDI", 0, "0 LL: 0"}, {"PDI PDI L", 1, "1 RR: 0 1 2"}, {"L PDI R", 0, "0 LL: 0 1 2"}, {"RLI R PDI PDI L", 0, "0 LL: 0 2 3 4; 1 RR: 1"}, {"PDI RLI R PDI", 0, "0 LL: 0 1 3; 1 RR: 2"}, {"RLE R PDI R PDF PDI L", 0, "1 RR: 1 2 3; 0 RL: 5 6"}, {"RLE R PDF PDI L", 0, "1 RR: 1; 0 RL: 3 4"},
	})
}

// P12.1: isolates in embeddings and overrides, and embeddings that are not closed in isolates.
func TestEmbedded(t *testing.T) {
	areTold(t, []example{
		{"RLE RLI R PDI PDF L", 0, "1 RR: 1 3; 3 RR: 2; 0 RL: 5"}, {"L RLE R LRI L PDI R", 0, "0 LR: 0; 1 RR: 2 3 5 6; 2 LL: 4"}, {"LRE RLI R PDI L PDF R", 1, "2 LL: 1 3 4; 3 RR: 2; 1 LR: 6"},
		// As what an initiator and a PDI are told counts for nothing.
		{"RLO LRI L PDI L PDF L", 0, "1 RR: 1 3 4; 2 LL: 2; 0 RL: 6"}, {"LRO FSI R PDI", 0, "2 LL: 1 3; 3 RR: 2"}, {"LRO RLI R", 0, "2 LL: 1; 3 RR: 2"}, {"RLO LRI PDI PDI", 1, "3 RR: 1 2 3"},
		// A PDI ends what is open in its isolate.
		{"L RLI LRE L PDI L", 0, "0 LL: 0 1 4 5; 2 LL: 3"}, {"LRI RLE R LRO L PDI R", 0, "0 LL: 0 5 6; 3 RL: 2; 4 LL: 4"}, {"RLI R RLE R PDI", 0, "0 LL: 0 4; 1 RR: 1; 3 RR: 3"}, {"RLI RLO LRI RLE PDI R PDI L", 0, "0 LL: 0 6 7; 3 RR: 2 4 5"},
		// A PDF in it ends nothing around it.
		{"RLE RLI PDF R PDI R", 0, "1 RR: 1 4 5; 3 RR: 3"}, {"RLE LRI PDF PDI R", 0, "1 RR: 1 3 4"},
		// An initiator at one end of an embedding, its PDI at the other one's end.
		{"L RLE RLI R PDI PDF L", 0, "0 LR: 0; 1 RR: 2 4; 3 RR: 3; 0 RL: 6"}, {"RLI RLE R PDF PDI", 0, "0 LL: 0 4; 3 RR: 2"}, {"RLI RLE R PDF R PDI", 0, "0 LL: 0 5; 3 RR: 2; 1 RR: 4"},
		// A run that begins with a PDI behind what an isolate's PDI ended.
		{"RLI LRE RLI R PDI PDI LRI L PDI", 0, "0 LL: 0 5 6 8; 2 LL: 2 4; 3 RR: 3; 2 LL: 7"},
	})
}

// P12.1: a B among others, which has the paragraph's level wherever it stands.
func TestB(t *testing.T) {
	areTold(t, []example{
		{"B", 0, "0 LL: 0"}, {"L B R", 1, "1 RR: 0 1 2"}, {"B B", 0, "0 LL: 0 1"},
		{"RLE B R", 0, "0 LR: 1; 1 RR: 2"}, {"RLE R B R PDF B", 0, "1 RR: 1; 0 RR: 2; 1 RR: 3; 0 RL: 5"}, {"LRE L B L", 1, "2 LL: 1; 1 LL: 2; 2 LL: 3"}, {"RLE LRE L B", 0, "2 LL: 2; 0 LL: 3"},
		// An initiator whose PDI does not begin a run.
		{"RLI R B PDI", 0, "0 LR: 0; 1 RR: 1; 0 RL: 2 3"}, {"RLI B PDI", 0, "0 LL: 0 1 2"}, {"L RLI R B PDI L", 0, "0 LR: 0 1; 1 RR: 2; 0 RL: 3 4 5"}, {"LRI L B PDI", 1, "1 RL: 0; 2 LL: 1; 1 LR: 2 3"}, {"FSI R LRI L PDI B PDI L", 0, "0 LR: 0; 1 RR: 1 2 4; 2 LL: 3; 0 RL: 5 6 7"},
		// An initiator that ends no run, since the B is of it.
		{"RLI B R PDI", 0, "0 LR: 0 1; 1 RR: 2; 0 RL: 3"}, {"LRI B L PDI R", 1, "1 RL: 0 1; 2 LL: 2; 1 LR: 3 4"}, {"RLI B R B PDI", 0, "0 LR: 0 1; 1 RR: 2; 0 RL: 3 4"},
		// A PDI that begins a run, behind a B at another level.
		{"RLE RLI B PDI R", 0, "1 RR: 1 3 4; 0 RR: 2"}, {"RLE LRI L B PDI", 0, "1 RR: 1 4; 2 LL: 2; 0 LR: 3"}, {"LRE RLI BN B BN PDI", 1, "2 LL: 1 5; 1 LL: 3"}, {"RLI R B R PDI L", 0, "0 LL: 0 4 5; 1 RR: 1; 0 RR: 2; 1 RR: 3"}, {"FSI R LRI L B PDI PDI L", 0, "0 LL: 0 6 7; 1 RR: 1 2 5; 2 LL: 3; 0 LR: 4"}, {"RLI LRI L B PDI R PDI", 0, "0 LL: 0 6; 1 RR: 1 4 5; 2 LL: 2; 0 LR: 3"},
		// Behind an isolate, and behind an initiator without a PDI.
		{"RLI R PDI B", 0, "0 LL: 0 2 3; 1 RR: 1"}, {"RLI B", 0, "0 LL: 0 1"}, {"RLI R B", 0, "0 LL: 0; 1 RR: 1; 0 RL: 2"}, {"RLI R B R", 0, "0 LL: 0; 1 RR: 1; 0 RR: 2; 1 RR: 3"}, {"LRI B L", 1, "1 RL: 0 1; 2 LL: 2"}, {"RLE LRI B", 0, "1 RR: 1; 0 RL: 2"},
	})
}

// P12.1: numbers that are no class's have a level, and begin and end nothing: they stand where an ON would.
func TestNoClass(t *testing.T) {
	for _, c := range nones {
		areSeqs(t, []int{c, c}, 0, []api.Seq{{Level: 0, Sos: clL, Eos: clL, At: []int{0, 1}}})
		areSeqs(t, []int{c, clRLI, c, clPDI, c}, 0, []api.Seq{{Level: 0, Sos: clL, Eos: clL, At: []int{0, 1, 3, 4}}, {Level: 1, Sos: clR, Eos: clR, At: []int{2}}})
		areSeqs(t, []int{clLRE, c, clPDF, c}, 1, []api.Seq{{Level: 2, Sos: clL, Eos: clL, At: []int{1}}, {Level: 1, Sos: clL, Eos: clR, At: []int{3}}})
		eachRow(4, []int{clON, clRLE, clLRI, clPDF, clPDI, clB}, func(classes []int) {
			other := slices.Clone(classes)
			for at := range other {
				if other[at] == clON {
					other[at] = c
				}
			}
			for level := range 2 {
				areSeqs(t, other, level, Sequences(classes, level))
			}
		})
	}
}

// P12.1: the directions ahead and behind.
func TestDirections(t *testing.T) {
	areTold(t, []example{
		// At the paragraph's beginning and end.
		{"RLE R", 0, "1 RR: 1"}, {"LRE L", 0, "2 LL: 1"}, {"LRE L", 1, "2 LL: 1"}, {"RLE R", 1, "3 RR: 1"}, {"BN LRE BN L BN PDF BN", 1, "2 LL: 3"},
		// Beside a higher level, beside a lower one, and of either kind on either side.
		{"L RLE R", 0, "0 LR: 0; 1 RR: 2"}, {"RLE R PDF L", 0, "1 RR: 1; 0 RL: 3"}, {"L LRE L PDF L", 0, "0 LL: 0; 2 LL: 2; 0 LL: 4"}, {"L RLE R PDF L LRE L PDF L", 0, "0 LR: 0; 1 RR: 2; 0 RL: 4; 2 LL: 6; 0 LL: 8"}, {"R RLE R PDF R LRE L PDF R", 1, "1 RR: 0; 3 RR: 2; 1 RL: 4; 2 LL: 6; 1 LR: 8"},
		{"LRE L RLE R LRE L PDF R PDF L PDF L", 0, "2 LR: 1; 3 RL: 3; 4 LL: 5; 3 LR: 7; 2 RL: 9; 0 LL: 11"}, {"LRE RLE R PDF PDF RLE R", 0, "3 RR: 2; 1 RR: 6"}, {"LRE L PDF RLE R PDF LRE L", 0, "2 LL: 1; 1 LL: 4; 2 LL: 7"},
		// What is not kept is passed over.
		{"L BN RLE BN R BN PDF BN L", 0, "0 LR: 0; 1 RR: 4; 0 RL: 8"},
		// Beside a sequence of isolates: ahead of its first place, behind its last one.
		{"RLE R PDF RLI R PDI RLE R", 0, "1 RR: 1; 0 RR: 3 5; 1 RR: 4; 1 RR: 7"}, {"RLE R PDF LRI L PDI", 0, "1 RR: 1; 0 RL: 3 5; 2 LL: 4"}, {"LRI L PDI RLE R", 0, "0 LR: 0 2; 2 LL: 1; 1 RR: 4"}, {"R LRI RLE R PDI LRE L", 1, "1 RL: 0 1 4; 3 RR: 3; 2 LL: 6"},
		{"RLI R PDI", 0, "0 LL: 0 2; 1 RR: 1"}, {"RLI RLE R PDF LRE L PDI", 0, "0 LL: 0 6; 3 RR: 2; 2 RL: 5"},
		// Behind an initiator without a PDI it is the paragraph's, whatever stands there.
		{"RLI R", 0, "0 LL: 0; 1 RR: 1"}, {"LRI L", 1, "1 RR: 0; 2 LL: 1"}, {"L RLE R RLI", 0, "0 LR: 0; 1 RR: 2 3"}, {"LRE RLI R", 0, "2 LL: 1; 3 RR: 2"}, {"RLE LRI L", 0, "1 RR: 1; 2 LL: 2"}, {"RLE LRI L", 1, "3 RR: 1; 4 LL: 2"}, {"LRE RLI R", 1, "2 LL: 1; 3 RR: 2"}, {"LRE LRI RLE R", 0, "2 LL: 1; 5 RR: 3"}, {"RLI R PDI RLI R", 0, "0 LL: 0 2 3; 1 RR: 1; 1 RR: 4"}, {"FSI LRI RLI R", 0, "0 LL: 0; 2 LL: 1; 4 LL: 2; 5 RR: 3"},
		// Behind one that has a PDI, but does not go on there, it is that of what stands there.
		{"RLI R B PDI", 0, "0 LR: 0; 1 RR: 1; 0 RL: 2 3"},
		// Behind what stands behind one without a PDI.
		{"RLI R RLE R", 0, "0 LL: 0; 1 RR: 1; 3 RR: 3"}, {"RLI R LRE L", 0, "0 LL: 0; 1 RL: 1; 2 LL: 3"}, {"RLI LRE L PDF R", 0, "0 LL: 0; 2 LL: 2; 1 LR: 4"},
	})
}

// P12.1: what goes over the kept places ends when it is told to.
func TestKept(t *testing.T) {
	p := explicit(named(t, "BN L RLE R PDF BN L"), 0)
	for most := 1; most <= 4; most++ {
		var l []int
		for at := range p.kept {
			if l = append(l, at); len(l) == most {
				break
			}
		}
		if want := []int{1, 3, 6}; !slices.Equal(l, want[:min(most, 3)]) {
			t.Errorf("up to %d: %v", most, l)
		}
	}
}

// P12.1: all small rows.
func TestSmallRows(t *testing.T) {
	look := func(classes []int) { isAsDoc(t, classes) }
	eachRow(3, append(span(clL, clPDI), 99), look)
	eachRow(4, []int{clRLE, clLRE, clRLO, clLRO, clRLI, clLRI, clFSI, clPDF, clPDI, clL, clR, clBN, clAL, clB, clON, 99}, look)
	eachRow(6, []int{clRLE, clLRO, clRLI, clLRI, clPDF, clPDI, clB, clL}, look)
	eachRow(8, []int{clRLI, clLRI, clPDI, clB, clR}, look)
	eachRow(8, []int{clLRE, clRLI, clPDF, clPDI, clEN}, look)
}

// small calls look with many small rows, and with rows behind which there is hardly room for one more level.
func small(look func(classes []int)) {
	items := []int{clRLE, clLRO, clRLI, clFSI, clPDF, clPDI, clR, clB}
	eachRow(5, items, look)
	for _, ahead := range deeps() {
		eachRow(3, items, func(classes []int) { look(row(ahead, classes)) })
	}
}

// P12.3: each kept place stands in one sequence, at its level, in rising order, and no other place in any; sequences stand by their first places.
func TestOnce(t *testing.T) {
	small(func(classes []int) {
		for own := range 2 {
			levels, _ := level.Explicit(classes, own)
			l := Sequences(classes, own)
			first := -1
			for _, one := range l {
				if len(one.At) == 0 || one.At[0] <= first {
					t.Fatalf("%v at %d: %s", classes, own, text(l))
				}
				first = one.At[0]
				before := -1
				for _, at := range one.At {
					if at <= before || at >= len(levels) || levels[at] != one.Level {
						t.Fatalf("%v at %d: %s", classes, own, text(l))
					}
					// What is taken once is not there any more.
					before, levels[at] = at, -1
				}
			}
			if slices.ContainsFunc(levels, func(level int) bool { return level != -1 }) {
				t.Errorf("%v at %d: %s, and without a sequence %v", classes, own, text(l), levels)
			}
		}
	})
}

// P12.4: where nothing embeds, overrides or isolates, there is one sequence between the paragraph's directions; none, if nothing is kept.
func TestOne(t *testing.T) {
	look := func(classes []int) {
		for level := range 2 {
			var want []api.Seq
			for at, c := range classes {
				if c == clBN || c == clPDF {
					continue
				}
				if want == nil {
					want = []api.Seq{{Level: level, Sos: letter(level), Eos: letter(level)}}
				}
				want[0].At = append(want[0].At, at)
			}
			areSeqs(t, classes, level, want)
		}
	}
	items := append(span(clL, clON), clPDF, clPDI)
	eachRow(3, items, look)
	eachRow(6, []int{clR, clBN, clPDF, clPDI, clB}, look)
	eachRow(2, nones, look)
	look(slices.Repeat(items, 50))
}

// P12.5: where there is no B, an initiator and its PDI stand in one sequence.
func TestBothEnds(t *testing.T) {
	pairs := 0
	small(func(classes []int) {
		if slices.Contains(classes, clB) {
			return
		}
		for level := range 2 {
			of := make([]int, len(classes))
			l := Sequences(classes, level)
			for i, one := range l {
				for _, at := range one.At {
					of[at] = i + 1
				}
			}
			for at, match := range base.Match(classes) {
				if match <= at || match == len(classes) {
					continue
				}
				pairs++
				if of[at] == 0 || of[at] != of[match] {
					t.Errorf("%v at %d: %s", classes, level, text(l))
				}
			}
		}
	})
	if pairs < 1000 {
		t.Errorf("only %d pairs", pairs)
	}
}
