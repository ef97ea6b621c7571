package seqs

import (
	"testing"

	"parquetry/api"
)

// oneOf answers a sequence whose directions are those of two levels.
func oneOf(level, ahead, behind int, at ...int) api.Seq {
	return api.Seq{Level: level, Sos: letter(ahead), Eos: letter(behind), At: at}
}

// P12.1: embeddings up to MaxDepth, and what is one more, beside the paragraph.
func TestDeepEmbeddings(t *testing.T) {
	for n := 1; n <= 200; n++ {
		top := min(n, api.MaxDepth)
		classes := row([]int{clON}, turns(n, clRLE, clLRE), []int{clON}, times(n, clPDF), []int{clON})
		areSeqs(t, classes, 0, []api.Seq{oneOf(0, 0, top, 0), oneOf(top, top, top, n+1), oneOf(0, top, 0, 2*n+2)})
		top = min(n+1, api.MaxDepth)
		classes = row([]int{clON}, turns(n, clLRE, clRLO), []int{clL}, times(n, clPDF), []int{clR})
		areSeqs(t, classes, 1, []api.Seq{oneOf(1, 1, top, 0), oneOf(top, top, top, n+1), oneOf(1, top, 1, 2*n+2)})
	}
}

// P12.1: an ON at each level up to MaxDepth, and back: each one beside the ones below and above.
func TestSteps(t *testing.T) {
	var classes []int
	var want []api.Seq
	put := func(level, ahead, behind int) {
		want = append(want, oneOf(level, max(level, ahead), max(level, behind), len(classes)))
		classes = append(classes, clON)
	}
	for level := range api.MaxDepth {
		put(level, level-1, level+1)
		classes = append(classes, turns(level+1, clRLE, clLRE)[level])
	}
	put(api.MaxDepth, api.MaxDepth-1, api.MaxDepth-1)
	for level := api.MaxDepth - 1; level >= 0; level-- {
		classes = append(classes, clPDF)
		put(level, level+1, level-1)
	}
	areSeqs(t, classes, 0, want)
	isAsDoc(t, classes)
}

// P12.1: isolates up to MaxDepth, each one's both ends in one sequence; what is lost is of its initiator's run.
func TestDeepIsolates(t *testing.T) {
	for n := 1; n <= 200; n++ {
		top := min(n, api.MaxDepth)
		var closed, open []api.Seq
		for level := range top {
			closed = append(closed, oneOf(level, level, level, level, 2*n-level))
			open = append(open, oneOf(level, level, level, level))
		}
		classes := row(turns(n, clRLI, clLRI), []int{clON}, times(n, clPDI))
		areSeqs(t, classes, 0, append(closed, oneOf(top, top, top, span(top, 2*n-top)...)))
		areSeqs(t, classes[:n+1], 0, append(open, oneOf(top, top, top, span(top, n)...)))
	}
}

// P12.1: isolates that are lost, with a PDI and without one.
func TestLost(t *testing.T) {
	deep := times(62, clLRE)
	for _, x := range []struct {
		names string
		want  []api.Seq
	}{
		{"LRI L PDI R", []api.Seq{oneOf(124, 0, 0, 62, 63, 64, 65)}},
		{"LRI RLE L PDF PDI", []api.Seq{oneOf(124, 0, 0, 62, 64, 66)}},
		{"LRI LRI PDI PDI PDI", []api.Seq{oneOf(124, 0, 0, 62, 63, 64, 65, 66)}},
		{"LRI L PDF L", []api.Seq{oneOf(124, 0, 0, 62, 63, 65)}},
		{"LRI L PDI PDF L", []api.Seq{oneOf(124, 0, 0, 62, 63, 64), oneOf(122, 0, 0, 66)}},
		{"LRI L PDI RLI R PDI L", []api.Seq{oneOf(124, 0, 0, 62, 63, 64, 65, 67, 68), oneOf(125, 1, 1, 66)}},
		{"RLI RLI R PDI PDI L", []api.Seq{oneOf(124, 0, 0, 62, 66, 67), oneOf(125, 1, 1, 63, 64, 65)}},
		// A PDI behind one that was lost, where a B stands in it: it begins a run, or does not, and the initiator ends one, or does not.
		{"LRI B PDI", []api.Seq{oneOf(124, 0, 0, 62, 64), oneOf(0, 0, 0, 63)}},
		{"LRI B L PDI", []api.Seq{oneOf(124, 0, 0, 62), oneOf(0, 0, 0, 63), oneOf(124, 0, 0, 64, 65)}},
		{"LRI L B PDI", []api.Seq{oneOf(124, 0, 0, 62, 63), oneOf(0, 0, 0, 64), oneOf(124, 0, 0, 65)}},
		{"RLI LRI L B PDI PDI L", []api.Seq{oneOf(124, 0, 0, 62, 67, 68), oneOf(125, 1, 1, 63, 64), oneOf(0, 1, 1, 65), oneOf(125, 1, 1, 66)}},
		{"RLI LRI B PDI PDI L", []api.Seq{oneOf(124, 0, 0, 62, 66, 67), oneOf(125, 1, 1, 63, 65), oneOf(0, 1, 1, 64)}},
		// Without a PDI.
		{"LRI L", []api.Seq{oneOf(124, 0, 0, 62, 63)}},
		{"LRI B L", []api.Seq{oneOf(124, 0, 0, 62), oneOf(0, 0, 0, 63), oneOf(124, 0, 0, 64)}},
		{"RLI", []api.Seq{oneOf(124, 0, 0, 62)}},
		{"RLI R", []api.Seq{oneOf(124, 0, 0, 62), oneOf(125, 1, 1, 63)}},
		{"RLI RLI R", []api.Seq{oneOf(124, 0, 0, 62), oneOf(125, 1, 1, 63, 64)}},
	} {
		classes := row(deep, named(t, x.names))
		areSeqs(t, classes, 0, x.want)
		isAsDoc(t, classes)
	}
}

// deeps are rows behind which there is hardly room for one more level, or none, or something is lost.
func deeps() [][]int {
	return [][]int{
		times(61, clLRE), times(62, clLRO), times(63, clLRE), times(62, clRLE), times(63, clRLO), turns(124, clRLE, clLRE), turns(126, clRLE, clLRO),
		times(61, clLRI), times(62, clLRI), times(64, clLRI), times(62, clRLI), turns(124, clRLE, clLRI), turns(125, clRLI, clLRO), row(times(63, clLRE), times(2, clRLI)),
	}
}

// P12.1: all small rows, behind deep ones, closed ones among them.
func TestSmallRowsDeep(t *testing.T) {
	for _, ahead := range deeps() {
		eachRow(4, []int{clRLE, clRLI, clLRI, clPDF, clPDI, clB, clR}, func(classes []int) {
			isAsDoc(t, row(ahead, classes))
		})
		eachRow(2, []int{clLRE, clFSI, clPDF, clPDI, clB}, func(classes []int) {
			isAsDoc(t, row(ahead, []int{clL}, classes, []int{clL}, times(65, clPDI), []int{clR}, times(65, clPDF), []int{clAL}))
		})
	}
}

// P12.1: all rows of opens and ends, each many times.
func TestSmallRowsOfMany(t *testing.T) {
	eachRow(4, []int{clRLE, clLRI, clFSI, clPDF, clPDI, clB}, func(classes []int) {
		for _, n := range []int{40, 64} {
			var many []int
			for _, c := range classes {
				many = append(many, times(n, c)...)
			}
			isAsDoc(t, append(many, clAL))
		}
	})
}

// P12.1: long rows, which take no longer than a row of that length needs.
func TestLong(t *testing.T) {
	const n = 1 << 18
	areSeqs(t, times(n, clON), 1, []api.Seq{oneOf(1, 1, 1, span(0, n-1)...)})
	areSeqs(t, times(n, clRLE), 0, nil)
	areSeqs(t, turns(2*n, clRLI, clPDI), 0, []api.Seq{oneOf(0, 0, 0, span(0, 2*n-1)...)})
	// As many sequences as isolates, and the one that goes on behind each of them.
	var classes, ends []int
	want := []api.Seq{{}}
	for i := range n {
		classes = append(classes, clRLI, clR, clPDI)
		ends = append(ends, 3*i, 3*i+2)
		want = append(want, oneOf(1, 1, 1, 3*i+1))
	}
	want[0] = oneOf(0, 0, 0, ends...)
	areSeqs(t, classes, 0, want)
	// A B ahead of each R of an embedding, so that runs are many.
	classes, want = []int{clRLE}, nil
	for i := range n {
		classes = append(classes, clB, clR)
		want = append(want, oneOf(0, min(i, 1), 1, 2*i+1), oneOf(1, 1, 1, 2*i+2))
	}
	areSeqs(t, classes, 0, want)
	// Isolates that are lost, one in another.
	classes = row(times(n, clLRI), times(n, clPDI))
	l := Sequences(classes, 0)
	if len(l) != 63 || len(l[0].At) != 2 || len(l[62].At) != 2*(n-62) {
		t.Errorf("%d sequences", len(l))
	}
}
