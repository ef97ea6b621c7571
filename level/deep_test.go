package level

import (
	"slices"
	"testing"
)

// times answers so many of a class.
func times(n, class int) []int {
	return slices.Repeat([]int{class}, n)
}

// turns answers so many classes, in turns of the two.
func turns(n, one, two int) []int {
	return slices.Repeat([]int{one, two}, n)[:n]
}

// lastTold answers the level of a row's last one, and as what it is told.
func lastTold(classes []int, level int) (int, int) {
	levels, told := Explicit(classes, level)
	return levels[len(levels)-1], told[len(told)-1]
}

// stands tells of an ON behind a row.
func stands(t *testing.T, classes []int, level, want, told int) {
	t.Helper()
	if l, m := lastTold(row(classes, []int{clON}), level); l != want || m != told {
		t.Errorf("%v at %d: %d, %d, not %d, %d", classes, level, l, m, want, told)
	}
}

// P11.2, P11.4: levels up to MaxDepth, by steps of one and of two, and what is one more; as many ends behind.
func TestSteps(t *testing.T) {
	for _, x := range []struct {
		one, two, end int
		level         int
		first, step   int
		last          int
	}{
		{clRLE, clLRE, clPDF, 0, 1, 1, 125}, {clLRE, clRLE, clPDF, 1, 2, 1, 125}, {clRLE, clRLE, clPDF, 0, 1, 2, 125}, {clRLE, clRLE, clPDF, 1, 3, 2, 125}, {clLRE, clLRE, clPDF, 0, 2, 2, 124}, {clLRE, clLRE, clPDF, 1, 2, 2, 124},
		{clRLI, clLRI, clPDI, 0, 1, 1, 125}, {clLRI, clRLI, clPDI, 1, 2, 1, 125}, {clFSI, clRLI, clPDI, 1, 2, 1, 125}, {clRLI, clRLI, clPDI, 0, 1, 2, 125}, {clRLI, clRLI, clPDI, 1, 3, 2, 125}, {clLRI, clLRI, clPDI, 0, 2, 2, 124}, {clFSI, clFSI, clPDI, 1, 2, 2, 124},
	} {
		for n := 1; n <= 200; n++ {
			open := turns(n, x.one, x.two)
			stands(t, open, x.level, min(x.first+(n-1)*x.step, x.last), clON)
			for _, closed := range []int{1, 2, n / 2, n - 1, n, n + 1} {
				want := x.level
				if n > closed {
					want = min(x.first+(n-closed-1)*x.step, x.last)
				}
				stands(t, row(open, times(closed, x.end)), x.level, want, clON)
			}
		}
	}
}

// P11.2: an override that is lost does not hold: the last one that is open does.
func TestLostOverrides(t *testing.T) {
	deep := times(62, clLRO)
	stands(t, deep, 0, 124, clL)
	stands(t, row(deep, []int{clRLO}), 0, 125, clR)
	stands(t, row(deep, []int{clRLO, clLRO}), 0, 125, clR)
	stands(t, row(deep, []int{clRLE, clLRO}), 0, 125, clON)
	stands(t, row(deep, []int{clLRO, clRLO}), 0, 124, clL)
	stands(t, row(deep, []int{clLRE}), 0, 124, clL)
	stands(t, row(deep, []int{clLRI}), 0, 124, clL)
	stands(t, row(deep, []int{clLRI, clRLO}), 0, 124, clL)
	stands(t, row(deep, []int{clRLI}), 0, 125, clON)
	stands(t, row(deep, []int{clRLI, clRLO, clLRI}), 0, 125, clON)
	stands(t, row(times(62, clLRE), []int{clRLO, clFSI}), 0, 125, clR)
}

// P11.2: what is lost, in what is lost, or in what is not; and what fits again behind its ends.
func TestLost(t *testing.T) {
	deep, isolated := times(62, clLRE), times(62, clLRI)
	for _, x := range []struct {
		ahead []int
		names string
		want  int
	}{
		// As long as something is lost, what would fit is lost, too.
		{deep, "LRE RLE", 124}, {deep, "LRE RLI", 124}, {deep, "LRI RLE", 124}, {deep, "LRI RLI", 124}, {deep, "LRE LRI RLE", 124}, {isolated, "LRE RLI", 124}, {isolated, "LRI RLE", 124},
		{deep, "LRE PDF RLE", 125}, {deep, "LRI PDI RLE", 125}, {deep, "LRE PDF RLI", 125}, {isolated, "LRI PDI RLI", 125}, {isolated, "LRE PDF RLE", 125},
		{deep, "LRE LRE PDF RLE", 124}, {deep, "LRE LRE PDF PDF RLE", 125}, {deep, "LRI LRI PDI RLE", 124}, {deep, "LRI LRI PDI PDI RLE", 125},
		// Ends of what is lost, each for one; one more closes what is open.
		{deep, "LRE LRE LRE PDF PDF PDF", 124}, {deep, "LRE LRE LRE PDF PDF PDF PDF", 122}, {isolated, "LRI LRI LRI PDI PDI PDI", 124}, {isolated, "LRI LRI LRI PDI PDI PDI PDI", 122},
		// An embedding in a lost isolate is not counted, and its end closes nothing.
		{deep, "LRI LRE PDI PDF", 122}, {deep, "LRI LRE RLE PDI PDF", 122}, {deep, "LRI PDF PDF PDI", 124}, {deep, "LRI LRE PDF PDF PDI PDF", 122}, {deep, "LRI LRE PDI RLE", 125}, {isolated, "LRI LRE PDI PDF", 124}, {isolated, "LRI LRE PDI PDI", 122},
		// An isolate in a lost embedding is lost, and closes nothing of what is open.
		{deep, "LRE RLI PDI", 124}, {deep, "LRE RLI PDI RLE", 124}, {deep, "LRE RLI PDI PDF RLE", 125}, {deep, "LRE RLI PDF PDI PDF", 124}, {deep, "LRE RLI PDF PDI PDF PDF", 122}, {deep, "LRE RLI LRE PDI PDF PDF", 122}, {isolated, "LRE RLI PDI PDI", 122}, {isolated, "LRE LRE RLI PDI PDF PDI", 122},
		// A PDI of an isolate that is open forgets the embeddings that are lost in it.
		{deep[:61], "LRI LRE LRE PDI", 122}, {deep[:61], "LRI LRE LRE PDI RLE", 123}, {deep[:61], "LRI LRE LRE PDI PDF", 120}, {deep[:61], "LRI LRE LRI LRE PDI PDI RLE", 123}, {deep, "RLI RLE RLE PDI RLE", 125}, {isolated, "RLE LRE PDI", 122}, {isolated, "RLE LRE PDI RLE LRE", 124}, {isolated, "RLE LRE LRE PDI LRI LRI PDI", 124},
		// A PDI where no isolate is open, or lost, forgets nothing.
		{deep, "LRE PDI RLE", 124}, {deep, "LRE PDI PDF RLE", 125}, {deep, "LRE PDI PDF", 124}, {deep, "LRE PDI PDF PDF", 122}, {deep, "LRI PDI PDI PDF", 122},
	} {
		stands(t, row(x.ahead, named(t, x.names)), 0, x.want, clON)
	}
}

// P11.2: an FSI that is lost, and one that would fit only as an RLI.
func TestLostFSI(t *testing.T) {
	deep := times(62, clLRE)
	for _, x := range []struct {
		names string
		want  int
	}{
		{"FSI R", 125}, {"FSI L", 124}, {"FSI", 124}, {"FSI LRI R PDI", 124}, {"FSI R PDI", 124}, {"FSI R PDI RLE", 125}, {"FSI L RLE", 124}, {"FSI L PDI RLE", 125}, {"FSI AL FSI AL", 125}, {"LRE FSI AL", 124}, {"LRE FSI AL PDI PDF RLE", 125}, {"FSI FSI AL PDI PDI PDF", 122},
	} {
		stands(t, row(deep, named(t, x.names)), 0, x.want, clON)
	}
}

// deeps are rows behind which there is hardly room for one more level, or none, or something is lost.
func deeps() [][]int {
	return [][]int{
		times(61, clLRE), times(62, clLRO), times(63, clLRE), times(62, clRLE), times(63, clRLO), times(64, clRLE), turns(124, clRLE, clLRE), turns(126, clRLE, clLRO),
		times(61, clLRI), times(62, clLRI), times(64, clLRI), times(62, clRLI), times(64, clRLI), turns(124, clRLE, clLRI), turns(125, clRLI, clLRO), turns(66, clLRI, clLRE), row(times(63, clLRE), times(2, clRLI)),
	}
}

// P11.2: all small rows, behind deep ones.
func TestSmallRowsDeep(t *testing.T) {
	for _, ahead := range deeps() {
		eachRow(4, []int{clRLE, clLRO, clRLI, clFSI, clPDF, clPDI, clR}, func(classes []int) {
			isAsDoc(t, row(ahead, classes, []int{clON}))
		})
		eachRow(6, []int{clLRE, clLRI, clPDF, clPDI}, func(classes []int) {
			isAsDoc(t, row(ahead, classes, []int{clRLO, clON}))
		})
	}
}

// P11.2: all rows of opens and ends, each many times.
func TestSmallRowsOfMany(t *testing.T) {
	eachRow(5, []int{clRLE, clLRO, clLRI, clPDF, clPDI}, func(classes []int) {
		for _, n := range []int{40, 63, 70} {
			var many []int
			for _, c := range classes {
				many = append(many, times(n, c)...)
			}
			isAsDoc(t, append(many, clON))
		}
	})
}

// P11.2: long rows, deep ones among them, which take no longer than a row of that length needs.
func TestLong(t *testing.T) {
	const n = 1 << 18
	stands(t, row(times(n, clRLE), times(n, clPDF)), 0, 0, clON)
	stands(t, row(times(n, clRLE), times(n-63, clPDF)), 0, 125, clON)
	stands(t, row(times(n, clRLO), times(n-62, clPDF)), 0, 123, clR)
	stands(t, row(times(n, clLRI), times(n, clPDI)), 1, 1, clON)
	stands(t, row(times(n, clFSI), []int{clR}, times(n, clPDI)), 0, 0, clON)
	stands(t, times(n, clFSI), 0, 124, clON)
	stands(t, row(times(n, clPDI), times(n, clPDF), []int{clFSI}, turns(2*n, clRLI, clPDI), []int{clAL}), 0, 1, clON)
	stands(t, row([]int{clRLI}, times(n, clRLE), []int{clPDI}), 0, 0, clON)
	levels, told := Explicit(row(times(n, clFSI), []int{clR}, times(n, clPDI), []int{clR}), 0)
	for at := range n {
		if want := min(2*at, 124); levels[at] != want || levels[2*n-at] != want || told[at] != clFSI || told[2*n-at] != clPDI {
			t.Fatalf("at %d: %d, %d, %d, %d", at, levels[at], levels[2*n-at], told[at], told[2*n-at])
		}
	}
}
