package clip

import (
	"math"
	"math/big"
	"slices"
	"testing"

	"parquetry/api"
)

// numbers are such as lie at the ends of what numbers hold, and small ones.
var numbers = []int{
	math.MinInt, math.MinInt + 1, math.MinInt32, -1024, -2, -1, 0, 1, 2, 3, 4, 5, 6, 7, 1024, math.MaxInt32 - 1, math.MaxInt32, math.MaxInt32 + 1, math.MaxInt - 1, math.MaxInt,
}

// of answers clusters of one sign each: of 0 one of no slot, of 2 one of two, of 5 and 6 ones below none, of 7 and 8 ones of so many slots that two of them are more than a number holds; of all others one of one slot.
func of(text string) []api.Cluster {
	var l []api.Cluster
	for at, sign := range []byte(text) {
		c := api.Cluster{At: at, Size: 1, From: at, To: at + 1, Wide: 1, Code: int(sign)}
		switch sign {
		case '0':
			c.Wide = 0
		case '2':
			c.Wide = 2
		case '5':
			c.Wide = -3
		case '6':
			c.Wide = math.MinInt
		case '7':
			c.Wide = math.MaxInt
		case '8':
			c.Wide = math.MaxInt - 1
		}
		l = append(l, c)
	}
	return l
}

// wide answers clusters of so many slots.
func wide(slots ...int) []api.Cluster {
	var l []api.Cluster
	for at, n := range slots {
		l = append(l, api.Cluster{At: at, Size: 1, From: at, To: at + 1, Wide: n, Code: 'a'})
	}
	return l
}

// whole answers the line of all clusters.
func whole(l []api.Cluster) api.Line {
	return api.Line{To: len(l), Show: len(l), Hard: 1}
}

// What stands here is the chapter read word by word.

// docMay answers whether a line may be: whether its places rise.
func docMay(l []api.Cluster, line api.Line) bool {
	return slices.IsSorted([]int{0, line.From, line.Show, line.To, len(l)})
}

// docTake answers how many slots clusters take.
func docTake(l []api.Cluster) *big.Int {
	sum := new(big.Int)
	for _, c := range l {
		if c.Wide > 0 {
			sum.Add(sum, big.NewInt(int64(c.Wide)))
		}
	}
	return sum
}

// docFits answers whether clusters take at most w slots.
func docFits(l []api.Cluster, w int) bool {
	return docTake(l).Cmp(big.NewInt(int64(w))) <= 0
}

// docCut answers a line that is cut.
func docCut(l []api.Cluster, line api.Line, w int) (api.Line, api.Errno) {
	if !docMay(l, line) {
		return api.Line{}, api.ErrArg
	}
	show := line.From
	if w > 0 {
		for show = line.Show; !docFits(l[line.From:show], w-1); {
			show--
		}
	}
	return api.Line{From: line.From, To: line.To, Show: show, Hard: line.Hard, Dots: 1}, api.OK
}

// docClip answers a line that is clipped.
func docClip(l []api.Cluster, line api.Line, w int) (api.Line, api.Errno) {
	if docMay(l, line) && docFits(l[line.From:line.Show], w) {
		return api.Line{From: line.From, To: line.To, Show: line.Show, Hard: line.Hard}, api.OK
	}
	return docCut(l, line, w)
}

// docAll answers the first h lines.
func docAll(l []api.Cluster, lines []api.Line, w, h int) ([]api.Line, api.Errno) {
	for _, one := range lines {
		if !docMay(l, one) {
			return nil, api.ErrArg
		}
	}
	var made []api.Line
	for at, one := range lines {
		if at < h {
			own, _ := docClip(l, one, w)
			if at+1 == h && len(lines) > h {
				own, _ = docCut(l, one, w)
			}
			made = append(made, own)
		}
	}
	return made, api.OK
}

// docWide answers how many slots what is shown of a line takes.
func docWide(l []api.Cluster, line api.Line) int {
	if !docMay(l, line) {
		return 0
	}
	sum := docTake(l[line.From:line.Show])
	if line.Dots == 1 {
		sum.Add(sum, big.NewInt(1))
	}
	if sum.Cmp(big.NewInt(math.MaxInt32)) > 0 {
		return math.MaxInt32
	}
	return int(sum.Int64())
}

// eachText calls look with all texts of up to so many of the signs.
func eachText(most int, signs string, look func(text string)) {
	var grow func(ahead string)
	grow = func(ahead string) {
		look(ahead)
		if len(ahead) < most {
			for _, sign := range signs {
				grow(ahead + string(sign))
			}
		}
	}
	grow("")
}

// eachLine calls look with all lines whose places lie from -1 up to one behind the clusters' end.
func eachLine(n int, look func(line api.Line)) {
	for from := -1; from <= n+1; from++ {
		for show := -1; show <= n+1; show++ {
			for to := -1; to <= n+1; to++ {
				look(api.Line{From: from, To: to, Show: show, Hard: (from + to) & 1})
			}
		}
	}
}

// someLines calls look with many small rows of clusters, and lines of them, most of which may be.
func someLines(look func(l []api.Cluster, line api.Line)) {
	all := func(text string) {
		l := of(text)
		eachLine(len(l), func(line api.Line) { look(l, line) })
	}
	eachText(4, "a025", all)
	eachText(2, "a0256789", all)
	eachText(6, "a02", func(text string) {
		l := of(text)
		for from := range len(l) + 1 {
			for show := from; show <= len(l); show++ {
				look(l, api.Line{From: from, To: len(l), Show: show, Hard: 1})
			}
		}
	})
}

// isOne holds what Clip, or Cut, answers against another line.
func isOne(t *testing.T, made func(l []api.Cluster, line api.Line, w int) (api.Line, api.Errno), l []api.Cluster, line api.Line, w int, want api.Line, err api.Errno) {
	t.Helper()
	if got, e := made(l, line, w); got != want || e != err {
		t.Errorf("%v of %v to %d: %v, %d, not %v, %d", line, l, w, got, e, want, err)
	}
}

// isAll holds what All answers against other lines.
func isAll(t *testing.T, l []api.Cluster, lines []api.Line, w, h int, want []api.Line, err api.Errno) {
	t.Helper()
	if got, e := All(l, lines, w, h); !slices.Equal(got, want) || e != err {
		t.Errorf("%v of %v to %d, %d: %v, %d, not %v, %d", lines, l, w, h, got, e, want, err)
	}
}
