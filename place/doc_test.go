package place

import (
	"math"
	"slices"
	"strings"
	"testing"

	"parquetry/api"
	"parquetry/class"
	"parquetry/cluster"
	"parquetry/mirror"
)

// numbers are such as lie at the ends of what numbers hold, and small ones.
var numbers = []int{
	math.MinInt, math.MinInt + 1, math.MinInt32, -1024, -2, -1, 0, 1, 2, 3, 4, 5, 6, 1023, 1024, 1025, 1 << 16, math.MaxInt32, math.MaxInt32 + 1, 1<<32 | 1, 1<<32 | 2, math.MaxInt - 1, math.MaxInt,
}

// aligns are the ways in which a line may lie.
var aligns = []int{api.AlignLeft, api.AlignRight, api.AlignCentre}

// of answers runes with the codes of a text's signs, ten bytes from one to the next, so that a place is no byte.
func of(text string) []api.Rune {
	var l []api.Rune
	for _, sign := range text {
		l = append(l, api.Rune{At: 10 * len(l), Size: 1, Code: int(sign)})
	}
	return l
}

// levelsOf answers a level a digit; of x one of 126, of y one of 127, of z one of -1, of - one of -2.
func levelsOf(text string) []int {
	var l []int
	for _, sign := range text {
		switch sign {
		case 'x':
			l = append(l, 126)
		case 'y':
			l = append(l, 127)
		case 'z':
			l = append(l, -1)
		case '-':
			l = append(l, -2)
		default:
			l = append(l, int(sign-'0'))
		}
	}
	return l
}

// whole answers the line of all clusters of a row.
func whole(l []api.Rune) api.Line {
	n := len(cluster.Of(l))
	return api.Line{To: n, Show: n}
}

// shows tells slots by a sign each: . of a pad, ~ of dots, = of the second slot of a cluster, ? of what is none of these.
func shows(l []api.Slot) string {
	var text strings.Builder
	for _, s := range l {
		switch s.Kind {
		case api.SlotPad:
			text.WriteByte('.')
		case api.SlotDots:
			text.WriteByte('~')
		case api.SlotText:
			if s.Part == 1 {
				text.WriteByte('=')
			} else {
				text.WriteRune(rune(s.Code))
			}
		default:
			text.WriteByte('?')
		}
	}
	return text.String()
}

// What stands here is the chapter read word by word.

// docSlots answers a line's slots.
func docSlots(l []api.Rune, levels []int, line api.Line, para, w, align int) ([]api.Slot, api.Errno) {
	switch {
	case len(l) != len(levels), para != 0 && para != 1, w < 1, w > 1024, !slices.Contains(aligns, align):
		return nil, api.ErrArg
	case !docMay(l, line):
		return nil, api.ErrRange
	}
	return docPadded(docText(l, levels, line, para), w, align), api.OK
}

// docMay answers whether a line may be: whether its places rise.
func docMay(l []api.Rune, line api.Line) bool {
	return slices.IsSorted([]int{0, line.From, line.Show, line.To, len(cluster.Of(l))})
}

// docPadded answers w slots: each by itself by how far it stands from the left.
func docPadded(text []api.Slot, w, align int) []api.Slot {
	left := 0
	for align != api.AlignLeft && left+len(text) < w {
		left++
	}
	if align == api.AlignCentre {
		left /= 2
	}
	var l []api.Slot
	for x := range w {
		if x >= left && x-left < len(text) {
			l = append(l, text[x-left])
		} else {
			l = append(l, api.Slot{Kind: api.SlotPad})
		}
	}
	return l
}

// docText answers what a line shows from left to right.
func docText(l []api.Rune, levels []int, line api.Line, para int) []api.Slot {
	seen, own := docSeen(l, levels, line, para)
	var text []api.Slot
	for _, at := range docOrder(own, 0, len(own), 1) {
		c, sign := seen[at], seen[at].Code
		if own[at]%2 != 0 {
			sign = mirror.Glyph(sign)
		}
		for part := range c.Wide {
			text = append(text, api.Slot{Kind: api.SlotText, At: c.At, Part: part, Code: sign})
		}
	}
	dots := []api.Slot{{Kind: api.SlotDots}}
	switch {
	case line.Dots != 1:
		return text
	case para == 1:
		return append(dots, text...)
	}
	return append(text, dots...)
}

// docSeen answers what is seen of a line, and the level of each.
func docSeen(l []api.Rune, levels []int, line api.Line, para int) ([]api.Cluster, []int) {
	all := docLevels(l, levels, line, para)
	var seen []api.Cluster
	var own []int
	for at, c := range cluster.Of(l) {
		if line.From <= at && at < line.Show && c.Wide != 0 {
			seen, own = append(seen, c), append(own, all[c.From])
		}
	}
	return seen, own
}

// blanks are the classes of what has the paragraph's level at an end, by their names.
const blanks = " WS LRI RLI FSI PDI RLE LRE RLO LRO PDF BN "

// docLevels answers the levels of a paragraph's runes, where those of a line have the levels that they have there.
func docLevels(l []api.Rune, levels []int, line api.Line, para int) []int {
	own := slices.Clone(levels)
	runs := cluster.Of(l)[line.From:line.To]
	end := true
	for _, c := range slices.Backward(runs) {
		for at := c.To - 1; at >= c.From; at-- {
			name, _ := class.Print(class.Of(l[at].Code))
			sep := name == "S" || name == "B"
			end = sep || end && strings.Contains(blanks, " "+name+" ")
			if end {
				own[at] = para
			}
		}
	}
	return own
}

// docOrder answers the order of levels, from the lowest one inward: what stands at a level or above is what stands there by the levels above that, turned round.
func docOrder(levels []int, from, to, level int) []int {
	var order []int
	for at := from; at < to; {
		if level > 126 || levels[at] < level {
			order = append(order, at)
			at++
			continue
		}
		end := at
		for end < to && levels[end] >= level {
			end++
		}
		inner := docOrder(levels, at, end, level+1)
		slices.Reverse(inner)
		order = append(order, inner...)
		at = end
	}
	return order
}

// eachText calls look with all texts of up to so many of the signs.
func eachText(most int, signs string, look func(text string)) {
	var grow func(ahead string, left int)
	grow = func(ahead string, left int) {
		look(ahead)
		if left > 0 {
			for _, sign := range signs {
				grow(ahead+string(sign), left-1)
			}
		}
	}
	grow("", most)
}

// eachLevels calls look with all rows of n of the levels.
func eachLevels(n int, some []int, look func(levels []int)) {
	levels := make([]int, n)
	var grow func(at int)
	grow = func(at int) {
		if at == n {
			look(levels)
			return
		}
		for _, own := range some {
			levels[at] = own
			grow(at + 1)
		}
	}
	grow(0)
}

// eachLine calls look with all lines that may be of n clusters.
func eachLine(n int, look func(line api.Line)) {
	for from := range n + 1 {
		for show := from; show <= n; show++ {
			for to := show; to <= n; to++ {
				look(api.Line{From: from, To: to, Show: show})
			}
		}
	}
}

// is holds an answer against what it has to be.
func is(t *testing.T, l []api.Rune, levels []int, line api.Line, para, w, align int, want []api.Slot, wantErr api.Errno) {
	t.Helper()
	got, err := Slots(l, levels, line, para, w, align)
	if !slices.Equal(got, want) || err != wantErr {
		t.Fatalf("%v at %v, %v, para %d, w %d, align %d: %q (%v), %d; not %q (%v), %d", l, levels, line, para, w, align, shows(got), got, err, shows(want), want, wantErr)
	}
}
