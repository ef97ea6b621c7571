package cell

import (
	"math"
	"slices"
	"strings"
	"testing"

	"parquetry/api"
	"parquetry/bidi"
	"parquetry/class"
	"parquetry/cluster"
	"parquetry/place"
	"parquetry/runes"
	"parquetry/wrap"
)

// numbers are such as lie at the ends of what numbers hold, and small ones.
var numbers = []int{
	math.MinInt, math.MinInt + 1, math.MinInt32, -1024, -2, -1, 0, 1, 2, 3, 4, 5, 6, 1023, 1024, 1025, 1 << 16, math.MaxInt32, math.MaxInt32 + 1, 1 << 32, 1<<32 | 1, 1<<32 | 2, math.MaxInt - 1, math.MaxInt,
}

// samples are texts of both directions, of one paragraph and several, with what takes no slot, and two, and what is mirrored.
var samples = []string{
	"", "a", "א", "ab cd", "אב גד", "a(ב)", "אב 12 cd", "一a二ב三", "e\u0301ב\u05b0\u200bc", "a\tb\u2029", "  א  ", "\u2067a(ב)\u2069 c", "\u202eab一)\u202c.", "👨\u200d👩a\r\n", "abcdefgh", "\u0301\u200b",
	"a\nא", "א\nab\n\nגד (e)\n", "\n", "\n\n\n", "ab\r\ncd\ref\ngh\u0085ij\u2029kl", "1 2\n3", "\u2067א\n\u2069 b\nג", "a\xff\n\xe2\x80\xd7", "🇦🇧🇨\n🇩", "一 二\n  三",
}

// everyStyle calls look with all styles that may be, in sheets of both directions.
func everyStyle(look func(style api.Style, right int)) {
	for align := range 5 {
		for wrapped := range 2 {
			for dir := range 4 {
				for right := range 2 {
					look(api.Style{Align: align, Wrap: wrapped, Dir: dir}, right)
				}
			}
		}
	}
}

// eachText calls look with all texts of up to so many of the signs.
func eachText(most int, signs []string, look func(text string)) {
	var grow func(ahead string, left int)
	grow = func(ahead string, left int) {
		look(ahead)
		if left > 0 {
			for _, sign := range signs {
				grow(ahead+sign, left-1)
			}
		}
	}
	grow("", most)
}

// shows tells slots by a sign each, and / between rows: . of a pad, ~ of dots, = of the second slot of a cluster, ? of what is none of these.
func shows(l []api.Slot, w int) string {
	var text strings.Builder
	for at, s := range l {
		if at > 0 && at%w == 0 {
			text.WriteByte('/')
		}
		switch {
		case s == api.Slot{Kind: api.SlotPad}:
			text.WriteByte('.')
		case s == api.Slot{Kind: api.SlotDots}:
			text.WriteByte('~')
		case s.Kind != api.SlotText:
			text.WriteByte('?')
		case s.Part == 1:
			text.WriteByte('=')
		default:
			text.WriteRune(rune(s.Code))
		}
	}
	return text.String()
}

// What stands here is the chapter read word by word.

// docLevel answers the level of a paragraph's text.
func docLevel(l []api.Rune, dir, right int) int {
	switch {
	case dir == api.DirText:
		return docLetter(l)
	case dir == api.DirLeft:
		return 0
	case dir == api.DirRight:
		return 1
	}
	return right & 1
}

// docLetter answers the level by the first letter that stands in no isolate.
func docLetter(l []api.Rune) int {
	for at, r := range l {
		if docIsolated(l, at) {
			continue
		}
		switch name, _ := class.Print(class.Of(r.Code)); name {
		case "L":
			return 0
		case "R", "AL":
			return 1
		}
	}
	return 0
}

// docIsolated answers whether a place stands behind an initiator, and ahead of its PDI.
func docIsolated(l []api.Rune, at int) bool {
	for from := range at {
		if docOpens(l[from]) == 1 && !docClosed(l[from:at+1]) {
			return true
		}
	}
	return false
}

// docClosed answers whether what is opened first is closed in what is handed in.
func docClosed(l []api.Rune) bool {
	open := 0
	for _, r := range l {
		open += docOpens(r)
		if open == 0 {
			return true
		}
	}
	return false
}

func docOpens(r api.Rune) int {
	switch name, _ := class.Print(class.Of(r.Code)); name {
	case "LRI", "RLI", "FSI":
		return 1
	case "PDI":
		return -1
	}
	return 0
}

// docParagraphs answers the runes of each paragraph of a text, from its end backward.
func docParagraphs(l []api.Rune) [][]api.Rune {
	var all [][]api.Rune
	end := len(l)
	for at := len(l) - 1; at >= 0; at-- {
		ahead := at - 1
		if at == 0 || class.Of(l[ahead].Code) == api.BidiB && (l[ahead].Code != '\r' || l[at].Code != '\n') {
			all = append(all, l[at:end])
			end = at
		}
	}
	slices.Reverse(all)
	return all
}

// docLayout answers the slots of a text, row by row: each row by itself.
func docLayout(text string, style api.Style, right, w, h int) ([]api.Slot, api.Errno) {
	switch {
	case style.Align < 0, style.Align > 4, style.Wrap < 0, style.Wrap > 1, style.Dir < 0, style.Dir > 3, right < 0, right > 1, w < 1, w > 1024, h < 1, h > 1024:
		return nil, api.ErrArg
	case len(text) > 1024:
		return nil, api.ErrLong
	}
	var slots []api.Slot
	for row := range h {
		slots = append(slots, docRow(runes.Split(text), style, right, w, row, row+1 == h)...)
	}
	return slots, api.OK
}

// docRow answers the slots of a row of a text, so far from the top, which may be the last one of the region.
func docRow(text []api.Rune, style api.Style, right, w, row int, last bool) []api.Slot {
	paragraphs := docParagraphs(text)
	for at, own := range paragraphs {
		lines := wrap.Lines(cluster.Of(own), w, style.Wrap)
		if row >= len(lines) {
			row -= len(lines)
			continue
		}
		more := row+1 < len(lines) || at+1 < len(paragraphs)
		line := docFit(cluster.Of(own), lines[row], w, last && more)
		level := docLevel(own, style.Dir, right)
		slots, _ := place.Slots(own, bidi.Resolve(own, level), line, level, w, docAlign(style.Align, right))
		return slots
	}
	var slots []api.Slot
	for range w {
		slots = append(slots, api.Slot{Kind: api.SlotPad})
	}
	return slots
}

// docFit answers a line with dots, if it has to be cut, or takes more than w slots: then as many of its clusters are left out as have to be.
func docFit(l []api.Cluster, line api.Line, w int, cut bool) api.Line {
	room := w
	if cut || cluster.Wide(l[line.From:line.Show]...) > w {
		line.Dots = 1
		room--
	}
	for cluster.Wide(l[line.From:line.Show]...) > room {
		line.Show--
	}
	return line
}

// docAlign answers how a text lies, by what is on the left in both sheets.
func docAlign(align, right int) int {
	return [][]int{
		{api.AlignLeft, api.AlignRight, api.AlignLeft, api.AlignRight, api.AlignCentre},
		{api.AlignRight, api.AlignLeft, api.AlignLeft, api.AlignRight, api.AlignCentre},
	}[right][align]
}

// is holds an answer against what it has to be.
func is(t *testing.T, text string, style api.Style, right, w, h int, want []api.Slot, wantErr api.Errno) {
	t.Helper()
	got, err := Layout(text, style, right, w, h)
	if !slices.Equal(got, want) || err != wantErr {
		t.Fatalf("%q, %+v, right %d, %d to %d: %q (%v), %d; not %q (%v), %d", text, style, right, w, h, shows(got, w), got, err, shows(want, w), want, wantErr)
	}
}

// isDoc holds an answer against the chapter's.
func isDoc(t *testing.T, text string, style api.Style, right, w, h int) {
	t.Helper()
	want, err := docLayout(text, style, right, w, h)
	is(t, text, style, right, w, h, want, err)
}
