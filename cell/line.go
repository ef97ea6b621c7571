package cell

import (
	"parquetry/api"
	"parquetry/base"
	"parquetry/bidi"
	"parquetry/clip"
	"parquetry/cluster"
	"parquetry/place"
	"parquetry/wrap"
)

// paragraph is one of a text, with its own level, and those of its runes.
type paragraph struct {
	runes    []api.Rune
	clusters []api.Cluster
	level    int
	levels   []int
}

// line is one of a text, and the paragraph that it is of.
type line struct {
	api.Line
	paragraph
}

// linesOf answers a text's lines, at least as many as are to be shown of them, and one more, if more come.
func linesOf(text []api.Rune, style api.Style, right, w, h int) []line {
	var lines []line
	from := 0
	for _, to := range base.Paragraphs(text) {
		if len(lines) > h {
			break
		}
		own := paragraphOf(text[from:to], style.Dir, right)
		for _, one := range wrap.Lines(own.clusters, w, style.Wrap) {
			lines = append(lines, line{one, own})
		}
		from = to
	}
	return lines
}

func paragraphOf(l []api.Rune, dir, right int) paragraph {
	level := Level(l, dir, right)
	return paragraph{l, cluster.Of(l), level, bidi.Resolve(l, level)}
}

// clipped answers the line with dots, if it is too wide.
func (o line) clipped(w int) line {
	o.Line, _ = clip.Clip(o.clusters, o.Line, w)
	return o
}

// cut answers the line with dots.
func (o line) cut(w int) line {
	o.Line, _ = clip.Cut(o.clusters, o.Line, w)
	return o
}

// slots answers the line's slots.
// Its own runes are laid out, and not all of the paragraph's, so that a text takes no longer than it is long, however many lines it has.
func (o line) slots(w, align int) []api.Slot {
	from, to := o.clusters[o.From].From, o.clusters[o.To-1].To
	own := api.Line{To: o.To - o.From, Show: o.Show - o.From, Dots: o.Dots}
	slots, _ := place.Slots(o.runes[from:to], o.levels[from:to], own, o.level, w, align)
	return slots
}
