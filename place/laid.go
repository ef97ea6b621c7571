package place

import (
	"slices"

	"parquetry/api"
	"parquetry/bidi"
	"parquetry/cluster"
)

// laid is a line that is laid out: of these clusters, in a paragraph of that level.
type laid struct {
	api.Line
	clusters []api.Cluster
	para     int
}

func layOut(l []api.Rune, line api.Line, para int) laid {
	return laid{line, cluster.Of(l), para}
}

// may answers whether the line may be, of its clusters.
func (o laid) may() bool {
	return 0 <= o.From && o.From <= o.Show && o.Show <= o.To && o.To <= len(o.clusters)
}

// text answers the line's slots from left to right, as many as they are.
func (o laid) text(l []api.Rune, levels []int) []api.Slot {
	seen, own := o.seen(l, levels)
	var text []api.Slot
	for _, at := range bidi.Order(own) {
		text = append(text, signs(seen[at], own[at])...)
	}
	if o.Dots != 1 {
		return text
	}
	end := len(text)
	if o.para == 1 {
		end = 0
	}
	return slices.Insert(text, end, api.Slot{Kind: api.SlotDots})
}

// seen answers the clusters that are seen, in the text's order, and the level of each.
func (o laid) seen(l []api.Rune, levels []int) ([]api.Cluster, []int) {
	if o.From == o.To {
		return nil, nil
	}
	from, to := o.clusters[o.From].From, o.clusters[o.To-1].To
	// Of all its runes, since a blank is at the line's end or not whether it is shown or not.
	line := bidi.Line(l[from:to], levels[from:to], o.para)
	var seen []api.Cluster
	var own []int
	for _, c := range o.clusters[o.From:o.Show] {
		if c.Wide > 0 {
			seen, own = append(seen, c), append(own, line[c.From-from])
		}
	}
	return seen, own
}

// signs answers the slots of a cluster at a level.
func signs(c api.Cluster, level int) []api.Slot {
	slots := make([]api.Slot, c.Wide)
	for part := range slots {
		slots[part] = api.Slot{Kind: api.SlotText, At: c.At, Part: part, Code: bidi.Shown(c.Code, level)}
	}
	return slots
}
