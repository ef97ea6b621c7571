package clip

import (
	"math"

	"parquetry/api"
	"parquetry/wrap"
)

// most is the greatest number of slots that is told.
const most = math.MaxInt32

// clusters are those that a line is of.
type clusters struct {
	all []api.Cluster
}

// looked is a line that is looked at.
type looked struct {
	api.Line
	clusters
}

// look answers a line with its clusters.
func look(l []api.Cluster, line api.Line) looked {
	return looked{line, clusters{l}}
}

// may answers whether the line may be. What else is asked of it holds just if it may.
func (o looked) may() bool {
	return 0 <= o.From && o.From <= o.Show && o.Show <= o.To && o.To <= len(o.all)
}

// checked answers the line that is made in a way, or that it may not be.
func (o looked) checked(way func(w int) api.Line, w int) (api.Line, api.Errno) {
	if !o.may() {
		return api.Line{}, api.ErrArg
	}
	return way(w), api.OK
}

// clipped answers the line without dots, if it fits w slots, and cut if it does not.
func (o looked) clipped(w int) api.Line {
	if !o.fits(w) {
		return o.cut(w)
	}
	o.Dots = 0
	return o.Line
}

// cut answers the line with dots, cut to w slots.
func (o looked) cut(w int) api.Line {
	o.Dots = 1
	// Nothing fits fewer than 0 slots, as are left beside the dots where there is no slot at all.
	o.Show = o.end(max(w, 0) - 1)
	return o.Line
}

// fits answers whether the line fits w slots.
func (o looked) fits(w int) bool {
	// A line of nothing takes 0 slots, which are more than a number below 0, too.
	return w >= 0 && o.end(w) == o.Show
}

// end answers the place up to which what is shown fits w slots.
func (o looked) end(w int) int {
	return wrap.Fits(o.all[:o.Show], o.From, w)
}

// wide answers how many slots the line takes, with its dots.
func (o looked) wide() int {
	left := most
	if o.Dots == 1 {
		left--
	}
	for _, c := range o.all[o.From:o.Show] {
		// What is left is counted, and not what was taken, since that might not fit a number.
		left -= min(max(c.Wide, 0), left)
	}
	return most - left
}
