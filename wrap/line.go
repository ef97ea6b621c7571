package wrap

import (
	"iter"

	"parquetry/api"
)

// paragraph is clusters, and the end of those that are to be shown.
type paragraph struct {
	clusters []api.Cluster
	shown    int
}

// lines tells the lines of w slots, one by one.
func (p paragraph) lines(w int) iter.Seq[api.Line] {
	return func(yield func(api.Line) bool) {
		for from := 0; from < p.shown; {
			made := line{p, from}.made(w)
			if !yield(made) {
				return
			}
			from = made.To
		}
	}
}

// rest answers the line of all that there is from a place on.
func (p paragraph) rest(from int) api.Line {
	return p.hard(from, p.shown)
}

// hard answers a line with which the paragraph ends.
func (p paragraph) hard(from, show int) api.Line {
	return api.Line{From: from, To: len(p.clusters), Show: show, Hard: 1}
}

// misfit answers the first place with which what is to be shown from a place on takes more than w; its end, if there is none.
func (p paragraph) misfit(from, w int) int {
	return Fits(p.clusters[:p.shown], from, w)
}

// line is one that is made: where it begins, of its paragraph.
type line struct {
	paragraph
	from int
}

// made answers the line, with w slots.
func (l line) made(w int) api.Line {
	misfit := l.misfit(l.from, w)
	if misfit == l.shown {
		return l.rest(l.from)
	}
	show, to := l.parted(misfit)
	if to == l.shown {
		return l.hard(l.from, show)
	}
	return api.Line{From: l.from, To: to, Show: show}
}

// parted answers up to where a line is shown, and up to where it goes, in which not all fits.
func (l line) parted(misfit int) (int, int) {
	blank := func(at int) bool { return Blank(l.clusters[at]) }
	word := func(at int) bool { return !blank(at) }
	show := l.back(l.back(misfit+1, blank), word)
	if show == l.from {
		// No blank has a word ahead of it: the line ends within one; one cluster at least stands in it, or there would be no end of lines.
		end := max(misfit, l.from+1)
		return end, end
	}
	return show, l.on(show, word)
}

// back answers the place behind the last one ahead of another one that is asked for; the line's begin, if there is none.
func (l line) back(end int, asked func(at int) bool) int {
	for end > l.from && !asked(end-1) {
		end--
	}
	return end
}

// on answers the first place, from one on, that is asked for; the end of what is to be shown, if there is none.
func (l line) on(at int, asked func(at int) bool) int {
	for at < l.shown && !asked(at) {
		at++
	}
	return at
}
