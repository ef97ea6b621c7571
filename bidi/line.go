package bidi

import (
	"parquetry/api"
	"parquetry/level"
)

// line is the classes of one's runes.
type line []int

// reset goes backward over the places that have the paragraph's level, whatever they had.
func (l line) reset(yield func(at int) bool) {
	ending := true
	for at := len(l) - 1; at >= 0; at-- {
		switch class := l[at]; {
		case parts(class):
			ending = true
		case !blank(class):
			ending = false
		}
		if ending && !yield(at) {
			return
		}
	}
}

// parts answers whether a class is one ahead of which blanks stand as at a line's end.
func parts(class int) bool {
	return class == api.BidiS || class == api.BidiB
}

// blank answers whether nothing is to be seen of a class.
func blank(class int) bool {
	switch class {
	case api.BidiWS, api.BidiLRI, api.BidiRLI, api.BidiFSI, api.BidiPDI:
		return true
	}
	return level.Removed(class)
}
