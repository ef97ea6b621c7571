package bidi

import (
	"parquetry/api"
	"parquetry/class"
	"parquetry/level"
	"parquetry/neutral"
	"parquetry/pairs"
	"parquetry/weak"
)

// none is the level of what is in no sequence.
const none = -1

// paragraph is what is told of one, rune by rune: codes, classes, levels, and as what the classes are told.
type paragraph struct {
	codes, classes, levels, told []int
}

// paragraphOf answers what is told of a paragraph of that level: no levels, and nothing told, if it is neither 0 nor 1.
func paragraphOf(l []api.Rune, own int) paragraph {
	p := paragraph{classes: class.All(l)}
	for _, r := range l {
		p.codes = append(p.codes, r.Code)
	}
	p.levels, p.told = level.Explicit(p.classes, own)
	return p
}

// sequence looks up in a paragraph what stands at its places.
type sequence struct {
	api.Seq
	paragraph
}

// of answers what of a paragraph's list stands at the sequence's places.
func (s sequence) of(list []int) []int {
	l := make([]int, len(s.At))
	for i, at := range s.At {
		l[i] = list[at]
	}
	return l
}

// settled answers the levels of the sequence's places, by all rules.
func (s sequence) settled() []int {
	types := weak.Weak(s.of(s.told), s.Sos)
	types = pairs.Brackets(types, s.of(s.codes), s.of(s.classes), s.Level, s.Sos)
	types = neutral.Settle(types, s.Level, s.Sos, s.Eos)
	return neutral.Levels(types, s.Level)
}
