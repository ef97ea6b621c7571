package cluster

import (
	"parquetry/api"
	"parquetry/gcb"
)

// asPicture is the code point that asks for the wide form of the sign that it stands behind.
const asPicture = 0xfe0f

// Rows of kinds, a bit a kind.
const (
	all      = 1<<(api.GcbLVT+1) - 1
	breaks   = 1<<api.GcbCR | 1<<api.GcbLF | 1<<api.GcbControl
	trailers = 1<<api.GcbExtend | 1<<api.GcbZWJ | 1<<api.GcbMark
	vowels   = 1<<api.GcbV | 1<<api.GcbT
)

// behind holds for each kind which ones join it, right behind it, by the document's rules 1 to 3.
var behind = [...]uint16{
	api.GcbOther:   trailers,
	api.GcbCR:      1 << api.GcbLF,
	api.GcbLF:      0,
	api.GcbControl: 0,
	api.GcbExtend:  trailers,
	api.GcbZWJ:     trailers,
	api.GcbRI:      trailers,
	api.GcbPrepend: all &^ breaks,
	api.GcbMark:    trailers,
	api.GcbL:       trailers | 1<<api.GcbL | 1<<api.GcbV | 1<<api.GcbLV | 1<<api.GcbLVT,
	api.GcbV:       trailers | vowels,
	api.GcbT:       trailers | 1<<api.GcbT,
	api.GcbLV:      trailers | vowels,
	api.GcbLVT:     trailers | 1<<api.GcbT,
}

// A seen is what was seen up to a place: the rune ahead of it, and what counts of those ahead of that.
type seen struct {
	api.Rune
	kind int
	// flags is how many of the kind RI stand side by side up to the rune, with it.
	flags int
	// pictAhead is told of the kinds Extend and ZWJ alone: whether a pictograph stands ahead of the rune, with none or some of Extend between.
	pictAhead bool
}

// nothing is what was seen ahead of the first rune: a control serves for it, since nothing joins one.
func nothing() seen {
	return seen{kind: api.GcbControl}
}

// step answers what was seen when the next rune was.
func (s seen) step(r api.Rune) seen {
	next := seen{Rune: r, kind: gcb.Of(r.Code)}
	switch next.kind {
	case api.GcbRI:
		next.flags = s.flags + 1
	case api.GcbExtend, api.GcbZWJ:
		next.pictAhead = gcb.Pict(s.Code) || s.kind == api.GcbExtend && s.pictAhead
	}
	return next
}

// joins answers whether the next rune and the one ahead of it join.
func (s seen) joins(next seen) bool {
	switch {
	case behind[s.kind]>>next.kind&1 != 0:
		return true
	case s.kind == api.GcbZWJ:
		return s.pictAhead && gcb.Pict(next.Code)
	}
	// An odd number up to the one ahead is an even one ahead of that.
	return next.kind == api.GcbRI && s.flags%2 == 1
}

// wide answers how many slots the next rune asks for, which takes so many by itself.
func (s seen) wide(next seen, slots int) int {
	switch {
	case breaks>>next.kind&1 != 0:
		return 0
	case next.Code == asPicture && gcb.Pict(s.Code):
		return 2
	}
	return slots
}
