package gcb

import (
	"sort"

	"parquetry/api"
)

// noKind is a number that is no kind's.
const noKind = -1

// A kind is one of api's, or one of those that api has no number for.
type kind uint8

const (
	// A syllable is LV or LVT, by its number.
	syllable kind = api.GcbLVT + 1 + iota
	pictograph
	// What lies between pictographs may be of any of the other kinds.
	noPictograph
)

const (
	firstSyllable = 0xac00
	// perLV is how many syllables there are from one LV to the next one.
	perLV = 28
)

// of answers api's number for a code point of this kind.
func (k kind) of(code int) int {
	switch {
	case k != syllable:
		return int(k)
	case (code-firstSyllable)%perLV == 0:
		return api.GcbLV
	}
	return api.GcbLVT
}

// A begin is where a kind begins, which goes on up to the next begin.
// Its fields are small, since the tables are made anew by each call.
type begin struct {
	at rune
	kind
}

// lastBegun answers the last begin that stands at a number, or ahead of it; one of the kind Other, if there is none.
// The begins must rise, since the search needs them so.
func lastBegun(begins []begin, code int) begin {
	ahead := sort.Search(len(begins), func(at int) bool { return int(begins[at].at) > code })
	if ahead == 0 {
		return begin{kind: api.GcbOther}
	}
	return begins[ahead-1]
}

// The tables are made by functions, since they are too great for the package level.

// kinds answers where the kinds begin.
func kinds() [130]begin {
	return [...]begin{
		{0x00, api.GcbControl}, {0x0a, api.GcbLF}, {0x0b, api.GcbControl}, {0x0d, api.GcbCR},
		{0x0e, api.GcbControl}, {0x20, api.GcbOther}, {0x7f, api.GcbControl}, {0xa0, api.GcbOther},
		{0xad, api.GcbControl}, {0xae, api.GcbOther}, {0x300, api.GcbExtend}, {0x370, api.GcbOther},
		{0x483, api.GcbExtend}, {0x48a, api.GcbOther}, {0x591, api.GcbExtend}, {0x5be, api.GcbOther},
		{0x5bf, api.GcbExtend}, {0x5c0, api.GcbOther}, {0x5c1, api.GcbExtend}, {0x5c3, api.GcbOther},
		{0x5c4, api.GcbExtend}, {0x5c6, api.GcbOther}, {0x5c7, api.GcbExtend}, {0x5c8, api.GcbOther},
		{0x600, api.GcbPrepend}, {0x606, api.GcbOther}, {0x610, api.GcbExtend}, {0x61b, api.GcbOther},
		{0x61c, api.GcbControl}, {0x61d, api.GcbOther}, {0x64b, api.GcbExtend}, {0x660, api.GcbOther},
		{0x670, api.GcbExtend}, {0x671, api.GcbOther}, {0x6d6, api.GcbExtend}, {0x6dd, api.GcbPrepend}, {0x6de, api.GcbOther},
		{0x6df, api.GcbExtend}, {0x6e5, api.GcbOther}, {0x6e7, api.GcbExtend}, {0x6e9, api.GcbOther},
		{0x6ea, api.GcbExtend}, {0x6ee, api.GcbOther}, {0x70f, api.GcbPrepend}, {0x710, api.GcbOther},
		{0x8e2, api.GcbPrepend}, {0x8e3, api.GcbOther}, {0x903, api.GcbMark}, {0x904, api.GcbOther}, {0x93a, api.GcbExtend},
		{0x93b, api.GcbMark}, {0x93c, api.GcbExtend}, {0x93d, api.GcbOther}, {0x93e, api.GcbMark}, {0x941, api.GcbExtend},
		{0x949, api.GcbMark}, {0x94d, api.GcbExtend}, {0x94e, api.GcbMark}, {0x950, api.GcbOther},
		{0x982, api.GcbMark}, {0x984, api.GcbOther}, {0x9be, api.GcbExtend}, {0x9bf, api.GcbOther},
		{0xd4e, api.GcbPrepend}, {0xd4f, api.GcbOther}, {0xe31, api.GcbExtend}, {0xe32, api.GcbOther}, {0xe33, api.GcbMark},
		{0xe34, api.GcbExtend}, {0xe3b, api.GcbOther}, {0xe47, api.GcbExtend}, {0xe4f, api.GcbOther},
		{0xeb3, api.GcbMark}, {0xeb4, api.GcbOther}, {0x1100, api.GcbL}, {0x1160, api.GcbV},
		{0x11a8, api.GcbT}, {0x1200, api.GcbOther}, {0x180e, api.GcbControl}, {0x180f, api.GcbOther},
		{0x1ab0, api.GcbExtend}, {0x1acf, api.GcbOther}, {0x1dc0, api.GcbExtend}, {0x1e00, api.GcbOther}, {0x200b, api.GcbControl},
		{0x200c, api.GcbExtend}, {0x200d, api.GcbZWJ}, {0x200e, api.GcbControl}, {0x2010, api.GcbOther},
		{0x2028, api.GcbControl}, {0x202f, api.GcbOther}, {0x2060, api.GcbControl}, {0x2070, api.GcbOther},
		{0x20d0, api.GcbExtend}, {0x20f1, api.GcbOther}, {0x302a, api.GcbExtend}, {0x3030, api.GcbOther},
		{0x3099, api.GcbExtend}, {0x309b, api.GcbOther}, {0xa66f, api.GcbExtend}, {0xa673, api.GcbOther},
		{0xa960, api.GcbL}, {0xa97d, api.GcbOther}, {0xac00, syllable}, {0xd7a4, api.GcbOther},
		{0xd7b0, api.GcbV}, {0xd7c7, api.GcbOther}, {0xd7cb, api.GcbT}, {0xd7fc, api.GcbOther},
		{0xfb1e, api.GcbExtend}, {0xfb1f, api.GcbOther}, {0xfe00, api.GcbExtend}, {0xfe10, api.GcbOther},
		{0xfe20, api.GcbExtend}, {0xfe30, api.GcbOther}, {0xfeff, api.GcbControl}, {0xff00, api.GcbOther},
		{0xff9e, api.GcbExtend}, {0xffa0, api.GcbOther}, {0xfff0, api.GcbControl}, {0xfffc, api.GcbOther},
		{0x1f1e6, api.GcbRI}, {0x1f200, api.GcbOther}, {0x1f3fb, api.GcbExtend}, {0x1f400, api.GcbOther}, {0xe0000, api.GcbControl},
		{0xe0020, api.GcbExtend}, {0xe0080, api.GcbControl}, {0xe0100, api.GcbExtend}, {0xe01f0, api.GcbOther},
	}
}

// pictographs answers where pictographs begin, and where they end.
func pictographs() [154]begin {
	return [...]begin{
		{0xa9, pictograph}, {0xaa, noPictograph}, {0xae, pictograph}, {0xaf, noPictograph},
		{0x203c, pictograph}, {0x203d, noPictograph}, {0x2049, pictograph}, {0x204a, noPictograph},
		{0x2122, pictograph}, {0x2123, noPictograph}, {0x2139, pictograph}, {0x213a, noPictograph},
		{0x2194, pictograph}, {0x219a, noPictograph}, {0x21a9, pictograph}, {0x21ab, noPictograph},
		{0x231a, pictograph}, {0x231c, noPictograph}, {0x2328, pictograph}, {0x2329, noPictograph},
		{0x23cf, pictograph}, {0x23d0, noPictograph}, {0x23e9, pictograph}, {0x23f4, noPictograph},
		{0x23f8, pictograph}, {0x23fb, noPictograph}, {0x24c2, pictograph}, {0x24c3, noPictograph},
		{0x25aa, pictograph}, {0x25ac, noPictograph}, {0x25b6, pictograph}, {0x25b7, noPictograph},
		{0x25c0, pictograph}, {0x25c1, noPictograph}, {0x25fb, pictograph}, {0x25ff, noPictograph},
		{0x2600, pictograph}, {0x2606, noPictograph}, {0x2607, pictograph}, {0x2613, noPictograph},
		{0x2614, pictograph}, {0x2686, noPictograph}, {0x2690, pictograph}, {0x2706, noPictograph},
		{0x2708, pictograph}, {0x2713, noPictograph}, {0x2714, pictograph}, {0x2715, noPictograph},
		{0x2716, pictograph}, {0x2717, noPictograph}, {0x271d, pictograph}, {0x271e, noPictograph},
		{0x2721, pictograph}, {0x2722, noPictograph}, {0x2728, pictograph}, {0x2729, noPictograph},
		{0x2733, pictograph}, {0x2735, noPictograph}, {0x2744, pictograph}, {0x2745, noPictograph},
		{0x2747, pictograph}, {0x2748, noPictograph}, {0x274c, pictograph}, {0x274d, noPictograph},
		{0x274e, pictograph}, {0x274f, noPictograph}, {0x2753, pictograph}, {0x2756, noPictograph},
		{0x2757, pictograph}, {0x2758, noPictograph}, {0x2763, pictograph}, {0x2768, noPictograph},
		{0x2795, pictograph}, {0x2798, noPictograph}, {0x27a1, pictograph}, {0x27a2, noPictograph},
		{0x27b0, pictograph}, {0x27b1, noPictograph}, {0x27bf, pictograph}, {0x27c0, noPictograph},
		{0x2934, pictograph}, {0x2936, noPictograph}, {0x2b05, pictograph}, {0x2b08, noPictograph},
		{0x2b1b, pictograph}, {0x2b1d, noPictograph}, {0x2b50, pictograph}, {0x2b51, noPictograph},
		{0x2b55, pictograph}, {0x2b56, noPictograph}, {0x3030, pictograph}, {0x3031, noPictograph},
		{0x303d, pictograph}, {0x303e, noPictograph}, {0x3297, pictograph}, {0x3298, noPictograph},
		{0x3299, pictograph}, {0x329a, noPictograph}, {0x1f000, pictograph}, {0x1f100, noPictograph},
		{0x1f10d, pictograph}, {0x1f110, noPictograph}, {0x1f12f, pictograph}, {0x1f130, noPictograph},
		{0x1f16c, pictograph}, {0x1f172, noPictograph}, {0x1f17e, pictograph}, {0x1f180, noPictograph},
		{0x1f18e, pictograph}, {0x1f18f, noPictograph}, {0x1f191, pictograph}, {0x1f19b, noPictograph},
		{0x1f1ad, pictograph}, {0x1f1e6, noPictograph}, {0x1f201, pictograph}, {0x1f210, noPictograph},
		{0x1f21a, pictograph}, {0x1f21b, noPictograph}, {0x1f22f, pictograph}, {0x1f230, noPictograph},
		{0x1f232, pictograph}, {0x1f23b, noPictograph}, {0x1f23c, pictograph}, {0x1f240, noPictograph},
		{0x1f249, pictograph}, {0x1f3fb, noPictograph}, {0x1f400, pictograph}, {0x1f53e, noPictograph},
		{0x1f546, pictograph}, {0x1f650, noPictograph}, {0x1f680, pictograph}, {0x1f700, noPictograph},
		{0x1f774, pictograph}, {0x1f780, noPictograph}, {0x1f7d5, pictograph}, {0x1f800, noPictograph},
		{0x1f80c, pictograph}, {0x1f810, noPictograph}, {0x1f848, pictograph}, {0x1f850, noPictograph},
		{0x1f85a, pictograph}, {0x1f860, noPictograph}, {0x1f888, pictograph}, {0x1f890, noPictograph},
		{0x1f8ae, pictograph}, {0x1f900, noPictograph}, {0x1f90c, pictograph}, {0x1f93b, noPictograph},
		{0x1f93c, pictograph}, {0x1f946, noPictograph}, {0x1f947, pictograph}, {0x1fb00, noPictograph},
		{0x1fc00, pictograph}, {0x1fffe, noPictograph},
	}
}
