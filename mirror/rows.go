package mirror

import "slices"

const (
	neither = iota
	opens
	closes
)

// ends are the first and the last number of a row, both of them its own.
type ends struct{ first, last int }

// A row has every number from its first one to its last one that is reached by steps so wide: in turns one that opens, and the one that closes it.
// With steps of 1 that is each number between the ends; a pair that stands alone is one step wide, and what lies between its two is not in the row.
type row struct {
	ends
	step int
}

func (r row) has(code int) bool {
	return r.first <= code && code <= r.last && (code-r.first)%r.step == 0
}

// pair answers the kind and the counterpart of a number that the row has.
func (r row) pair(code int) (kind, other int) {
	if (code-r.first)/r.step%2 == 0 {
		return opens, code + r.step
	}
	return closes, code - r.step
}

func pairIn(rows []row, code int) (kind, other int) {
	// One by one, since pairs that stand alone lie across each other: no order of theirs serves a search by halves.
	at := slices.IndexFunc(rows, func(r row) bool { return r.has(code) })
	if at < 0 {
		return neither, 0
	}
	return rows[at].pair(code)
}

func brackets() [26]row {
	return [...]row{
		{ends{0x28, 0x29}, 1}, {ends{0xf3a, 0xf3d}, 1}, {ends{0x169b, 0x169c}, 1}, {ends{0x2045, 0x2046}, 1},
		{ends{0x207d, 0x207e}, 1}, {ends{0x208d, 0x208e}, 1}, {ends{0x2308, 0x230b}, 1}, {ends{0x2329, 0x232a}, 1},
		{ends{0x2768, 0x2775}, 1}, {ends{0x27c5, 0x27c6}, 1}, {ends{0x27e6, 0x27ef}, 1}, {ends{0x2983, 0x298c}, 1},
		{ends{0x2991, 0x2998}, 1}, {ends{0x29d8, 0x29db}, 1}, {ends{0x29fc, 0x29fd}, 1}, {ends{0x2e22, 0x2e29}, 1},
		{ends{0x3008, 0x3011}, 1}, {ends{0x3014, 0x301b}, 1}, {ends{0xfe59, 0xfe5e}, 1}, {ends{0xff08, 0xff09}, 1},
		{ends{0xff5f, 0xff60}, 1}, {ends{0xff62, 0xff63}, 1},
		{ends{0x5b, 0x5d}, 2}, {ends{0x7b, 0x7d}, 2}, {ends{0xff3b, 0xff3d}, 2}, {ends{0xff5b, 0xff5d}, 2},
	}
}

// signs answers the rows of the mirrored signs that are no brackets.
func signs() [16]row {
	return [...]row{
		{ends{0x2264, 0x226b}, 1}, {ends{0x226e, 0x2281}, 1}, {ends{0x2282, 0x2289}, 1}, {ends{0x228f, 0x2292}, 1},
		{ends{0x22b2, 0x22b5}, 1}, {ends{0x22d6, 0x22df}, 1}, {ends{0x22e0, 0x22ed}, 1},
		{ends{0x3c, 0x3e}, 2}, {ends{0xab, 0xbb}, 0x10}, {ends{0x2039, 0x203a}, 1},
		{ends{0x2208, 0x220b}, 3}, {ends{0x2209, 0x220c}, 3}, {ends{0x220a, 0x220d}, 3},
		{ends{0x223c, 0x223d}, 1}, {ends{0x22a2, 0x22a3}, 1}, {ends{0x22d0, 0x22d1}, 1},
	}
}
