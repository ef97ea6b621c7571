// Package runes reads texts, which are any bytes, code point by code point, and puts texts together out of code points.
package runes

import (
	"strings"
	"unicode/utf8"

	"parquetry/api"
)

// substitute is what an odd byte counts as, and what a number that is no code point is written as.
const substitute = utf8.RuneError

// Split answers the runes of a text, in order.
func Split(s string) []api.Rune {
	var l []api.Rune
	for at, code := range s {
		l = append(l, api.Rune{At: at, Size: size(s, at, code), Code: int(code)})
	}
	return l
}

// Text answers the bytes of these code points, one behind the other.
func Text(codes ...int) string {
	var b []byte
	for _, code := range codes {
		b = utf8.AppendRune(b, point(code))
	}
	return string(b)
}

// Place answers how many runes stand ahead of the one that begins at that byte, and whether one begins there.
func Place(s string, at int) (int, bool) {
	ahead := 0
	for begin := range s {
		if begin == at {
			return ahead, true
		}
		ahead++
	}
	return 0, false
}

// Valid answers whether a text has no odd byte.
func Valid(s string) bool {
	for at, code := range s {
		if odd(s, at, code) {
			return false
		}
	}
	return true
}

func size(s string, at int, code rune) int {
	if odd(s, at, code) {
		return 1
	}
	return utf8.RuneLen(code)
}

// A range over a string gives the substitute for an odd byte, and also where the substitute's own bytes stand whole: just the bytes tell these apart.
func odd(s string, at int, code rune) bool {
	return code == substitute && !strings.HasPrefix(s[at:], string(substitute))
}

// The number is compared ahead of the conversion, for a rune has fewer bits than an int, and without the upper ones another code point could come of it.
func point(code int) rune {
	if code < 0 || code > utf8.MaxRune || !utf8.ValidRune(rune(code)) {
		return substitute
	}
	return rune(code)
}
