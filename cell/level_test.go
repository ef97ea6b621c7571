package cell

import (
	"testing"

	"parquetry/api"
	"parquetry/runes"
)

// P20.1: levels told by hand, by each Dir, and by what a sheet's direction is.
func TestLevel(t *testing.T) {
	for _, x := range []struct {
		text string
		own  int
	}{
		{"", 0}, {"a", 0}, {"א", 1}, {"ا", 1}, {"1", 0}, {" !", 0}, {"1 א", 1}, {"١א", 1}, {"١", 0}, {"! a א", 0}, {"! א a", 1},
		// What stands in an isolate is no letter of the text's own; in one that isn't closed all is up to the end.
		{"\u2067א\u2069a", 0}, {"\u2066a\u2069א", 1}, {"\u2068א\u2069", 0}, {"\u2067אa", 0}, {"\u2066\u2067א\u2069a\u2069ב", 1}, {"\u2069א", 1}, {"\u2066\u2069א", 1}, {"\u2069\u2067a\u2069א", 1},
		// Embeddings and overrides say nothing.
		{"\u202ea", 0}, {"\u202aא", 1}, {"\u202b", 0}, {"\u202d\u202c", 0},
		// A break isn't a letter; letters behind it are looked at as any others.
		{"\nא", 1}, {"1\r\nא\n", 1}, {"\u2029a", 0}, {"\u2067\n\u2069א", 1}, {"\u2067\nא", 0},
		// A byte that is none's is a neutral sign.
		{"\xff", 0}, {"\xffא", 1}, {"\xd7א", 1}, {"\xd7", 0},
	} {
		l := runes.Split(x.text)
		for _, right := range numbers {
			for _, dir := range numbers {
				want := 0
				switch {
				case dir == api.DirText:
					want = x.own
				case dir == api.DirRight, dir != api.DirLeft && right%2 != 0:
					want = 1
				}
				if got := Level(l, dir, right); got != want {
					t.Errorf("%q, dir %d, right %d: %d", x.text, dir, right, got)
				}
			}
		}
	}
}

// P20.1: codes of any number are letters from left to right; places say nothing.
func TestLevelOfNumbers(t *testing.T) {
	for _, n := range numbers {
		if n >= 0 && n <= 0x10ffff {
			continue
		}
		for own, code := range []int{'a', 0x5d0} {
			if got := Level([]api.Rune{{At: n, Size: n, Code: n}, {Code: 0x5d0}}, api.DirText, 1); got != 0 {
				t.Errorf("%d ahead of another: %d", n, got)
			}
			if got := Level([]api.Rune{{At: n, Size: n, Code: code}, {Code: n}}, api.DirText, 1-own); got != own {
				t.Errorf("%d behind %x: %d", n, code, got)
			}
		}
	}
}

// P20.1: all small texts.
func TestSmallLevels(t *testing.T) {
	eachText(5, []string{"a", "א", "1", "\n", "\u2067", "\u2069", "\u202e"}, func(text string) {
		l := runes.Split(text)
		for _, dir := range []int{-1, 0, 1, 2, 3, 4} {
			for right := range 2 {
				if got, want := Level(l, dir, right), docLevel(l, dir, right); got != want {
					t.Errorf("%q, dir %d, right %d: %d, not %d", text, dir, right, got, want)
				}
			}
		}
	})
}
