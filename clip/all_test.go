package clip

import (
	"math"
	"slices"
	"testing"

	"parquetry/api"
)

// parts answers lines of so many clusters each, one behind the other.
func parts(sizes ...int) []api.Line {
	var lines []api.Line
	from := 0
	for _, n := range sizes {
		lines = append(lines, api.Line{From: from, To: from + n, Show: from + n})
		from += n
	}
	if len(lines) > 0 {
		lines[len(lines)-1].Hard = 1
	}
	return lines
}

// P18.3: lines told by hand, by Show and Dots of each.
func TestAll(t *testing.T) {
	type shown [2]int
	for _, x := range []struct {
		text  string
		sizes []int
		w, h  int
		want  []shown
	}{
		// The chapter's.
		{"abcdefgh", []int{6, 2}, 9, 1, []shown{{6, 1}}},
		// No lines, one.
		{"", nil, 5, 3, nil}, {"abc", nil, 5, 0, nil}, {"abc", nil, -1, -1, nil}, {"", []int{0}, 5, 1, []shown{{0, 0}}}, {"", []int{0}, 5, 0, nil}, {"", []int{0}, 0, 1, []shown{{0, 0}}}, {"abc", []int{3}, 3, 1, []shown{{3, 0}}}, {"abc", []int{3}, 2, 1, []shown{{1, 1}}}, {"abc", []int{3}, 3, 9, []shown{{3, 0}}}, {"abc", []int{3}, 3, 0, nil},
		// h below 0, 0, 1, as many as there are, one less, more.
		{"abcdef", []int{2, 2, 2}, 2, math.MinInt, nil}, {"abcdef", []int{2, 2, 2}, 2, -1, nil}, {"abcdef", []int{2, 2, 2}, 2, 0, nil}, {"abcdef", []int{2, 2, 2}, 2, 1, []shown{{1, 1}}}, {"abcdef", []int{2, 2, 2}, 2, 2, []shown{{2, 0}, {3, 1}}}, {"abcdef", []int{2, 2, 2}, 2, 3, []shown{{2, 0}, {4, 0}, {6, 0}}}, {"abcdef", []int{2, 2, 2}, 2, 4, []shown{{2, 0}, {4, 0}, {6, 0}}}, {"abcdef", []int{2, 2, 2}, 2, math.MaxInt, []shown{{2, 0}, {4, 0}, {6, 0}}},
		// Those ahead of the last one are clipped, not cut.
		{"abcdef", []int{3, 1, 2}, 2, 3, []shown{{1, 1}, {4, 0}, {6, 0}}}, {"abcdef", []int{3, 1, 2}, 2, 2, []shown{{1, 1}, {4, 1}}}, {"abcdef", []int{3, 1, 2}, 2, 1, []shown{{1, 1}}}, {"abcdef", []int{3, 1, 2}, 4, 1, []shown{{3, 1}}}, {"abcdef", []int{1, 1, 4}, 2, 3, []shown{{1, 0}, {2, 0}, {3, 1}}}, {"abcdef", []int{1, 1, 4}, 1, 2, []shown{{1, 0}, {1, 1}}},
		// Lines without anything are cut, too.
		{"ab", []int{0, 0, 2}, 3, 2, []shown{{0, 0}, {0, 1}}}, {"ab", []int{2, 0}, 3, 1, []shown{{2, 1}}}, {"ab", []int{0, 2}, 0, 2, []shown{{0, 0}, {0, 1}}}, {"ab", []int{0, 2}, -1, 2, []shown{{0, 1}, {0, 1}}}, {"", []int{0, 0}, 0, 1, []shown{{0, 1}}},
	} {
		lines := parts(x.sizes...)
		var want []api.Line
		for at, own := range x.want {
			one := lines[at]
			one.Show, one.Dots = own[0], own[1]
			want = append(want, one)
		}
		isAll(t, of(x.text), lines, x.w, x.h, want, api.OK)
		for at := range lines {
			lines[at].Dots = 1
		}
		isAll(t, of(x.text), lines, x.w, x.h, want, api.OK)
	}
}

// P18.3: a line that may not be is an error wherever it stands, also behind the first h.
func TestAllWrong(t *testing.T) {
	l := of("ab2c")
	for _, one := range wrong {
		for at := range 4 {
			lines := slices.Insert(parts(1, 2, 1), at, one)
			for h := -1; h <= 5; h++ {
				for _, w := range []int{-1, 0, 3} {
					isAll(t, l, lines, w, h, nil, api.ErrArg)
				}
			}
			isAll(t, l, append(lines, one), 3, 2, nil, api.ErrArg)
		}
		for _, h := range numbers {
			isAll(t, l, []api.Line{one}, 3, h, nil, api.ErrArg)
		}
	}
	isAll(t, nil, []api.Line{{}, {To: 1}}, 3, 1, nil, api.ErrArg)
	isAll(t, nil, []api.Line{{}, {}}, 3, 1, []api.Line{{Dots: 1}}, api.OK)
}

// P18.3: lines need not follow one another.
func TestAllAnyLines(t *testing.T) {
	l := of("ab2cd")
	some := []api.Line{{}, {To: 5, Show: 5, Hard: 1}, {From: 3, To: 4, Show: 4}, {From: 1, To: 5, Show: 3, Hard: 1, Dots: 1}, {From: 5, To: 5, Show: 5}, {From: -1}, {To: 6}, {From: 2, Show: 1, To: 3}}
	var lines []api.Line
	var grow func(most int)
	grow = func(most int) {
		for w := -1; w <= 7; w++ {
			for h := -1; h <= len(lines)+1; h++ {
				want, err := docAll(l, lines, w, h)
				isAll(t, l, lines, w, h, want, err)
			}
		}
		if len(lines) == most {
			return
		}
		for _, one := range some {
			lines = append(lines, one)
			grow(most)
			lines = lines[:len(lines)-1]
		}
	}
	grow(4)
}

// P18.3: all small rows, parted at two places.
func TestAllSmall(t *testing.T) {
	eachText(5, "a025", func(text string) {
		l := of(text)
		for a := range len(l) + 1 {
			for b := a; b <= len(l); b++ {
				lines := parts(a, b-a, len(l)-b)
				for w := -1; w <= 4; w++ {
					for h := 0; h <= 3; h++ {
						want, err := docAll(l, lines, w, h)
						isAll(t, l, lines, w, h, want, err)
					}
				}
			}
		}
	})
}

// P18.6 and P18.7: what All answers fits, as much of it as may be; clipped again it is the same, where it has no dots.
func TestAllFits(t *testing.T) {
	eachText(5, "a02", func(text string) {
		l := of(text)
		for a := range len(l) + 1 {
			lines := parts(a, len(l)-a)
			for w := 1; w <= 5; w++ {
				for h := range 3 {
					made, _ := All(l, lines, w, h)
					for at, one := range made {
						if Wide(l, one) > w {
							t.Errorf("%v of %q to %d: %v", lines, text, w, one)
						}
						if one.Dots == 0 {
							isOne(t, Clip, l, one, w, one, api.OK)
						} else if more := one; more.Show < lines[at].Show {
							if more.Show++; Wide(l, more) <= w {
								t.Errorf("%v of %q to %d: %v", lines, text, w, one)
							}
						}
					}
				}
			}
		}
	})
}

// P18.3: many lines.
func TestAllMany(t *testing.T) {
	const n = 1 << 18
	sizes := slices.Repeat([]int{1}, n)
	l := wide(slices.Repeat([]int{2}, n)...)
	for _, h := range []int{n - 1, n, n + 1} {
		made, err := All(l, parts(sizes...), 2, h)
		if len(made) != min(h, n) || err != api.OK || made[len(made)-1].Dots != max(0, n-h) || made[0].Dots != 0 {
			t.Errorf("%d: %d, %d", h, len(made), err)
		}
	}
}
