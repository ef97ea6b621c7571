package neutral

import (
	"math"
	"slices"
	"testing"
)

// haveLevels holds the levels of classes against some.
func haveLevels(t *testing.T, types []int, level int, want []int) {
	t.Helper()
	if l := Levels(types, level); !slices.Equal(l, want) {
		t.Errorf("%v of level %d: %v, not %v", types, level, l, want)
	}
}

// heights are levels from the least to the greatest one, the edges of numbers of few bits among them.
func heights() []int {
	l := span(0, 300)
	for bit := 9; bit <= 31; bit++ {
		for step := -3; step <= 2; step++ {
			l = append(l, 1<<bit+step)
		}
	}
	return slices.DeleteFunc(l, func(n int) bool { return n > math.MaxInt32 })
}

// P15.2: the chapter's examples, and some by hand.
func TestLevelsExamples(t *testing.T) {
	types := named(t, "L R EN AN")
	for level, want := range [][]int{{0, 1, 2, 2}, {2, 1, 2, 2}, {2, 3, 4, 4}, {4, 3, 4, 4}, {4, 5, 6, 6}} {
		haveLevels(t, types, level, want)
	}
	haveLevels(t, types, 124, []int{124, 125, 126, 126})
	haveLevels(t, types, 125, []int{126, 125, 126, 126})
	haveLevels(t, named(t, "AN ON R WS L PDI EN"), 0, []int{2, 0, 1, 0, 0, 0, 2})
	haveLevels(t, named(t, "AN ON R WS L PDI EN"), 1, []int{2, 1, 1, 1, 2, 1, 2})
	haveLevels(t, named(t, "L R EN AN ON"), math.MaxInt32, []int{1 << 31, math.MaxInt32, 1 << 31, 1 << 31, math.MaxInt32})
	haveLevels(t, named(t, "L R EN AN ON"), math.MaxInt32-1, []int{math.MaxInt32 - 1, math.MaxInt32, 1 << 31, 1 << 31, math.MaxInt32 - 1})
}

// P15.2: no classes; each class, and each number that is none's, at each level.
func TestLevelsOfEach(t *testing.T) {
	for _, level := range heights() {
		haveLevels(t, nil, level, nil)
		haveLevels(t, []int{}, level, nil)
		haveLevels(t, all(), level, docLevels(all(), level))
		for _, c := range all() {
			haveLevels(t, []int{c}, level, []int{docLevel(c, level)})
		}
		haveLevels(t, weak(), level, times(len(weak()), level))
	}
}

// P15.2: each class has its level by itself, whatever stands beside it.
func TestLevelsBeside(t *testing.T) {
	look := func(types []int) {
		for level := range 4 {
			haveLevels(t, types, level, docLevels(types, level))
		}
	}
	eachRow(2, all(), look)
	eachRow(5, []int{clL, clR, clEN, clAN, clON, 99}, look)
}

// P15.2: long rows.
func TestLevelsLong(t *testing.T) {
	const n = 1 << 20
	haveLevels(t, times(n, clL), 1, times(n, 2))
	haveLevels(t, turns(n, clR, clAN), 0, turns(n, 1, 2))
}

// P15.7: the level of an L, an EN, an AN is even, that of an R odd; none is below the sequence's, or more than two above it.
func TestEvenAndOdd(t *testing.T) {
	for _, level := range heights() {
		types := all()
		l := Levels(types, level)
		if len(l) != len(types) {
			t.Fatalf("level %d: %d levels", level, len(l))
		}
		for at, c := range types {
			if l[at] < level || l[at] > level+2 {
				t.Errorf("%d in a sequence of level %d: %d", c, level, l[at])
			}
			if slices.Contains(strong, c) && isEven(l[at]) == (c == clR) {
				t.Errorf("%d in a sequence of level %d: %d", c, level, l[at])
			}
		}
	}
}

// P15.7: what is settled between L and R has just levels like this.
func TestEvenAndOddSettled(t *testing.T) {
	eachRow(4, []int{clL, clR, clEN, clAN, clON, clAL}, func(types []int) {
		for level := range 3 {
			l := Settle(types, level, clL, clR)
			for at, n := range Levels(l, level) {
				if isEven(n) == (l[at] == clR) || n > level+2 || n < level {
					t.Errorf("%v of level %d: %v has %d", types, level, l, n)
				}
			}
		}
	})
}
