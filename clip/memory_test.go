package clip

import (
	"slices"
	"testing"

	"parquetry/api"
)

// calls are all functions that clusters and lines are handed to, each of which answers lines; those of one line are called with each.
var calls = []func(l []api.Cluster, lines []api.Line) []api.Line{
	each(func(l []api.Cluster, line api.Line) api.Line {
		if May(l, line) {
			return api.Line{Show: 1}
		}
		return api.Line{}
	}),
	each(func(l []api.Cluster, line api.Line) api.Line { return api.Line{Show: Wide(l, line)} }),
	each(func(l []api.Cluster, line api.Line) api.Line { return first(Clip(l, line, 2)) }),
	each(func(l []api.Cluster, line api.Line) api.Line { return first(Cut(l, line, 2)) }),
	func(l []api.Cluster, lines []api.Line) []api.Line { return first(All(l, lines, 2, 2)) },
	func(l []api.Cluster, lines []api.Line) []api.Line { return first(All(l, lines, 1, 9)) },
	func(l []api.Cluster, lines []api.Line) []api.Line { return first(All(l, lines, 9, 9)) },
	func(l []api.Cluster, lines []api.Line) []api.Line { return first(All(l, lines, 9, 1)) },
	func(l []api.Cluster, lines []api.Line) []api.Line { return first(All(l, lines, 9, 0)) },
}

// each calls something with each line.
func each(call func(l []api.Cluster, line api.Line) api.Line) func(l []api.Cluster, lines []api.Line) []api.Line {
	return func(l []api.Cluster, lines []api.Line) []api.Line {
		var answers []api.Line
		for _, one := range lines {
			answers = append(answers, call(l, one))
		}
		return answers
	}
}

// first answers the first one of two.
func first[T any](one T, _ api.Errno) T {
	return one
}

// spoil writes into all that a list holds, also behind its end.
func spoil[T any](l []T, item T) {
	l = l[:cap(l)]
	for at := range l {
		l[at] = item
	}
}

var (
	noLine    = api.Line{From: -77, To: -77, Show: -77, Hard: -77, Dots: -77}
	noCluster = api.Cluster{At: -77, Size: -77, From: -77, To: -77, Wide: 77, Code: -77}
)

// someRows calls look with small rows of clusters and lines of them, behind which others lie.
func someRows(look func(text string, lines []api.Line)) {
	eachText(4, "a025", func(text string) {
		for a := range len(text) + 1 {
			lines := parts(a, len(text)-a)
			look(text, lines)
			look(text, lines[:1])
			look(text, nil)
			look(text, append(lines, api.Line{Show: len(text) + 1, To: len(text) + 1}))
		}
	})
}

// P18.5: nothing of what is handed in changes, nor does what lies behind its end, and that is not looked at either.
func TestStays(t *testing.T) {
	someRows(func(text string, lines []api.Line) {
		for _, behind := range []string{"ab", "02", "77"} {
			l := of(text + behind)
			more := append(slices.Clone(lines), noLine, api.Line{})
			kept, keptLines := slices.Clone(l), slices.Clone(more)
			for n, call := range calls {
				if got, want := call(l[:len(text)], more[:len(lines)]), call(of(text), slices.Clone(lines)); !slices.Equal(got, want) {
					t.Errorf("call %d of %q, %v: %v, not %v", n, text, lines, got, want)
				}
				if !slices.Equal(l, kept) || !slices.Equal(more, keptLines) {
					t.Fatalf("call %d of %q, %v: %v and %v have become %v and %v", n, text, lines, kept, keptLines, l, more)
				}
			}
		}
	})
}

// P18.5: what is answered stays when what was handed in changes, and the other way round; nothing is kept for the next call.
func TestNewMemory(t *testing.T) {
	someRows(func(text string, own []api.Line) {
		for n, call := range calls {
			l, lines := of(text+"ab"), append(slices.Clone(own), noLine, api.Line{})
			kept, keptLines := slices.Clone(l), slices.Clone(lines)
			answer := call(l[:len(text)], lines[:len(own)])
			want := slices.Clone(answer)
			spoil(call(l[:len(text)], lines[:len(own)]), noLine)
			if !slices.Equal(answer, want) || !slices.Equal(l, kept) || !slices.Equal(lines, keptLines) {
				t.Errorf("call %d of %q: %v has become %v", n, text, want, answer)
			}
			if next := call(l[:len(text)], lines[:len(own)]); !slices.Equal(next, want) {
				t.Errorf("call %d of %q: %v, and then %v", n, text, want, next)
			}
			spoil(l, noCluster)
			spoil(lines, noLine)
			if !slices.Equal(answer, want) {
				t.Errorf("call %d of %q: %v has become %v", n, text, want, answer)
			}
		}
	})
}
