package wrap

import (
	"slices"
	"testing"

	"parquetry/api"
)

// calls are all functions that clusters are handed to, each of which answers numbers.
var calls = []func(l []api.Cluster) []api.Line{
	func(l []api.Cluster) []api.Line { return []api.Line{{Show: Shown(l)}} },
	func(l []api.Cluster) []api.Line { return []api.Line{{Show: Fits(l, 0, 2)}} },
	func(l []api.Cluster) []api.Line { return []api.Line{{Show: Fits(l, 1, 100)}} },
	func(l []api.Cluster) []api.Line { return Lines(l, 1, 1) },
	func(l []api.Cluster) []api.Line { return Lines(l, 3, 1) },
	func(l []api.Cluster) []api.Line { return Lines(l, 100, 1) },
	func(l []api.Cluster) []api.Line { return Lines(l, 3, 0) },
}

// P17.4: nothing of what is handed in changes, nor does what lies behind its end, and that is not looked at either.
func TestStays(t *testing.T) {
	look := func(text string) {
		for _, behind := range []string{"__|a", "|_", "b0"} {
			l := of(text + behind)
			kept := slices.Clone(l)
			for n, call := range calls {
				if got, want := call(l[:len(text)]), call(of(text)); !slices.Equal(got, want) {
					t.Errorf("call %d of %q: %v, not %v", n, text, got, want)
				}
				if !slices.Equal(l, kept) {
					t.Fatalf("call %d of %q: %v has become %v", n, text, kept, l)
				}
			}
		}
	}
	eachText(3, "a_|0123456", look)
	eachText(6, "a_|", look)
}

// P17.4: what is answered stays when what was handed in changes, and the other way round; nothing is kept for the next call.
func TestNewMemory(t *testing.T) {
	look := func(text string) {
		for n, call := range calls {
			l := of(text + "_|")
			kept := slices.Clone(l)
			answer := call(l[:len(text)])
			want := slices.Clone(answer)
			spoil(call(l[:len(text)]), api.Line{From: -77, To: -77, Show: -77, Hard: -77, Dots: -77})
			if !slices.Equal(answer, want) || !slices.Equal(l, kept) {
				t.Errorf("call %d of %q: %v has become %v", n, text, want, answer)
			}
			if next := call(l[:len(text)]); !slices.Equal(next, want) {
				t.Errorf("call %d of %q: %v, and then %v", n, text, want, next)
			}
			spoil(l, api.Cluster{At: -77, Wide: 77, Code: ' '})
			if !slices.Equal(answer, want) {
				t.Errorf("call %d of %q: %v has become %v", n, text, want, answer)
			}
		}
	}
	eachText(3, "a_|0123456", look)
	eachText(6, "a_|", look)
}

// spoil writes into all that a list holds, also behind its end.
func spoil[T any](l []T, item T) {
	l = l[:cap(l)]
	for at := range l {
		l[at] = item
	}
}
