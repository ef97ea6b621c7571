package cell

import (
	"slices"
	"testing"

	"parquetry/api"
	"parquetry/cluster"
	"parquetry/runes"
)

// P20.4: where all fits, each cluster of the text that takes a slot stands there once, and no dots do.
func TestAllIsThere(t *testing.T) {
	all := 0
	for _, text := range samples {
		l := runes.Split(text)
		widest, most := 1, max(1, len(docParagraphs(l)))
		for _, own := range docParagraphs(l) {
			widest = max(widest, cluster.Wide(cluster.Of(own)...))
		}
		everyStyle(func(style api.Style, right int) {
			for _, w := range []int{widest, widest + 1, widest + 4} {
				for _, h := range []int{most, most + 1} {
					slots, err := Layout(text, style, right, w, h)
					if err != api.OK || len(slots) != w*h {
						t.Fatalf("%q: %d, %d", text, len(slots), err)
					}
					all += eachOnce(t, text, slots, w)
				}
			}
		})
	}
	if all < 1000 {
		t.Error(all)
	}
}

// eachOnce looks each cluster of a text up in slots, and answers how many there are.
func eachOnce(t *testing.T, text string, slots []api.Slot, w int) int {
	t.Helper()
	n, taken := 0, 0
	for _, c := range cluster.Split(text) {
		at := slices.IndexFunc(slots, func(s api.Slot) bool { return s.Kind == api.SlotText && s.At == c.At })
		if (at < 0) != (c.Wide == 0) {
			t.Errorf("%q: %v in %q", text, c, shows(slots, w))
			continue
		}
		for part := range c.Wide {
			if own := slots[at+part]; own.Kind != api.SlotText || own.At != c.At || own.Part != part || own.Code != slots[at].Code || (at+part)/w != at/w {
				t.Errorf("%q: %v in %q", text, own, shows(slots, w))
			}
		}
		n, taken = n+1, taken+c.Wide
	}
	pads := 0
	for _, s := range slots {
		if s == (api.Slot{Kind: api.SlotPad}) {
			pads++
		}
	}
	if pads+taken != len(slots) {
		t.Errorf("%q: %d and %d in %q", text, pads, taken, shows(slots, w))
	}
	return n
}

// P20.5: with a Dir of its own a text lies in both sheets the same, but that start and end are exchanged.
func TestTurned(t *testing.T) {
	turned := []int{api.AlignStart: api.AlignEnd, api.AlignEnd: api.AlignStart, api.AlignLeft: api.AlignLeft, api.AlignRight: api.AlignRight, api.AlignCentre: api.AlignCentre}
	for _, text := range samples {
		everyStyle(func(style api.Style, right int) {
			if style.Dir == api.DirSheet {
				return
			}
			other := style
			other.Align = turned[style.Align]
			for _, w := range []int{1, 2, 3, 5, 12} {
				for _, h := range []int{1, 2, 5} {
					want, err := Layout(text, other, 1-right, w, h)
					if err != api.OK || len(want) != w*h {
						t.Fatalf("%q: %d, %d", text, len(want), err)
					}
					is(t, text, style, right, w, h, want, api.OK)
				}
			}
		})
	}
}

// P20.6: with one more row the rows ahead of the last one are as they were.
func TestTaller(t *testing.T) {
	for _, text := range samples {
		everyStyle(func(style api.Style, right int) {
			for _, w := range []int{1, 2, 3, 5} {
				ahead, _ := Layout(text, style, right, w, 1)
				for h := 2; h < 10; h++ {
					next, err := Layout(text, style, right, w, h)
					if err != api.OK || len(next) != w*h || len(ahead) != w*(h-1) || !slices.Equal(next[:w*(h-2)], ahead[:w*(h-2)]) {
						t.Fatalf("%q, %+v, right %d: %q, then %q, %d", text, style, right, shows(ahead, w), shows(next, w), err)
					}
					ahead = next
				}
			}
		})
	}
}
