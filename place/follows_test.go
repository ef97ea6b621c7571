package place

import (
	"slices"
	"testing"

	"parquetry/api"
	"parquetry/bidi"
	"parquetry/cluster"
)

// samples are texts of both directions, with what takes no slot, and two, and what is mirrored.
var samples = []string{
	"", "a", "א", "ab", "אב", "a(ב)", "אב 12 cd", "一a二ב三", "e\u0301ב\u05b0\u200bc", "a\tb\u2029", "  א  ", "\u2067a(ב)\u2069 c", "\u202eab一)\u202c.", "👨\u200d👩a\r\n", "<א[b]>", "אבגדהוזח", "abcdefgh", "\u0301\u200b",
}

// someLines calls look with lines of the samples, at the levels that bidi says and at others, where there is as much room as 64 slots are.
func someLines(look func(l []api.Rune, levels []int, line api.Line, para int)) {
	for _, text := range samples {
		l := of(text)
		eachLine(len(cluster.Of(l)), func(line api.Line) {
			for n := range 4 {
				line.Dots = n / 2
				para := n % 2
				look(l, bidi.Resolve(l, para), line, para)
				look(l, slices.Repeat([]int{0, 1, 2, 1}, len(l))[:len(l)], line, para)
				look(l, slices.Repeat([]int{2}, len(l)), line, para)
			}
		})
	}
}

// P19.3: each cluster that is seen has its slots, side by side, and nothing else is text.
func TestEachOnce(t *testing.T) {
	someLines(func(l []api.Rune, levels []int, line api.Line, para int) {
		slots, err := Slots(l, levels, line, para, 64, api.AlignCentre)
		if err != api.OK {
			t.Fatalf("%v: %d", line, err)
		}
		many := 0
		for _, c := range cluster.Of(l)[line.From:line.Show] {
			at := slices.IndexFunc(slots, func(s api.Slot) bool { return s.Kind == api.SlotText && s.At == c.At })
			if (at < 0) != (c.Wide == 0) {
				t.Errorf("%v of %v in %q", c, line, shows(slots))
			}
			for part := range c.Wide {
				if own := slots[at+part]; own.Kind != api.SlotText || own.At != c.At || own.Part != part || own.Code != slots[at].Code {
					t.Errorf("%v of %v in %q: %v", c, line, shows(slots), own)
				}
			}
			many += c.Wide
		}
		if text, dots := count(slots, api.SlotText), count(slots, api.SlotDots); text != many || dots != line.Dots || count(slots, api.SlotPad) != 64-text-dots {
			t.Errorf("%v in %q, not %d", line, shows(slots), many)
		}
	})
}

// count answers how many slots are of a kind.
func count(l []api.Slot, kind int) int {
	n := 0
	for _, s := range l {
		if s.Kind == kind {
			n++
		}
	}
	return n
}

// P19.4: alignment moves the text, and changes nothing of it, whether there is room or not.
func TestAligned(t *testing.T) {
	someLines(func(l []api.Rune, levels []int, line api.Line, para int) {
		for _, w := range []int{1, 2, 5, 33} {
			left, _ := Slots(l, levels, line, para, w, api.AlignLeft)
			right, _ := Slots(l, levels, line, para, w, api.AlignRight)
			centre, _ := Slots(l, levels, line, para, w, api.AlignCentre)
			text := unpadded(left)
			slack := w - len(text)
			if !slices.Equal(left[:len(text)], text) || !slices.Equal(right[slack:], text) || !slices.Equal(centre[slack/2:][:len(text)], text) {
				t.Errorf("%v to %d: %q, %q, %q", line, w, shows(left), shows(right), shows(centre))
			}
			if !slices.Equal(unpadded(right), text) || !slices.Equal(unpadded(centre), text) {
				t.Errorf("%v to %d: %q, %q, %q", line, w, shows(left), shows(right), shows(centre))
			}
		}
	})
}

// unpadded answers slots without the pads.
func unpadded(l []api.Slot) []api.Slot {
	return slices.DeleteFunc(slices.Clone(l), func(s api.Slot) bool { return s == api.Slot{Kind: api.SlotPad} })
}

// P19.5: where all levels are even and alike, clusters stand in the text's order, by their own signs.
func TestLeftToRight(t *testing.T) {
	for _, text := range samples {
		l := of(text)
		clusters := cluster.Of(l)
		for _, own := range []int{0, 2, 4, 126, 128, -2} {
			levels := slices.Repeat([]int{own}, len(l))
			eachLine(len(clusters), func(line api.Line) {
				// What ends a line has the paragraph's level, another one than the others' here.
				if _, seen := docSeen(l, levels, line, 0); own != 0 && slices.Contains(seen, 0) {
					return
				}
				var want []api.Slot
				for _, c := range clusters[line.From:line.Show] {
					for part := range c.Wide {
						want = append(want, api.Slot{Kind: api.SlotText, At: c.At, Part: part, Code: c.Code})
					}
				}
				is(t, l, levels, line, 0, len(want)+1, api.AlignLeft, append(want, api.Slot{Kind: api.SlotPad}), api.OK)
			})
		}
	}
}
