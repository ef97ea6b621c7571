package wrap

import (
	"math"
	"slices"
	"strings"
	"testing"

	"parquetry/api"
	"parquetry/cluster"
)

// told tells lines by what is shown of them, a stroke behind each; and, where a line is not Hard, or goes on behind what is shown, by how much it goes on, in stars.
func told(text string, l []api.Cluster, lines []api.Line) string {
	var all strings.Builder
	for _, one := range lines {
		for _, c := range l[one.From:one.Show] {
			all.WriteString(text[c.At : c.At+c.Size])
		}
		all.WriteString(strings.Repeat("*", one.To-one.Show))
		if one.Hard == 1 {
			all.WriteByte('.')
		} else {
			all.WriteByte('/')
		}
	}
	return all.String()
}

// P17.3: the chapter's examples, and others, told by hand.
func TestLines(t *testing.T) {
	for _, x := range []struct {
		text string
		w    int
		want string
	}{
		// The chapter's.
		{"ab_cd", 5, "ab_cd."}, {"ab_cde_f", 5, "ab*/cde_f."}, {"abcdefg_h", 5, "abcde/fg_h."}, {"abcde___f", 5, "abcde***/f."}, {"abcde___", 5, "abcde***."}, {"__abcd", 5, "__abc/d."}, {"", 5, "."}, {"|", 5, "*."},
		// One cluster.
		{"a", 5, "a."}, {"a", 1, "a."}, {"a", 0, "a."}, {"_", 5, "_."}, {"_", 1, "_."}, {"0", 1, "0."}, {"5", 1, "5."}, {"2", 2, "2."}, {"2", 1, "2."}, {"3", 1, "3."}, {"4", 1, "*."},
		// w below 1 counts as 1.
		{"ab", 1, "a/b."}, {"ab", 0, "a/b."}, {"ab", -1, "a/b."}, {"ab", math.MinInt, "a/b."}, {"a_b_c", 0, "a*/b*/c."}, {"a0b", -9, "a0/b."},
		// Blanks at the place that does not fit, side by side, ahead of it.
		{"abc_d", 3, "abc*/d."}, {"abc_d", 4, "abc*/d."}, {"abc_d", 5, "abc_d."}, {"abc__d", 3, "abc**/d."}, {"abc__d", 4, "abc**/d."}, {"abc__d", 5, "abc**/d."}, {"a_bc_d", 4, "a_bc*/d."}, {"a_b_c_d", 4, "a_b*/c_d."}, {"a_b_c_d", 3, "a_b*/c_d."}, {"a__b__cd", 5, "a__b**/cd."}, {"a____________b", 3, "a************/b."},
		// Blanks at a line's beginning.
		{"_a", 1, "_/a."}, {"__a", 1, "_/_/a."}, {"__a", 2, "__/a."}, {"_abc_d", 3, "_ab/c_d."}, {"_ab_cd", 3, "_ab*/cd."}, {"_ab__cd", 4, "_ab**/cd."}, {"____a_b", 3, "___/_a*/b."}, {"_____", 2, "__/__/_."}, {"_", 3, "_."}, {"______", 3, "___/___."},
		// At the end.
		{"ab_", 3, "ab_."}, {"ab_", 2, "ab*."}, {"ab__", 3, "ab**."}, {"ab_c_", 4, "ab_c*."}, {"ab_cd_", 4, "ab*/cd_."}, {"abc_", 2, "ab/c_."}, {"abc__", 2, "ab/c**."}, {"_a_", 2, "_a*."},
		// None at all.
		{"abcdef", 3, "abc/def."}, {"abcdefg", 3, "abc/def/g."}, {"abc", 3, "abc."}, {"abcd", 3, "abc/d."},
		// Words that are too long, behind others.
		{"a_bcdef_g", 3, "a*/bcd/ef*/g."}, {"ab_cdefgh", 3, "ab*/cde/fgh."}, {"abc_defghi", 3, "abc*/def/ghi."}, {"abcd_e_f", 3, "abc/d_e*/f."},
		// A break at the end, also behind blanks, and in the midst.
		{"ab_cd|", 5, "ab_cd*."}, {"ab_cd4", 5, "ab_cd*."}, {"abcdef|", 5, "abcde/f*."}, {"abcde|", 5, "abcde*."}, {"abcde__|", 5, "abcde***."}, {"abcde_4", 5, "abcde**."}, {"_|", 1, "_*."}, {"||", 1, "|*."}, {"a|b", 1, "a|/b."}, {"a4b", 1, "a/4/b."}, {"a4b", 2, "a4/b."}, {"a_|_b", 2, "a_|*/b."}, {"a_4_b", 2, "a*/4*/b."}, {"ab_|", 2, "ab**."}, {"ab_||", 2, "ab*/|*."}, {"ab||", 2, "ab|*."},
		// Clusters of two slots, of none, and below none.
		{"222", 3, "2/2/2."}, {"222", 4, "22/2."}, {"222", 1, "2/2/2."}, {"2a2", 3, "2a/2."}, {"a2", 1, "a/2."}, {"a2b", 2, "a/2/b."}, {"02", 1, "0/2."}, {"002_a", 1, "00/2/_/a."}, {"2_a", 1, "2/_/a."}, {"2_a", 2, "2*/a."}, {"a0000b", 1, "a0000/b."}, {"a5b5", 1, "a5/b5."}, {"a10b", 1, "a*/0b."}, {"a1b", 1, "a*/b."}, {"a1b", 2, "a1b."}, {"ab11", 1, "a/b11."}, {"a66bc", 2, "a**/bc."},
		{"33", 1, "3/3."}, {"a3b", 2, "a*/b."}, {"3a", 1, "3/a."}, {"_3a", 2, "_/3/a."}, {"3_3", 3, "3_/3."}, {"13a", 1, "1/3/a."}, {"1_a", 1, "1_/a."},
	} {
		l := of(x.text)
		if got := told(x.text, l, Lines(l, x.w, 1)); got != x.want {
			t.Errorf("%q in %d: %s, not %s", x.text, x.w, got, x.want)
		}
		if got, want := Lines(l, x.w, 1), docLines(l, x.w, 1); !slices.Equal(got, want) {
			t.Errorf("%q in %d: %v, not %v", x.text, x.w, got, want)
		}
	}
}

// P17.3: the places, told by hand.
func TestLinesPlaces(t *testing.T) {
	isLines(t, of("ab_cde_f"), 5, 1, []api.Line{{From: 0, To: 3, Show: 2}, {From: 3, To: 8, Show: 8, Hard: 1}})
	isLines(t, of("abcdefg_h"), 5, 1, []api.Line{{From: 0, To: 5, Show: 5}, {From: 5, To: 9, Show: 9, Hard: 1}})
	isLines(t, of("abcde___"), 5, 1, []api.Line{{From: 0, To: 8, Show: 5, Hard: 1}})
	isLines(t, of("abcde___|"), 5, 1, []api.Line{{From: 0, To: 9, Show: 5, Hard: 1}})
	isLines(t, of("abcde___|"), 5, 0, []api.Line{{From: 0, To: 9, Show: 8, Hard: 1}})
	isLines(t, of("abcdef|"), 5, 1, []api.Line{{From: 0, To: 5, Show: 5}, {From: 5, To: 7, Show: 6, Hard: 1}})
	isLines(t, nil, 5, 1, []api.Line{{Hard: 1}})
	isLines(t, []api.Cluster{}, 5, 0, []api.Line{{Hard: 1}})
	isLines(t, of("|"), 5, 1, []api.Line{{To: 1, Hard: 1}})
	isLines(t, of("|"), 5, 0, []api.Line{{To: 1, Hard: 1}})
}

// P17.3: clusters of real texts.
func TestLinesOfTexts(t *testing.T) {
	for _, x := range []struct {
		text string
		w    int
		want string
	}{
		{"ab\r\n", 5, "ab*."}, {"ab cd\u2029", 2, "ab*/cd*."}, {"\u4e00\u4e01\u4e02", 3, "\u4e00/\u4e01/\u4e02."}, {"\u4e00", 1, "\u4e00."}, {"ae\u0301x", 2, "ae\u0301/x."}, {"a\u00a0b", 2, "a\u00a0/b."}, {"a\u3000b", 2, "a/\u3000/b."}, {"a \u0301b", 1, "a*/b."}, {"\u05d0\u05d1 \u05d2", 2, "\u05d0\u05d1*/\u05d2."}, {"a\tb", 1, "a\t/b."}, {"\U0001F1E6\U0001F1E6b", 2, "\U0001F1E6\U0001F1E6/b."}, {"a\xffb", 2, "a\xff/b."}, {"\r\n", 1, "*."}, {"a\u2028b", 1, "a\u2028/b."},
	} {
		l := cluster.Split(x.text)
		if got := told(x.text, l, Lines(l, x.w, 1)); got != x.want {
			t.Errorf("%q in %d: %q, not %q", x.text, x.w, got, x.want)
		}
	}
}

// P17.3: it is wrapped, unless wrap is 0.
func TestLinesWrap(t *testing.T) {
	for _, text := range []string{"", "|", "a", "ab_cde_f", "abcdefg_h|", "abcde___|", "a|b|", "____", "22222"} {
		l := of(text)
		whole := []api.Line{{To: len(l), Show: Shown(l), Hard: 1}}
		for _, w := range widths {
			isLines(t, l, w, 0, whole)
			want := docLines(l, w, 1)
			for _, wrap := range widths {
				if wrap != 0 {
					isLines(t, l, w, wrap, want)
				}
			}
		}
	}
}

// P17.3: all small rows.
func TestLinesSmall(t *testing.T) {
	someTexts(func(text string) {
		l := of(text)
		for w := -1; w <= min(len(l)+2, 7); w++ {
			isLines(t, l, w, 1, docLines(l, w, 1))
		}
		isLines(t, l, 2, 0, docLines(l, 2, 0))
	})
}

// P17.3: clusters of any number of slots, in lines of any number.
func TestLinesMuch(t *testing.T) {
	for _, a := range widths {
		for _, b := range widths {
			for _, c := range widths {
				l := wide(a, b, c)
				for at := range 4 {
					if at < 3 {
						l[at].Code = ' '
					}
					for _, w := range widths {
						isLines(t, l, w, 1, docLines(l, w, 1))
					}
					if at < 3 {
						l[at].Code = 'a'
					}
				}
			}
		}
	}
}

// P17.3: what no line hangs on may be of any number.
func TestLinesOtherNumbers(t *testing.T) {
	l := of("ab_cde_fgh__i|")
	want := Lines(l, 5, 1)
	for _, n := range widths {
		for at := range l {
			l[at].At, l[at].Size, l[at].From, l[at].To = n, n, n, n
		}
		isLines(t, l, 5, 1, want)
	}
	for at, code := range noCodes {
		l := of("ab_cd_e")
		l[at%2*3].Code = code
		isLines(t, l, 3, 1, []api.Line{{To: 3, Show: 2}, {From: 3, To: 6, Show: 5}, {From: 6, To: 7, Show: 7, Hard: 1}})
	}
}

// someLines calls look with the lines of many small rows.
func someLines(look func(text string, l []api.Cluster, w int, lines []api.Line)) {
	someTexts(func(text string) {
		l := of(text)
		for w := -1; w <= 5; w++ {
			look(text, l, w, Lines(l, w, 1))
		}
		look(text, l, 2, Lines(l, 2, 0))
	})
}

// P17.5: lines follow one another; the last one is Hard; what is not shown are blanks, or the break.
func TestAll(t *testing.T) {
	someLines(func(text string, l []api.Cluster, w int, lines []api.Line) {
		end := 0
		for at, one := range lines {
			last := at == len(lines)-1
			if one.From != end || one.Show < one.From || one.To < one.Show || one.Dots != 0 || one.Hard != 0 && one.Hard != 1 || (one.Hard == 1) != last || one.To == one.From && len(l) > 0 {
				t.Errorf("%q in %d: %v", text, w, lines)
				return
			}
			end = one.To
			for i := one.Show; i < one.To; i++ {
				if l[i].Code != ' ' && (i != len(l)-1 || l[i].Code != '\n' && l[i].Code != 0x2029) {
					t.Errorf("%q in %d: %v", text, w, lines)
				}
			}
		}
		if end != len(l) || len(lines) == 0 {
			t.Errorf("%q in %d: %v", text, w, lines)
		}
	})
}

// P17.6: a line takes at most w, or is one cluster; with what stands first in the next one it would take more.
func TestAsWide(t *testing.T) {
	someTexts(func(text string) {
		l := of(text)
		for w := 1; w <= 5; w++ {
			lines := Lines(l, w, 1)
			for at, one := range lines {
				if takeMore(l[one.From:one.Show], w) && one.Show != one.From+1 {
					t.Errorf("%q in %d: %v", text, w, lines)
				}
				if at == len(lines)-1 {
					continue
				}
				// The next one's first word, behind blanks that were left out, is one up to a blank; else its first cluster.
				next := one.To + 1
				for one.Show < one.To && next < len(docShown(l)) && l[next].Code != ' ' {
					next++
				}
				if !takeMore(l[one.From:next], w) {
					t.Errorf("%q in %d: %v", text, w, lines)
				}
			}
		}
	})
}

// P17.7: where all fits, there is one line.
func TestWideEnough(t *testing.T) {
	someTexts(func(text string) {
		l := of(text)
		most := 0
		for _, c := range docShown(l) {
			most += max(c.Wide, 0)
		}
		for _, w := range []int{most, most + 1, 1024, math.MaxInt} {
			if w >= most {
				isLines(t, l, w, 1, []api.Line{{To: len(l), Show: len(docShown(l)), Hard: 1}})
			}
		}
		// One less, and not all is shown in one line: blanks behind are left out, or there are more lines.
		if most > 1 {
			if lines := Lines(l, most-1, 1); len(lines) == 1 && lines[0].Show == len(docShown(l)) && len(docShown(l)) > 1 {
				t.Errorf("%q in %d: %v", text, most-1, lines)
			}
		}
	})
}

// P17.3: long rows, which take no longer than one of that length needs.
func TestLinesLong(t *testing.T) {
	const n = 1 << 18
	for _, x := range []struct {
		text string
		w    int
		want int
	}{
		{strings.Repeat("a", n), 1, n}, {strings.Repeat("a", n), n - 1, 2}, {strings.Repeat("_", n), 1, n}, {"a" + strings.Repeat("_", n) + "b", 1, 2}, {strings.Repeat("a_", n), 1, n}, {"a_" + strings.Repeat("b", n), n, 2}, {strings.Repeat("_", n) + "ab", n, 2}, {strings.Repeat("0", n) + "2" + strings.Repeat("0", n), 1, 3}, {strings.Repeat("ab_", n), 4, n}, {strings.Repeat("2", n), 1, n}, {strings.Repeat("a"+strings.Repeat("_", 600), n/600), 400, n / 600},
	} {
		if got := len(Lines(of(x.text), x.w, 1)); got != x.want {
			t.Errorf("%.20q in %d: %d, not %d", x.text, x.w, got, x.want)
		}
	}
}

// Lines are told no further than they are asked for.
func TestToldOneByOne(t *testing.T) {
	l := of("ab_cd_ef_gh")
	p := paragraph{l, len(l)}
	for most := 1; most <= 4; most++ {
		var lines []api.Line
		for one := range p.lines(2) {
			if lines = append(lines, one); len(lines) == most {
				break
			}
		}
		if want := docLines(l, 2, 1)[:most]; !slices.Equal(lines, want) {
			t.Errorf("up to %d: %v", most, lines)
		}
	}
}
