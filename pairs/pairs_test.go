package pairs

import (
	"slices"
	"strings"
	"testing"

	"parquetry/api"
	"parquetry/mirror"
)

// codesOf answers the codes of a text.
func codesOf(text string) []int {
	var l []int
	for _, code := range text {
		l = append(l, int(code))
	}
	return l
}

// finds holds the pairs of a sequence against some, each of which is written as its two places.
func finds(t *testing.T, types, codes []int, want ...int) {
	t.Helper()
	var l []int
	for _, pair := range Find(types, codes) {
		l = append(l, pair.Open, pair.Close)
	}
	if !slices.Equal(l, want) {
		t.Errorf("%v %x: %v, not %v", types, codes, l, want)
	}
}

// areFound holds the pairs of a text, of which all is ON, against some.
func areFound(t *testing.T, text string, want ...int) {
	t.Helper()
	codes := codesOf(text)
	finds(t, times(len(codes), clON), codes, want...)
}

// P14.1: the chapter's example.
func TestFindExample(t *testing.T) {
	areFound(t, "([)]", 0, 2)
}

// P14.1: none of no places, and none of lists that are unlike long.
func TestFindUnlikeLong(t *testing.T) {
	finds(t, nil, nil)
	finds(t, []int{}, []int{})
	for n := range 5 {
		for m := range 5 {
			types, codes := times(n, clON), codesOf("()()")[:m]
			if n != m {
				finds(t, types, codes)
			}
		}
	}
	finds(t, nil, codesOf("()"))
	finds(t, times(2, clON), nil)
	finds(t, times(3, clON), codesOf("()"))
	finds(t, times(2, clON), codesOf("()x"))
}

// P14.1: pairs one in another, side by side, crossed, by the places of what opens.
func TestFindOrder(t *testing.T) {
	areFound(t, "()", 0, 1)
	areFound(t, "x(x)x", 1, 3)
	areFound(t, "()[]{}", 0, 1, 2, 3, 4, 5)
	areFound(t, "([{}])", 0, 5, 1, 4, 2, 3)
	areFound(t, "(a[b]c{d}e)f", 0, 10, 2, 4, 6, 8)
	areFound(t, "(()())()", 0, 5, 1, 2, 3, 4, 6, 7)
	areFound(t, "{[(x)]()}[]", 0, 8, 1, 5, 2, 4, 6, 7, 9, 10)
	areFound(t, "([)](])", 0, 2, 4, 6)
	areFound(t, "[(])", 0, 2)
	areFound(t, "([{)}]", 0, 3)
	areFound(t, "x(y[z)(]w)", 1, 5, 6, 9)
}

// P14.1: a bracket that closes and meets none does nothing; one that meets one further down takes off all above it.
func TestFindFurtherDown(t *testing.T) {
	areFound(t, ")")
	areFound(t, "(")
	areFound(t, ")(")
	areFound(t, "((((")
	areFound(t, "))))")
	areFound(t, "(]")
	areFound(t, "(])", 0, 2)
	areFound(t, "(]]]}}})", 0, 7)
	areFound(t, "())", 0, 1)
	areFound(t, "())()", 0, 1, 3, 4)
	areFound(t, "(()", 1, 2)
	areFound(t, "(((x)", 2, 4)
	areFound(t, "[((])", 0, 3)
	areFound(t, "[((]))", 0, 3)
	areFound(t, "{[((]))}", 0, 7, 1, 4)
	areFound(t, "([{)]}", 0, 3)
	areFound(t, "(((]))", 1, 5, 2, 4)
	areFound(t, "[[(]]", 0, 4, 1, 3)
	areFound(t, "([x)([)]", 0, 3, 4, 6)
	// Those above are gone, so that what closes them then is held against what stands below.
	areFound(t, "(([)))", 0, 4, 1, 3)
	areFound(t, "[(([])])", 0, 6, 2, 5, 3, 4)
}

// P14.1: brackets that are written in two ways meet crosswise, others of the same look do not.
func TestFindAngles(t *testing.T) {
	areFound(t, "\u2329\u232a", 0, 1)
	areFound(t, "\u2329\u3009", 0, 1)
	areFound(t, "\u3008\u232a", 0, 1)
	areFound(t, "\u3008\u3009", 0, 1)
	areFound(t, "\u2329\u3008\u232a\u3009", 0, 3, 1, 2)
	areFound(t, "\u3008(\u232a)\u3009", 0, 2)
	areFound(t, "\u300a\u3009\u232a\u300b", 0, 3)
	areFound(t, "<>")
	areFound(t, "\u00ab\u00bb")
	areFound(t, "\u201c\u201d\u2018\u2019")
	areFound(t, "\u27e8\u232a\u27e9", 0, 2)
	areFound(t, "\uff08)(\uff09", 0, 3)
}

// P14.1: each code is a bracket just if mirror says so, and meets what mirror says.
func TestFindEachCode(t *testing.T) {
	on := times(4, clON)
	for code := -0x100; code <= 0x110100; code++ {
		kind, other := mirror.Pair(code)
		if kind == 0 {
			other = code
		}
		codes := []int{other, code, other, code}
		switch kind {
		case 1:
			finds(t, on, codes, 1, 2)
		case 2:
			finds(t, on, codes, 0, 1, 2, 3)
		default:
			if l := Find(on, codes); len(l) != 0 {
				t.Errorf("%x: %v", code, l)
			}
		}
	}
}

// P14.1: what is no character's code is no bracket.
func TestFindNoCodes(t *testing.T) {
	for _, one := range noCodes {
		for _, other := range append(noCodes, '(', ')', '[', ']') {
			finds(t, times(4, clON), []int{one, other, one, other})
			finds(t, times(4, clON), []int{other, one, other, one})
		}
		finds(t, times(4, clON), []int{'(', one, one, ')'}, 0, 3)
	}
}

// P14.1: just what is ON is looked at.
func TestFindClasses(t *testing.T) {
	for _, c := range all() {
		if c == clON {
			continue
		}
		finds(t, []int{c, clON}, codesOf("()"))
		finds(t, []int{clON, c}, codesOf("()"))
		finds(t, []int{c, c}, codesOf("()"))
		finds(t, []int{clON, c, clON}, codesOf("())"), 0, 2)
		finds(t, []int{clON, c, clON}, codesOf("(()"), 0, 2)
		finds(t, []int{clON, c, clON, clON}, codesOf("([)]"), 0, 2)
		finds(t, []int{clON, clON, c, clON}, codesOf("([)]"), 1, 3)
		finds(t, []int{clON, clON, c, c}, codesOf("([)]"))
		// So many that open would be too many.
		many := row(times(200, c), times(2, clON))
		finds(t, many, codesOf(strings.Repeat("(", 200)+"()"), 200, 201)
	}
}

// deep answers the places of so many pairs, one in another, with so much in the middle; none of more than may be open.
func deep(n, middle int) []int {
	var l []int
	for at := range n {
		l = append(l, at, 2*n+middle-1-at)
	}
	if n > 63 {
		return nil
	}
	return l
}

// P14.1: 63 may be open; behind the one that opens then nothing more is looked at.
func TestFindMany(t *testing.T) {
	for _, n := range []int{1, 2, 61, 62, 63, 64, 65, 100, 1000} {
		open, closed := strings.Repeat("(", n), strings.Repeat(")", n)
		areFound(t, open+closed, deep(n, 0)...)
		areFound(t, open+"x]"+closed, deep(n, 2)...)
		areFound(t, strings.Repeat("x(", n)+strings.Repeat("]", n))
	}
	open62, open63, closed := strings.Repeat("(", 62), strings.Repeat("(", 63), strings.Repeat(")", 63)
	// The one that opens as the 64th ends it all, also for brackets ahead of it; what closes ahead of it stays a pair.
	areFound(t, open63+"["+closed)
	areFound(t, open63+"[]"+closed)
	areFound(t, open63+"[]"+closed+"{}{}")
	areFound(t, "()"+open63+"(){}", 0, 1)
	areFound(t, "()"+open63+")(["+closed, 0, 1, 64, 65)
	areFound(t, open62+"[]"+"{}", 62, 63, 64, 65)
	areFound(t, open62+"[[]]")
	areFound(t, open63+"x])", 62, 65)
}

// P14.1: what was taken off is open no more, so that others may be then.
func TestFindManyTakenOff(t *testing.T) {
	open62, open63 := strings.Repeat("(", 62), strings.Repeat("(", 63)
	areFound(t, strings.Repeat("()", 200), sides(200)...)
	// One that closes the lowest one takes off all 62 above it.
	areFound(t, "["+open62+"]"+open63+")", 0, 63, 126, 127)
	areFound(t, "["+open62+"]"+open63+"{)", 0, 63)
	areFound(t, "["+open62+"]"+strings.Repeat("(", 62)+"{}", 0, 63, 126, 127)
	// One that closes one further up takes off just those above.
	areFound(t, open62+"[]"+"{}()", 62, 63, 64, 65, 66, 67)
	areFound(t, "(["+strings.Repeat("{", 61)+"]"+strings.Repeat("[", 62)+"]", 1, 63, 125, 126)
	areFound(t, "(["+strings.Repeat("{", 61)+"]"+strings.Repeat("[", 63)+"]", 1, 63)
	// One that closes and meets none takes off none.
	areFound(t, open63+"]"+"[])")
	areFound(t, open63+"])"+"[]", 62, 64, 65, 66)
}

// sides answers the places of so many pairs, side by side.
func sides(n int) []int {
	var l []int
	for at := range 2 * n {
		l = append(l, at)
	}
	return l
}

// isFoundAsDoc holds the pairs of a sequence against the chapter read place by place.
func isFoundAsDoc(t *testing.T, types, codes []int) {
	t.Helper()
	if l, want := Find(types, codes), docFind(types, codes); !slices.Equal(l, want) {
		t.Errorf("%v %x: %v, not %v", types, codes, l, want)
	}
}

// someFound calls look with many small sequences, by themselves and where many brackets are open ahead of them.
func someFound(look func(types, codes []int)) {
	for _, ahead := range []int{0, 60, 61, 62, 63} {
		most := 7
		if ahead > 0 {
			most = 5
		}
		eachRow(most, []int{'(', ')', '[', ']', 'x'}, func(codes []int) {
			look(times(ahead+len(codes), clON), row(times(ahead, int('(')), codes))
		})
	}
	eachRow(6, []int{0x2329, 0x232a, 0x3008, 0x3009, '(', ')'}, func(codes []int) {
		look(times(len(codes), clON), codes)
	})
	items := []place{bracket('('), bracket(')'), bracket('['), bracket(']'), {clL, '(', clON}, {clR, ')', clON}, {1<<32 | clON, ')', clON}}
	eachRow(6, items, func(places []place) {
		types, codes, _ := lists(places)
		look(types, codes)
	})
}

// P14.1: all small sequences.
func TestFindSmall(t *testing.T) {
	someFound(func(types, codes []int) { isFoundAsDoc(t, types, codes) })
}

// P14.4: pairs stand one in another, or apart; each is one that opens and one that closes, that meet, both ON, in a sequence of any sort.
func TestFindNested(t *testing.T) {
	someFound(func(types, codes []int) {
		l := Find(types, codes)
		for n, p := range l {
			if p.Open >= p.Close || types[p.Open] != clON || types[p.Close] != clON || !mirror.Meet(codes[p.Open], codes[p.Close]) {
				t.Errorf("%v %x: %v is none", types, codes, p)
			}
			if n > 0 && l[n-1].Open >= p.Open {
				t.Errorf("%v %x: %v do not rise", types, codes, l)
			}
			for _, q := range l[n+1:] {
				if q.Open == p.Close || q.Open < p.Close && q.Close >= p.Close {
					t.Errorf("%v %x: %v and %v cross", types, codes, p, q)
				}
			}
		}
	})
}

// P14.1: long sequences, which take no longer than one of that length needs.
func TestFindLong(t *testing.T) {
	const n = 1 << 17
	finds(t, times(2*n, clON), slices.Repeat([]int{'(', ')'}, n), sides(n)...)
	finds(t, times(n, clON), times(n, int('(')))
	finds(t, times(n, clON), times(n, int(']')))
	l := Find(times(n+126, clON), row(times(63, int('(')), times(n, int(']')), times(63, int(')'))))
	if len(l) != 63 || l[0] != (api.Pair{Open: 0, Close: n + 125}) || l[62] != (api.Pair{Open: 62, Close: n + 63}) {
		t.Errorf("%v", l)
	}
	finds(t, times(n, clL), times(n, int('(')))
}
