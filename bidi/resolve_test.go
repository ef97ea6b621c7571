package bidi

import (
	"slices"
	"testing"

	"parquetry/api"
	"parquetry/runes"
)

// resolved holds a paragraph's levels against some.
func resolved(t *testing.T, codes []int, own int, want []int) {
	t.Helper()
	if l := Resolve(of(codes...), own); !slices.Equal(l, want) {
		t.Errorf("%x at %d: %v, not %v", codes, own, l, want)
	}
}

// isAsDoc holds a paragraph's levels, at both levels, against the chapter read place by place.
func isAsDoc(t *testing.T, codes []int) {
	t.Helper()
	for own := range 2 {
		resolved(t, codes, own, docResolve(of(codes...), own))
	}
}

// example is a paragraph in words, its level, and its runes' levels.
type example struct {
	text string
	own  int
	want string
}

func areResolved(t *testing.T, l []example) {
	t.Helper()
	for _, x := range l {
		codes := read(t, x.text)
		resolved(t, codes, x.own, levelsOf(t, x.want))
		isAsDoc(t, codes)
	}
}

// P16.1: the chapter's examples.
func TestResolveExamples(t *testing.T) {
	areResolved(t, []example{{"a 05D0 05D1 0031", 0, "0 1 1 2"}, {"05D0 ( a )", 1, "1 1 2 1"}})
}

// P16.1: no runes at all; each class alone, at both levels.
func TestResolveOne(t *testing.T) {
	for own := range 2 {
		if l := Resolve(nil, own); len(l) != 0 {
			t.Errorf("%v", l)
		}
		if l := Resolve([]api.Rune{}, own); len(l) != 0 {
			t.Errorf("%v", l)
		}
	}
	for class, code := range samples {
		at0, at1 := 0, 1
		switch class {
		case api.BidiL, api.BidiEN:
			at1 = 2
		case api.BidiR, api.BidiAL:
			at0 = 1
		case api.BidiAN:
			at0, at1 = 2, 2
		}
		resolved(t, []int{code}, 0, []int{at0})
		resolved(t, []int{code}, 1, []int{at1})
		isAsDoc(t, []int{code})
	}
}

// P16.1: a paragraph of a level that is neither 0 nor 1 has none.
func TestResolveOtherLevels(t *testing.T) {
	for _, own := range numbers {
		for _, text := range []string{"", "L", "R", "BN", "L R WS EN", "LRE", "RLI ( R ) PDI", "B", "LRE*70 R"} {
			if l := Resolve(of(read(t, text)...), own); len(l) != 0 {
				t.Errorf("%s at %d: %v", text, own, l)
			}
		}
	}
}

// P16.1: a code that is none's is a letter from left to right, and no bracket.
func TestResolveNoCodes(t *testing.T) {
	for _, code := range noCodes {
		resolved(t, []int{code}, 0, []int{0})
		resolved(t, []int{code}, 1, []int{2})
		resolved(t, []int{0x5d0, ' ', code, ' ', 0x5d0}, 0, []int{1, 0, 0, 0, 1})
		resolved(t, []int{0x5d0, ' ', code, ' ', 0x5d0}, 1, []int{1, 1, 2, 1, 1})
		resolved(t, []int{0x5d0, '(', code, ')'}, 0, []int{1, 0, 0, 0})
		resolved(t, []int{code, '1'}, 1, []int{2, 2})
		isAsDoc(t, []int{0x5d0, code, '!', 0x5d0, ')', code})
	}
	isAsDoc(t, noCodes)
}

// P16.1: letters, numbers, marks, and what has no direction.
func TestResolveRules(t *testing.T) {
	areResolved(t, []example{
		{"R WS L", 0, "1 0 0"}, {"R WS L", 1, "1 1 2"}, {"L WS R WS R WS L", 0, "0 0 1 1 1 0 0"}, {"L WS R WS", 0, "0 0 1 0"}, {"L WS R WS", 1, "2 1 1 1"}, {"WS R WS L WS", 1, "1 1 1 2 1"}, {"WS L WS", 1, "1 2 1"}, {"WS R WS", 0, "0 1 0"},
		{"L ON S B WS L", 1, "2 2 2 2 2 2"}, {"R ON S B WS R", 0, "1 1 1 1 1 1"},
		{"AL EN", 0, "1 2"}, {"R EN", 0, "1 2"}, {"L EN", 1, "2 2"}, {"EN", 1, "2"}, {"EN", 0, "0"}, {"AN", 0, "2"}, {"L AN EN", 0, "0 2 0"}, {"L WS AL WS EN", 1, "2 1 1 1 2"},
		{"R EN CS EN", 0, "1 2 2 2"}, {"AL EN CS EN", 0, "1 2 2 2"}, {"AL EN ES EN", 0, "1 2 1 2"}, {"R EN ES EN", 0, "1 2 2 2"}, {"R ET EN", 0, "1 2 2"}, {"AL ET EN", 0, "1 1 2"}, {"R EN ET ET ET", 1, "1 2 2 2 2"}, {"EN ES L", 1, "2 1 2"},
		{"R NSM", 0, "1 1"}, {"NSM R", 0, "0 1"}, {"NSM R", 1, "1 1"}, {"AN NSM", 0, "2 2"}, {"EN NSM", 1, "2 2"}, {"L NSM NSM", 1, "2 2 2"}, {"AL NSM EN", 0, "1 1 2"},
	})
}

// P16.1: what is removed has the level of what stands ahead, the first rune the paragraph's; rules go past it.
func TestResolveRemoved(t *testing.T) {
	areResolved(t, []example{
		{"BN L", 1, "1 2"}, {"BN R", 0, "0 1"}, {"BN BN", 0, "0 0"}, {"BN BN", 1, "1 1"}, {"L BN R", 0, "0 0 1"}, {"R BN L", 0, "1 1 0"}, {"R EN BN", 0, "1 2 2"}, {"R BN BN BN WS", 0, "1 1 1 1 0"}, {"L PDF R", 1, "2 2 1"}, {"PDF R PDF L", 0, "0 1 1 0"},
		{"R EN BN CS EN", 0, "1 2 2 2 2"}, {"L BN NSM", 1, "2 2 2"}, {"R WS BN WS R", 0, "1 1 1 1 1"}, {"R ( BN L BN )", 1, "1 1 1 2 2 1"}, {"R ( R ) BN NSM L", 0, "1 1 1 1 1 1 0"},
		{"LRE", 1, "1"}, {"RLE", 0, "0"}, {"RLO RLO PDF", 0, "0 0 0"}, {"LRE LRO PDF BN", 1, "1 1 1 1"},
	})
}

// P16.1: embeddings and overrides, closed and open.
func TestResolveEmbeddings(t *testing.T) {
	areResolved(t, []example{
		{"RLE L PDF L", 0, "0 2 2 0"}, {"LRE R PDF R", 1, "1 3 3 1"}, {"LRE R PDF", 0, "0 3 3"}, {"L RLE R", 0, "0 0 1"}, {"L RLE EN", 0, "0 0 2"}, {"L RLE PDF EN", 0, "0 0 0 0"}, {"RLE R PDF EN", 0, "0 1 1 2"}, {"R LRE EN PDF R", 0, "1 1 2 2 1"},
		{"RLO L PDF L", 0, "0 1 1 0"}, {"RLO L", 0, "0 1"}, {"LRO R EN PDF", 1, "1 2 2 2"}, {"LRO R WS AN B", 1, "1 2 2 2 1"}, {"RLO ( L ) PDF", 0, "0 1 1 1 1"}, {"RLE L RLO L EN PDF L PDF L", 0, "0 2 2 3 3 3 2 2 0"},
		// What stands on both sides of an embedding counts for what stands beside it.
		{"R ON RLE L PDF", 0, "1 1 1 2 2"}, {"RLE L PDF ON R", 0, "0 2 2 1 1"}, {"L ON LRE R PDF", 1, "2 2 2 3 3"}, {"ON RLE L PDF", 0, "0 0 2 2"}, {"R ON LRE L", 0, "1 0 0 2"},
		// One run of two embeddings, and two runs of them.
		{"LRE R PDF LRE EN PDF", 0, "0 3 3 3 4 4"}, {"LRE R PDF ON LRE EN PDF", 0, "0 3 3 0 0 2 2"},
		// Too deep.
		{"LRE*62 L", 0, "0*62 124"}, {"LRE*63 L", 0, "0*63 124"}, {"LRE*63 R", 0, "0*63 125"}, {"LRE*61 RLE L", 0, "0*62 124"}, {"LRE*62 RLE L", 0, "0*63 126"}, {"LRE*62 RLE EN", 0, "0*63 126"}, {"LRE*62 RLE LRE*9 R PDF*9 L", 0, "0*72 125*10 126"}, {"LRE*62 RLE PDF R", 0, "0*64 125"}, {"LRE*70 R PDF*8 R PDF R", 0, "0*70 125*11 123"},
	})
}

// P16.1: isolates, closed and open.
func TestResolveIsolates(t *testing.T) {
	areResolved(t, []example{
		{"L RLI R WS EN PDI L", 0, "0 0 1 1 2 0 0"}, {"R LRI L PDI R", 0, "1 1 2 1 1"}, {"R LRI R PDI R", 1, "1 1 3 1 1"}, {"R LRI L", 0, "1 0 2"}, {"R LRI R", 1, "1 1 3"}, {"L RLI L", 1, "2 1 4"}, {"L PDI R", 0, "0 0 1"}, {"R PDI R", 0, "1 1 1"}, {"R RLI PDI R", 0, "1 1 1 1"}, {"PDI LRI", 1, "1 1"},
		{"FSI R PDI", 0, "0 1 0"}, {"FSI L PDI", 0, "0 2 0"}, {"FSI ON PDI", 0, "0 2 0"}, {"FSI ON PDI", 1, "1 2 1"}, {"FSI AL", 1, "1 3"}, {"FSI FSI R PDI L PDI", 1, "1 2 3 2 2 1"},
		{"RLO LRI L PDI", 0, "0 1 2 1"}, {"LRO RLI R PDI PDF R", 0, "0 2 3 2 2 1"},
		{"RLI LRI L PDI R PDI", 0, "0 1 2 1 1 0"}, {"R LRI NSM PDI NSM R", 0, "1 1 2 1 1 1"}, {"AL RLI L PDI EN", 0, "1 1 2 1 2"}, {"L RLI R PDI EN", 1, "2 2 3 2 2"}, {"R LRI RLE L PDI L PDF R", 0, "1 0 0 4 0 0 0 1"},
		// Two sequences at one level.
		{"RLI R PDI L RLI EN PDI", 0, "0 1 0 0 0 2 0"}, {"LRI R PDI LRI EN PDI", 0, "0 3 0 0 2 0"}, {"LRI EN PDI LRI R PDI", 1, "1 2 1 1 3 1"}, {"RLI AL PDI RLI EN ET PDI", 0, "0 1 0 0 2 2 0"},
		// Too deep, so that what stands in it stands beside it.
		{"LRI*62 L", 0, "0 2 4 6 8 10 12 14 16 18 20 22 24 26 28 30 32 34 36 38 40 42 44 46 48 50 52 54 56 58 60 62 64 66 68 70 72 74 76 78 80 82 84 86 88 90 92 94 96 98 100 102 104 106 108 110 112 114 116 118 120 122 124"},
		{"LRE*62 LRI R PDI R", 0, "0*62 124 125 125 125"}, {"LRE*62 RLI L PDI R", 0, "0*62 124 126 124 125"}, {"LRE*62 LRI R PDI L", 0, "0*62 124 125 124 124"}, {"LRE*62 RLI RLI R PDI PDI", 0, "0*62 124 125 125 125 124"},
	})
}

// P16.1: brackets, in pairs and not, and the marks behind them.
func TestResolveBrackets(t *testing.T) {
	areResolved(t, []example{
		{"( R )", 0, "0 1 0"}, {"( R )", 1, "1 1 1"}, {"( R ) R", 0, "0 1 0 1"}, {"R ( R )", 0, "1 1 1 1"}, {"L ( R ) R", 0, "0 0 1 0 1"}, {"R ( L ) L", 1, "1 1 2 1 2"}, {"L ( L ) R", 1, "2 2 2 2 1"}, {"R ( L R ) EN", 0, "1 0 0 1 0 2"}, {"R < L > L", 1, "1 1 2 2 2"},
		{"( R ] R", 0, "0 1 1 1"}, {"R ] R [ R", 0, "1 1 1 1 1"}, {"R ( WS ) R", 0, "1 1 1 1 1"}, {"R ( WS ) L", 0, "1 0 0 0 0"}, {"L [ ( R ] )", 0, "0 0 0 1 0 0"}, {"L ( [ R ] L ) R", 1, "2 1 1 1 1 2 1 1"}, {"L 2329 R 3009 R", 0, "0 0 1 0 1"}, {"L 3008 R 232A R", 0, "0 0 1 0 1"}, {"L 3008 R 300B R", 0, "0 0 1 1 1"},
		// By what numbers are behind the rules for them.
		{"L ( EN )", 1, "2 2 2 2"}, {"R ( EN )", 0, "1 1 2 1"}, {"L ( AN )", 1, "2 1 2 1"}, {"AL ( EN ) WS R", 0, "1 1 2 1 1 1"},
		// Marks by their own classes.
		{"R ( R ) NSM L", 0, "1 1 1 1 1 0"}, {"L ( L ) NSM NSM R", 1, "2 2 2 2 2 2 1"}, {"R ( NSM R ) L", 0, "1 1 1 1 1 0"}, {"R ( R ) ON NSM L", 0, "1 1 1 1 0 0 0"}, {"LRE R ( R ) PDF LRO NSM L PDF", 0, "0 3 3 3 3 3 3 3 2 2"},
		// Just in one sequence.
		{"R ( LRI L PDI ) R", 0, "1 1 1 2 1 1 1"}, {"R ( LRI ) PDI L )", 0, "1 0 0 2 0 0 0"}, {"L ( RLI R ) PDI R )", 0, "0 0 0 1 1 0 1 0"}, {"R ( LRE L ) PDF R", 0, "1 0 0 2 2 2 1"}, {"LRE R ( PDF BN LRE R ) L PDF", 0, "0 3 3 3 3 3 3 3 2 2"},
		// By the direction ahead of the sequence, not the one behind.
		{"RLE L PDF ( R ) WS L", 0, "0 2 2 1 1 1 0 0"}, {"( R ) RLE L PDF", 0, "0 1 0 0 2 2"}, {"LRE R PDF ( L )", 1, "1 3 3 2 2 2"}, {"( L ) LRE R PDF", 1, "1 2 1 1 3 3"},
		// As many as may be open, and one more.
		{"R (*63 R )*63 L", 0, "1 1*127 0"}, {"R (*64 R )*64 L", 0, "1 1*65 0*64 0"},
	})
}

// P16.1: a sign that ends a paragraph is told like others, at the paragraph's level.
func TestResolveEnds(t *testing.T) {
	areResolved(t, []example{
		{"L B", 0, "0 0"}, {"R B", 0, "1 0"}, {"R B", 1, "1 1"}, {"R B R", 0, "1 1 1"}, {"RLE R B R", 0, "0 1 1 1"}, {"RLE L B L", 0, "0 2 1 2"}, {"RLO L B L PDF", 1, "1 3 1 3 3"}, {"L B L", 1, "2 2 2"}, {"LRI B R PDI", 0, "0 0 3 0"},
	})
}

// P16.1: texts as runes tells them, their odd bytes too.
func TestResolveTexts(t *testing.T) {
	for _, x := range []struct {
		text string
		own  int
		want string
	}{
		{"abc", 0, "0 0 0"}, {"אב 12-3", 0, "1 1 1 2 2 2 2"}, {"اب 12-3", 1, "1 1 1 2 2 1 2"}, {"a\u2067א\u2069.", 0, "0 0 1 0 0"}, {"א\xffב\x80", 0, "1 1 1 0"}, {"א\xc3", 1, "1 1"}, {"עב€5", 0, "1 1 2 2"}, {"x = (א) [ב]", 0, "0 0 0 0 0 1 0 0 0 1 0"},
	} {
		l := runes.Split(x.text)
		if levels := Resolve(l, x.own); !slices.Equal(levels, levelsOf(t, x.want)) {
			t.Errorf("%q at %d: %v", x.text, x.own, levels)
		}
	}
}

// P16.1: where a rune stands in its text, and how many bytes it has, is no matter.
func TestResolveByCodes(t *testing.T) {
	look := func(codes []int) {
		odd := of(codes...)
		for at := range odd {
			odd[at].At, odd[at].Size = -7*at, at%3-1
		}
		for own := range 2 {
			if l := Resolve(odd, own); !slices.Equal(l, Resolve(of(codes...), own)) {
				t.Errorf("%x at %d: %v", codes, own, l)
			}
		}
	}
	eachRow(3, read(t, "L R EN WS ( ) RLE PDI"), look)
}

// P16.1: all small rows.
func TestResolveSmallRows(t *testing.T) {
	look := func(codes []int) { isAsDoc(t, codes) }
	eachRow(2, row(samples[:], noCodes, read(t, "( ) [ ] < > 2329 3009")), look)
	eachRow(3, row(samples[:], read(t, "( )")), look)
	eachRow(4, read(t, "L R AL EN NSM WS RLE PDF RLI PDI ( )"), look)
	eachRow(5, read(t, "L R EN RLO LRI PDI BN"), look)
	eachRow(6, read(t, "L R ( ) NSM"), look)
	// In a pair of brackets, and of isolates' signs, beside letters and a number.
	eachRow(3, read(t, "L R EN AN NSM BN LRE PDF FSI PDI ( )"), func(codes []int) {
		look(row(read(t, "AL ("), codes, read(t, ") NSM EN")))
		look(row(read(t, "R FSI"), codes, read(t, "PDI L")))
		look(row(read(t, "LRO R RLE"), codes, read(t, "PDF L")))
	})
}

// P16.1: all small rows behind ones that leave hardly room for one more level, or none.
func TestResolveSmallRowsDeep(t *testing.T) {
	for _, ahead := range []string{"LRE*61", "LRE*62", "LRE*63", "RLO*62", "RLE*63", "LRI*62", "RLI*62", "RLI*64", "LRE*62 RLE", "LRE*62 RLI", "LRE*62 LRI RLE"} {
		eachRow(3, read(t, "L R EN RLE LRO PDF LRI PDI"), func(codes []int) {
			isAsDoc(t, row(read(t, ahead), codes))
		})
	}
}

// P16.1: long paragraphs, which take no longer than one of that length needs.
func TestResolveLong(t *testing.T) {
	const n = 1 << 17
	resolved(t, times(n, 'a'), 0, times(n, 0))
	resolved(t, times(n, 'a'), 1, times(n, 2))
	resolved(t, turns(n, 0x5d0, '1'), 0, turns(n, 1, 2))
	resolved(t, times(n, 0x202b), 1, times(n, 1))
	resolved(t, slices.Repeat(read(t, "RLI L PDI"), n), 0, slices.Repeat([]int{0, 2, 0}, n))
	resolved(t, slices.Repeat(read(t, "( R )"), n), 0, slices.Repeat([]int{0, 1, 0}, n))
	resolved(t, row([]int{0x5d0}, times(n, ' '), []int{0x5d0}), 0, times(n+2, 1))
}
