package seqs

import (
	"math"
	"slices"
	"strconv"
	"strings"
	"testing"

	"parquetry/api"
	"parquetry/base"
	"parquetry/class"
	"parquetry/level"
)

// The classes that tests write by name.
const (
	clL   = api.BidiL
	clR   = api.BidiR
	clAL  = api.BidiAL
	clEN  = api.BidiEN
	clBN  = api.BidiBN
	clB   = api.BidiB
	clON  = api.BidiON
	clLRE = api.BidiLRE
	clLRO = api.BidiLRO
	clRLE = api.BidiRLE
	clRLO = api.BidiRLO
	clPDF = api.BidiPDF
	clLRI = api.BidiLRI
	clRLI = api.BidiRLI
	clFSI = api.BidiFSI
	clPDI = api.BidiPDI
)

// nones are numbers that are no class's, some of which would be one's if bits of theirs were lost.
var nones = []int{
	-1, -2, clPDI + 1, 99, math.MaxInt, math.MinInt, math.MaxInt32, math.MinInt32,
	1<<8 | clRLE, 1<<16 | clRLO, 1<<32 | clLRI, 1<<32 | clPDF, 1<<8 | clPDI, 1<<32 | clBN, 1<<32 | clFSI, 1<<32 | clB, math.MinInt | clRLI, math.MinInt | clPDI, -clBN, -clB, -clRLE, -clPDF, -clFSI, -clPDI,
}

// What stands here is the chapter read place by place, without runs: each kept place has at most one that comes next in its sequence, and what comes next of none is a sequence's first one.

// paper is a paragraph, by what the chapter says of its places.
type paper struct {
	classes, matches, levels, kept []int
	level                          int
}

func paperOf(classes []int, own int) paper {
	p := paper{classes: classes, matches: base.Match(classes), level: own}
	p.levels, _ = level.Explicit(classes, own)
	for at, l := range p.levels {
		if l >= 0 {
			p.kept = append(p.kept, at)
		}
	}
	return p
}

// beside answers the kept place so many kept ones further on, and whether there is one.
func (p paper) beside(at, steps int) (int, bool) {
	i := slices.Index(p.kept, at) + steps
	if i < 0 || i >= len(p.kept) {
		return 0, false
	}
	return p.kept[i], true
}

// begins answers whether a run begins at a kept place.
func (p paper) begins(at int) bool {
	ahead, ok := p.beside(at, -1)
	return !ok || p.levels[ahead] != p.levels[at]
}

// isInitiator answers whether an initiator stands at a place.
func (p paper) isInitiator(at int) bool {
	return slices.Contains([]int{clLRI, clRLI, clFSI}, p.classes[at])
}

// next answers the place that comes next in a place's sequence, and whether there is one.
func (p paper) next(at int) (int, bool) {
	if behind, ok := p.beside(at, 1); ok && !p.begins(behind) {
		return behind, true
	}
	if !p.isInitiator(at) || p.matches[at] == len(p.classes) {
		return 0, false
	}
	return p.matches[at], p.begins(p.matches[at])
}

// side answers the direction of the greater one of a sequence's level, and that of what stands beside it.
func (p paper) side(own, beside int, ok bool) int {
	other := p.level
	if ok {
		other = p.levels[beside]
	}
	if other > own {
		own = other
	}
	return []int{api.BidiL, api.BidiR}[own%2]
}

// docSequences answers the sequences of a paragraph.
func docSequences(classes []int, own int) []api.Seq {
	p := paperOf(classes, own)
	var l []api.Seq
	taken := make([]bool, len(classes))
	for _, first := range p.kept {
		if taken[first] {
			continue
		}
		one := api.Seq{Level: p.levels[first]}
		last := first
		for at, ok := first, true; ok; at, ok = p.next(at) {
			one.At = append(one.At, at)
			taken[at], last = true, at
		}
		ahead, ok := p.beside(first, -1)
		one.Sos = p.side(one.Level, ahead, ok)
		behind, ok := p.beside(last, 1)
		ok = ok && !(p.isInitiator(last) && p.matches[last] == len(classes))
		one.Eos = p.side(one.Level, behind, ok)
		l = append(l, one)
	}
	return l
}

// eachRow calls look with all rows of up to so many of the items.
func eachRow(most int, items []int, look func(row []int)) {
	var grow func(ahead []int)
	grow = func(ahead []int) {
		look(ahead)
		if len(ahead) < most {
			for _, item := range items {
				grow(append(slices.Clip(ahead), item))
			}
		}
	}
	grow(nil)
}

// row answers the classes of rows, one behind the other.
func row(parts ...[]int) []int {
	return slices.Concat(parts...)
}

// times answers so many of a class.
func times(n, class int) []int {
	return slices.Repeat([]int{class}, n)
}

// turns answers so many classes, in turns of the two.
func turns(n, one, two int) []int {
	return slices.Repeat([]int{one, two}, n)[:n]
}

// span answers the numbers from one to another one.
func span(from, to int) []int {
	var l []int
	for n := from; n <= to; n++ {
		l = append(l, n)
	}
	return l
}

// named answers the classes of a text of names.
func named(t *testing.T, text string) []int {
	t.Helper()
	classes, ok := class.Read(text)
	if !ok {
		t.Fatalf("%q: no names of classes", text)
	}
	return classes
}

// letter answers the direction of a level.
func letter(level int) int {
	return []int{api.BidiL, api.BidiR}[level%2]
}

// text tells of sequences: of each one its level, its directions, and its places.
func text(l []api.Seq) string {
	var words []string
	for _, one := range l {
		word := strconv.Itoa(one.Level) + " " + sign(one.Sos) + sign(one.Eos) + ":"
		for _, at := range one.At {
			word += " " + strconv.Itoa(at)
		}
		words = append(words, word)
	}
	return strings.Join(words, "; ")
}

// sign answers a direction's name, or a number that is none.
func sign(direction int) string {
	switch direction {
	case api.BidiL:
		return "L"
	case api.BidiR:
		return "R"
	}
	return "?" + strconv.Itoa(direction)
}

// alike answers whether sequences are the same ones.
func alike(l, m []api.Seq) bool {
	return slices.EqualFunc(l, m, func(a, b api.Seq) bool {
		return a.Level == b.Level && a.Sos == b.Sos && a.Eos == b.Eos && slices.Equal(a.At, b.At)
	})
}

// clone answers sequences that share nothing with these.
func clone(l []api.Seq) []api.Seq {
	var m []api.Seq
	for _, one := range l {
		one.At = slices.Clone(one.At)
		m = append(m, one)
	}
	return m
}
