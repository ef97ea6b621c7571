package bidi

import (
	"slices"
	"testing"

	"parquetry/base"
	"parquetry/class"
)

// closed answers whether each initiator and PDI of classes has its own among them.
func closed(classes []int) bool {
	for at, match := range base.Match(classes) {
		name, _ := class.Print(classes[at])
		switch name {
		case "LRI", "RLI", "FSI":
			if match == len(classes) {
				return false
			}
		case "PDI":
			if match < 0 {
				return false
			}
		}
	}
	return true
}

// aroundStays holds the levels around an isolate with something in it against those around an empty one.
func aroundStays(t *testing.T, ahead, within, behind []int) {
	t.Helper()
	for own := range 2 {
		empty := Resolve(of(row(ahead, behind)...), own)
		l := Resolve(of(row(ahead, within, behind)...), own)
		if len(l) != len(ahead)+len(within)+len(behind) {
			t.Fatalf("%x %x %x at %d: %v", ahead, within, behind, own, l)
		}
		if around := slices.Delete(slices.Clone(l), len(ahead), len(ahead)+len(within)); !slices.Equal(around, empty) {
			t.Errorf("%x %x %x at %d: around %v, not %v", ahead, within, behind, own, around, empty)
		}
	}
}

// surroundings are what stands ahead of what is in an isolate, with the initiator, and behind it, with the PDI.
func surroundings(t *testing.T) [][2][]int {
	var l [][2][]int
	for _, initiator := range []string{"LRI", "RLI", "FSI"} {
		for _, x := range [][2]string{
			{"", ""}, {"L ON", "ON L"}, {"R ON", "EN"}, {"AL ON", "EN ET"}, {"R (", ") ON"}, {"L ( R", ") NSM R"}, {"R", "NSM BN WS"}, {"R LRE EN", "CS EN PDF R"}, {"L RLO", "L PDF EN"},
			{"LRE*60", "L"}, {"LRI*60", "R PDI*60 EN"}, {"RLE*30 LRO*30", "R PDF L"}, {"LRE*59 RLE", "EN ES EN PDF R"}, {"RLE*60 (", "R ) PDI PDF*60 L"},
		} {
			l = append(l, [2][]int{read(t, x[0]+" "+initiator), read(t, "PDI "+x[1])})
		}
	}
	return l
}

// P16.5: what stands in an isolate changes no level around it, as long as each initiator and PDI there has its own there.
func TestIsolated(t *testing.T) {
	around := surroundings(t)
	tried := 0
	look := func(within []int) {
		if !closed(class.All(of(within...))) {
			return
		}
		tried++
		for _, x := range around {
			aroundStays(t, x[0], within, x[1])
		}
	}
	var items []int
	for _, code := range samples {
		if code != 0x2029 {
			items = append(items, code)
		}
	}
	eachRow(2, row(items, read(t, "( )")), look)
	eachRow(3, read(t, "L R EN RLE LRO PDF RLI FSI PDI ( )"), look)
	eachRow(4, read(t, "R RLI PDI PDF"), look)
	for _, text := range []string{"RLE*200 L", "RLI*100 R PDI*100", "LRI*100 RLO*100 R PDI*100 L", "PDF*100 L", "(*100 R", "R )*100 R", "FSI RLI L PDI R PDI LRE", "[ ( R ) L ] RLO R"} {
		look(read(t, text))
	}
	if tried < 1000 {
		t.Errorf("just %d", tried)
	}
}
