package table

import (
	"runtime"
	"slices"
	"strconv"
	"strings"
	"testing"

	"parquetry/api"
)

// makers are the functions that answer tables, by name.
var makers = []struct {
	name string
	call func(records [][]string) [][]string
}{
	{"Fill", Fill}, {"Trim", Trim}, {"Turn", Turn},
}

// placed answers the text that tests put at a place: another one at each.
func placed(row, col int) string {
	return strconv.Itoa(row) + ":" + strconv.Itoa(col)
}

// eachRecord calls look with each record that has so many fields at most, without a text and with that of its place.
func eachRecord(row, most int, look func(record []string)) {
	var grow func(ahead []string)
	grow = func(ahead []string) {
		look(ahead)
		if len(ahead) < most {
			grow(append(slices.Clip(ahead), ""))
			grow(append(slices.Clip(ahead), placed(row, len(ahead))))
		}
	}
	grow(nil)
}

// eachSmall calls look with all small records, no records among them.
func eachSmall(look func(records [][]string)) {
	for _, x := range []struct{ rows, cols int }{{2, 5}, {4, 2}, {3, 3}} {
		var grow func(ahead [][]string)
		grow = func(ahead [][]string) {
			look(ahead)
			if len(ahead) < x.rows {
				eachRecord(len(ahead), x.cols, func(record []string) {
					grow(append(slices.Clip(ahead), record))
				})
			}
		}
		grow(nil)
	}
}

func same(a, b [][]string) bool {
	return slices.EqualFunc(a, b, slices.Equal)
}

// copied answers the records in memory of their own.
func copied(records [][]string) [][]string {
	var l [][]string
	for _, record := range records {
		l = append(l, append([]string{}, record...))
	}
	return l
}

// blank answers so many records of so many fields without text.
func blank(rows, cols int) [][]string {
	var l [][]string
	for range rows {
		l = append(l, make([]string, cols))
	}
	return l
}

// with answers the records, but for one field.
func with(records [][]string, row, col int, text string) [][]string {
	l := copied(records)
	l[row][col] = text
	return l
}

// docWidth answers the width by the chapter's words: as many fields as a record has that none is longer than.
func docWidth(records [][]string) int {
	for _, record := range records {
		if !slices.ContainsFunc(records, func(other []string) bool { return len(other) > len(record) }) {
			return len(record)
		}
	}
	return 0
}

// docMayBe answers by the chapter's words whether a table may be.
func docMayBe(records [][]string) bool {
	if len(records) == 0 || len(records[0]) == 0 {
		return false
	}
	for _, record := range records[1:] {
		if len(record) != len(records[0]) {
			return false
		}
	}
	return true
}

// docFill answers the filled records by the chapter's words.
func docFill(records [][]string) [][]string {
	if len(records) == 0 {
		return [][]string{{""}}
	}
	l := copied(records)
	for k := range l {
		for len(l[k]) < docWidth(records) || len(l[k]) == 0 {
			l[k] = append(l[k], "")
		}
	}
	return l
}

// docTrim answers the trimmed records by the chapter's words: the last ones are dropped one by one.
func docTrim(records [][]string) [][]string {
	l := docFill(records)
	for len(l) > 1 && strings.Join(l[len(l)-1], "") == "" {
		l = l[:len(l)-1]
	}
	for len(l[0]) > 1 {
		last := len(l[0]) - 1
		for _, record := range l {
			if record[last] != "" {
				return l
			}
		}
		for k := range l {
			l[k] = l[k][:last]
		}
	}
	return l
}

// docTurn answers the turned records by the chapter's words.
func docTurn(records [][]string) [][]string {
	filled := docFill(records)
	var l [][]string
	for col := range filled[0] {
		var record []string
		for row := range filled {
			record = append(record, filled[row][col])
		}
		l = append(l, record)
	}
	return l
}

func hasWidth(t *testing.T, records [][]string, want int) {
	t.Helper()
	if w := Width(records); w != want {
		t.Errorf("%.80q: width %d, not %d", records, w, want)
	}
}

func isChecked(t *testing.T, records [][]string, want api.Errno) {
	t.Helper()
	if e := Check(records); e != want {
		t.Errorf("%d records, width %d, %.80q: %v, not %v", len(records), docWidth(records), records, e, want)
	}
}

func isFilled(t *testing.T, records, want [][]string) {
	t.Helper()
	if l := Fill(records); !same(l, want) {
		t.Errorf("%q: filled %q, not %q", records, l, want)
	}
}

func isTrimmed(t *testing.T, records, want [][]string) {
	t.Helper()
	if l := Trim(records); !same(l, want) {
		t.Errorf("%q: trimmed %q, not %q", records, l, want)
	}
}

func isTurned(t *testing.T, records, want [][]string) {
	t.Helper()
	if l := Turn(records); !same(l, want) {
		t.Errorf("%q: turned %q, not %q", records, l, want)
	}
}

// P9.1 to P9.4: the chapter's examples.
func TestExamples(t *testing.T) {
	records := [][]string{{"a", "b"}, {"c"}}
	hasWidth(t, records, 2)
	isChecked(t, records, api.ErrArg)
	isFilled(t, records, [][]string{{"a", "b"}, {"c", ""}})
	isTurned(t, records, [][]string{{"a", "c"}, {"b", ""}})
	isTrimmed(t, [][]string{{"a", ""}, {""}}, [][]string{{"a"}})
}

// P9.1
func TestWidth(t *testing.T) {
	hasWidth(t, nil, 0)
	hasWidth(t, [][]string{}, 0)
	hasWidth(t, [][]string{nil}, 0)
	hasWidth(t, [][]string{{}, nil, make([]string, 0, 9)}, 0)
	hasWidth(t, [][]string{{""}}, 1)
	hasWidth(t, [][]string{{"abc"}}, 1)
	hasWidth(t, [][]string{{"", ""}, {}}, 2)
	hasWidth(t, [][]string{{}, {"", ""}}, 2)
	// The first one, a middle one, the last one is the longest.
	hasWidth(t, [][]string{{"", "", ""}, {"a"}, {"a", "b"}}, 3)
	hasWidth(t, [][]string{{"a"}, {"", "", ""}, {"a", "b"}}, 3)
	hasWidth(t, [][]string{{"a"}, {"a", "b"}, {"", "", ""}}, 3)
	// A table that does not fit has a width, too.
	hasWidth(t, blank(api.MaxRows+1, api.MaxCols+1), api.MaxCols+1)
	hasWidth(t, blank(1, 100000), 100000)
	hasWidth(t, blank(100000, 1), 1)
	// What lies behind a record's end is not its own.
	hasWidth(t, [][]string{[]string{"a", "b", "c"}[:1], make([]string, 2, 8)}, 2)
	eachSmall(func(records [][]string) { hasWidth(t, records, docWidth(records)) })
}

// P9.1
func TestNoTables(t *testing.T) {
	isChecked(t, nil, api.ErrArg)
	isChecked(t, [][]string{}, api.ErrArg)
	for _, none := range [][]string{nil, {}, make([]string, 0, 4)} {
		isChecked(t, [][]string{none}, api.ErrArg)
		isChecked(t, [][]string{none, {"a"}}, api.ErrArg)
		isChecked(t, [][]string{{"a"}, none}, api.ErrArg)
		isChecked(t, [][]string{{"a", "b"}, none, {"c", "d"}}, api.ErrArg)
		isChecked(t, [][]string{none, none, none}, api.ErrArg)
	}
	for _, x := range [][][]string{
		{{"a", "b"}, {"c"}}, {{"a"}, {"b", "c"}}, {{"a"}, {"b"}, {"c", "d"}}, {{"a", "b"}, {"c", "d"}, {"e"}}, {{"a"}, {"b", "c"}, {"d"}}, {{"a", "b"}, {"c"}, {"d", "e"}}, {{"", ""}, {""}}, {{""}, {"", ""}}, {{"a", "b"}, {"c"}, {"d", "e", "f"}},
	} {
		isChecked(t, x, api.ErrArg)
	}
}

// P9.1
func TestTables(t *testing.T) {
	isChecked(t, [][]string{{""}}, api.OK)
	isChecked(t, [][]string{{"a"}}, api.OK)
	isChecked(t, [][]string{{"a", "b"}, {"c", "d"}}, api.OK)
	isChecked(t, [][]string{{"", ""}, {"", ""}}, api.OK)
	isChecked(t, [][]string{{"\xff", "\x00"}, {"\u05d0", "\r\n"}}, api.OK)
	for rows := range 4 {
		for cols := range 4 {
			want := api.OK
			if rows == 0 || cols == 0 {
				want = api.ErrArg
			}
			isChecked(t, blank(rows, cols), want)
		}
	}
	eachSmall(func(records [][]string) {
		want := api.OK
		if !docMayBe(records) {
			want = api.ErrArg
		}
		isChecked(t, records, want)
	})
}

// P9.1
func TestLongTables(t *testing.T) {
	most := strings.Repeat("a", api.MaxText)
	wide := strings.Repeat("\u05d0", api.MaxText/2)
	if api.MaxRows != 24 || api.MaxCols != 16 || len(most) != 1024 || len(wide) != 1024 {
		t.Errorf("%d records, %d fields, %d bytes", api.MaxRows, api.MaxCols, len(most))
	}
	for _, x := range []struct {
		rows, cols int
		want       api.Errno
	}{
		{24, 1, api.OK}, {25, 1, api.ErrLong}, {1, 16, api.OK}, {1, 17, api.ErrLong}, {24, 16, api.OK}, {25, 16, api.ErrLong}, {24, 17, api.ErrLong}, {25, 17, api.ErrLong}, {16, 16, api.OK}, {16, 24, api.ErrLong}, {23, 15, api.OK}, {1000, 1, api.ErrLong}, {1, 1000, api.ErrLong},
	} {
		isChecked(t, blank(x.rows, x.cols), x.want)
	}
	// Every field of the largest table in turn has as many bytes as may be, and one more.
	full := blank(api.MaxRows, api.MaxCols)
	for row := range full {
		for col := range full[row] {
			isChecked(t, with(full, row, col, most), api.OK)
			isChecked(t, with(full, row, col, most+"a"), api.ErrLong)
		}
	}
	for row := range full {
		for col := range full[row] {
			full[row][col] = most
		}
	}
	isChecked(t, full, api.OK)
	// Bytes count, not code points.
	isChecked(t, [][]string{{wide}}, api.OK)
	isChecked(t, [][]string{{wide + "a"}}, api.ErrLong)
	isChecked(t, [][]string{{strings.Repeat("\xff", 1024)}}, api.OK)
	isChecked(t, [][]string{{strings.Repeat("\xff", 1025)}}, api.ErrLong)
	isChecked(t, [][]string{{strings.Repeat("a", 1<<20)}}, api.ErrLong)
}

// P9.1: that it is no table that may be is told ahead of that it does not fit.
func TestArgAheadOfLong(t *testing.T) {
	long := strings.Repeat("a", api.MaxText+1)
	for _, x := range []struct {
		records [][]string
		without []string
	}{
		{blank(25, 1), nil}, {blank(25, 1), []string{"", ""}}, {blank(25, 2), []string{""}}, {blank(25, 17), nil}, {blank(2, 17), []string{""}}, {blank(2, 17), make([]string, 18)}, {blank(2, 16), make([]string, 17)}, {blank(2, 2), []string{long}}, {blank(2, 1), []string{long, ""}},
		{[][]string{{long}, {"a"}}, nil}, {[][]string{{long}, {"a"}}, []string{"a", "b"}}, {[][]string{{long, "b"}, {"", ""}}, []string{"a"}}, {slices.Repeat([][]string{slices.Repeat([]string{long}, 17)}, 25), []string{long}},
	} {
		for at := range len(x.records) + 1 {
			isChecked(t, slices.Insert(slices.Clone(x.records), at, x.without), api.ErrArg)
		}
	}
	isChecked(t, blank(25, 0), api.ErrArg)
	isChecked(t, blank(100000, 0), api.ErrArg)
}

// P9.2
func TestFill(t *testing.T) {
	for _, x := range []struct{ records, want [][]string }{
		{nil, [][]string{{""}}}, {[][]string{}, [][]string{{""}}}, {[][]string{nil}, [][]string{{""}}}, {[][]string{{}, {}}, [][]string{{""}, {""}}}, {[][]string{{""}}, [][]string{{""}}},
		{[][]string{{"a"}, {}}, [][]string{{"a"}, {""}}}, {[][]string{{}, {"a"}}, [][]string{{""}, {"a"}}}, {[][]string{{}, {"a", "b"}, {}}, [][]string{{"", ""}, {"a", "b"}, {"", ""}}},
		{[][]string{{"a", "b", "c"}, {"d"}, {"e", "f"}}, [][]string{{"a", "b", "c"}, {"d", "", ""}, {"e", "f", ""}}},
		{[][]string{{"d"}, {"e", "f"}, {"a", "b", "c"}}, [][]string{{"d", "", ""}, {"e", "f", ""}, {"a", "b", "c"}}},
		// What is filled already; nothing is left off.
		{[][]string{{"a", "b"}, {"c", "d"}}, [][]string{{"a", "b"}, {"c", "d"}}}, {[][]string{{"", ""}, {"", ""}}, [][]string{{"", ""}, {"", ""}}}, {[][]string{{"a", ""}, {""}}, [][]string{{"a", ""}, {"", ""}}},
		// What lies behind a record's end is not its own.
		{[][]string{[]string{"a", "spoilt", "spoilt"}[:1], {"b", "c"}}, [][]string{{"a", ""}, {"b", "c"}}},
		// Any bytes, and more than fits.
		{[][]string{{"\xff\x00"}, {"\r", "\u05d0"}}, [][]string{{"\xff\x00", ""}, {"\r", "\u05d0"}}},
		{append(blank(1, 100), blank(99, 0)...), blank(100, 100)}, {[][]string{{strings.Repeat("a", 5000)}, {"", ""}}, [][]string{{strings.Repeat("a", 5000), ""}, {"", ""}}},
	} {
		isFilled(t, x.records, x.want)
	}
	eachSmall(func(records [][]string) { isFilled(t, records, docFill(records)) })
}

// P9.3
func TestTrim(t *testing.T) {
	for _, x := range []struct{ records, want [][]string }{
		{nil, [][]string{{""}}}, {[][]string{}, [][]string{{""}}}, {[][]string{nil}, [][]string{{""}}}, {[][]string{{}, {}}, [][]string{{""}}}, {[][]string{{""}}, [][]string{{""}}}, {blank(5, 5), [][]string{{""}}}, {blank(1, 5), [][]string{{""}}}, {blank(5, 1), [][]string{{""}}},
		// At the end of a record, of all of them.
		{[][]string{{"a", ""}, {"b", "c"}}, [][]string{{"a", ""}, {"b", "c"}}}, {[][]string{{"a", ""}, {"b", ""}}, [][]string{{"a"}, {"b"}}}, {[][]string{{"a", "", ""}, {"b", "c", ""}}, [][]string{{"a", ""}, {"b", "c"}}}, {[][]string{{"a"}, {"b", "", ""}}, [][]string{{"a"}, {"b"}}},
		// A whole record: at the end, at the beginning, in the middle.
		{[][]string{{"a", "b"}, {"", ""}}, [][]string{{"a", "b"}}}, {[][]string{{"a", "b"}, {"", ""}, {}}, [][]string{{"a", "b"}}}, {[][]string{{"", ""}, {"a", "b"}}, [][]string{{"", ""}, {"a", "b"}}}, {[][]string{{"a", "b"}, {}, {"c", "d"}}, [][]string{{"a", "b"}, {"", ""}, {"c", "d"}}}, {[][]string{{}, {"a"}, {}}, [][]string{{""}, {"a"}}},
		// A whole column: at the beginning, in the middle, at the end and in the middle.
		{[][]string{{"", "a"}, {"", "b"}}, [][]string{{"", "a"}, {"", "b"}}}, {[][]string{{"a", "", "b"}, {"c", "", "d"}}, [][]string{{"a", "", "b"}, {"c", "", "d"}}}, {[][]string{{"a", "", "b", ""}, {"c", "", "d", ""}}, [][]string{{"a", "", "b"}, {"c", "", "d"}}},
		// One text alone, far behind, and the first one.
		{with(blank(5, 6), 2, 3, "a"), with(blank(3, 4), 2, 3, "a")}, {with(blank(5, 6), 4, 5, "a"), with(blank(5, 6), 4, 5, "a")}, {with(blank(5, 6), 0, 0, "a"), [][]string{{"a"}}}, {with(blank(5, 6), 0, 5, "a"), with(blank(1, 6), 0, 5, "a")}, {with(blank(5, 6), 4, 0, "a"), with(blank(5, 1), 4, 0, "a")},
		// What is to be seen by nobody is a text, too.
		{[][]string{{"a", " "}, {"\x00", ""}}, [][]string{{"a", " "}, {"\x00", ""}}}, {[][]string{{"", "\n"}, {"\u200b", "", ""}}, [][]string{{"", "\n"}, {"\u200b", ""}}},
		// What lies behind a record's end is not its own.
		{[][]string{[]string{"a", "spoilt"}[:1], []string{"", "spoilt"}[:1]}, [][]string{{"a"}}},
	} {
		isTrimmed(t, x.records, x.want)
	}
	eachSmall(func(records [][]string) { isTrimmed(t, records, docTrim(records)) })
}

// P9.3: what is small when it is trimmed need not be made large ahead of that.
func TestTrimOfFar(t *testing.T) {
	records := append(blank(1<<12, 0), make([]string, 1<<12))
	isSmall := func(want [][]string) {
		t.Helper()
		var before, behind runtime.MemStats
		runtime.ReadMemStats(&before)
		l := Trim(records)
		runtime.ReadMemStats(&behind)
		if !same(l, want) {
			t.Errorf("%d records, the first one of %d fields", len(l), len(l[0]))
		}
		if bytes := behind.TotalAlloc - before.TotalAlloc; bytes > 1<<22 {
			t.Errorf("%d bytes of memory for %d records of %d fields", bytes, len(l), len(l[0]))
		}
	}
	isSmall([][]string{{""}})
	records[1] = []string{"", "a", ""}
	isSmall([][]string{{"", ""}, {"", "a"}})
}

// P9.4
func TestTurn(t *testing.T) {
	for _, x := range []struct{ records, want [][]string }{
		{nil, [][]string{{""}}}, {[][]string{}, [][]string{{""}}}, {[][]string{nil}, [][]string{{""}}}, {[][]string{{}, {}, {}}, [][]string{{"", "", ""}}}, {[][]string{{""}}, [][]string{{""}}}, {[][]string{{"a"}}, [][]string{{"a"}}},
		{[][]string{{"a", "b", "c"}}, [][]string{{"a"}, {"b"}, {"c"}}}, {[][]string{{"a"}, {"b"}, {"c"}}, [][]string{{"a", "b", "c"}}}, {[][]string{{"a", "b"}, {"c", "d"}}, [][]string{{"a", "c"}, {"b", "d"}}}, {[][]string{{"a", "b"}, {"c", "d"}, {"e", "f"}}, [][]string{{"a", "c", "e"}, {"b", "d", "f"}}},
		// Unlike lengths.
		{[][]string{{"a"}, {"b", "c", "d"}}, [][]string{{"a", "b"}, {"", "c"}, {"", "d"}}}, {[][]string{{"a", "b", "c"}, {}, {"d"}}, [][]string{{"a", "", "d"}, {"b", "", ""}, {"c", "", ""}}}, {[][]string{{}, {"a", "b"}}, [][]string{{"", "a"}, {"", "b"}}},
		// Nothing is trimmed.
		{[][]string{{"a", ""}, {"", ""}}, [][]string{{"a", ""}, {"", ""}}}, {blank(2, 3), blank(3, 2)}, {[][]string{{"a"}, {}}, [][]string{{"a", ""}}},
		// What lies behind a record's end is not its own.
		{[][]string{[]string{"a", "spoilt"}[:1], {"b", "c"}}, [][]string{{"a", "b"}, {"", "c"}}},
	} {
		isTurned(t, x.records, x.want)
	}
	eachSmall(func(records [][]string) { isTurned(t, records, docTurn(records)) })
}

// roomy answers the records in memory of their own, with something behind each end.
func roomy(records [][]string) [][]string {
	l := make([][]string, 0, len(records)+2)
	for _, record := range records {
		l = append(l, append(append(make([]string, 0, len(record)+2), record...), "behind", "more")[:len(record)])
	}
	return append(l, []string{"behind"}, nil)[:len(records)]
}

// spoil writes into all that lists hold, also behind their ends.
func spoil(records [][]string) {
	records = records[:cap(records)]
	for k, record := range records {
		record = record[:cap(record)]
		for at := range record {
			record[at] = "spoilt"
		}
		records[k] = []string{"spoilt", "spoilt", "spoilt"}
	}
}

// P9.5: nothing of what is handed in changes, nor does what lies behind its ends.
func TestStays(t *testing.T) {
	eachSmall(func(records [][]string) {
		handed := roomy(records)
		lists := slices.Clone(handed[:len(records)+2])
		Width(handed)
		Check(handed)
		for _, maker := range makers {
			maker.call(handed)
		}
		for k, list := range handed[:len(records)+2] {
			if len(list) != len(lists[k]) || len(list) > 0 && &list[0] != &lists[k][0] {
				t.Errorf("%q: record %d is another one", records, k)
			}
		}
		for k, record := range records {
			if want := append(slices.Clip(record), "behind", "more"); !slices.Equal(handed[k][:len(record)+2], want) {
				t.Errorf("%q: record %d has become %q", records, k, handed[k][:len(record)+2])
			}
		}
		if behind := handed[:len(records)+2][len(records):]; !same(behind, [][]string{{"behind"}, nil}) {
			t.Errorf("%q: behind stands %q", records, behind)
		}
	})
}

// P9.5: what is answered stays when what was handed in changes, and the other way round.
func TestNewMemory(t *testing.T) {
	eachSmall(func(records [][]string) {
		for _, maker := range makers {
			handed := roomy(records)
			answer := maker.call(handed)
			before := copied(answer)
			spoil(handed)
			if !same(answer, before) {
				t.Errorf("%s of %q: %q has become %q", maker.name, records, before, answer)
			}
			handed = roomy(records)
			spoil(maker.call(handed))
			if !same(handed, records) {
				t.Errorf("%s: %q has become %q", maker.name, records, handed)
			}
			for k, record := range handed {
				if !slices.Equal(record[:cap(record)][len(record):][:2], []string{"behind", "more"}) {
					t.Errorf("%s of %q: behind record %d stands %q", maker.name, records, k, record[:cap(record)][len(record):])
				}
			}
			// Nothing is kept for the next one either.
			if again := maker.call(handed); !same(again, before) {
				t.Errorf("%s of %q: %q, then %q", maker.name, records, before, again)
			}
		}
	})
}

// P9.5: no two records of an answer share memory, also where the same record was handed in twice.
func TestRecordsApart(t *testing.T) {
	one := []string{"a", "b"}
	short := one[:1]
	for _, records := range [][][]string{
		nil, {nil}, {nil, nil}, {one}, {one, one}, {one, one, one}, {one, short, one}, {short, short}, {short, one, nil, nil}, blank(3, 3), blank(2, 1), blank(1, 2),
	} {
		for _, maker := range makers {
			answer := maker.call(records)
			for k := range answer {
				before := copied(answer)
				list := answer[k][:cap(answer[k])]
				for at := range list {
					list[at] = "spoilt"
				}
				for other := range answer {
					if other != k && !slices.Equal(answer[other], before[other]) {
						t.Errorf("%s of %q: record %d has changed with record %d", maker.name, records, other, k)
					}
				}
			}
		}
	}
	if !slices.Equal(one, []string{"a", "b"}) {
		t.Errorf("%q", one)
	}
}

// P9.5: texts themselves are handed on as they are.
func TestTextsStay(t *testing.T) {
	for _, text := range []string{"a", " a ", "\xff\xfe", "\x00", "\u05d0\u202e\u0301", "\r\n", `"`, strings.Repeat("x", 3*api.MaxText)} {
		for _, maker := range makers {
			if l := maker.call([][]string{{text}}); !same(l, [][]string{{text}}) {
				t.Errorf("%s: %.40q has become %.40q", maker.name, text, l)
			}
		}
	}
}

// P9.6
func TestFilled(t *testing.T) {
	eachSmall(func(records [][]string) {
		for _, maker := range makers {
			l := maker.call(records)
			if !docMayBe(l) || Check(l) != api.OK {
				t.Errorf("%s of %q: %q may not be", maker.name, records, l)
			}
			isFilled(t, l, l)
		}
		isTrimmed(t, Trim(records), Trim(records))
		isTrimmed(t, Fill(records), Trim(records))
		isTrimmed(t, Trim(Turn(records)), Turn(Trim(records)))
	})
	// What may be need not fit.
	for _, records := range [][][]string{blank(25, 17), append(blank(30, 0), slices.Repeat([]string{"a"}, 20)), {{strings.Repeat("a", 1025)}}} {
		for _, maker := range makers {
			l := maker.call(records)
			if !docMayBe(l) || !same(Fill(l), l) {
				t.Errorf("%s: %d records, the first one of %d fields", maker.name, len(l), len(l[0]))
			}
		}
	}
}

// P9.7
func TestTurnedTwice(t *testing.T) {
	eachSmall(func(records [][]string) {
		turned := Turn(records)
		isTurned(t, turned, Fill(records))
		if high, wide := max(1, docWidth(records)), max(1, len(records)); len(turned) != high || len(turned[0]) != wide {
			t.Errorf("%q: %d records of %d fields", records, len(turned), len(turned[0]))
		}
		for row, record := range records {
			for col, field := range record {
				if turned[col][row] != field {
					t.Errorf("%q: at %d, %d stands %q", records, col, row, turned[col][row])
				}
			}
		}
	})
	// Larger than fits: each field stands in its column's record, at its record's place.
	var records [][]string
	for row := range 40 {
		var record []string
		for col := range row * 7 % 50 {
			record = append(record, placed(row, col))
		}
		records = append(records, record)
	}
	turned := Turn(records)
	for row, record := range Fill(records) {
		for col, field := range record {
			if turned[col][row] != field || field != "" && field != placed(row, col) {
				t.Errorf("at %d, %d: %q, and %q", row, col, field, turned[col][row])
			}
		}
	}
	isTurned(t, turned, Fill(records))
}
