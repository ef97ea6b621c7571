package quote

import (
	"slices"
	"strings"
	"testing"

	"parquetry/api"
	"parquetry/csv"
)

// signs are those that the chapter names, and one other byte.
const signs = "\",\r\na"

// eachText calls look with all texts of up to so many of the signs.
func eachText(most int, look func(s string)) {
	var grow func(ahead string)
	grow = func(ahead string) {
		look(ahead)
		if len(ahead) == most {
			return
		}
		for _, sign := range signs {
			grow(ahead + string(sign))
		}
	}
	grow("")
}

// eachRecords calls look with all records that have so many fields together, each of up to so many of the signs.
func eachRecords(fields, most int, look func(records [][]string)) {
	var texts []string
	eachText(most, func(s string) { texts = append(texts, s) })
	var grow func(ahead [][]string, left int)
	grow = func(ahead [][]string, left int) {
		if left == 0 {
			look(ahead)
			return
		}
		for _, s := range texts {
			grow(append(slices.Clip(ahead), []string{s}), left-1)
			if last := len(ahead) - 1; last >= 0 {
				grow(append(slices.Clip(ahead[:last]), append(slices.Clip(ahead[last]), s)), left-1)
			}
		}
	}
	grow(nil, fields)
}

// eachSmall calls look with all small records.
func eachSmall(look func(records [][]string)) {
	for _, x := range []struct{ fields, most int }{{1, 5}, {2, 3}, {3, 2}, {4, 1}, {5, 1}} {
		eachRecords(x.fields, x.most, look)
	}
}

// docField answers, byte by byte, how the chapter's words write a field.
func docField(s string) string {
	var written []byte
	quotes := false
	for k := range len(s) {
		switch s[k] {
		case '"':
			written = append(written, '"')
			quotes = true
		case ',', 0x0d, 0x0a:
			quotes = true
		}
		written = append(written, s[k])
	}
	if quotes {
		return `"` + string(written) + `"`
	}
	return string(written)
}

// docText answers the records' text by the chapter's words.
func docText(records [][]string) string {
	var text []byte
	for _, record := range records {
		for k, field := range record {
			if k > 0 {
				text = append(text, ',')
			}
			text = append(text, docField(field)...)
		}
		text = append(text, 0x0d, 0x0a)
	}
	return string(text)
}

func same(a, b [][]string) bool {
	return slices.EqualFunc(a, b, slices.Equal)
}

func isPrinted(t *testing.T, records [][]string, want string) {
	t.Helper()
	if s, e := Print(records...); s != want || e != api.OK {
		t.Errorf("%.80q: %.80q (%d bytes), %v, not %.80q (%d bytes)", records, s, len(s), e, want, len(want))
	}
}

func isNotPrinted(t *testing.T, records [][]string, errno api.Errno) {
	t.Helper()
	if s, e := Print(records...); s != "" || e != errno {
		t.Errorf("%d records: %.80q, %v, not %v", len(records), s, e, errno)
	}
}

func isTidied(t *testing.T, s, want string) {
	t.Helper()
	if text, at, e := Tidy(s); text != want || at != 0 || e != api.OK {
		t.Errorf("%.80q: %.80q (%d bytes), %d, %v, not %.80q (%d bytes)", s, text, len(text), at, e, want, len(want))
	}
}

func isNotTidied(t *testing.T, s string, place int, errno api.Errno) {
	t.Helper()
	if text, at, e := Tidy(s); text != "" || at != place || e != errno {
		t.Errorf("%.80q (%d bytes): %.80q, %d, %v, not %d, %v", s, len(s), text, at, e, place, errno)
	}
}

// P8.1
func TestField(t *testing.T) {
	for _, x := range []struct{ text, want string }{
		{"a b", "a b"}, {"a,b", `"a,b"`}, {`x "y"`, `"x ""y"""`}, {"", ""},
		// One of the four, alone, ahead, between and behind.
		{`"`, `""""`}, {`"a`, `"""a"`}, {`a"b`, `"a""b"`}, {`a"`, `"a"""`},
		{",", `","`}, {",a", `",a"`}, {"a,", `"a,"`},
		{"\r", "\"\r\""}, {"\ra", "\"\ra\""}, {"a\rb", "\"a\rb\""}, {"a\r", "\"a\r\""},
		{"\n", "\"\n\""}, {"\na", "\"\na\""}, {"a\nb", "\"a\nb\""}, {"a\n", "\"a\n\""},
		// Several of them.
		{"\r\n", "\"\r\n\""}, {"\n\r", "\"\n\r\""}, {",,", `",,"`}, {"\",\r\na", "\"\"\",\r\na\""}, {"a\r\nb,\"c\"", "\"a\r\nb,\"\"c\"\"\""}, {`,"`, `","""`},
		// Quotes alone.
		{`""`, `""""""`}, {`"""`, `""""""""`}, {strings.Repeat(`"`, 1000), strings.Repeat(`"`, 2002)},
		// What else may mark fields elsewhere needs no quotes here.
		{" ", " "}, {" a ", " a "}, {"a;b\tc", "a;b\tc"}, {"'a'", "'a'"}, {`\`, `\`}, {`a\nb`, `a\nb`}, {"\x00", "\x00"}, {"\v\f\x1e\x1f", "\v\f\x1e\x1f"}, {"#a=1", "#a=1"},
		{"\u0085\u2028\u2029", "\u0085\u2028\u2029"}, {"\u201ca\u201d\uff0c\uff02\u060c", "\u201ca\u201d\uff0c\uff02\u060c"}, {"\ufeffa", "\ufeffa"},
		{"\u05d0\u05d1,\u4e00", "\"\u05d0\u05d1,\u4e00\""},
		// Odd bytes, and code points whose numbers end as the four do.
		{"\xff", "\xff"}, {"\xff\"\xfe", "\"\xff\"\"\xfe\""}, {"\xc0\xac", "\xc0\xac"}, {"\xe4,", "\"\xe4,\""}, {"\xf0\x9f\n", "\"\xf0\x9f\n\""}, {"\u0122\u012c\u010d\u010a", "\u0122\u012c\u010d\u010a"},
	} {
		if f := Field(x.text); f != x.want {
			t.Errorf("%.40q: %.80q, not %.80q", x.text, f, x.want)
		}
		if f := docField(x.text); f != x.want {
			t.Errorf("%.40q: the test's own words say %.80q", x.text, f)
		}
	}
}

// P8.1
func TestEachByte(t *testing.T) {
	for b := range 256 {
		s := string([]byte{byte(b)})
		want := s
		switch s {
		case `"`:
			want = `""""`
		case ",", "\r", "\n":
			want = `"` + s + `"`
		}
		if f := Field(s); f != want {
			t.Errorf("%q: %q, not %q", s, f, want)
		}
		for _, x := range []string{"a", "ab\xff", strings.Repeat("\u05d0", 40), `"`, "\r\n,"} {
			for _, text := range []string{s + x, x + s, x + s + x, s + x + s} {
				if f := Field(text); f != docField(text) {
					t.Errorf("%q: %q, not %q", text, f, docField(text))
				}
			}
		}
	}
}

// P8.1
func TestShortFields(t *testing.T) {
	eachText(7, func(s string) {
		if f := Field(s); f != docField(s) {
			t.Errorf("%q: %q, not %q", s, f, docField(s))
		}
	})
}

// P8.1: a field has no limit of its own.
func TestLongFields(t *testing.T) {
	for _, sign := range signs {
		s := strings.Repeat(string(sign), 3*api.MaxBytes)
		for _, text := range []string{s, s + "a", s + `"`, "," + s} {
			if f := Field(text); f != docField(text) {
				t.Errorf("%.10q: %d bytes, not %d", text, len(f), len(docField(text)))
			}
		}
	}
}

// P8.2
func TestPrint(t *testing.T) {
	for _, x := range []struct {
		records [][]string
		want    string
	}{
		{[][]string{{"a", "b"}, {"c"}}, "a,b\r\nc\r\n"},
		{[][]string{{""}}, "\r\n"}, {[][]string{{""}, {""}}, "\r\n\r\n"}, {[][]string{{"", ""}}, ",\r\n"}, {[][]string{{"", "", ""}, {""}, {"", ""}}, ",,\r\n\r\n,\r\n"},
		{[][]string{{"a"}}, "a\r\n"}, {[][]string{{"a", ""}}, "a,\r\n"}, {[][]string{{"", "a"}}, ",a\r\n"}, {[][]string{{""}, {"a"}}, "\r\na\r\n"}, {[][]string{{"a"}, {""}}, "a\r\n\r\n"},
		{[][]string{{"a", "b", "c", "d"}}, "a,b,c,d\r\n"}, {[][]string{{"a"}, {"b"}, {"c"}, {"d"}}, "a\r\nb\r\nc\r\nd\r\n"}, {[][]string{{"a", "b"}, {"c", "d"}, {"e", "f"}}, "a,b\r\nc,d\r\ne,f\r\n"},
		{[][]string{{`x "y"`, "1,2"}, {"\r\n", "é"}}, "\"x \"\"y\"\"\",\"1,2\"\r\n\"\r\n\",é\r\n"},
		{[][]string{{`"`}, {`""`, `"`}}, "\"\"\"\"\r\n\"\"\"\"\"\",\"\"\"\"\r\n"}, {[][]string{{",", ","}, {"\n"}, {"\r", "\xff"}}, "\",\",\",\"\r\n\"\n\"\r\n\"\r\",\xff\r\n"},
	} {
		isPrinted(t, x.records, x.want)
		if text := docText(x.records); text != x.want {
			t.Errorf("%q: the test's own words say %q", x.records, text)
		}
	}
	eachSmall(func(records [][]string) { isPrinted(t, records, docText(records)) })
}

// P8.2
func TestNotWritten(t *testing.T) {
	isNotPrinted(t, nil, api.ErrArg)
	isNotPrinted(t, [][]string{}, api.ErrArg)
	if s, e := Print(); s != "" || e != api.ErrArg {
		t.Errorf("none: %q, %v", s, e)
	}
	for _, none := range [][]string{nil, {}, make([]string, 0, 4)} {
		isNotPrinted(t, [][]string{none}, api.ErrArg)
		isNotPrinted(t, [][]string{none, none}, api.ErrArg)
		for count := 1; count <= 5; count++ {
			for at := range count {
				records := slices.Repeat([][]string{{"a", ""}}, count)
				records[at] = none
				isNotPrinted(t, records, api.ErrArg)
			}
		}
		// Too long as well: ErrArg stands ahead of ErrLong.
		long := []string{strings.Repeat("a", 2*api.MaxBytes)}
		isNotPrinted(t, [][]string{none, long}, api.ErrArg)
		isNotPrinted(t, [][]string{long, none}, api.ErrArg)
		isNotPrinted(t, [][]string{long, none, long}, api.ErrArg)
		isNotPrinted(t, append(slices.Repeat([][]string{{""}}, api.MaxBytes), none), api.ErrArg)
		isNotPrinted(t, append([][]string{none}, slices.Repeat([][]string{{""}}, api.MaxBytes)...), api.ErrArg)
	}
}

// P8.2
func TestLongest(t *testing.T) {
	fill := func(sign string, size int) string { return strings.Repeat(sign, size/len(sign)) }
	most := api.MaxBytes
	if most != 65536 {
		t.Errorf("MaxBytes: %d", most)
	}
	for _, records := range [][][]string{
		{{fill("a", most-2)}},
		{{fill("\xff", most-2)}},
		{{fill("a", most-5), "bc"}},
		{{"", fill("a", most-3)}},
		{{fill("a", most-3), ""}},
		{{fill("a", 1000)}, {fill("b", most-1004)}},
		{{""}, {fill("b", most-4)}},
		{{fill("b", most-4)}, {""}},
		// In quotes.
		{{fill(",", most-4)}},
		{{fill("\r\n", most-4)}},
		{{fill(`"`, (most-4)/2)}},
		{{fill("a", most-7) + ",bc"}},
		{{`"` + fill("a", most-6)}},
		{{fill("a", most-6) + `"`}},
		{{fill("a", 30000), fill(`"`, 10000)}, {fill("\n", most-30000-1-20002-2-4)}},
		// Many.
		{make([]string, most-1)},
		slices.Repeat([][]string{{""}}, most/2),
		slices.Repeat([][]string{{"ab", `"`, ""}}, most/10)[:most/10-1],
		slices.Repeat([][]string{{"ab", ",c"}}, most/9)[:most/9-1],
	} {
		want := docText(records)
		// What is short of the most, and may be, is filled.
		if short := most - len(want); short > 2 {
			records = append(records, []string{fill("z", short-2)})
			want = docText(records)
		}
		if len(want) != most {
			t.Errorf("%.80q: the test's own records have %d bytes", records, len(want))
		}
		isPrinted(t, records, want)
		// One byte more, in each place in turn.
		last := len(records) - 1
		for _, record := range []int{0, last} {
			for _, field := range []int{0, len(records[record]) - 1} {
				longer := slices.Clone(records)
				longer[record] = slices.Clone(records[record])
				longer[record][field] += "a"
				isNotPrinted(t, longer, api.ErrLong)
				longer[record][field] = "a" + records[record][field]
				isNotPrinted(t, longer, api.ErrLong)
			}
			longer := slices.Clone(records)
			longer[record] = append(slices.Clip(records[record]), "")
			isNotPrinted(t, longer, api.ErrLong)
		}
		isNotPrinted(t, append(slices.Clip(records), []string{""}), api.ErrLong)
		isNotPrinted(t, append([][]string{{""}}, records...), api.ErrLong)
	}
	// What would not be too long, if no quotes were needed.
	isNotPrinted(t, [][]string{{fill("a", most-3) + ","}}, api.ErrLong)
	isNotPrinted(t, [][]string{{fill("a", most-4) + "\n"}}, api.ErrLong)
	isNotPrinted(t, [][]string{{fill("a", most-5) + `"`}}, api.ErrLong)
	isNotPrinted(t, [][]string{{fill(`"`, (most-4)/2+1)}}, api.ErrLong)
	isNotPrinted(t, [][]string{{fill(`"`, most-4)}}, api.ErrLong)
	isNotPrinted(t, [][]string{{fill("a", most-1)}}, api.ErrLong)
	isNotPrinted(t, [][]string{{fill("a", most)}}, api.ErrLong)
	isNotPrinted(t, [][]string{make([]string, most)}, api.ErrLong)
	isNotPrinted(t, slices.Repeat([][]string{{""}}, most/2+1), api.ErrLong)
	// Far too long, and never put together.
	isNotPrinted(t, slices.Repeat([][]string{{fill("a", most)}}, 1<<16), api.ErrLong)
	isNotPrinted(t, [][]string{slices.Repeat([]string{fill(`"`, most)}, 1<<16)}, api.ErrLong)
}

// P8.3
func TestTidy(t *testing.T) {
	for _, x := range []struct{ text, want string }{
		{`"a",b`, "a,b\r\n"},
		{"", "\r\n"}, {"\r\n", "\r\n"}, {"\r\n\r\n", "\r\n\r\n"}, {",", ",\r\n"}, {",\r\n", ",\r\n"}, {"a", "a\r\n"}, {"a\r\n", "a\r\n"}, {"a\r\n\r\n", "a\r\n\r\n"}, {"\r\na", "\r\na\r\n"},
		{"a,b\r\nc", "a,b\r\nc\r\n"}, {"a,b\r\nc\r\n", "a,b\r\nc\r\n"},
		// Quotes that nothing needs.
		{`""`, "\r\n"}, {"\"\"\r\n", "\r\n"}, {`"",""`, ",\r\n"}, {"\"\"\r\n\"\"", "\r\n\r\n"}, {`"a"`, "a\r\n"}, {"\"a\"\r\n", "a\r\n"}, {`" "," a"`, " , a\r\n"}, {"\"\xff\",\"\u05d0\"", "\xff,\u05d0\r\n"}, {"\"a\",\"b\"\r\n\"c\",\"d\"\r\n", "a,b\r\nc,d\r\n"},
		// Quotes that something needs.
		{`""""`, "\"\"\"\"\r\n"}, {`","`, "\",\"\r\n"}, {"\"\r\"", "\"\r\"\r\n"}, {"\"\n\"", "\"\n\"\r\n"}, {"\"\r\n\"", "\"\r\n\"\r\n"}, {"\"\r\n\"\r\n", "\"\r\n\"\r\n"},
		{"\"x \"\"y\"\", \r\nz\",\"\"", "\"x \"\"y\"\", \r\nz\",\r\n"}, {"a\r\n\"\"\"\",\"b\"", "a\r\n\"\"\"\",b\r\n"},
	} {
		isTidied(t, x.text, x.want)
	}
	for _, x := range []struct {
		text string
		at   int
	}{
		{`a"b`, 1}, {`"a"b`, 3}, {`"a`, 2}, {"a\r", 2}, {"a\nb", 1}, {"a\rb", 2}, {"\n", 0}, {`"`, 1}, {"a,b\r\nc\"", 6}, {"\"\"\"", 3}, {"\r\n\r", 3}, {"\"a\",b\r\n\"c\"d", 10},
	} {
		isNotTidied(t, x.text, x.at, api.ErrForm)
	}
	eachText(6, func(s string) {
		records, at, e := csv.Parse(s)
		if e != api.OK {
			isNotTidied(t, s, at, e)
			return
		}
		isTidied(t, s, docText(records))
	})
}

// P8.3
func TestTidyOfLongTexts(t *testing.T) {
	fill := func(sign string) string { return strings.Repeat(sign, api.MaxBytes)[:api.MaxBytes] }
	most := api.MaxBytes
	// Too long as they are handed in, even if their records' text were not.
	isNotTidied(t, fill("a")+"a", 0, api.ErrLong)
	isNotTidied(t, `"`+fill("a")[:most-4]+"\"\r\n\r", 0, api.ErrLong)
	isNotTidied(t, strings.Repeat(`"",`, most/2), 0, api.ErrLong)
	isNotTidied(t, fill(`a"`)+`"`, 0, api.ErrLong)
	isNotTidied(t, "\n"+fill("a"), 0, api.ErrLong)
	// No longer than may be, but with the CR LF that is missing.
	isNotTidied(t, fill("a"), 0, api.ErrLong)
	isNotTidied(t, fill("a")[1:], 0, api.ErrLong)
	isNotTidied(t, fill(","), 0, api.ErrLong)
	isNotTidied(t, fill("\r\n")[:most-2]+`,,`, 0, api.ErrLong)
	isNotTidied(t, fill(`"`), 0, api.ErrLong)
	isNotTidied(t, `"`+fill(",")[2:]+`"`, 0, api.ErrLong)
	isNotTidied(t, `"`+fill("\n")[3:]+`"`, 0, api.ErrLong)
	// Just as long as may be.
	isTidied(t, fill("a")[2:], fill("a")[2:]+"\r\n")
	isTidied(t, fill("a")[2:]+"\r\n", fill("a")[2:]+"\r\n")
	isTidied(t, fill(",")[2:], fill(",")[2:]+"\r\n")
	isTidied(t, fill("\r\n"), fill("\r\n"))
	isTidied(t, `"`+fill("a")[2:]+`"`, fill("a")[2:]+"\r\n")
	isTidied(t, `"`+fill(",")[4:]+`"`, `"`+fill(",")[4:]+"\"\r\n")
	isTidied(t, fill(`"`)[2:], fill(`"`)[2:]+"\r\n")
	// Spoilt, where it may not be too long.
	isNotTidied(t, fill("a")[1:]+`"`, most-1, api.ErrForm)
	isNotTidied(t, `"`+fill("a")[1:], most, api.ErrForm)
}

// P8.4
func TestStays(t *testing.T) {
	eachRecords(3, 1, func(records [][]string) {
		// Behind the ends lies something, too.
		wide := make([][]string, 0, len(records)+2)
		for _, record := range records {
			wide = append(wide, append(slices.Clone(record), "behind", "\"")[:len(record)])
		}
		before := append(wide, []string{"behind"}, nil)
		handed := before[:len(records)]
		kept := slices.Clone(before)
		first, _ := Print(handed...)
		for k, record := range before[:cap(before)] {
			if len(record) != len(kept[k]) || len(record) > 0 && &record[0] != &kept[k][0] {
				t.Errorf("%q: record %d is another one", records, k)
			}
		}
		for k, record := range records {
			if !slices.Equal(handed[k][:len(record)+2], append(slices.Clip(record), "behind", "\"")) {
				t.Errorf("%q: record %d has become %q", records, k, handed[k][:len(record)+2])
			}
		}
		if second, _ := Print(handed...); second != first || first != docText(records) {
			t.Errorf("%q: %q, and %q", records, first, second)
		}
	})
}

// P8.4: what was answered stays, too, when the records change.
func TestKeepsNothing(t *testing.T) {
	records := [][]string{{"a", "b,"}, {`"`}}
	text, _ := Print(records...)
	records[0][1] = "spoilt"
	records[1] = nil
	if text != "a,\"b,\"\r\n\"\"\"\"\r\n" {
		t.Errorf("%q", text)
	}
	isNotPrinted(t, records, api.ErrArg)
	records[1] = []string{""}
	isPrinted(t, records, "a,spoilt\r\n\r\n")
}

// P8.5
func TestThereAndBack(t *testing.T) {
	seen := map[string][][]string{}
	eachSmall(func(records [][]string) {
		text, e := Print(records...)
		if e != api.OK {
			t.Errorf("%q: %v", records, e)
		}
		if back, at, e := csv.Parse(text); !same(back, records) || at != 0 || e != api.OK {
			t.Errorf("%q: parsed as %q, %d, %v", records, back, at, e)
		}
		if other, ok := seen[text]; ok && !same(other, records) {
			t.Errorf("%q and %q are both printed as %q", other, records, text)
		}
		seen[text] = records
	})
	for _, records := range [][][]string{
		{{strings.Repeat("a", api.MaxBytes-2)}}, {{strings.Repeat(`"`, api.MaxBytes/2-2)}}, {make([]string, api.MaxBytes-1)}, slices.Repeat([][]string{{""}}, api.MaxBytes/2),
	} {
		text, _ := Print(records...)
		if back, at, e := csv.Parse(text); !same(back, records) || at != 0 || e != api.OK {
			t.Errorf("%.80q: %d records, %d, %v", records, len(back), at, e)
		}
	}
}

// P8.6
func TestTidyStays(t *testing.T) {
	tidied := 0
	eachText(6, func(s string) {
		text, _, e := Tidy(s)
		if e != api.OK {
			return
		}
		tidied++
		isTidied(t, text, text)
		records, _, _ := csv.Parse(s)
		if again, at, e := csv.Parse(text); !same(again, records) || at != 0 || e != api.OK {
			t.Errorf("%q: %q, parsed as %q, not %q", s, text, again, records)
		}
	})
	if tidied < 100 {
		t.Errorf("%d texts of records", tidied)
	}
}
