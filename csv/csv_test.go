package csv

import (
	"regexp"
	"slices"
	"strings"
	"testing"

	"parquetry/api"
)

// The chapter's words as a grammar: what a text of records is.
var docText = func() *regexp.Regexp {
	const field = `(?:[^",\r\n]*|"(?:[^"]|"")*")`
	const record = field + `(?:,` + field + `)*`
	return regexp.MustCompile(`\A` + record + `(?:\r\n` + record + `)*(?:\r\n)?\z`)
}()

// signs are those that the chapter names, and one other byte.
const signs = "\",\r\na"

// eachText calls look with all texts of up to so many of the signs.
func eachText(most int, look func(s string)) {
	var grow func(ahead string)
	grow = func(ahead string) {
		look(ahead)
		if len(ahead) == most {
			return
		}
		for _, sign := range signs {
			grow(ahead + string(sign))
		}
	}
	grow("")
}

// docGoesOn answers whether a short text of the signs can go on, by trying all that could stand behind it.
func docGoesOn(s string) bool {
	goesOn := false
	eachText(2, func(tail string) { goesOn = goesOn || docText.MatchString(s+tail) })
	return goesOn
}

// docSpoilt answers the place at which a text that is no text of records is spoilt.
func docSpoilt(s string, goesOn func(s string) bool) int {
	at := 0
	for at < len(s) && goesOn(s[:at+1]) {
		at++
	}
	return at
}

// docRecords answers the records of a text of records: outside of quotes an even number of them stands ahead.
func docRecords(s string) [][]string {
	fields := func(line string) []string {
		var texts []string
		for _, written := range outside(line, ",") {
			if strings.HasPrefix(written, `"`) {
				written = strings.TrimSuffix(strings.TrimPrefix(written, `"`), `"`)
			}
			texts = append(texts, strings.Join(strings.Split(written, `""`), `"`))
		}
		return texts
	}
	lines := outside(s, "\r\n")
	if len(lines) > 1 && lines[len(lines)-1] == "" {
		lines = lines[:len(lines)-1]
	}
	var records [][]string
	for _, line := range lines {
		records = append(records, fields(line))
	}
	return records
}

// outside parts a text where a mark stands with an even number of quotes ahead.
func outside(s, mark string) []string {
	var parts []string
	part := ""
	for k, piece := range strings.Split(s, mark) {
		if k > 0 && strings.Count(part, `"`)%2 == 1 {
			part += mark + piece
			continue
		}
		if k > 0 {
			parts = append(parts, part)
		}
		part = piece
	}
	return append(parts, part)
}

func same(a, b [][]string) bool {
	return slices.EqualFunc(a, b, slices.Equal)
}

// isParsed holds what is answered of a text of records against those.
func isParsed(t *testing.T, s string, want [][]string) {
	t.Helper()
	records, at, e := Parse(s)
	if !same(records, want) || at != 0 || e != api.OK {
		t.Errorf("%.40q: %.80q, %d, %v, not %.80q", s, records, at, e, want)
	}
	fields := 0
	for _, record := range want {
		fields += len(record)
	}
	if n, m := Count(s); n != len(want) || m != fields {
		t.Errorf("%.40q: %d and %d, not %d and %d", s, n, m, len(want), fields)
	}
}

// isRefused holds what is answered of another text against its place and error.
func isRefused(t *testing.T, s string, place int, errno api.Errno) {
	t.Helper()
	if records, at, e := Parse(s); records != nil || at != place || e != errno {
		t.Errorf("%.40q: %.80q, %d, %v, not %d, %v", s, records, at, e, place, errno)
	}
	if n, m := Count(s); n != 0 || m != 0 {
		t.Errorf("%.40q: %d and %d of no text of records", s, n, m)
	}
}

// P7.1, P7.2
func TestRecords(t *testing.T) {
	for _, x := range []struct {
		text string
		want [][]string
	}{
		{"a,b\r\nc", [][]string{{"a", "b"}, {"c"}}},
		{"\"x \"\"y\"\", \r\nz\",", [][]string{{"x \"y\", \r\nz", ""}}},
		{"", [][]string{{""}}}, {"\r\n", [][]string{{""}}}, {"\r\n\r\n", [][]string{{""}, {""}}}, {"\r\n\r\n\r\n", [][]string{{""}, {""}, {""}}},
		{"a", [][]string{{"a"}}}, {"a\r\n", [][]string{{"a"}}}, {"a\r\n\r\n", [][]string{{"a"}, {""}}}, {"\r\na", [][]string{{""}, {"a"}}}, {"\r\n\r\na\r\n", [][]string{{""}, {""}, {"a"}}},
		{",", [][]string{{"", ""}}}, {",,", [][]string{{"", "", ""}}}, {",\r\n", [][]string{{"", ""}}}, {",\r\n,", [][]string{{"", ""}, {"", ""}}}, {"a,\r\n,b\r\n", [][]string{{"a", ""}, {"", "b"}}},
		{`""`, [][]string{{""}}}, {"\"\"\r\n", [][]string{{""}}}, {`"",""`, [][]string{{"", ""}}}, {"\"\"\r\n\"\"", [][]string{{""}, {""}}}, {`"",`, [][]string{{"", ""}}}, {`,""`, [][]string{{"", ""}}},
		{`""""`, [][]string{{`"`}}}, {`""""""`, [][]string{{`""`}}}, {`"""a"`, [][]string{{`"a`}}}, {`"a"""`, [][]string{{`a"`}}}, {`"""a"""`, [][]string{{`"a"`}}}, {`"a""b""c"`, [][]string{{`a"b"c`}}}, {`"a""""b"`, [][]string{{`a""b`}}},
		{`","`, [][]string{{","}}}, {`"a,b",c`, [][]string{{"a,b", "c"}}}, {`a,"b,c"`, [][]string{{"a", "b,c"}}}, {`""","""`, [][]string{{`","`}}}, {`"""",""""`, [][]string{{`"`, `"`}}},
		{"\"\r\"", [][]string{{"\r"}}}, {"\"\n\"", [][]string{{"\n"}}}, {"\"\r\n\"", [][]string{{"\r\n"}}}, {"\"\n\r\"", [][]string{{"\n\r"}}}, {"\"\r\n\r\n\"\r\n", [][]string{{"\r\n\r\n"}}}, {"\"a\r\n\"\"b\"\r\n\"\n\"", [][]string{{"a\r\n\"b"}, {"\n"}}},
		{" a , b ", [][]string{{" a ", " b "}}}, {" ", [][]string{{" "}}}, {"\t,\x00", [][]string{{"\t", "\x00"}}}, {"\xff,\"\xfe\xff\"", [][]string{{"\xff", "\xfe\xff"}}}, {"\u05d0,é\r\n\"\u4e00\"\"\"", [][]string{{"\u05d0", "é"}, {"\u4e00\""}}},
		{"\ufeffa,b", [][]string{{"\ufeffa", "b"}}}, {"'a','b'", [][]string{{"'a'", "'b'"}}}, {`\,a`, [][]string{{`\`, "a"}}}, {"a;b\u2028c", [][]string{{"a;b\u2028c"}}},
		{"a,b,c\r\nd\r\ne,f", [][]string{{"a", "b", "c"}, {"d"}, {"e", "f"}}},
	} {
		isParsed(t, x.text, x.want)
		if !docText.MatchString(x.text) || !same(docRecords(x.text), x.want) {
			t.Errorf("%q: the test's own words say %q", x.text, docRecords(x.text))
		}
	}
}

// P7.1, P7.2
func TestSpoilt(t *testing.T) {
	for _, x := range []struct {
		text string
		at   int
	}{
		{`a"b`, 1}, {`"a"b`, 3}, {`"a`, 2}, {"a\r", 2}, {"a\nb", 1}, {"a\rb", 2},
		// A quote inside a bare field.
		{`a"`, 1}, {` "a"`, 1}, {`a,b"`, 3}, {"a\r\nb\"c\"", 4}, {`a""`, 1}, {`,a"`, 2}, {`ab"c`, 2}, {`"","",a""`, 7},
		// A byte behind a closing quote.
		{`""a`, 2}, {`"" `, 2}, {`"a" ,`, 3}, {`"a""b"c`, 6}, {`"""a"b`, 5}, {"\"\"\n", 2}, {"\"\"\x00", 2}, {"a,\"b\"\xff", 5}, {"\"\"\"\"a", 4}, {"\"\"\"\"\n", 4},
		// CR without LF.
		{"\ra", 1}, {"\r,", 1}, {"\r\"", 1}, {"\r\r\n", 1}, {"a,\rb", 3}, {"\"\"\r,", 3}, {"\"a\"\r\"", 4}, {"a\r\n\rb", 4}, {"a\r\r\n", 2}, {"\r\n\r\n\r\r", 5},
		// CR at the end.
		{"\r", 1}, {"\r\n\r", 3}, {",\r", 2}, {"\"\"\r", 3}, {"\"a\"\r", 4}, {"a,b\r", 4},
		// LF without CR.
		{"\n", 0}, {"a\n", 1}, {",\n", 1}, {"\r\n\n", 2}, {"\n\r", 0}, {"a\n\r\n", 1}, {"a,b\r\nc\nd", 6}, {"\"\"\n\r", 2},
		// Quotes that are never closed.
		{`"`, 1}, {`"""`, 3}, {`a,"`, 3}, {`"a""`, 4}, {`a,"b""`, 6}, {"\"\r\n", 3}, {"\"a,b\r\nc", 7}, {"\"\",\"", 4}, {"\"\"\r\n\"", 5}, {`"""""`, 5}, {`"\`, 2},
		// Of many faults the first one.
		{"a\"\n\r\"", 1}, {"\"a\"b\"c", 3}, {"\na\"b", 0}, {"\r\"\n", 1},
	} {
		isRefused(t, x.text, x.at, api.ErrForm)
	}
}

// P7.1, P7.2: each byte, where it is a text's, and where it spoils.
func TestEachByte(t *testing.T) {
	for b := range 256 {
		s := string([]byte{byte(b)})
		if !strings.Contains("\",\r\n", s) {
			for _, x := range []string{"", "a", "ab", "\xff"} {
				isParsed(t, s+x, [][]string{{s + x}})
				isParsed(t, x+s, [][]string{{x + s}})
				isParsed(t, x+","+s+x+"\r\n"+s, [][]string{{x, s + x}, {s}})
			}
		}
		if s != `"` {
			isParsed(t, `"`+s+`"`, [][]string{{s}})
			isParsed(t, `"a`+s+s+`""",b`, [][]string{{"a" + s + s + `"`, "b"}})
			isRefused(t, `a,"`+s, 4, api.ErrForm)
		}
		if !strings.Contains("\",\r", s) {
			isRefused(t, `""`+s, 2, api.ErrForm)
			isRefused(t, "a,\"b\"\"\""+s+"\r\n", 7, api.ErrForm)
		}
		if s != "\n" {
			isRefused(t, "\r"+s, 1, api.ErrForm)
			isRefused(t, "a,\"b\"\r"+s+"\n", 6, api.ErrForm)
		}
	}
}

// P7.1, P7.2: records put together of fields whose texts are known.
func TestTablesOfFields(t *testing.T) {
	written := []string{"", "a", " b\xff", `""`, `"c"`, `"""d"","`, "\"\r\ne\""}
	texts := []string{"", "a", " b\xff", "", "c", `"d",`, "\r\ne"}
	n := len(written)
	for shape := range 8 {
		for k := range n * n * n * n {
			at := []int{k % n, k / n % n, k / n / n % n, k / n / n / n}
			text, records := written[at[0]], [][]string{{texts[at[0]]}}
			for place, which := range at[1:] {
				if shape>>place&1 == 1 {
					text += "\r\n"
					records = append(records, nil)
				} else {
					text += ","
				}
				text += written[which]
				last := len(records) - 1
				records[last] = append(records[last], texts[which])
			}
			if !strings.HasSuffix(text, "\r\n") {
				isParsed(t, text, records)
			}
			isParsed(t, text+"\r\n", records)
		}
	}
}

// P7.1, P7.2: all short texts out of the signs.
func TestShortTexts(t *testing.T) {
	const most = 7
	known := map[string]bool{}
	goesOn := func(s string) bool {
		answer, ok := known[s]
		if !ok {
			answer = docGoesOn(s)
			known[s] = answer
		}
		return answer
	}
	n := 0
	eachText(most, func(s string) {
		n++
		if docText.MatchString(s) {
			isParsed(t, s, docRecords(s))
			return
		}
		isRefused(t, s, docSpoilt(s, goesOn), api.ErrForm)
	})
	if n != (5*5*5*5*5*5*5*5-1)/4 {
		t.Errorf("%d short texts", n)
	}
}

// P7.1, P7.2: ErrLong ahead of ErrForm, and just as many bytes as may be.
func TestLongTexts(t *testing.T) {
	fill := func(sign string) string { return strings.Repeat(sign, api.MaxBytes)[:api.MaxBytes] }
	for _, x := range []struct {
		text string
		want [][]string
	}{
		{fill("a"), [][]string{{fill("a")}}},
		{fill(","), [][]string{make([]string, api.MaxBytes+1)}},
		{fill("\r\n"), slices.Repeat([][]string{{""}}, api.MaxBytes/2)},
		{fill("\r\n")[:api.MaxBytes-2] + "a,", append(slices.Repeat([][]string{{""}}, api.MaxBytes/2-1), []string{"a", ""})},
		{fill(`"`), [][]string{{fill(`"`)[:api.MaxBytes/2-1]}}},
		{`"` + fill("\n")[:api.MaxBytes-2] + `"`, [][]string{{fill("\n")[:api.MaxBytes-2]}}},
		{fill("ab,\"c\"\r\n"), slices.Repeat([][]string{{"ab", "c"}}, api.MaxBytes/8)},
	} {
		isParsed(t, x.text, x.want)
		for _, more := range []string{"a", ",", `"`, "\r", "\n", "\x00"} {
			isRefused(t, x.text+more, 0, api.ErrLong)
			isRefused(t, more+x.text, 0, api.ErrLong)
		}
		isRefused(t, x.text+x.text, 0, api.ErrLong)
	}
	most := api.MaxBytes
	isRefused(t, fill("a")[1:]+`"`, most-1, api.ErrForm)
	isRefused(t, fill("a")[1:]+"\n", most-1, api.ErrForm)
	isRefused(t, fill("a")[1:]+"\r", most, api.ErrForm)
	isRefused(t, `"`+fill("a")[1:], most, api.ErrForm)
	isRefused(t, `"`+fill(`"`)[2:], most-1, api.ErrForm)
	isRefused(t, `""`+fill(`a`)[2:], 2, api.ErrForm)
	isRefused(t, "\n"+fill("a"), 0, api.ErrLong)
	isRefused(t, `a"`+fill("a"), 0, api.ErrLong)
}

// spoil writes into all that records have, and behind their ends.
func spoil(records [][]string) {
	for _, record := range records {
		for k := range record[:cap(record)] {
			record[:cap(record)][k] = "spoilt"
		}
	}
	clear(records[:cap(records)])
}

// P7.3
func TestNewMemory(t *testing.T) {
	eachText(5, func(s string) {
		records, _, _ := Parse(s)
		spoil(records)
		if docText.MatchString(s) {
			isParsed(t, s, docRecords(s))
		}
	})
	const text = "a,\"b\"\r\nc\r\n\"d\"\"\",e,f\r\n\r\n"
	want := docRecords(text)
	for k := range want {
		records, _, _ := Parse(text)
		spoil(records[k : k+1 : k+1])
		// The others have nothing of the memory that was written into.
		for other := range want {
			if other != k && !slices.Equal(records[other], want[other]) {
				t.Errorf("record %d: %q, when %d was written into", other, records[other], k)
			}
		}
	}
}

// P7.4
func TestFirst(t *testing.T) {
	behind := []string{"", `"`, "\n", "\r", "\r\n", ",", "a", "\"\"", "\"\r\n", "\xff,\"a\"\r\n"}
	eachText(6, func(s string) {
		_, at, e := Parse(s)
		if e == api.OK {
			return
		}
		goesOn := false
		for _, tail := range []string{"", `"`, "\n"} {
			_, _, e := Parse(s[:at] + tail)
			goesOn = goesOn || e == api.OK
		}
		if !goesOn {
			t.Errorf("%q: spoilt ahead of %d", s, at)
		}
		if at == len(s) {
			return
		}
		for _, tail := range behind {
			isRefused(t, s[:at+1]+tail, at, api.ErrForm)
		}
	})
}

// P7.5
func TestOneBehindTheOther(t *testing.T) {
	var texts []string
	eachText(4, func(s string) {
		if docText.MatchString(s) {
			texts = append(texts, s)
		}
	})
	for _, first := range texts {
		if strings.HasSuffix(first, "\r\n") {
			continue
		}
		ahead, _, _ := Parse(first)
		for _, second := range texts {
			if second != "" {
				behind, _, _ := Parse(second)
				isParsed(t, first+"\r\n"+second, slices.Concat(ahead, behind))
			}
		}
	}
}
