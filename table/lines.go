package table

// lines are a table's rows, or its columns.
type lines interface {
	count() int
	line(at int) []string
}

// made answers a table with a record of each line.
func made(l lines) [][]string {
	records := make([][]string, l.count())
	for at := range records {
		records[at] = l.line(at)
	}
	return records
}

// listed answers so many fields, in new memory.
func listed(count int, field func(at int) string) []string {
	fields := make([]string, count)
	for at := range fields {
		fields[at] = field(at)
	}
	return fields
}

// rows are records as if they were filled.
type rows struct {
	records [][]string
	width   int
}

func look(records [][]string) rows {
	return rows{records, Width(records)}
}

func (r rows) high() int {
	return max(1, len(r.records))
}

func (r rows) wide() int {
	return max(1, r.width)
}

func (r rows) field(row, col int) string {
	if row < len(r.records) && col < len(r.records[row]) {
		return r.records[row][col]
	}
	return ""
}

func (r rows) count() int {
	return r.high()
}

func (r rows) line(at int) []string {
	return listed(r.wide(), func(col int) string { return r.field(at, col) })
}

// columns are rows, turned round.
type columns struct{ rows }

func (c columns) count() int {
	return c.wide()
}

func (c columns) line(at int) []string {
	return listed(c.high(), func(row int) string { return c.field(row, at) })
}
