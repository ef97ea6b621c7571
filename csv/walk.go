package csv

import (
	"strings"

	"parquetry/api"
)

// end stands behind a text's last byte, and is no byte.
const end = -1

// walk goes through a text, and calls behind each of its fields: with the field as it is written, and whether its record ends with it.
// Fields ahead of the place at which a text is spoilt are told, too: who asks forgets them with the error.
func walk(s string, behind func(written string, last bool)) (at int, e api.Errno) {
	if len(s) > api.MaxBytes {
		return 0, api.ErrLong
	}
	from := 0
field:
	from = at
	if byteAt(s, at) == '"' {
		goto quoted
	}
bare:
	if isBare(byteAt(s, at)) {
		at++
		goto bare
	}
	goto ended
quoted:
	at++
	switch byteAt(s, at) {
	case '"':
		goto closed
	case end:
		return at, api.ErrForm
	}
	goto quoted
closed:
	// It may be the first one of two, and the field goes on.
	at++
	if byteAt(s, at) == '"' {
		goto quoted
	}
ended:
	switch byteAt(s, at) {
	case ',':
		behind(s[from:at], false)
		at++
		goto field
	case '\r':
		goto broken
	case end:
		behind(s[from:at], true)
		return 0, api.OK
	}
	return at, api.ErrForm
broken:
	if byteAt(s, at+1) != '\n' {
		return at + 1, api.ErrForm
	}
	behind(s[from:at], true)
	at += len("\r\n")
	// At the text's end the two belong to the record ahead of them: no further one begins.
	if byteAt(s, at) != end {
		goto field
	}
	return 0, api.OK
}

func byteAt(s string, at int) int {
	if at >= len(s) {
		return end
	}
	return int(s[at])
}

// isBare answers whether a byte may stand in a field without quotes.
func isBare(b int) bool {
	switch b {
	case '"', ',', '\r', '\n', end:
		return false
	}
	return true
}

// text answers the text of a field as it is written: a bare one never begins with a quote.
func text(written string) string {
	if byteAt(written, 0) != '"' {
		return written
	}
	return strings.ReplaceAll(written[1:len(written)-1], `""`, `"`)
}
