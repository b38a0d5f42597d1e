package rows_test

import (
	"regexp"
	"slices"
	"strconv"
	"strings"
	"testing"

	"cedilla/api"
	"cedilla/fault"
	"cedilla/rows"
)

// The forms of what stands in a line, and of a line that is one, as such.
var (
	codeForm  = regexp.MustCompile(`^([0-9A-F]{4}|[1-9A-F][0-9A-F]{4}|10[0-9A-F]{4})$`)
	classForm = regexp.MustCompile(`^(0|[1-9][0-9]?|1[0-9][0-9]|2[0-4][0-9]|25[0-4])$`)
	lineForm  = regexp.MustCompile(`^[ -~]*$`)
)

func plainCode(s string) rune {
	n, _ := strconv.ParseInt(s, 16, 32)
	return rune(n)
}

// plainRow reads a line whose fields are right.
func plainRow(line string) rows.Row {
	fields := strings.Split(line, ";")
	class, _ := strconv.Atoi(fields[3])
	r := rows.Row{Code: plainCode(fields[0]), Class: class}
	if fields[5] != "" && fields[5][0] != '<' {
		for _, code := range strings.Split(fields[5], " ") {
			r.Map = append(r.Map, plainCode(code))
		}
	}
	return r
}

func plainName(lines []string, i int) string {
	if i < 0 || i >= len(lines) {
		return ""
	}
	return strings.Split(lines[i], ";")[1]
}

// plainNote says what is wrong with a line among others, of which those ahead
// are right.
func plainNote(lines []string, i int) string {
	fields := strings.Split(lines[i], ";")
	if len(fields) != 15 {
		return "fields"
	}
	if !codeForm.MatchString(fields[0]) {
		return "code"
	}
	if fields[1] == "" {
		return "name"
	}
	if !classForm.MatchString(fields[3]) {
		return "class"
	}
	if fields[5] != "" && fields[5][0] != '<' {
		codes := strings.Split(fields[5], " ")
		if len(codes) > 2 || slices.ContainsFunc(codes, func(code string) bool { return !codeForm.MatchString(code) }) {
			return "map"
		}
	}
	r := plainRow(lines[i])
	if i > 0 && r.Code <= plainRow(lines[i-1]).Code {
		return "order"
	}
	if !plainRange(lines, i, r) {
		return "range"
	}
	if r.Code >= 0xD800 && r.Code <= 0xDFFF && (r.Class != 0 || r.Map != nil) {
		return "surrogate"
	}
	return ""
}

// plainRange: is there no line's fault of ranges to be told at line i?
func plainRange(lines []string, i int, r rows.Row) bool {
	name, above := plainName(lines, i), plainName(lines, i-1)
	isFirst, isLast := strings.HasSuffix(name, ", First>"), strings.HasSuffix(name, ", Last>")
	wantsLast := strings.HasSuffix(above, ", First>")
	if (isFirst || isLast) && (r.Class != 0 || r.Map != nil) {
		return false
	}
	if isFirst && i == len(lines)-1 {
		return false
	}
	if wantsLast {
		return name == strings.TrimSuffix(above, "First>")+"Last>"
	}
	return !isLast
}

func plainLine(line string) api.Errno {
	if len(line) > 1000 {
		return api.ErrBig
	}
	if !lineForm.MatchString(line) {
		return api.ErrForm
	}
	return api.OK
}

// plainParse answers what Parse should, line by line, each of which is looked
// at for itself, and with the one ahead.
func plainParse(s string) ([]rows.Row, fault.Fault) {
	var lines []string
	if s != "" {
		lines = strings.Split(strings.TrimSuffix(s, "\n"), "\n")
	}
	for i, line := range lines {
		if e := plainLine(line); e != api.OK {
			return nil, fault.Fault{Code: e, Line: i + 1, Note: "line"}
		}
	}
	if len(lines) > 40000 {
		return nil, fault.Fault{Code: api.ErrBig, Line: 40001, Note: "rows"}
	}
	var out []rows.Row
	for i := range lines {
		if note := plainNote(lines, i); note != "" {
			return nil, fault.Fault{Code: api.ErrForm, Line: i + 1, Note: note}
		}
		if r := plainRow(lines[i]); r.Class != 0 || r.Map != nil {
			out = append(out, r)
		}
	}
	return out, fault.Fault{}
}

func checkPlain(t *testing.T, s string) {
	t.Helper()
	want, wrong := plainParse(s)
	if wrong.Code != api.OK {
		checkWrong(t, "P9.1", s, wrong)
		return
	}
	checkRows(t, "P9.1", s, want)
	if len(want) > 0 {
		checkRows(t, "P9.2", text(linesOf(want)...), want)
	}
}

// kinds are lines that tell in all ways, of codes that rise and fall.
func kinds() []string {
	return []string{
		"", "x", "\t", bare + ";;;;;",
		row("41", "X", "0", ""), row("0041", "", "0", ""), row("0041", "X", "255", ""), row("0041", "X", "0", "41"),
		row("0041", "X", "0", ""), row("0042", "X", "7", ""), row("0043", "X", "0", "0041"), row("0043", "X", "9", "0041 0042"), row("0043", "X", "0", "<x> 1"),
		row("D800", "X", "0", ""), row("D800", "X", "1", ""), row("DFFF", "X", "0", "0041"), row("E000", "X", "1", ""),
		first("0041", "<A"), first("0042", "<A"), first("D800", "<B"), end("0042", "<A"), end("0043", "<A"), end("DFFF", "<B"), end("E000", "<A"),
		row("0041", "<A, First>", "3", ""), row("0043", "<A, Last>", "3", ""), row("0043", "<A, Last>", "0", "0041"), row("D801", "<A, Last>", "1", ""),
	}
}

// TestShortTables: all tables of up to three of these lines.
func TestShortTables(t *testing.T) {
	checkPlain(t, "")
	for _, a := range kinds() {
		checkPlain(t, a)
		checkPlain(t, a+"\n")
		for _, b := range kinds() {
			checkPlain(t, text(a, b))
			checkPlain(t, text(a, b)+"\n")
			for _, c := range kinds() {
				checkPlain(t, text(a, b, c))
			}
		}
	}
}

// TestOneByteOff: a table in which one byte is another one, is missing, or is
// there twice.
func TestOneByteOff(t *testing.T) {
	s := text(row("00C5", "X", "0", "0041 030A"), row("0300", "Y", "230", ""), first("D7FF", "<A"), end("D800", "<A"), row("10FFFF", "Z", "254", "<x> 1")) + "\n"
	checkPlain(t, s)
	for i := range s {
		checkPlain(t, s[:i])
		checkPlain(t, s[i:])
		checkPlain(t, s[:i]+s[i+1:])
		checkPlain(t, s[:i]+s[i:i+1]+s[i:])
		for b := range 256 {
			checkPlain(t, s[:i]+string([]byte{byte(b)})+s[i+1:])
		}
	}
}

func FuzzParse(f *testing.F) {
	for _, kind := range kinds() {
		f.Add(kind, row("0044", "X", "1", ""))
	}
	f.Add(text(first("0041", "<A"), end("0042", "<A")), row("0043", "X", "0", "0041 0042"))
	f.Fuzz(func(t *testing.T, a, b string) {
		checkPlain(t, a)
		checkPlain(t, text(a, b))
	})
}
