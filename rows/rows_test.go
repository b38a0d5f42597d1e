package rows_test

import (
	"fmt"
	"slices"
	"strings"
	"testing"

	"cedilla/api"
	"cedilla/fault"
	"cedilla/rows"
)

// bare are fields 6 to 14, with ; ahead of each.
const bare = ";;;;;;;;;"

// row is a line of these fields, all others empty.
func row(code, name, class, mapping string) string {
	return code + ";" + name + ";;" + class + ";;" + mapping + bare
}

// first and end are the lines of a range.
func first(code, name string) string { return row(code, name+", First>", "0", "") }
func end(code, name string) string   { return row(code, name+", Last>", "0", "") }

func text(lines ...string) string { return strings.Join(lines, "\n") }

func same(a, b rows.Row) bool {
	return a.Code == b.Code && a.Class == b.Class && slices.Equal(a.Map, b.Map)
}

func checkRows(t *testing.T, what, s string, want []rows.Row) {
	t.Helper()
	got, err := rows.Parse(s)
	if err != nil || len(got) != len(want) {
		t.Errorf("%s: Parse(%.200q): %d rows, %v; want %d", what, s, len(got), err, len(want))
		return
	}
	for i := range want {
		if !same(got[i], want[i]) {
			t.Errorf("%s: Parse(%.200q): row %d: %v, want %v", what, s, i, got[i], want[i])
			return
		}
	}
}

func checkWrong(t *testing.T, what, s string, want fault.Fault) {
	t.Helper()
	got, err := rows.Parse(s)
	f, isFault := err.(*fault.Fault)
	if len(got) != 0 || !isFault || *f != want {
		t.Errorf("%s: Parse(%.200q): %d rows, %v; want %v", what, s, len(got), err, &want)
	}
}

// checkForm: a line that isn't as it should be is told with its note.
func checkForm(t *testing.T, s string, line int, note string) {
	t.Helper()
	checkWrong(t, "P9.1", s, fault.Fault{Code: api.ErrForm, Line: line, Note: note})
}

func TestParse(t *testing.T) {
	ring := rows.Row{Code: 0xC5, Map: []rune{0x41, 0x30A}}
	ringLine := "00C5;X;Lu;0;L;0041 030A;;;;N;;;;00E5;"
	for s, want := range map[string][]rows.Row{
		"":                                       nil,
		ringLine:                                 {ring},
		ringLine + "\n":                          {ring},
		row("0041", "A", "0", ""):                nil,
		row("0041", "A", "0", "") + "\n":         nil,
		row("0300", "X", "230", ""):              {{Code: 0x300, Class: 230}},
		row("0300", "X", "1", ""):                {{Code: 0x300, Class: 1}},
		row("0300", "X", "254", ""):              {{Code: 0x300, Class: 254}},
		row("0340", "X", "230", "0300"):          {{Code: 0x340, Class: 230, Map: []rune{0x300}}},
		row("0344", "X", "230", "0308 0301"):     {{Code: 0x344, Class: 230, Map: []rune{0x308, 0x301}}},
		row("212B", "X", "0", "00C5"):            {{Code: 0x212B, Map: []rune{0xC5}}},
		row("0000", "X", "0", "0000"):            {{Map: []rune{0}}},
		row("0000", "X", "0", ""):                nil,
		row("0000", "X", "7", ""):                {{Class: 7}},
		row("10FFFF", "X", "9", "10FFFF 10FFFF"): {{Code: 0x10FFFF, Class: 9, Map: []rune{0x10FFFF, 0x10FFFF}}},
		// That what a mapping names may be is asked by the layers above.
		row("0041", "X", "0", "0041"):      {{Code: 0x41, Map: []rune{0x41}}},
		row("0041", "X", "0", "D800 DFFF"): {{Code: 0x41, Map: []rune{0xD800, 0xDFFF}}},
		// What is mapped in another way isn't, but it has its class.
		row("00A8", "X", "0", "<compat> 0020 0308"): nil,
		row("00A8", "X", "0", "<"):                  nil,
		row("00A8", "X", "0", "<0020"):              nil,
		row("00A8", "X", "0", "< what, ever # 1"):   nil,
		row("00A8", "X", "5", "<compat> 0020"):      {{Code: 0xA8, Class: 5}},
		// Rows that say nothing stand between others.
		text(row("0041", "A", "0", ""), ringLine, row("00C6", "AE", "0", ""), row("0300", "X", "230", "")): {ring, {Code: 0x300, Class: 230}},
		text(ringLine, row("00C6", "X", "0", "0041"), row("10FFFF", "X", "1", "")) + "\n":                  {ring, {Code: 0xC6, Map: []rune{0x41}}, {Code: 0x10FFFF, Class: 1}},
	} {
		checkRows(t, "P9.1", s, want)
	}
}

func TestRanges(t *testing.T) {
	mark := row("0300", "X", "230", "")
	marked := []rows.Row{{Code: 0x300, Class: 230}}
	for s, want := range map[string][]rows.Row{
		text(first("AC00", "<Hangul Syllable"), end("D7A3", "<Hangul Syllable")):                   nil,
		text(first("AC00", "<Hangul Syllable"), end("D7A3", "<Hangul Syllable")) + "\n":            nil,
		text(first("0041", "<A"), end("0042", "<A"), mark):                                         marked,
		text(mark, first("0341", "<A"), end("10FFFF", "<A")):                                       marked,
		text(first("0041", ""), end("0042", ""), mark):                                             marked,
		text(first("0041", "<A"), end("0042", "<A"), first("0043", "<A"), end("0044", "<A")):       nil,
		text(first("0041", "<A"), end("0042", "<A"), first("0043", "<B"), end("0044", "<B"), mark): marked,
		text(first("D800", "<S"), end("DB7F", "<S")):                                               nil,
		text(first("0041", "<S"), end("D800", "<S")):                                               nil,
		text(first("DFFF", "<S"), end("E000", "<S")):                                               nil,
		// Ends of a range may map in another way, which is no mapping.
		text(row("0041", "<A, First>", "0", "<x>"), row("0042", "<A, Last>", "0", "<y>"), mark): marked,
		// Names that end otherwise begin and end no range.
		text(row("0041", "<A, First> ", "1", ""), mark):                                   {{Code: 0x41, Class: 1}, marked[0]},
		text(row("0041", "A, First", "1", ""), mark):                                      {{Code: 0x41, Class: 1}, marked[0]},
		text(row("0041", "<A,First>", "1", ""), mark):                                     {{Code: 0x41, Class: 1}, marked[0]},
		text(row("0041", "<A, first>", "1", ""), mark):                                    {{Code: 0x41, Class: 1}, marked[0]},
		text(row("0041", "<A, First>, x", "1", ""), row("0042", "<A, Last>, x", "2", "")): {{Code: 0x41, Class: 1}, {Code: 0x42, Class: 2}},
		text(row("0041", "First>", "1", ""), row("0042", "Last>", "2", "")):               {{Code: 0x41, Class: 1}, {Code: 0x42, Class: 2}},
		text(row("0041", "<A, Last", "1", ""), row("0042", " Last>", "2", "")):            {{Code: 0x41, Class: 1}, {Code: 0x42, Class: 2}},
		// What looks like a range's end inside a name is of the name.
		text(first("0041", "<A, Last>"), end("0042", "<A, Last>"), mark):   marked,
		text(first("0041", "<A, First>"), end("0042", "<A, First>"), mark): marked,
	} {
		checkRows(t, "P9.1", s, want)
	}
}

func TestRangesWrong(t *testing.T) {
	open := first("0041", "<A")
	for _, c := range []struct {
		s    string
		line int
	}{
		{open, 1},
		{open + "\n", 1},
		{text(row("0040", "X", "0", ""), open), 2},
		{text(open, end("0042", "<A"), first("0043", "<A")), 3},
		{text(open, row("0042", "X", "0", "")), 2},
		{text(open, row("0042", "<A", "0", "")), 2},
		{text(open, end("0042", "<B")), 2},
		{text(open, end("0042", "<A ")), 2},
		{text(open, end("0042", "<a")), 2},
		{text(open, end("0042", "")), 2},
		{text(open, end("0042", "<A, First>")), 2},
		{text(open, row("0042", "<A, Last> ", "0", "")), 2},
		{text(open, row("0042", "<A,Last>", "0", "")), 2},
		{text(open, first("0042", "<A"), end("0043", "<A")), 2},
		{text(open, row("0042", "X", "0", ""), end("0043", "<A")), 2},
		{text(open, end("0042", "<A"), end("0043", "<A")), 3},
		{end("0042", "<A"), 1},
		{end("0042", ""), 1},
		{text(row("0040", "X", "0", ""), end("0042", "<A"), open), 2},
		{text(row("0040", "<A", "0", ""), end("0042", "<A")), 2},
		// Both ends have class 0 and no mapping, each told at its own line.
		{text(row("0041", "<A, First>", "1", ""), end("0042", "<A")), 1},
		{text(row("0041", "<A, First>", "0", "0040"), end("0042", "<A")), 1},
		{text(row("0041", "<A, First>", "254", "0040 0040"), end("0042", "<A")), 1},
		{row("0041", "<A, First>", "1", ""), 1},
		{text(row("0041", "<A, First>", "1", ""), "x"), 1},
		{text(open, row("0042", "<A, Last>", "1", "")), 2},
		{text(open, row("0042", "<A, Last>", "0", "0040")), 2},
		{text(open, row("0042", "<A, Last>", "9", "0040")), 2},
		{row("0042", "<A, Last>", "9", "0040"), 1},
	} {
		checkForm(t, c.s, c.line, "range")
	}
	// What is wrong otherwise with the line behind a First is told ahead.
	checkForm(t, text(open, open, end("0042", "<A")), 2, "order")
	checkForm(t, text(open, "x"), 2, "fields")
	checkForm(t, text(open, "\n"), 2, "fields")
	checkForm(t, text(open, row("42", "<A, Last>", "0", "")), 2, "code")
	checkForm(t, text(open, row("0042", "", "0", "")), 2, "name")
	checkForm(t, text(open, row("0042", "<A, Last>", "", "")), 2, "class")
	checkForm(t, text(open, row("0042", "<A, Last>", "0", "x")), 2, "map")
	checkForm(t, text(open, end("0041", "<A")), 2, "order")
}

func TestParseWrong(t *testing.T) {
	for note, lines := range map[string][]string{
		"fields": {
			"x", " ", ";", "0041;X;;0;;;;;;;;;;", "0041;X;;0;;;;;;;;;;;;", "0041", "0041;X;;0;;;;;;;;;;;;;;;;;;;;;;;;;;", strings.Repeat(";", 13), strings.Repeat(";", 15), "# a note",
		},
		"code": {
			row("", "X", "0", ""), row("G", "X", "0", ""), row("41", "X", "0", ""), row("041", "X", "0", ""), row("00041", "X", "0", ""), row("000041", "X", "0", ""), row("00c5", "X", "0", ""), row("110000", "X", "0", ""),
			row("FFFFFF", "X", "0", ""), row("1000000", "X", "0", ""), row(" 0041", "X", "0", ""), row("0041 ", "X", "0", ""), row("0041 0042", "X", "0", ""), row("U+0041", "X", "0", ""), row("-0041", "X", "0", ""), row("#0041", "X", "0", ""), row("# 41", "X", "0", ""), strings.Repeat(";", 14),
		},
		"name": {row("0041", "", "0", ""), row("0041", "", "230", "0042")},
		"class": {
			row("0041", "X", "", ""), row("0041", "X", "255", ""), row("0041", "X", "256", ""), row("0041", "X", "1000", ""), row("0041", "X", "00", ""), row("0041", "X", "01", ""), row("0041", "X", "-1", ""), row("0041", "X", "+1", ""),
			row("0041", "X", " 0", ""), row("0041", "X", "0 ", ""), row("0041", "X", "A", ""), row("0041", "X", "1.0", ""), row("0041", "X", "18446744073709551616", ""), row("0041", "X", strings.Repeat("1", 900), ""),
		},
		"map": {
			row("0041", "X", "0", "0042 0043 0044"), row("0041", "X", "0", "x"), row("0041", "X", "0", " "), row("0041", "X", "0", " 0042"), row("0041", "X", "0", "0042 "), row("0041", "X", "0", "0042  0043"), row("0041", "X", "0", "0042,0043"),
			row("0041", "X", "0", "42"), row("0041", "X", "0", "00042"), row("0041", "X", "0", "00c5"), row("0041", "X", "0", "110000"), row("0041", "X", "0", "0042 110000"), row("0041", "X", "0", " <compat> 0042"), row("0041", "X", "0", "0042 <compat>"),
			row("0041", "X", "0", ">"), row("0041", "X", "0", "compat> 0042"), row("0041", "X", "0", strings.Repeat("0042 ", 100)+"0042"),
		},
		"range":     {first("0041", "<A"), end("0041", "<A"), row("D800", "<S, First>", "1", "")},
		"surrogate": {row("D800", "X", "1", ""), row("DFFF", "X", "254", ""), row("DABC", "X", "0", "0041"), row("DC00", "X", "0", "0041 030A"), row("DBFF", "X", "230", "D800")},
	} {
		for _, line := range lines {
			checkForm(t, line, 1, note)
			checkForm(t, line+"\n", 1, note)
			checkForm(t, text(row("0030", "X", "0", ""), row("0031", "X", "230", "0030"), line), 3, note)
			if note != "range" {
				checkForm(t, text(line, row("E000", "X", "0", "")), 1, note)
			}
		}
	}
	checkForm(t, "\n", 1, "fields")
	checkForm(t, row("0041", "X", "0", "")+"\n\n", 2, "fields")
}

func TestSurrogates(t *testing.T) {
	for c := rune(0xD700); c < 0xE100; c++ {
		code := fmt.Sprintf("%04X", c)
		is := c >= 0xD800 && c <= 0xDFFF
		checkRows(t, "P9.1", row(code, "X", "0", ""), nil)
		checkRows(t, "P9.1", row(code, "X", "0", "<compat> 0041"), nil)
		for _, want := range []rows.Row{{Code: c, Class: 3}, {Code: c, Map: []rune{0x41}}, {Code: c, Class: 3, Map: []rune{0x41, 0x42}}} {
			if s := rows.Line(want); is {
				checkForm(t, s, 1, "surrogate")
			} else {
				checkRows(t, "P9.1", s, []rows.Row{want})
			}
		}
	}
}

func TestOrder(t *testing.T) {
	codes := []string{"0000", "0001", "0041", "00FF", "0100", "0FFF", "1000", "D7FF", "D800", "DFFF", "E000", "FFFF", "10000", "FFFFF", "100000", "10FFFF"}
	for i, above := range codes {
		for j, code := range codes {
			s := text(row(above, "X", "0", ""), row(code, "Y", "0", ""))
			if j > i {
				checkRows(t, "P9.1", s, nil)
			} else {
				checkForm(t, s, 2, "order")
			}
		}
	}
	// A code is held against the line ahead, whatever that one says, and
	// not against lines further ahead alone.
	checkForm(t, text(row("0041", "X", "1", ""), row("0043", "X", "0", ""), row("0042", "X", "1", "")), 3, "order")
	checkForm(t, text(row("0041", "X", "0", ""), first("0043", "<A"), end("0045", "<A"), row("0044", "X", "0", "")), 4, "order")
	checkForm(t, text(row("0041", "X", "0", ""), first("0043", "<A"), end("0042", "<A")), 3, "order")
}

// TestNotesInOrder: of one line that is wrong in several ways the first is
// told.
func TestNotesInOrder(t *testing.T) {
	ahead := row("E000", "X", "0", "")
	for i, note := range []string{"fields", "code", "name", "class", "map", "order", "range", "surrogate"} {
		fields := []string{"G", "", "", "x", "", "x", "", "", "", "", "", "", "", "", "", ""}
		if i > 0 {
			fields = fields[:15]
		}
		if i > 1 {
			fields[0] = "D800"
		}
		if i > 2 {
			fields[1] = "<A, Last>"
		}
		if i > 3 {
			fields[3] = "9"
		}
		if i > 4 {
			fields[5] = "0041"
		}
		if i > 5 {
			ahead = row("0041", "X", "0", "")
		}
		if i > 6 {
			fields[1] = "A"
		}
		checkForm(t, text(ahead, strings.Join(fields, ";")), 2, note)
	}
}

// TestOtherFields: they may be anything that a line may have.
func TestOtherFields(t *testing.T) {
	want := []rows.Row{{Code: 0xC5, Class: 7, Map: []rune{0x41, 0x30A}}}
	fields := strings.Split(row("00C5", "X", "7", "0041 030A"), ";")
	for i := range fields {
		if i == 0 || i == 3 || i == 5 {
			continue
		}
		for b := range 256 {
			if b == ';' || b == '\n' {
				continue
			}
			other := slices.Clone(fields)
			other[i] = "a" + string([]byte{byte(b)})
			if s := strings.Join(other, ";"); b < 32 || b > 126 {
				checkWrong(t, "P9.1", s, fault.Fault{Code: api.ErrForm, Line: 1, Note: "line"})
			} else {
				checkRows(t, "P9.1", s, want)
			}
		}
	}
	checkRows(t, "P9.1", row("00C5", "<control>", "7", "0041 030A"), want)
	checkRows(t, "P9.1", row("00C5", " ", "7", "0041 030A"), want)
	checkRows(t, "P9.1", row("00C5", "# X", "7", "0041 030A")+" # note", want)
}

// TestLines: what is wrong with a line as such is told ahead of all else.
func TestLines(t *testing.T) {
	long := row("0041", strings.Repeat("X", 1000-len(row("0041", "", "0", ""))), "0", "")
	checkRows(t, "P9.1", long, nil)
	checkWrong(t, "P9.1", long+"X", fault.Fault{Code: api.ErrBig, Line: 1, Note: "line"})
	checkWrong(t, "P9.1", text("x", "y", "\t"), fault.Fault{Code: api.ErrForm, Line: 3, Note: "line"})
	checkWrong(t, "P9.1", text("x", long+"X", "\t"), fault.Fault{Code: api.ErrBig, Line: 2, Note: "line"})
	checkWrong(t, "P9.1", row("0041", "X", "0", "")+"\r\n", fault.Fault{Code: api.ErrForm, Line: 1, Note: "line"})
	checkWrong(t, "P9.1", row("00C5", "\u00c5", "0", ""), fault.Fault{Code: api.ErrForm, Line: 1, Note: "line"})
	checkWrong(t, "P9.1", "\xff", fault.Fault{Code: api.ErrForm, Line: 1, Note: "line"})
}

// rising are so many rows, from a code on, that all say something.
func rising(from rune, count int) []rows.Row {
	var out []rows.Row
	for c := from; len(out) < count && c <= 0x10FFFF; c++ {
		if c >= 0xD800 && c <= 0xDFFF {
			continue
		}
		r := rows.Row{Code: c, Class: int(c) % 255}
		for i := range (int(c)/3 + 1) % 3 {
			r.Map = append(r.Map, rune((int(c)*7919+i*31)%0x110000))
		}
		if r.Class > 0 || len(r.Map) > 0 {
			out = append(out, r)
		}
	}
	return out
}

func linesOf(l []rows.Row) []string {
	var out []string
	for _, r := range l {
		out = append(out, rows.Line(r))
	}
	return out
}

func TestMaxRows(t *testing.T) {
	most := rising(0, 40000)
	lines := linesOf(most)
	checkRows(t, "P9.1", text(lines...), most)
	checkRows(t, "P9.1", text(lines...)+"\n", most)
	tooMany := fault.Fault{Code: api.ErrBig, Line: 40001, Note: "rows"}
	checkWrong(t, "P9.1", text(lines...)+"\n\n", tooMany)
	checkWrong(t, "P9.1", text(append(lines, row("10FFFF", "X", "0", ""))...), tooMany)
	// Lines that say nothing, and those that are wrong, count too.
	checkWrong(t, "P9.1", strings.Repeat("x\n", 40001), tooMany)
	checkWrong(t, "P9.1", strings.Repeat("\n", 40001), tooMany)
	checkWrong(t, "P9.1", strings.Repeat("\n", 100000), tooMany)
	checkWrong(t, "P9.1", text(append([]string{first("0041", "<A")}, lines...)...), tooMany)
	checkForm(t, strings.Repeat("x\n", 40000), 1, "fields")
	checkForm(t, text(append(lines[:39999:39999], row("10FFFF", "<A, First>", "0", ""))...), 40000, "range")
	checkWrong(t, "P9.1", strings.Repeat("x\n", 50000)+"\t", fault.Fault{Code: api.ErrForm, Line: 50001, Note: "line"})
	checkWrong(t, "P9.1", strings.Repeat("x\n", 50000)+strings.Repeat("x", 1001), fault.Fault{Code: api.ErrBig, Line: 50001, Note: "line"})
}

func TestLine(t *testing.T) {
	for want, r := range map[string]rows.Row{
		"00C5;X;;0;;0041 030A;;;;;;;;;":     {Code: 0xC5, Map: []rune{0x41, 0x30A}},
		"0300;X;;230;;;;;;;;;;;":            {Code: 0x300, Class: 230},
		"0340;X;;230;;0300;;;;;;;;;":        {Code: 0x340, Class: 230, Map: []rune{0x300}},
		"0000;X;;254;;0000 0000;;;;;;;;;":   {Class: 254, Map: []rune{0, 0}},
		"1D15E;X;;0;;1D157 1D165;;;;;;;;;":  {Code: 0x1D15E, Map: []rune{0x1D157, 0x1D165}},
		"10FFFF;X;;1;;10FFFF D800;;;;;;;;;": {Code: 0x10FFFF, Class: 1, Map: []rune{0x10FFFF, 0xD800}},
		"FFFF;X;;0;;FFFE 10000;;;;;;;;;":    {Code: 0xFFFF, Map: []rune{0xFFFE, 0x10000}},
	} {
		if got := rows.Line(r); got != want {
			t.Errorf("P9.2: Line(%v): %q, want %q", r, got, want)
		}
	}
}

// TestLineOfOthers: of rows that Parse doesn't answer Line answers, too, and
// changes none.
func TestLineOfOthers(t *testing.T) {
	long := slices.Repeat([]rune{0x41}, 100000)
	for _, r := range []rows.Row{
		{}, {Map: []rune{}}, {Code: -1}, {Code: -1 << 31}, {Code: 1<<31 - 1}, {Code: 0x110000}, {Code: 0xD800, Class: 5},
		{Class: -1}, {Class: -1 << 63}, {Class: 1<<63 - 1}, {Class: 255}, {Map: []rune{-1, 1<<31 - 1, -1 << 31}}, {Map: []rune{0xD800, 0x110000}}, {Map: long},
	} {
		before := slices.Clone(r.Map)
		if first, second := rows.Line(r), rows.Line(r); first != second || !slices.Equal(r.Map, before) {
			t.Errorf("P9.2: Line(%d, %d, %.40v): %.40q, %.40q", r.Code, r.Class, r.Map, first, second)
		}
	}
}

func TestThereAndBack(t *testing.T) {
	checkRows(t, "P9.2", text(linesOf(nil)...), nil)
	for from := rune(0); from <= 0x10FFFF; {
		want := rising(from, 40000)
		checkRows(t, "P9.2", text(linesOf(want)...), want)
		from = want[len(want)-1].Code + 1
	}
	var classes []rows.Row
	for class := range 255 {
		for size := range 3 {
			r := rows.Row{Code: rune(0x1000 + len(classes)), Class: class, Map: slices.Repeat([]rune{0x41}, size)}
			if class > 0 || size > 0 {
				classes = append(classes, r)
			}
		}
	}
	checkRows(t, "P9.2", text(linesOf(classes)...), classes)
}

func TestMemory(t *testing.T) {
	s := text(row("0041", "X", "0", "0042 0043"), row("0044", "X", "0", "0045 0046"), row("0047", "X", "0", "0048"))
	want := []rows.Row{{Code: 0x41, Map: []rune{0x42, 0x43}}, {Code: 0x44, Map: []rune{0x45, 0x46}}, {Code: 0x47, Map: []rune{0x48}}}
	for i := range want {
		got, _ := rows.Parse(s)
		other, _ := rows.Parse(s)
		spare := got[i].Map[:cap(got[i].Map)]
		clear(spare)
		got[i].Map = want[i].Map
		if !slices.EqualFunc(got, want, same) || !slices.EqualFunc(other, want, same) {
			t.Errorf("P9.1: answers share memory: %v, %v", got, other)
		}
		clear(got)
		if !slices.EqualFunc(other, want, same) {
			t.Errorf("P9.1: lists of two answers share memory: %v", other)
		}
	}
}
