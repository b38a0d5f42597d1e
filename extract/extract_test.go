package extract_test

import (
	"cmp"
	"fmt"
	"slices"
	"strconv"
	"strings"
	"testing"

	"cedilla/excl"
	"cedilla/extract"
	"cedilla/hangul"
	"cedilla/rows"
	"cedilla/ucd"
	"cedilla/utf"
)

// listed is what the chapter lists: code, class, mapping; ; between rows.
const listed = "" +
	"00C0 0 0041 0300; 00C1 0 0041 0301; 00C2 0 0041 0302; 00C3 0 0041 0303; 00C4 0 0041 0308; 00C5 0 0041 030A; 00C7 0 0043 0327; 00C8 0 0045 0300; " +
	"00C9 0 0045 0301; 00CA 0 0045 0302; 00CB 0 0045 0308; 00D1 0 004E 0303; 00D6 0 004F 0308; 00DC 0 0055 0308; 00E0 0 0061 0300; 00E1 0 0061 0301; " +
	"00E2 0 0061 0302; 00E4 0 0061 0308; 00E5 0 0061 030A; 00E7 0 0063 0327; 00E9 0 0065 0301; 00EA 0 0065 0302; 00F1 0 006E 0303; 00F4 0 006F 0302; " +
	"00F6 0 006F 0308; 00FC 0 0075 0308; 0102 0 0041 0306; 0103 0 0061 0306; 015A 0 0053 0301; 015B 0 0073 0301; 015E 0 0053 0327; 01D5 0 00DC 0304; " +
	"01D7 0 00DC 0301; 01DE 0 00C4 0304; 01FA 0 00C5 0301; 0300 230; 0301 230; 0302 230; 0303 230; 0304 230; 0306 230; 0307 230; 0308 230; 030A 230; " +
	"0313 230; 031B 216; 0323 220; 0327 202; 0328 202; 0331 220; 0338 1; 0340 230 0300; 0341 230 0301; 0343 230 0313; 0344 230 0308 0301; 0345 240; " +
	"0374 0 02B9; 037E 0 003B; 0385 0 00A8 0301; 0387 0 00B7; 03AC 0 03B1 0301; 03AE 0 03B7 0301; 05B4 14; 05B7 17; 0929 0 0928 093C; 0931 0 0930 093C; " +
	"0934 0 0933 093C; 093C 7; 094D 9; 0958 0 0915 093C; 0959 0 0916 093C; 09CB 0 09C7 09BE; 09CC 0 09C7 09D7; 0F71 129; 0F72 130; 0F73 0 0F71 0F72; " +
	"0F74 132; 0F75 0 0F71 0F74; 0F76 0 0FB2 0F80; 0F80 130; 0F81 0 0F71 0F80; 1E08 0 00C7 0301; 1E0A 0 0044 0307; 1E0B 0 0064 0307; 1E0C 0 0044 0323; " +
	"1E0D 0 0064 0323; 1E60 0 0053 0307; 1E61 0 0073 0307; 1E62 0 0053 0323; 1E63 0 0073 0323; 1E64 0 015A 0307; 1E65 0 015B 0307; 1E68 0 1E62 0307; " +
	"1E69 0 1E63 0307; 1E9B 0 017F 0307; 1EA0 0 0041 0323; 1EA1 0 0061 0323; 1EAC 0 1EA0 0302; 1EAD 0 1EA1 0302; 1EB6 0 1EA0 0306; 1EB7 0 1EA1 0306; " +
	"2000 0 2002; 2001 0 2003; 2126 0 03A9; 212A 0 004B; 212B 0 00C5; 2260 0 003D 0338; 226E 0 003C 0338; 2ADC 0 2ADD 0338; 304C 0 304B 3099; " +
	"3070 0 306F 3099; 3071 0 306F 309A; 3099 8; 309A 8; F900 0 8C48; FB1D 0 05D9 05B4; FB1F 0 05F2 05B7; 1109A 0 11099 110BA; 110BA 7; 1D15E 0 1D157 1D165; " +
	"1D165 216"

var excluded = []rune{0x958, 0x959, 0x2ADC, 0xFB1D, 0xFB1F, 0x1D15E}

func code(t *testing.T, s string) rune {
	t.Helper()
	n, err := strconv.ParseInt(s, 16, 32)
	if err != nil {
		t.Fatalf("%q is no code", s)
	}
	return rune(n)
}

// listedRows are the rows of the chapter.
func listedRows(t *testing.T) []rows.Row {
	t.Helper()
	var l []rows.Row
	for _, s := range strings.Split(listed, "; ") {
		words := strings.Fields(s)
		class, err := strconv.Atoi(words[1])
		if err != nil {
			t.Fatalf("%q is no class", words[1])
		}
		r := rows.Row{Code: code(t, words[0]), Class: class}
		for _, w := range words[2:] {
			r.Map = append(r.Map, code(t, w))
		}
		l = append(l, r)
	}
	return l
}

// wantLines are the lines of the chapter, those of its ranges too.
func wantLines(t *testing.T) []string {
	t.Helper()
	var lines []string
	for _, s := range strings.Split(listed, "; ") {
		words := strings.Fields(s)
		lines = append(lines, fmt.Sprintf("%s;X;;%s;;%s;;;;;;;;;", words[0], words[1], strings.Join(words[2:], " ")))
	}
	lines = append(lines,
		"AC00;<Hangul Syllable, First>;;0;;;;;;;;;;;",
		"D7A3;<Hangul Syllable, Last>;;0;;;;;;;;;;;",
		"D800;<Non Private Use High Surrogate, First>;;0;;;;;;;;;;;",
		"DB7F;<Non Private Use High Surrogate, Last>;;0;;;;;;;;;;;",
		"E000;<Private Use, First>;;0;;;;;;;;;;;",
		"F8FF;<Private Use, Last>;;0;;;;;;;;;;;")
	number := func(line string) rune {
		before, _, _ := strings.Cut(line, ";")
		return code(t, before)
	}
	slices.SortFunc(lines, func(a, b string) int { return cmp.Compare(number(a), number(b)) })
	return lines
}

func sameRow(a, b rows.Row) bool {
	return a.Code == b.Code && a.Class == b.Class && slices.Equal(a.Map, b.Map)
}

func data(t *testing.T) *ucd.Data {
	t.Helper()
	d := extract.Data()
	if d == nil {
		t.Fatalf("P15.1: it doesn't load")
	}
	return d
}

// TestNamed: what the chapter itself tells.
func TestNamed(t *testing.T) {
	if got := data(t).Full(0x1E69); !slices.Equal(got, []rune{0x73, 0x323, 0x307}) {
		t.Errorf("P15.1: Full(1E69): %x", got)
	}
}

// TestRows: the text, line by line.
func TestRows(t *testing.T) {
	want := wantLines(t)
	if len(want) != 127 {
		t.Fatalf("%d lines are wanted", len(want))
	}
	got, ended := strings.CutSuffix(extract.Rows(), "\n")
	if !ended {
		t.Errorf("P15.1: Rows: the last line has no end")
	}
	lines := strings.Split(got, "\n")
	if len(lines) != len(want) {
		t.Errorf("P15.1: Rows: %d lines, want %d", len(lines), len(want))
	}
	for i := range min(len(lines), len(want)) {
		if lines[i] != want[i] {
			t.Fatalf("P15.1: Rows: line %d: %q, want %q", i+1, lines[i], want[i])
		}
	}
}

func TestExcl(t *testing.T) {
	if got, want := extract.Excl(), "0958\n0959\n2ADC\nFB1D\nFB1F\n1D15E\n"; got != want {
		t.Errorf("P15.1: Excl: %q, want %q", got, want)
	}
}

// TestRead: both texts are read as what the chapter lists.
func TestRead(t *testing.T) {
	l, err := rows.Parse(extract.Rows())
	if want := listedRows(t); err != nil || !slices.EqualFunc(l, want, sameRow) {
		t.Errorf("P15.1: rows.Parse(Rows): %v, %v; want %v", l, err, want)
	}
	s, err := excl.Parse(extract.Excl())
	if err != nil || !slices.Equal(s.Chars(), excluded) {
		t.Errorf("P15.1: excl.Parse(Excl): %x, %v", s.Chars(), err)
	}
	if d, err := ucd.Load(extract.Rows(), extract.Excl()); err != nil || d == nil {
		t.Errorf("P15.1: ucd.Load: %v", err)
	}
}

// TestData: what is loaded is what is listed.
func TestData(t *testing.T) {
	d, want := data(t), listedRows(t)
	tb := d.Table()
	if !slices.EqualFunc(tb.Rows, want, sameRow) || !slices.Equal(tb.Excl.Chars(), excluded) {
		t.Errorf("P15.1: Table: %v, %x", tb.Rows, tb.Excl.Chars())
	}
	says := map[rune]rows.Row{}
	for _, r := range want {
		says[r.Code] = r
	}
	for c := rune(-1); c <= 0x110000; c++ {
		if r := says[c]; hangul.Of(c) == hangul.None && (d.Class(c) != r.Class || !slices.Equal(d.Map(c), r.Map)) {
			t.Errorf("P15.1: of %x: %d, %x; want %v", c, d.Class(c), d.Map(c), r)
		}
	}
	if n := d.Mapped().Count() - 11172; n != 92 {
		t.Errorf("P15.1: %d characters have a mapping, beside the syllables", n)
	}
}

// TestPrimary: those that aren't composed, for whatever reason.
func TestPrimary(t *testing.T) {
	d := data(t)
	var got []rune
	for _, r := range listedRows(t) {
		if len(r.Map) > 0 && !d.Primary(r.Code) {
			got = append(got, r.Code)
		}
	}
	want := []rune{0x340, 0x341, 0x343, 0x344, 0x374, 0x37E, 0x387, 0x958, 0x959, 0xF73, 0xF75, 0xF81, 0x2000, 0x2001, 0x2126, 0x212A, 0x212B, 0x2ADC, 0xF900, 0xFB1D, 0xFB1F, 0x1D15E}
	if !slices.Equal(got, want) {
		t.Errorf("P15.1: no primary composites: %x, want %x", got, want)
	}
}

// TestAngstrom: the texts that are alike to 212B, of all that might be.
func TestAngstrom(t *testing.T) {
	d := data(t)
	full := []rune{0x41, 0x30A}
	if got := d.Full(0x212B); !slices.Equal(got, full) {
		t.Fatalf("P15.2: Full(212B): %x", got)
	}
	texts := [][]rune{full}
	for c := range rune(0x110000) {
		if utf.Is(c) && slices.Equal(d.Full(c), full) {
			texts = append(texts, []rune{c})
		}
	}
	if got := fmt.Sprintf("%04X", texts); got != "[[0041 030A] [00C5] [212B]]" {
		t.Errorf("P15.2: %s", got)
	}
	// A text of two would have a character of each of these alone.
	for c := range rune(0x110000) {
		if got := d.Full(c); c != got[0] && (slices.Equal(got, full[:1]) || slices.Equal(got, full[1:])) {
			t.Errorf("P15.2: %x is alike to %x", c, got)
		}
	}
}

// TestMemory: what is done with one answer isn't seen in another one.
func TestMemory(t *testing.T) {
	tb := data(t).Table()
	for i := range tb.Rows {
		tb.Rows[i].Code++
		clear(tb.Rows[i].Map)
	}
	clear(data(t).Full(0x1E69))
	if got := data(t).Table().Rows; !slices.EqualFunc(got, listedRows(t), sameRow) {
		t.Errorf("P15.1: Table, once more: %v", got)
	}
}
