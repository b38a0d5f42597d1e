package ucd_test

import (
	"errors"
	"math"
	"slices"
	"strings"
	"testing"

	"cedilla/api"
	"cedilla/cpset"
	"cedilla/excl"
	"cedilla/fault"
	"cedilla/hangul"
	"cedilla/model"
	"cedilla/rows"
	"cedilla/samples"
	"cedilla/ucd"
	"cedilla/utf"
)

const small = "00C5;X;;0;;0041 030A;;;;;;;;;\n030A;X;;230;;;;;;;;;;;\n0323;X;;220;;;;;;;;;;;\n093C;X;;7;;;;;;;;;;;\n0958;X;;0;;0915 093C;;;;;;;;;\n212B;X;;0;;00C5;;;;;;;;;\n"

var to, mark = samples.To, samples.Mark

func of(t *testing.T, tb model.Table) *ucd.Data {
	t.Helper()
	d, err := ucd.Of(tb)
	if err != nil {
		t.Fatalf("P14.1: Of: %v", err)
	}
	return d
}

// lines are rows as a text that Load reads.
func lines(l []rows.Row) string {
	var s strings.Builder
	for _, r := range l {
		s.WriteString(rows.Line(r) + "\n")
	}
	return s.String()
}

// TestNamed: what the chapter itself tells.
func TestNamed(t *testing.T) {
	d := of(t, model.Table{Rows: []rows.Row{to(0xC5, 0x41, 0x30A), mark(0x30A, 230), to(0x212B, 0xC5)}})
	if got := d.Begins(0x41); !slices.Equal(got, []rune{0x41, 0xC5, 0x212B}) {
		t.Errorf("P14.3: Begins(41): %x", got)
	}
	if c, is := d.Join(0x41, 0x30A); c != 0xC5 || !is || !d.Inner(0x30A) {
		t.Errorf("P14.3: Join(41, 30A): %x, %v; Inner(30A): %v", c, is, d.Inner(0x30A))
	}
}

// TestNone: of no rows syllables alone are mapped.
func TestNone(t *testing.T) {
	d := checkLoad(t, "", "")
	for _, d := range []*ucd.Data{d, of(t, model.Table{}), of(t, model.Table{Rows: []rows.Row{}, Excl: cpset.All()}), of(t, model.Table{Rows: []rows.Row{to('a'), to('b')}})} {
		if tb := d.Table(); tb.Rows != nil || d.Mapped().Count() != 11172 || d.Class('a') != 0 || !d.Plain('a') || d.Map('a') != nil || !slices.Equal(d.Full('a'), []rune{'a'}) || d.Primary('a') {
			t.Errorf("P14.2: of nothing: %v, %d, %v", tb, d.Mapped().Count(), d.Plain('a'))
		}
		if !slices.Equal(d.Begins('a'), []rune{'a'}) || d.Inner('a') || d.Second('a') || !d.Inner(0x1161) || !d.Second(0x11C2) {
			t.Errorf("P14.3: of nothing: %x, %v, %v", d.Begins('a'), d.Inner('a'), d.Second('a'))
		}
	}
	if got := of(t, model.Table{Excl: cpset.All()}).Table(); !cpset.Same(got.Excl, cpset.All()) {
		t.Errorf("P14.2: Table: its Excl has %d characters", got.Excl.Count())
	}
}

// TestSample: each character there is, of a table and of what it is read from.
func TestSample(t *testing.T) {
	tb := samples.Table()
	all := characters(allNumbers())
	if !checkTable(t, tb, all) {
		t.Fatalf("P14.1: the sample: %v", tb.Check())
	}
	d := checkLoad(t, lines(tb.Rows), excl.Text(tb.Excl))
	checkLooks(t, tb, d, all)
	checkUndone(t, tb, d, all)
	u := undo(tb, all)
	telling := []rune{-1, 0, 0x20, 0x22, 0x41, 0x73, 0x7A, 0xC4, 0xC5, 0x300, 0x304, 0x307, 0x308, 0x30A, 0x323, 0x3FF, 0x915, 0x93C, 0x9BE, 0x9C7, 0xF71, 0xF72, 0x10FF, 0x1100, 0x1112, 0x1113, 0x1160, 0x1161, 0x1175,
		0x1176, 0x11A7, 0x11A8, 0x11C2, 0x11C3, 0x1E63, 0x212B, 0x3099, 0xABFF, 0xAC00, 0xAC01, 0xAC1C, 0xD788, 0xD7A3, 0xD7A4, 0xD800, 0x1D157, 0x1D165, 0x10FFFF, 0x110000}
	checkJoins(t, d, u, telling, telling)
}

// TestLooks: what the sample is made for.
func TestLooks(t *testing.T) {
	d := of(t, samples.Table())
	for _, c := range []struct {
		c                             rune
		class                         int
		full                          []rune
		primary, plain, inner, second bool
		begins                        []rune
	}{
		{0x20, 0, []rune{0x10FFFF}, false, false, false, true, nil}, // 10FFFE is of 10FFFF and it
		{0x21, 0, []rune{0x21}, false, true, false, false, []rune{0x21}},
		{0x22, 1, []rune{0x22}, false, true, false, false, []rune{0x22}},
		{0x41, 0, []rune{0x41}, false, true, false, false, []rune{0x41, 0xC4, 0xC5, 0x1DE, 0x212B, 0x3100, 0xE000}},
		{0x7A, 0, []rune{0x7A}, false, true, true, true, []rune{0x7A, 0x3FF, 0x400}},
		{0x93C, 0, []rune{0x93C}, false, true, true, false, []rune{0x93C}},
		{0x9BE, 0, []rune{0x9BE}, false, true, true, true, []rune{0x9BE}},
		{0xC5, 0, []rune{0x41, 0x30A}, true, false, false, false, nil},
		{0x300, 230, []rune{0x300}, false, true, true, true, []rune{0x300, 0x340}},
		{0x301, 230, []rune{0x301}, false, true, true, false, []rune{0x301}},
		{0x308, 230, []rune{0x308}, false, true, true, true, []rune{0x308, 0x344}},
		{0x340, 230, []rune{0x300}, false, false, false, false, nil},
		{0x344, 230, []rune{0x308, 0x301}, false, false, false, false, nil},
		{0x345, 254, []rune{0x345}, false, true, false, false, []rune{0x345}},
		{0x400, 0, []rune{0x7A, 0x7A, 0x7A, 0x7A}, true, false, false, false, nil},
		{0x3FF, 0, []rune{0x7A, 0x7A}, true, false, false, true, nil},
		{0x958, 0, []rune{0x915, 0x93C}, false, false, false, false, nil},
		{0xF71, 129, []rune{0xF71}, false, true, false, false, []rune{0xF71, 0xF73}},
		{0xF73, 0, []rune{0xF71, 0xF72}, false, false, false, false, nil},
		{0x1E69, 0, []rune{0x73, 0x323, 0x307}, true, false, false, false, nil},
		{0x3100, 9, []rune{0x41, 0x3099}, false, false, false, false, nil},
		{0x1161, 0, []rune{0x1161}, false, true, true, true, []rune{0x1161}},
		{0x11C2, 0, []rune{0x11C2}, false, true, true, true, []rune{0x11C2}},
		{0xAC00, 0, []rune{0x1100, 0x1161}, true, false, false, false, nil},
		{0xAC01, 0, []rune{0x1100, 0x1161, 0x11A8}, true, false, false, false, nil},
		{0x10FFFE, 0, []rune{0x10FFFF, 0x10FFFF}, true, false, false, false, nil},
		{0x10FFFF, 0, []rune{0x10FFFF}, false, true, true, false, []rune{0x20, 0x10FFFE, 0x10FFFF}},
	} {
		if d.Class(c.c) != c.class || !slices.Equal(d.Full(c.c), c.full) || d.Primary(c.c) != c.primary || d.Plain(c.c) != c.plain {
			t.Errorf("P14.2: of %x: %d, %x, %v, %v", c.c, d.Class(c.c), d.Full(c.c), d.Primary(c.c), d.Plain(c.c))
		}
		if d.Inner(c.c) != c.inner || d.Second(c.c) != c.second || !slices.Equal(d.Begins(c.c), c.begins) {
			t.Errorf("P14.3: of %x: %v, %v, %x", c.c, d.Inner(c.c), d.Second(c.c), d.Begins(c.c))
		}
	}
}

// TestNoCharacter: what is asked of surrogates, and of what is beyond.
func TestNoCharacter(t *testing.T) {
	d := of(t, samples.Table())
	for _, c := range append(allNumbers(), math.MinInt32, math.MaxInt32, -0x110000, 0x41-1<<31, 0x1000041) {
		if utf.Is(c) {
			continue
		}
		if d.Class(c) != 0 || d.Map(c) != nil || !slices.Equal(d.Full(c), []rune{c}) || d.Primary(c) || !d.Plain(c) {
			t.Errorf("P14.2: of %x, no character: %d, %x, %x, %v, %v", c, d.Class(c), d.Map(c), d.Full(c), d.Primary(c), d.Plain(c))
		}
		if d.Begins(c) != nil || d.Inner(c) || d.Second(c) {
			t.Errorf("P14.3: of %x, no character: %x, %v, %v", c, d.Begins(c), d.Inner(c), d.Second(c))
		}
		for _, other := range []rune{c, 0, 'A', 0x1100, 0x1161, 0xAC00, 0x30A, 0x11A8} {
			joined, is := d.Join(c, other)
			turned, isToo := d.Join(other, c)
			if joined != 0 || is || turned != 0 || isToo {
				t.Errorf("P14.3: Join of %x, no character, and %x: %x, %x", c, other, joined, turned)
			}
		}
	}
}

// TestSyllables: all of them, and all that two parts come to.
func TestSyllables(t *testing.T) {
	d := of(t, samples.Table())
	for c := rune(0); c < 0x110000; c++ {
		if isSyllable := hangul.Of(c) == hangul.Two || hangul.Of(c) == hangul.Three; isSyllable && (!d.Mapped().Has(c) || d.Plain(c) || !d.Primary(c)) {
			t.Errorf("P14.2: the syllable %x: %v, %v, %v", c, d.Mapped().Has(c), d.Plain(c), d.Primary(c))
		}
	}
	if got := d.Mapped().Count(); got != 11172+20 {
		t.Errorf("P14.2: Mapped: %d", got)
	}
	for lead := rune(0x1100); lead <= 0x1112; lead++ {
		begins := d.Begins(lead)
		if len(begins) != 589 || begins[0] != lead || !slices.Equal(begins[1:], hangul.Begins(lead)) {
			t.Errorf("P14.3: Begins(%x): %d, %x", lead, len(begins), begins[:min(3, len(begins))])
		}
	}
	for a := rune(0x10F0); a < 0xD7B0; a++ {
		for b := rune(0x1150); b < 0x11D0; b += 1 + a%5 {
			c, is := d.Join(a, b)
			if want, isOne := hangul.Join(a, b); c != want || is != isOne {
				t.Fatalf("P14.3: Join(%x, %x): %x, %v", a, b, c, is)
			}
		}
	}
}

// TestLoad: of each text that is right and each that is wrong in some way.
func TestLoad(t *testing.T) {
	us := []string{
		"", "\n", small, small[:len(small)-1], "0041;X;;0;;;;;;;;;;;", "AC00;<Hangul Syllable, First>;Lo;0;L;;;;;N;;;;;\nD7A3;<Hangul Syllable, Last>;Lo;0;L;;;;;N;;;;;\n",
		"x", "\xff", strings.Repeat("x", api.MaxLine+1), strings.Repeat("\n", api.MaxRows), small + small, "0041;X;;255;;;;;;;;;;;", "D800;X;;1;;;;;;;;;;;",
		"0041;X;;0;;0041;;;;;;;;;", "0041;X;;0;;AC00;;;;;;;;;", "1100;X;;1;;;;;;;;;;;", "0041;X;;0;;D800;;;;;;;;;", "0041;X;;0;;0061 0062;;;;;;;;;\n0042;X;;0;;0061 0062;;;;;;;;;",
		"0041;X;;0;;0042;;;;;;;;;\n0042;X;;0;;0041;;;;;;;;;",
	}
	xs := []string{"", "\n# nothing\n", "0958 # QA\n", "0041", "0042\n0041", "110000", "x", "D800", "0958\n0958", "\xc0", strings.Repeat(" ", api.MaxLine+1), "AC00\n1100"}
	right := 0
	for _, u := range us {
		for _, x := range xs {
			if checkLoad(t, u, x) != nil {
				right++
			}
		}
	}
	if want := 5*6 + 2; right != want {
		t.Errorf("P14.1: %d pairs of texts load, want %d", right, want)
	}
}

// TestLoadErrors: what stands in them, by the chapter.
func TestLoadErrors(t *testing.T) {
	for _, c := range []struct {
		u, x string
		text string
		line int
		same api.Errno // the number of what it wraps
	}{
		{"x", "", "rows: fields: line 1: code 8", 1, api.ErrForm},
		{small + "x", "y", "rows: fields: line 7: code 8", 7, api.ErrForm},
		{strings.Repeat("0041;X;;0;;;;;;;;;;;\n", api.MaxRows+1), "", "rows: rows: line 40001: code 8", 40001, api.ErrBig},
		{small, "0958\nx", "excl: code: line 2: code 8", 2, api.ErrForm},
		{small, "D800", "excl: character: line 1: code 8", 1, api.ErrForm},
		{"0041;X;;0;;0041;;;;;;;;;", "x", "excl: code: line 1: code 8", 1, api.ErrForm},
		{"0041;X;;0;;0041;;;;;;;;;", "", "table: full: code 8", 0, api.ErrData},
		{"1100;X;;1;;;;;;;;;;;", "", "table: hangul: code 8", 0, api.ErrData},
		{"0041;X;;0;;D800;;;;;;;;;", "", "table: target: code 8", 0, api.ErrData},
		{"0041;X;;0;;0061 0062;;;;;;;;;\n0042;X;;0;;0061 0062;;;;;;;;;", "0061", "table: pair: code 8", 0, api.ErrData},
	} {
		d, err := ucd.Load(c.u, c.x)
		var first *fault.Fault
		if d != nil || !errors.As(err, &first) || fault.Code(err) != api.ErrData || fault.Text(err) != c.text || fault.Line(err) != c.line || fault.Code(first.Cause) != c.same || !errors.Is(err, fault.Of(api.ErrData)) || !errors.Is(err, fault.Of(c.same)) {
			t.Errorf("P14.1: Load(%.40q, %q): %v, %v; want %s", c.u, c.x, d != nil, err, c.text)
		}
	}
	if d := checkLoad(t, "0041;X;;0;;0061 0062;;;;;;;;;\n0042;X;;0;;0061 0062;;;;;;;;;", "0041"); d == nil {
		t.Errorf("P14.1: of one mapping twice, once excluded: nothing")
	}
}

// TestOfWrong: tables that no text has are wrong by Check's error alone.
func TestOfWrong(t *testing.T) {
	for _, tb := range []model.Table{
		{Rows: []rows.Row{to(-1)}}, {Rows: []rows.Row{to('b'), to('a')}}, {Rows: []rows.Row{mark('a', 255)}}, {Rows: []rows.Row{mark('a', -1)}}, {Rows: []rows.Row{to('a', 'x', 'y', 'z')}},
		{Rows: []rows.Row{to(0x110000)}}, {Rows: []rows.Row{to(0xD800)}}, {Rows: []rows.Row{to('a', 0x110000)}}, {Rows: []rows.Row{to('a', math.MinInt32)}}, {Rows: make([]rows.Row, 100)},
		{Rows: []rows.Row{to('a', 'b'), to('b', 'c'), to('c', 'a')}}, {Rows: []rows.Row{to('a', 'x', 'y'), to('b', 'x', 'y')}}, {Rows: []rows.Row{to('a', 0xAC00)}}, {Rows: []rows.Row{mark(math.MaxInt32, math.MaxInt)}},
	} {
		if checkTable(t, tb, nil) {
			t.Errorf("P14.1: Of %v: it is right", tb)
		}
	}
}

// TestLongWays: from one character to its full decomposition as many rows as
// there may be in a text, and more, up by codes and down.
func TestLongWays(t *testing.T) {
	up := samples.Chain(api.MaxRows, 'x', 'y')
	down := []rows.Row{to(0x20000, 'x', 'y')}
	for i := range rune(api.MaxRows - 1) {
		down = append(down, to(0x20001+i, 0x20000+i))
	}
	for what, l := range map[string][]rows.Row{"up": up, "down": down, "longer": samples.Chain(0x80000, 'x', 'y')} {
		d := of(t, model.Table{Rows: l})
		if len(l) == api.MaxRows {
			d = checkLoad(t, lines(l), "")
		}
		last := l[len(l)-1].Code
		for _, c := range []rune{0x20000, 0x20001, 0x20000 + 20000, last - 1, last} {
			if got := d.Full(c); !slices.Equal(got, []rune{'x', 'y'}) {
				t.Errorf("P14.2: %s: Full(%x): %x", what, c, got)
			}
		}
		begins := d.Begins('x')
		if len(begins) != len(l)+1 || begins[0] != 'x' || begins[1] != 0x20000 || !slices.IsSorted(begins) || d.Mapped().Count() != len(l)+11172 || !d.Inner('y') {
			t.Errorf("P14.3: %s: Begins: %d, Mapped: %d", what, len(begins), d.Mapped().Count())
		}
	}
}

// TestManyRows: more of them than a text, or 16 bits, could have.
func TestManyRows(t *testing.T) {
	var l []rows.Row
	for c := rune(0x20000); c < 0x10FFFF; c++ {
		l = append(l, mark(c, int(c%255)))
	}
	l = append(l, to(0x10FFFF, 'x', 'y'))
	d := of(t, model.Table{Rows: l})
	for c := rune(0x20000); c < 0x10FFFF; c++ {
		if d.Class(c) != int(c%255) {
			t.Fatalf("P14.2: of many rows: Class(%x): %d", c, d.Class(c))
		}
	}
	if c, is := d.Join('x', 'y'); c != 0x10FFFF || !is || !slices.Equal(d.Begins('x'), []rune{'x', 0x10FFFF}) {
		t.Errorf("P14.3: of many rows: %x, %v, %x", c, is, d.Begins('x'))
	}
}

// TestWide: a full decomposition of as many characters as there may be.
func TestWide(t *testing.T) {
	d := of(t, model.Table{Rows: samples.Doubled(5)})
	if got := d.Full(0x30005); !slices.Equal(got, slices.Repeat([]rune{0x30000}, 32)) || !d.Inner(0x30000) || d.Inner(0x30001) || !d.Second(0x30004) {
		t.Errorf("P14.2: Full: %x", got)
	}
}

func TestMemory(t *testing.T) {
	held := []rune{0x41, 0x30A, 'z', 'z'}
	l := []rows.Row{{Code: 0xC5, Map: held[:2]}, mark(0x30A, 230), to(0x212B, 0xC5)}
	tb := model.Table{Rows: l}
	d := of(t, tb)
	if !slices.Equal(held, []rune{0x41, 0x30A, 'z', 'z'}) || len(l) != 3 || l[1].Class != 230 {
		t.Errorf("P14.1: Of changed its table: %v, %x", l, held)
	}
	// What is done with the table behind it is none of its business.
	clear(held)
	clear(l)
	if !slices.Equal(d.Map(0xC5), []rune{0x41, 0x30A}) || !slices.Equal(d.Table().Rows[0].Map, []rune{0x41, 0x30A}) {
		t.Errorf("P14.2: Of kept its table: %x, %v", d.Map(0xC5), d.Table())
	}
	for what, answer := range map[string]func() []rune{
		"Map":              func() []rune { return d.Map(0xC5) },
		"Map, a syllable":  func() []rune { return d.Map(0xAC01) },
		"Full":             func() []rune { return d.Full(0x212B) },
		"Full of two":      func() []rune { return d.Full(0xC5) },
		"Full of a part":   func() []rune { return d.Full(0x41) },
		"Full of itself":   func() []rune { return d.Full('q') },
		"Full, a syllable": func() []rune { return d.Full(0xAC01) },
		"Begins":           func() []rune { return d.Begins(0x41) },
		"Begins, a lead":   func() []rune { return d.Begins(0x1100) },
		"Table":            func() []rune { return d.Table().Rows[0].Map },
		"Mapped":           func() []rune { return d.Mapped().Chars() },
	} {
		first, second := answer(), answer()
		want := slices.Clone(first)
		clear(first[:cap(first)])
		if len(want) == 0 || !slices.Equal(second, want) || !slices.Equal(answer(), want) {
			t.Errorf("P14.2: %s: its answers share memory", what)
		}
	}
	rowsOfFirst, second := d.Table().Rows, d.Table().Rows
	clear(rowsOfFirst[:cap(rowsOfFirst)])
	if len(second) != 3 || second[0].Code != 0xC5 || d.Table().Rows[2].Code != 0x212B || !slices.Equal(d.Full(0x212B), []rune{0x41, 0x30A}) {
		t.Errorf("P14.2: Table: its answers share memory: %v", second)
	}
}
