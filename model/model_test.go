package model_test

import (
	"fmt"
	"math"
	"slices"
	"testing"

	"cedilla/api"
	"cedilla/cpset"
	"cedilla/fault"
	"cedilla/model"
	"cedilla/rows"
	"cedilla/samples"
)

var to, mark = samples.To, samples.Mark

func table(l ...rows.Row) model.Table {
	return model.Table{Rows: l}
}

// checkNote: Check tells this note ("": that nothing is wrong).
func checkNote(t *testing.T, tb model.Table, note string) {
	t.Helper()
	err := tb.Check()
	if note == "" {
		if err != nil {
			t.Errorf("P12.1: Check of %.200s: %v", fmt.Sprint(tb), err)
		}
		return
	}
	f, isFault := err.(*fault.Fault)
	if !isFault || *f != (fault.Fault{Code: api.ErrData, Note: note}) {
		t.Errorf("P12.1: Check of %.200s: %v, want %s", fmt.Sprint(tb), err, note)
	}
}

func TestNone(t *testing.T) {
	none := model.Table{}
	checkNote(t, none, "")
	checkNote(t, model.Table{Rows: []rows.Row{}, Excl: cpset.All()}, "")
	for _, c := range []rune{0, 'a', 0x300, 0x1100, 0x11A8, 0xABFF, 0xD7A4, 0x10FFFF} {
		if none.Class(c) != 0 || none.Map(c) != nil || none.Primary(c) || !slices.Equal(none.Full(c), []rune{c}) {
			t.Errorf("P12.2: of %x: %d, %x, %v, %x", c, none.Class(c), none.Map(c), none.Primary(c), none.Full(c))
		}
	}
}

// TestRow: each number of a row, and how many characters it is mapped to.
func TestRow(t *testing.T) {
	for code, note := range map[rune]string{
		math.MinInt32: "row", -1: "row", 0: "", 1: "", 0x7F: "", 0xD7FF: "", 0xD800: "row", 0xDABC: "row", 0xDFFF: "row", 0xE000: "",
		0x10FFFF: "", 0x110000: "row", math.MaxInt32: "row",
	} {
		checkNote(t, table(to(code)), note)
		checkNote(t, table(mark(code, 1)), note)
		checkNote(t, table(to(code, 'x', 'y')), note)
	}
	for class, note := range map[int]string{
		math.MinInt: "row", -255: "row", -1: "row", 0: "", 1: "", 240: "", 253: "", 254: "", 255: "row", 256: "row", 1 << 32: "row", math.MaxInt: "row",
	} {
		checkNote(t, table(mark('a', class)), note)
		checkNote(t, table(mark('a', 7), mark('b', class, 'x')), note)
	}
	for count, note := range []string{"", "", "", "row", "row", "row"} {
		checkNote(t, table(to('a', slices.Repeat([]rune{'x'}, count)...)), note)
	}
	checkNote(t, table(to('a', make([]rune, 1<<20)...)), "row")
}

func TestRising(t *testing.T) {
	checkNote(t, table(mark('a', 1), mark('b', 1), mark('c', 1)), "")
	checkNote(t, table(to('a'), to('b'), to('c')), "")
	checkNote(t, table(mark('a', 1), mark('a', 1)), "row")
	checkNote(t, table(mark('b', 1), mark('a', 1)), "row")
	checkNote(t, table(to('a'), to('a', 'x')), "row")
	checkNote(t, table(to('a', 'x'), to('c', 'y'), to('b', 'z')), "row")
	checkNote(t, table(to(0), to(0)), "row")
	checkNote(t, table(to(0x10FFFF), to(0)), "row")
	checkNote(t, table(to(0), to(0x10FFFF)), "")
}

// TestHangul: parts and syllables, and what is beside them.
func TestHangul(t *testing.T) {
	for c, note := range map[rune]string{
		0x10FF: "", 0x1100: "hangul", 0x1105: "hangul", 0x1112: "hangul", 0x1113: "",
		0x1160: "", 0x1161: "hangul", 0x1175: "hangul", 0x1176: "",
		0x11A7: "", 0x11A8: "hangul", 0x11C2: "hangul", 0x11C3: "",
		0xABFF: "", 0xAC00: "hangul", 0xAC01: "hangul", 0xAC1C: "hangul", 0xD7A3: "hangul", 0xD7A4: "",
	} {
		checkNote(t, table(to(c)), note)
		checkNote(t, table(mark(c, 1)), note)
		checkNote(t, table(to('a', c)), note)
		checkNote(t, table(to('a', c, 'x')), note)
		checkNote(t, table(to('a', 'x', c)), note)
		checkNote(t, table(to('a'), mark('b', 9, 'x', c)), note)
		// Those that aren't composed may be any.
		checkNote(t, model.Table{Rows: []rows.Row{to('a', 'x', 'y')}, Excl: cpset.Chars(c)}, "")
	}
}

func TestTarget(t *testing.T) {
	for c, note := range map[rune]string{
		math.MinInt32: "target", -1: "target", 0: "", 'a': "", 0xD7FF: "", 0xD800: "target", 0xDC00: "target", 0xDFFF: "target", 0xE000: "",
		0x10FFFF: "", 0x110000: "target", math.MaxInt32: "target",
	} {
		checkNote(t, table(to(0x10FFFE, c)), note)
		checkNote(t, table(to(0x10FFFE, c, 'x')), note)
		checkNote(t, table(to(0x10FFFE, 'x', c)), note)
		checkNote(t, table(mark(0x10FFFE, 1, c, c)), note)
	}
}

// TestOrder: of one row what is told first, and of several which one.
func TestOrder(t *testing.T) {
	row, hangul, target := mark('b', 255), to('b', 0x1100), to('b', 0xD800)
	for _, wrong := range []struct {
		r    rows.Row
		note string
	}{
		{mark(-1, 0, 0x1100, -1), "row"},
		{mark('b', 255, 0x1100, -1), "row"},
		{mark('b', 0, 0x1100, -1, 'x'), "row"},
		{mark(0x1100, -1), "row"},
		{mark('a', 0, 0x1100), "row"}, // not above the one ahead
		{mark('b', 0, -1, 0x1100), "hangul"},
		{mark('b', 0, 0x1100, -1), "hangul"},
		{mark(0xAC00, 0, -1, -1), "hangul"},
		{mark(0xAC00, 0, 0xAC00, 0xAC00, 0xAC00), "row"},
	} {
		checkNote(t, table(to('a'), wrong.r), wrong.note)
	}
	for note, r := range map[string]rows.Row{"row": row, "hangul": hangul, "target": target} {
		for _, behind := range []rows.Row{mark('c', 255), to('c', 0x1100), to('c', 0xD800), to('a')} {
			checkNote(t, table(r, behind), note)
			checkNote(t, table(to('A', 'a'), to('a', 'A'), r, behind), note)
			checkNote(t, table(to('A', 'x', 'y'), to('B', 'x', 'y'), r, behind), note)
		}
	}
	// A later pass isn't gone while an earlier one finds something, wherever.
	checkNote(t, table(to('A', 'x', 'y'), to('B', 'x', 'y'), to('c', 'c')), "full")
	checkNote(t, table(to('A', 'A'), to('B', 'x', 'y'), to('c', 'x', 'y')), "full")
}

var chain, doubled = samples.Chain, samples.Doubled

// longer are rows each of which comes to one character more than the one
// ahead, the first one to two.
func longer(count int) []rows.Row {
	var l []rows.Row
	for i := range count {
		below := 0x40000 + rune(i)
		l = append(l, to(below+1, below, 'x'))
	}
	return l
}

func TestFull(t *testing.T) {
	for what, c := range map[string]struct {
		l    []rows.Row
		note string
	}{
		"to itself":              {[]rows.Row{to('a', 'a')}, "full"},
		"to itself, and another": {[]rows.Row{to('a', 'x', 'a')}, "full"},
		"in turn":                {[]rows.Row{to(0x41, 0x42), to(0x42, 0x41)}, "full"},
		"a circle of three":      {[]rows.Row{to('a', 'x', 'c'), to('b', 'a'), to('c', 'b', 'x')}, "full"},
		"a mark's":               {[]rows.Row{mark('a', 230, 'a')}, "full"},
		"into a circle":          {[]rows.Row{to('a', 'b'), to('b', 'c'), to('c', 'd'), to('d', 'c')}, "full"},
		"behind others":          {[]rows.Row{to('a', 'x'), to('b', 'a', 'x'), to('c', 'c')}, "full"},
		"one twice, no circle":   {[]rows.Row{to('a', 'c', 'c'), to('b', 'a', 'c'), to('c', 'x', 'y')}, ""},
		"to a row that's bare":   {[]rows.Row{to('a', 'b', 'c'), to('b'), mark('c', 1)}, ""},
		"32 by twos":             {doubled(5), ""},
		"64 by twos":             {doubled(6), "full"},
		"2^60 by twos":           {doubled(60), "full"},
		"2^20000 by twos":        {doubled(20000), "full"},
		"32 one by one":          {longer(31), ""},
		"33 one by one":          {longer(32), "full"},
		"39999 one by one":       {longer(39998), "full"},
		"32 of a mark":           {append([]rows.Row{mark(0x30000, 230)}, doubled(5)...), ""},
		"64 of a mark":           {append([]rows.Row{mark(0x30000, 230)}, doubled(6)...), "full"},
		"32 of what is bare":     {append([]rows.Row{to('x'), to(0x40000)}, longer(31)...), ""},
		"33 of what is bare":     {append([]rows.Row{to('x'), to(0x40000)}, longer(32)...), "full"},
		"32 and a chain":         {append([]rows.Row{to('a', 0x20000)}, append(chain(100, 0x4001F), longer(31)...)...), ""},
		"33 by a chain":          {append([]rows.Row{to('a', 'x', 0x20000)}, append(chain(100, 0x4001F), longer(31)...)...), "full"},
		"33, of a mark":          {append([]rows.Row{mark('a', 9, 0x4001F, 'x')}, longer(31)...), "full"},
		"32 and 32":              {append([]rows.Row{to('a', 0x4001F), to('b', 0x4001F)}, longer(31)...), ""},
		"a long chain":           {chain(40000, 'x', 'y'), ""},
		"a long circle":          {chain(40000, 0x20000), "full"},
		"a longer chain":         {chain(800000, 'x'), ""},
		"a longer circle":        {chain(800000, 'x', 0x20000), "full"},
	} {
		tb := table(c.l...)
		t.Run(what, func(t *testing.T) { checkNote(t, tb, c.note) })
		// Turned about, ways go down by codes instead of up.
		t.Run(what+", down", func(t *testing.T) { checkNote(t, turned(tb), c.note) })
	}
}

// turned has each code at its place from the greatest one down.
func turned(tb model.Table) model.Table {
	turn := func(c rune) rune { return 0x100000 - c }
	var l []rows.Row
	for _, r := range slices.Backward(tb.Rows) {
		m := slices.Clone(r.Map)
		for i := range m {
			m[i] = turn(m[i])
		}
		l = append(l, mark(turn(r.Code), r.Class, m...))
	}
	return table(l...)
}

// TestFullOfMany: what such tables come to.
func TestFullOfMany(t *testing.T) {
	tb := table(append(append(chain(40000, 'x', 'y'), doubled(5)...), longer(31)...)...)
	checkNote(t, tb, "")
	for c, want := range map[rune][]rune{
		0x20000:         {'x', 'y'},
		0x20000 + 39999: {'x', 'y'},
		0x30000:         {0x30000},
		0x30001:         {0x30000, 0x30000},
		0x30005:         slices.Repeat([]rune{0x30000}, 32),
		0x40001:         {0x40000, 'x'},
		0x4001F:         append([]rune{0x40000}, slices.Repeat([]rune{'x'}, 31)...),
		0xAC00:          {0x1100, 0x1161},
		0xD7A3:          {0x1112, 0x1175, 0x11C2},
		0x1100:          {0x1100},
		'x':             {'x'},
	} {
		if got := tb.Full(c); !slices.Equal(got, want) {
			t.Errorf("P12.2: Full(%x): %x, want %x", c, got, want)
		}
	}
}

// TestFullIsWide: as many ways as there may be, each through all rows.
func TestFullIsWide(t *testing.T) {
	l := chain(2000, 0x20000+2000)
	l = append(l, to(0x30000, 0x20000, 0x20000))
	for i := range rune(4) {
		l = append(l, to(0x30001+i, 0x30000+i, 0x30000+i))
	}
	tb := table(l...)
	checkNote(t, tb, "")
	if got := tb.Full(0x30004); !slices.Equal(got, slices.Repeat([]rune{0x20000 + 2000}, 32)) {
		t.Errorf("P12.2: Full: %x", got)
	}
}

func TestPair(t *testing.T) {
	none := cpset.Set{}
	for _, c := range []struct {
		l    []rows.Row
		excl cpset.Set
		note string
	}{
		{[]rows.Row{to(0xC4, 0x41, 0x30A), to(0xC5, 0x41, 0x30A)}, none, "pair"},
		{[]rows.Row{to(0xC4, 0x41, 0x30A), to(0xC5, 0x30A, 0x41)}, none, ""},
		{[]rows.Row{to(0xC4, 0x41, 0x30A), to(0xC5, 0x41, 0x308)}, none, ""},
		{[]rows.Row{to(0xC4, 0x41, 0x30A), to(0xC5, 0x40, 0x30A)}, none, ""},
		{[]rows.Row{to(0xC4, 'x', 'x'), to(0xC5, 'x', 'x')}, none, "pair"},
		// Others stand between, ahead and behind.
		{[]rows.Row{to('b'), to('c', 'x', 'y'), mark('d', 9), to('e', 'x'), to('f', 'x', 'y'), to('g', 'z')}, none, "pair"},
		// One of them isn't composed, or both aren't.
		{[]rows.Row{to('a', 'x', 'y'), to('b', 'x', 'y')}, cpset.Chars('a'), ""},
		{[]rows.Row{to('a', 'x', 'y'), to('b', 'x', 'y')}, cpset.Chars('b'), ""},
		{[]rows.Row{to('a', 'x', 'y'), to('b', 'x', 'y')}, cpset.Chars('a', 'b'), ""},
		{[]rows.Row{to('a', 'x', 'y'), to('b', 'x', 'y')}, cpset.Chars('x', 'y'), "pair"},
		{[]rows.Row{to('a', 'x', 'y'), to('b', 'x', 'y'), to('c', 'x', 'y')}, cpset.Chars('a'), "pair"},
		{[]rows.Row{to('a', 'x', 'y'), to('b', 'x', 'y'), to('c', 'x', 'y')}, cpset.Chars('b'), "pair"},
		{[]rows.Row{to('a', 'x', 'y'), to('b', 'x', 'y'), to('c', 'x', 'y')}, cpset.Chars('a', 'c'), ""},
		// A class of one's own.
		{[]rows.Row{mark('a', 1, 'x', 'y'), to('b', 'x', 'y')}, none, ""},
		{[]rows.Row{to('a', 'x', 'y'), mark('b', 254, 'x', 'y')}, none, ""},
		{[]rows.Row{mark('a', 7, 'x', 'y'), mark('b', 7, 'x', 'y')}, none, ""},
		// A class of the first of the two, or of the second.
		{[]rows.Row{to('a', 'x', 'y'), to('b', 'x', 'y'), mark('x', 1)}, none, ""},
		{[]rows.Row{to('a', 'x', 'y'), to('b', 'x', 'y'), mark('x', 1, 'z')}, none, ""},
		{[]rows.Row{to('a', 'x', 'y'), to('b', 'x', 'y'), to('x')}, none, "pair"},
		{[]rows.Row{to('a', 'x', 'y'), to('b', 'x', 'y'), to('x', 'z')}, none, "pair"},
		{[]rows.Row{to('a', 'x', 'y'), to('b', 'x', 'y'), mark('y', 230)}, none, "pair"},
		// A mapping of one is no pair, and nothing is none.
		{[]rows.Row{to('a', 'x'), to('b', 'x')}, none, ""},
		{[]rows.Row{to('a'), to('b')}, none, ""},
		// What is mapped to the same in the end isn't mapped to the same.
		{[]rows.Row{to('a', 'x', 'y'), to('b', 'z', 'y'), to('z', 'x')}, none, ""},
	} {
		checkNote(t, model.Table{Rows: c.l, Excl: c.excl}, c.note)
		checkPlain(t, model.Table{Rows: c.l, Excl: c.excl}, 'a', 'b', 'c', 'd', 'e', 'f', 'g', 'x', 'y', 'z', 0xC4, 0xC5)
	}
}

// sample is some of the published rows.
func sample() model.Table {
	return model.Table{
		Rows: []rows.Row{
			to(0xC4, 0x41, 0x308), to(0xC5, 0x41, 0x30A), to(0x1DE, 0xC4, 0x304), mark(0x300, 230), mark(0x301, 230), mark(0x304, 230), mark(0x307, 230), mark(0x308, 230), mark(0x30A, 230),
			mark(0x323, 220), mark(0x340, 230, 0x300), mark(0x344, 230, 0x308, 0x301), to(0x37E, 0x3B), to(0x958, 0x915, 0x93C), mark(0xF71, 129), mark(0xF72, 130), to(0xF73, 0xF71, 0xF72),
			to(0x1E63, 0x73, 0x323), to(0x1E69, 0x1E63, 0x307), to(0x2000, 0x2002), to(0x212B, 0xC5), to(0x1D15E, 0x1D157, 0x1D165), mark(0x1D165, 216),
		},
		Excl: cpset.Chars(0x958, 0x1D15E),
	}
}

func TestSample(t *testing.T) {
	tb := sample()
	checkNote(t, tb, "")
	for _, c := range []struct {
		c       rune
		class   int
		mapping []rune
		full    []rune
		primary bool
	}{
		{0x41, 0, nil, []rune{0x41}, false},
		{0xC5, 0, []rune{0x41, 0x30A}, []rune{0x41, 0x30A}, true},
		{0x1DE, 0, []rune{0xC4, 0x304}, []rune{0x41, 0x308, 0x304}, true},
		{0x30A, 230, nil, []rune{0x30A}, false},
		{0x340, 230, []rune{0x300}, []rune{0x300}, false},
		{0x344, 230, []rune{0x308, 0x301}, []rune{0x308, 0x301}, false},
		{0x37E, 0, []rune{0x3B}, []rune{0x3B}, false},
		{0x958, 0, []rune{0x915, 0x93C}, []rune{0x915, 0x93C}, false},
		{0xF73, 0, []rune{0xF71, 0xF72}, []rune{0xF71, 0xF72}, false},
		{0x1E69, 0, []rune{0x1E63, 0x307}, []rune{0x73, 0x323, 0x307}, true},
		{0x212B, 0, []rune{0xC5}, []rune{0x41, 0x30A}, false},
		{0xAC00, 0, []rune{0x1100, 0x1161}, []rune{0x1100, 0x1161}, true},
		{0xAC01, 0, []rune{0xAC00, 0x11A8}, []rune{0x1100, 0x1161, 0x11A8}, true},
		{0xD7A3, 0, []rune{0xD788, 0x11C2}, []rune{0x1112, 0x1175, 0x11C2}, true},
		{0x1100, 0, nil, []rune{0x1100}, false},
		{0x1D15E, 0, []rune{0x1D157, 0x1D165}, []rune{0x1D157, 0x1D165}, false},
		{0x1D165, 216, nil, []rune{0x1D165}, false},
		{0x10FFFF, 0, nil, []rune{0x10FFFF}, false},
	} {
		if tb.Class(c.c) != c.class || !slices.Equal(tb.Map(c.c), c.mapping) || !slices.Equal(tb.Full(c.c), c.full) || tb.Primary(c.c) != c.primary {
			t.Errorf("P12.1, P12.2: of %x: %d, %x, %x, %v; want %v", c.c, tb.Class(c.c), tb.Map(c.c), tb.Full(c.c), tb.Primary(c.c), c)
		}
	}
	tb.Excl = cpset.All()
	checkNote(t, tb, "")
	if tb.Primary(0xC5) || !tb.Primary(0xAC00) || !tb.Primary(0xAC01) {
		t.Errorf("P12.1: Primary with all excluded: %v, %v, %v", tb.Primary(0xC5), tb.Primary(0xAC00), tb.Primary(0xAC01))
	}
}

// TestAllCharacters: what is asked of a table for each of them.
func TestAllCharacters(t *testing.T) {
	tb := sample()
	var all []rune
	for c := range rune(0x110000) {
		all = append(all, c)
	}
	checkPlain(t, tb, all...)
	checkPlain(t, turned(tb), 0x100000-0x212B, 0x100000-0x1E69, 0x41)
}

// TestNamed: what the chapter itself tells.
func TestNamed(t *testing.T) {
	checkNote(t, table(to(0x41, 0x42), to(0x42, 0x41)), "full")
	tb := table(to(0xC5, 0x41, 0x30A), to(0x212B, 0xC5))
	checkNote(t, tb, "")
	if got := tb.Full(0x212B); !slices.Equal(got, []rune{0x41, 0x30A}) || tb.Primary(0x212B) {
		t.Errorf("P12.2: Full(212B): %x; Primary: %v", got, tb.Primary(0x212B))
	}
}

// TestWrongTables: of what Check finds wrong, and of what is no character,
// each call ends.
func TestWrongTables(t *testing.T) {
	wrong := []model.Table{
		table(to('a', 'a')), table(to('a', 'a', 'a')), table(to('a', 'b'), to('b', 'a')), table(doubled(60)...), table(longer(1000)...), table(chain(1000, 0x20000)...),
		table(to('b', 'x'), to('a', 'b'), to('b', 'a'), to('a', 'a')), table(mark(-1, -1, -1, -1), mark(math.MinInt32, math.MinInt)),
		table(to(0x1100, 0xAC00), to(0x1161, 0xAC01, 0xAC01)), table(to(0xAC00, 0xAC01), to(0xAC01, 0xAC00)), table(to('a', 0xAC01, 0xD7A3)),
		table(to('a', 'x', 'y', 'z')), table(to('a', make([]rune, 1<<20)...)), table(to('a', 'b'), to('b', make([]rune, 33)...)), table(make([]rows.Row, 1000)...),
		table(mark('a', math.MaxInt, 0x110000, 0xD800)),
	}
	asked := []rune{math.MinInt32, -1, 0, 'a', 'b', 'x', 0x1100, 0x1161, 0xAC00, 0xAC01, 0xD7A3, 0xD800, 0x20000, 0x20100, 0x3003C, 0x40010, 0x403E8, 0x10FFFF, 0x110000, math.MaxInt32}
	for _, tb := range wrong {
		if err := tb.Check(); fault.Code(err) != api.ErrData {
			t.Errorf("P12.1: Check of %.200s: %v", fmt.Sprint(tb), err)
		}
		for _, c := range asked {
			tb.Class(c)
			tb.Map(c)
			tb.Full(c)
			tb.Primary(c)
		}
	}
	right := sample()
	for _, c := range asked {
		right.Class(c)
		right.Map(c)
		right.Full(c)
		right.Primary(c)
	}
}

func TestMemory(t *testing.T) {
	// Spare room behind a mapping isn't an answer's, nor the table's.
	held := []rune{'x', 'y', 'z', 'z'}
	tb := table(to('a', 'b', 'c'), rows.Row{Code: 'b', Map: held[:2]}, to('d', 'a'))
	checkNote(t, tb, "")
	for what, answer := range map[string]func() []rune{
		"Map":             func() []rune { return tb.Map('b') },
		"Map of one":      func() []rune { return tb.Map('d') },
		"Map, a syllable": func() []rune { return tb.Map(0xAC01) },
		"Full":            func() []rune { return tb.Full('d') },
		"Full of itself":  func() []rune { return tb.Full('q') },
	} {
		first, second := answer(), answer()
		want := slices.Clone(first)
		clear(first[:cap(first)])
		if !slices.Equal(second, want) || !slices.Equal(answer(), want) {
			t.Errorf("P12.1: %s: its answers share memory", what)
		}
	}
	if !slices.Equal(held, []rune{'x', 'y', 'z', 'z'}) || !slices.Equal(tb.Rows[0].Map, []rune{'b', 'c'}) || !slices.Equal(tb.Rows[2].Map, []rune{'a'}) {
		t.Errorf("P12.1: the table is changed: %v, %c", tb, held)
	}
}
