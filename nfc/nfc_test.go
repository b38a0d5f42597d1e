package nfc_test

import (
	"slices"
	"strings"
	"testing"

	"cedilla/api"
	"cedilla/cpset"
	"cedilla/extract"
	"cedilla/hangul"
	"cedilla/model"
	"cedilla/nfc"
	"cedilla/rows"
	"cedilla/samples"
	"cedilla/ucd"
)

var to, mark = samples.To, samples.Mark

// TestNamed: what the chapter itself tells.
func TestNamed(t *testing.T) {
	d := extract.Data()
	for _, c := range [][2][]rune{
		{{0x73, 0x307, 0x323}, {0x1E69}},
		{{0x1100, 0x1161, 0x11A8}, {0xAC01}},
		{{0x915, 0x93C}, {0x915, 0x93C}},
		{{0x958}, {0x915, 0x93C}},
	} {
		if got := nfc.Chars(d, c[0]); !slices.Equal(got, c[1]) {
			t.Errorf("P18.1: Chars(%x): %x", c[0], got)
		}
		if got, e := nfc.Of(d, string(c[0])); got != string(c[1]) || e != api.OK {
			t.Errorf("P18.1: Of(%x): %x, %d", c[0], []rune(got), e)
		}
		if is := nfc.Is(d, string(c[0])); is != slices.Equal(c[0], c[1]) {
			t.Errorf("P18.1: Is(%x): %v", c[0], is)
		}
	}
}

func TestNone(t *testing.T) {
	d := extract.Data()
	for _, l := range [][]rune{nil, {}, make([]rune, 0, 5)} {
		if got := nfc.Join(d, l); got != nil {
			t.Errorf("P18.1: Join of none: %x", got)
		}
		if got := nfc.Chars(d, l); got != nil {
			t.Errorf("P18.1: Chars of none: %x", got)
		}
	}
	check(t, d, "")
	if !nfc.Is(d, "") {
		t.Errorf("P18.1: \"\" isn't its NFC")
	}
}

// TestEdges: texts, and their NFC.
func TestEdges(t *testing.T) {
	d := extract.Data()
	joins := composed(d)
	for s, want := range map[string]string{
		"a":                        "a",
		"e\u0301":                  "\u00e9",
		"\u212b":                   "\u00c5",
		"A\u030a\u0301":            "\u01fa",
		"A\u0301\u030a":            "\u00c1\u030a",
		"s\u0323\u0307\u0307":      "\u1e69\u0307",
		"s\u0307\u0307\u0323":      "\u1e69\u0307",
		"s\u0331\u0323":            "s\u0331\u0323",
		"s\u0323\u0331":            "\u1e63\u0331",
		"s\u0327\u0323":            "\u1e63\u0327",
		"s\u0323\u0301":            "\u1e63\u0301",
		"s\u0301\u0307":            "\u1e65",
		"s\u0338\u0327\u0323":      "\u1e63\u0338\u0327",
		"\u0073\u0306\u0307":       "s\u0306\u0307",
		"\u0340":                   "\u0300",
		"a\u0340":                  "\u00e0",
		"\u0344":                   "\u0308\u0301",
		"A\u0344":                  "\u00c4\u0301",
		"\u0385":                   "\u0385",
		"\u00a8\u0301":             "\u0385",
		"\u0301a\u0301":            "\u0301\u00e1",
		"\u0308\u0301\u0061":       "\u0308\u0301a",
		"\u09c7\u09be":             "\u09cb",
		"\u09c7\u09d7":             "\u09cc",
		"\u09c7\u0301\u09be":       "\u09c7\u0301\u09be",
		"\u09c7\u09be\u09d7":       "\u09cb\u09d7",
		"\u0f71\u0f72":             "\u0f71\u0f72",
		"\u0f73\u0f76":             "\u0f71\u0f72\u0f76",
		"\u0fb2\u0f80":             "\u0f76",
		"\u0fb2\u0f81":             "\u0f76\u0f71",
		"\u304b\u3099":             "\u304c",
		"\u304b\u309a":             "\u304b\u309a",
		"\u2add\u0338":             "\u2add\u0338",
		"=\u0338<\u0338":           "\u2260\u226e",
		"\U00011099\U000110ba":     "\U0001109a",
		"\U0001d157\U0001d165":     "\U0001d157\U0001d165",
		"\u2000\u2001\u2126":       "\u2002\u2003\u03a9",
		"\u00b7\u0387\u037e":       "\u00b7\u00b7;",
		"\u1100\u1161":             "\uac00",
		"\u1100\u1161\u11a8":       "\uac01",
		"\u1100\u1161\u11a8\u11a8": "\uac01\u11a8",
		"\uac00\u11a7":             "\uac00\u11a7",
		"\uac00\u11c2\u11a8":       "\uac1b\u11a8",
		"\uac01\u11a8":             "\uac01\u11a8",
		"\uac00\u0301\u11a8":       "\uac00\u0301\u11a8",
		"\u1100\u1100\u1161":       "\u1100\uac00",
		"\u1112\u1175\u11c2\u1161": "\ud7a3\u1161",
		"\u1161\u11a8":             "\u1161\u11a8",
		"\x00\U0010ffff":           "\x00\U0010ffff",
	} {
		if got, e := nfc.Of(d, s); got != want || e != api.OK {
			t.Errorf("P18.1: Of(%+q): %+q, %d, want %+q", s, got, e, want)
		}
		if nfc.Is(d, s) != (s == want) || !nfc.Is(d, want) {
			t.Errorf("P18.2: Is(%+q): %v; Is(%+q): %v", s, nfc.Is(d, s), want, nfc.Is(d, want))
		}
		check(t, d, s)
		checkChars(t, d, joins, []rune(s))
	}
}

// TestJoin: of characters that are no NFD, too; marks, and what blocks, count
// as they stand.
func TestJoin(t *testing.T) {
	d := extract.Data()
	for _, c := range [][2][]rune{
		{{0xE9}, {0xE9}},
		{{0x212B, 0x301}, {0x212B, 0x301}},
		{{0xC5, 0x301}, {0x1FA}},
		{{0x958}, {0x958}},
		{{0x344}, {0x344}},
		{{0x73, 0x307, 0x323}, {0x1E61, 0x323}},
		{{0x73, 0x307, 0x327, 0x323}, {0x1E61, 0x327, 0x323}},
		{{0x65, 0x331, 0x301}, {0xE9, 0x331}},
		{{0x65, 0x345, 0x301}, {0x65, 0x345, 0x301}},
		{{0x65, 0x345, 0x338, 0x301}, {0x65, 0x345, 0x338, 0x301}},
		{{0x65, 0x302, 0x338, 0x301}, {0xEA, 0x338, 0x301}},
		{{0x65, 0x303, 0x338, 0x301}, {0x65, 0x303, 0x338, 0x301}},
		{{0x65, 0x338, 0x303, 0x301}, {0x65, 0x338, 0x303, 0x301}},
		{{0x65, 0x338, 0x301, 0x331}, {0xE9, 0x338, 0x331}},
		{{0x338, 0x65, 0x301}, {0x338, 0xE9}},
		{{0x301, 0x302, 0x301}, {0x301, 0x302, 0x301}},
		{{0x65, 0x345, 0x65, 0x301}, {0x65, 0x345, 0xE9}},
		{{0xAC00, 0x11A8}, {0xAC01}},
		{{0x1100, 0x1161, 0x338, 0x11A8}, {0xAC00, 0x338, 0x11A8}},
	} {
		if got := nfc.Join(d, c[0]); !slices.Equal(got, c[1]) {
			t.Errorf("P18.1: Join(%x): %x, want %x", c[0], got, c[1])
		}
	}
}

// TestWrong: what is no character stays as it is, where it is, and is a base
// that nothing is put together with.
func TestWrong(t *testing.T) {
	d := extract.Data()
	for _, c := range []rune{-1, -0x80000000, 0xD800, 0xDFFF, 0x110000, 0x7FFFFFFF} {
		l := []rune{0x301, c, 0x301, 0x323, 0x65, 0x301, c, c, 0x301}
		if got, want := nfc.Chars(d, l), []rune{0x301, c, 0x323, 0x301, 0xE9, c, c, 0x301}; !slices.Equal(got, want) {
			t.Errorf("P18.1: Chars(%x): %x, want %x", l, got, want)
		}
		if got, want := nfc.Join(d, l), []rune{0x301, c, 0x301, 0x323, 0xE9, c, c, 0x301}; !slices.Equal(got, want) {
			t.Errorf("P18.1: Join(%x): %x, want %x", l, got, want)
		}
	}
}

// TestErrors: nfd.Of's, whatever the NFC is like.
func TestErrors(t *testing.T) {
	d := extract.Data()
	for _, c := range []struct {
		s string
		e api.Errno
	}{
		{"\xff", api.ErrEncoding},
		{"e\u0301\xcc", api.ErrEncoding},
		{"\xed\xa0\x80", api.ErrEncoding},
		{strings.Repeat("\u00e9", 600) + "\xff", api.ErrEncoding},
		{strings.Repeat("\u00e9", 512), api.OK},
		{strings.Repeat("e\u0301", 512), api.OK},
		{strings.Repeat("\u00e9", 512) + "e", api.ErrTooLong},
		{strings.Repeat("e\u0301", 512) + "e", api.ErrTooLong},
		{strings.Repeat("\uac01", 341) + "e", api.OK},
		{strings.Repeat("\uac01", 341) + "\uac00", api.ErrTooLong},
		{strings.Repeat("e", 1025), api.ErrTooLong},
	} {
		got, e := nfc.Of(d, c.s)
		if e != c.e || e != api.OK && got != "" {
			t.Errorf("P18.1: Of(%+.30q), of %d bytes: %+.30q, %d, want %d", c.s, len(c.s), got, e, c.e)
		}
		if is := nfc.Is(d, c.s); is != (c.e == api.OK && got == c.s) {
			t.Errorf("P18.1: Is(%+.30q), of %d bytes: %v", c.s, len(c.s), is)
		}
	}
}

// TestLongChars: of characters there may be more, and one of class 0 may have
// any number of marks.
func TestLongChars(t *testing.T) {
	d := extract.Data()
	l := slices.Repeat([]rune{0x73, 0x307, 0x323}, 2000)
	if got := nfc.Chars(d, l); !slices.Equal(got, slices.Repeat([]rune{0x1E69}, 2000)) {
		t.Errorf("P18.1: Chars of 6000 characters: %d", len(got))
	}
	l = slices.Concat([]rune{0x73}, slices.Repeat([]rune{0x338}, 100000), []rune{0x323, 0x307})
	got := nfc.Join(d, l)
	if want := append([]rune{0x1E69}, l[1:100001]...); !slices.Equal(got, want) {
		t.Errorf("P18.1: Join of 100003 characters: %d", len(got))
	}
}

// TestEvery: each character by itself, of tables of all kinds.
func TestEvery(t *testing.T) {
	for _, d := range []*ucd.Data{extract.Data(), samples.Of(samples.Table()), samples.Of(model.Table{})} {
		joins := composed(d)
		for c := rune(-2); c <= api.LastChar+2; c++ {
			if got := nfc.Chars(d, []rune{c}); d.Map(c) == nil && !slices.Equal(got, []rune{c}) {
				t.Errorf("P18.1: Chars(%x): %x", c, got)
			}
			if got := nfc.Join(d, []rune{c}); !slices.Equal(got, []rune{c}) {
				t.Errorf("P18.1: Join(%x): %x", c, got)
			}
		}
		for _, c := range d.Mapped().Chars() {
			checkChars(t, d, joins, []rune{c})
			check(t, d, string(c))
			if hangul.Of(c) != hangul.None && !nfc.Is(d, string(c)) {
				t.Errorf("P18.1: the syllable %x isn't its NFC", c)
			}
		}
	}
}

// TestShort: all short texts of some characters, of tables of all kinds.
func TestShort(t *testing.T) {
	d, other := extract.Data(), samples.Of(samples.Table())
	joins, otherJoins := composed(d), composed(other)
	for l := range samples.Short(5, 0x73, 0x1E61, 0x307, 0x323, 0x338, 0x301) {
		checkChars(t, d, joins, l)
		check(t, d, string(l))
	}
	for l := range samples.Short(4, 0x1100, 0x1161, 0x11A8, 0xAC00, 0x301, 0x9C7, 0x9BE, 0x9D7) {
		checkChars(t, d, joins, l)
		check(t, d, string(l))
	}
	for l := range samples.Short(4, 0x41, 0x212B, 0x308, 0x304, 0x3100, 0x7A, 0x3FF, 0x10FFFF, 0x20) {
		checkChars(t, other, otherJoins, l)
		check(t, other, string(l))
	}
}

// TestSmall: short texts, of all small tables that may be.
func TestSmall(t *testing.T) {
	for tb := range samples.Small() {
		d := samples.Of(tb)
		if d == nil {
			continue
		}
		joins := composed(d)
		for l := range samples.Short(3, 'a', 'b', 'd') {
			checkChars(t, d, joins, l)
		}
	}
}

// TestOwn: pairs of class 0, of one character twice, in steps, and such as are
// left out.
func TestOwn(t *testing.T) {
	d := samples.Of(model.Table{
		Rows: []rows.Row{mark('1', 1), mark('2', 2), to('A', 'a', 'a'), to('B', 'A', 'A'), to('C', 'a', '1'), to('D', 'C', 'a'), to('E', 'D', '2'), to('F', 'E', '1'), to('G', 'a', 'b'), mark('H', 5, 'b', '1'), to('I', '1', 'b')},
		Excl: cpset.Chars('G'),
	})
	for s, want := range map[string]string{
		"aa": "A", "aaa": "Aa", "aaaa": "AA", "AA": "AA", "B": "AA", "a1": "C", "a1a": "D", "a2a": "a2a", "a1a2": "E", "a1a21": "E1",
		"a1a12": "E1", "a12": "C2", "a21": "C2", "a12a": "C2a", "aa1": "A1", "Da2": "Da2", "Ea": "Ea", "G": "ab", "aab": "Ab", "b1": "b1", "H": "b1", "1b": "1b", "I": "1b", "F": "E1", "aI": "Cb",
	} {
		if got, e := nfc.Of(d, s); got != want || e != api.OK {
			t.Errorf("P18.1: Of(%q): %q, %d, want %q", s, got, e, want)
		}
	}
	joins := composed(d)
	for l := range samples.Short(6, 'a', 'b', '1', '2') {
		checkChars(t, d, joins, l)
	}
	for l := range samples.Short(4, 'a', 'b', '1', '2', 'A', 'C', 'D', 'E', 'F', 'I') {
		checkChars(t, d, joins, l)
	}
}

// TestMemory: what is handed in stays as it is, its spare room too, and
// answers share nothing with it.
func TestMemory(t *testing.T) {
	d := extract.Data()
	whole := []rune{0x73, 0x323, 0x307, 0x61, 0x62}
	l, was := whole[:4], slices.Clone(whole)
	want := []rune{0x1E69, 0x61}
	for name, call := range map[string]func(*ucd.Data, []rune) []rune{"Join": nfc.Join, "Chars": nfc.Chars} {
		first, second := call(d, l), call(d, l)
		clear(first[:cap(first)])
		if !slices.Equal(whole, was) {
			t.Errorf("P18.1: %s: what was handed in is %x now", name, whole)
		}
		if !slices.Equal(second, want) || !slices.Equal(call(d, l), want) {
			t.Errorf("P18.1: %s(%x): %x, once more: %x", name, l, second, call(d, l))
		}
		again := call(d, second)
		clear(second)
		if !slices.Equal(again, want) {
			t.Errorf("P18.2: %s of an NFC shares its memory: %x", name, again)
		}
	}
}

func FuzzOf(f *testing.F) {
	f.Add([]byte{}, "")
	f.Add([]byte{0, 0, 0, 0, 9, 1, 0, 0}, "abab\u1e69\xff")
	f.Add([]byte{1, 1, 0, 0, 1, 2, 0, 0, 9, 0, 1, 0}, "cba\uac01\u0323")
	f.Fuzz(func(t *testing.T, data []byte, s string) {
		d := samples.Of(samples.OfBytes(data))
		if d == nil || len(s) > 200 {
			d = extract.Data()
		}
		check(t, d, s)
		checkChars(t, d, composed(d), []rune(s[:min(len(s), 200)]))
	})
}
