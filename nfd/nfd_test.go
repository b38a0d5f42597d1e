package nfd_test

import (
	"slices"
	"strings"
	"testing"

	"cedilla/api"
	"cedilla/extract"
	"cedilla/model"
	"cedilla/nfd"
	"cedilla/rows"
	"cedilla/samples"
	"cedilla/ucd"
)

var to, mark = samples.To, samples.Mark

// TestNamed: what the chapter itself tells.
func TestNamed(t *testing.T) {
	d := extract.Data()
	want := []rune{0x73, 0x323, 0x307}
	for _, l := range [][]rune{{0x1E69}, {0x73, 0x307, 0x323}} {
		if got := nfd.Chars(d, l); !slices.Equal(got, want) {
			t.Errorf("P17.1: Chars(%x): %x", l, got)
		}
		if got, e := nfd.Of(d, string(l)); got != string(want) || e != api.OK {
			t.Errorf("P17.1: Of(%x): %x, %d", l, []rune(got), e)
		}
		if n, e := nfd.Count(d, string(l)); n != 3 || e != api.OK {
			t.Errorf("P17.1: Count(%x): %d, %d", l, n, e)
		}
	}
}

func TestNone(t *testing.T) {
	d := extract.Data()
	for _, l := range [][]rune{nil, {}, make([]rune, 0, 5)} {
		if got := nfd.Chars(d, l); got != nil {
			t.Errorf("P17.1: Chars of none: %x", got)
		}
	}
	check(t, d, "")
	if !nfd.Is(d, "") {
		t.Errorf("P17.1: \"\" isn't its NFD")
	}
}

// TestEdges: texts, what they are taken apart.
func TestEdges(t *testing.T) {
	d := extract.Data()
	for s, want := range map[string]string{
		"a":                  "a",
		"\u00e9":             "e\u0301",
		"\u212b":             "A\u030a",
		"\u01fa":             "A\u030a\u0301",
		"\u1e69\u0331":       "s\u0323\u0331\u0307",
		"\u1e69\u0327":       "s\u0327\u0323\u0307",
		"\u1e61\u0323\u0307": "s\u0323\u0307\u0307",
		"\u0344":             "\u0308\u0301",
		"\u0344\u0323":       "\u0323\u0308\u0301",
		"\u0340\u0341":       "\u0300\u0301",
		"\u0301\u0340":       "\u0301\u0300",
		"\u0f73":             "\u0f71\u0f72",
		"\u0f71\u0f73":       "\u0f71\u0f71\u0f72",
		"\u0f72\u0f73":       "\u0f71\u0f72\u0f72",
		"\u0f81\u0f75":       "\u0f71\u0f71\u0f80\u0f74",
		"\u0301\u0323a":      "\u0323\u0301a",
		"\u0958\u0959":       "\u0915\u093c\u0916\u093c",
		"\u0958\u094d":       "\u0915\u093c\u094d",
		"\u0915\u094d\u093c": "\u0915\u093c\u094d",
		"\u2000\u2126":       "\u2002\u03a9",
		"\uac00":             "\u1100\u1161",
		"\uac01\u0301":       "\u1100\u1161\u11a8\u0301",
		"\ud7a3":             "\u1112\u1175\u11c2",
		"\uac00\u11a8":       "\u1100\u1161\u11a8",
		"\uf900\uffff":       "\u8c48\uffff",
		"\U0001d15e":         "\U0001d157\U0001d165",
		"\U0001d15e\u0338":   "\U0001d157\u0338\U0001d165",
		"\x00\U0010ffff":     "\x00\U0010ffff",
	} {
		if got, e := nfd.Of(d, s); got != want || e != api.OK {
			t.Errorf("P17.1: Of(%+q): %+q, %d, want %+q", s, got, e, want)
		}
		if nfd.Is(d, s) != (s == want) || !nfd.Is(d, want) {
			t.Errorf("P17.2: Is(%+q): %v; Is(%+q): %v", s, nfd.Is(d, s), want, nfd.Is(d, want))
		}
		check(t, d, s)
		checkChars(t, d, []rune(s))
	}
}

// TestEncoding: bytes that are no text, and how many of them there are doesn't
// matter.
func TestEncoding(t *testing.T) {
	d := extract.Data()
	for _, s := range []string{
		"\xff", "a\x80", "\u00e9\xcc", "\xc0\x80", "\xed\xa0\x80", "\xed\xbf\xbf", "\xf4\x90\x80\x80", "\xe0\x80\x80",
		strings.Repeat("a", 1024) + "\xcc", strings.Repeat("\u00e9", 1024) + "\xff", strings.Repeat("\xff", 5000),
	} {
		if got, e := nfd.Of(d, s); got != "" || e != api.ErrEncoding {
			t.Errorf("P17.1: Of(%+q): %+q, %d", s, got, e)
		}
		if n, e := nfd.Count(d, s); n != 0 || e != api.ErrEncoding {
			t.Errorf("P17.1: Count(%+q): %d, %d", s, n, e)
		}
		if nfd.Is(d, s) {
			t.Errorf("P17.1: Is(%+q)", s)
		}
	}
}

// TestTooLong: what counts is the characters of the NFD.
func TestTooLong(t *testing.T) {
	d := extract.Data()
	full := samples.Of(model.Table{Rows: samples.Doubled(5)})
	for _, c := range []struct {
		d     *ucd.Data
		s     string
		count int
	}{
		{d, strings.Repeat("a", 1024), 1024},
		{d, strings.Repeat("a", 1025), 1025},
		{d, strings.Repeat("\U0010ffff", 1024), 1024},
		{d, strings.Repeat("\U0010ffff", 1025), 1025},
		{d, strings.Repeat("\u00e9", 512), 1024},
		{d, strings.Repeat("\u00e9", 512) + "a", 1025},
		{d, "a" + strings.Repeat("\u00e9", 512), 1025},
		{d, strings.Repeat("\uac01", 341) + "a", 1024},
		{d, strings.Repeat("\uac01", 341) + "\uac00", 1025},
		{d, strings.Repeat("\u0301", 1023) + "\u0323", 1024},
		{d, strings.Repeat("\u0301", 1024) + "\u0323", 1025},
		{d, strings.Repeat("\u1e69", 100000), 300000},
		{full, strings.Repeat("\U00030005", 32), 1024},
		{full, strings.Repeat("\U00030005", 32) + "\U00030000", 1025},
		{full, strings.Repeat("\U00030005", 1024), 32768},
	} {
		want, e, wantE := c.count, api.OK, api.OK
		if c.count > 1024 {
			want, wantE = 0, api.ErrTooLong
		}
		n, e := nfd.Count(c.d, c.s)
		if n != want || e != wantE {
			t.Errorf("P17.1: Count(%+.30q), of %d bytes: %d, %d, want %d, %d", c.s, len(c.s), n, e, want, wantE)
		}
		got, e := nfd.Of(c.d, c.s)
		if len([]rune(got)) != want || e != wantE {
			t.Errorf("P17.1: Of(%+.30q), of %d bytes: %d characters, %d, want %d, %d", c.s, len(c.s), len([]rune(got)), e, want, wantE)
		}
		if is := nfd.Is(c.d, c.s); is != (wantE == api.OK && c.s == got) {
			t.Errorf("P17.1: Is(%+.30q), of %d bytes: %v", c.s, len(c.s), is)
		}
	}
}

// TestLongChars: of characters there may be more.
func TestLongChars(t *testing.T) {
	d := extract.Data()
	got := nfd.Chars(d, slices.Repeat([]rune{0x1E69, 0x331}, 1025))
	if want := slices.Repeat([]rune{0x73, 0x323, 0x331, 0x307}, 1025); !slices.Equal(got, want) {
		t.Errorf("P17.1: Chars of 2050 characters: %d", len(got))
	}
}

// TestWrong: what is no character stays as it is, and where it is.
func TestWrong(t *testing.T) {
	d := extract.Data()
	for _, c := range []rune{-1, -0x80000000, 0xD800, 0xDFFF, 0x110000, 0x7FFFFFFF} {
		l := []rune{c, 0x301, 0x323, c, 0x1E69, c, 0x331}
		if got, want := nfd.Chars(d, l), []rune{c, 0x323, 0x301, c, 0x73, 0x323, 0x307, c, 0x331}; !slices.Equal(got, want) {
			t.Errorf("P17.1: Chars(%x): %x, want %x", l, got, want)
		}
	}
}

// TestEvery: each character by itself, of tables of all kinds.
func TestEvery(t *testing.T) {
	for _, d := range []*ucd.Data{extract.Data(), samples.Of(samples.Table()), samples.Of(model.Table{})} {
		for c := rune(-2); c <= api.LastChar+2; c++ {
			if got := nfd.Chars(d, []rune{c}); d.Map(c) == nil && !slices.Equal(got, []rune{c}) {
				t.Errorf("P17.1: Chars(%x): %x", c, got)
			}
		}
		for _, c := range d.Mapped().Chars() {
			checkChars(t, d, []rune{c})
			check(t, d, string(c))
		}
	}
}

// TestShort: all short texts of some characters, of tables of all kinds.
func TestShort(t *testing.T) {
	d, other := extract.Data(), samples.Of(samples.Table())
	for l := range samples.Short(5, 0x73, 0x1E69, 0x307, 0x323, 0x344, 0x338) {
		checkChars(t, d, l)
		check(t, d, string(l))
	}
	for l := range samples.Short(4, 0x41, 0x212B, 0x300, 0x340, 0x3099, 0x3100, 0xF72, 0xF73, 0x400) {
		checkChars(t, other, l)
		check(t, other, string(l))
	}
}

// TestSmall: short texts, of all small tables that may be.
func TestSmall(t *testing.T) {
	for tb := range samples.Small() {
		d := samples.Of(tb)
		if d == nil {
			continue
		}
		for l := range samples.Short(2, 'a', 'b', 'c') {
			checkChars(t, d, l)
		}
	}
}

// TestOwnClass: a character with a mapping comes to where the classes of what
// it is taken apart to say, whatever its own is.
func TestOwnClass(t *testing.T) {
	d := samples.Of(model.Table{Rows: []rows.Row{mark('1', 1), mark('2', 2), mark('3', 3), mark('x', 9, '3', '1'), to('y', '2', 'a'), mark('z', 1, 'a', '2')}})
	for l, want := range map[string]string{
		"x": "13", "2x": "123", "x2": "123", "a3x": "a133",
		"y": "2a", "y1": "2a1", "3y1": "23a1", "ay": "a2a",
		"z1": "a12", "3z": "3a2", "21z1": "12a12",
	} {
		if got, e := nfd.Of(d, l); got != want || e != api.OK {
			t.Errorf("P17.1: Of(%q): %q, %d, want %q", l, got, e, want)
		}
	}
}

// TestMemory: what is handed in stays as it is, its spare room too, and
// answers share nothing with it, nor with what is loaded.
func TestMemory(t *testing.T) {
	d := extract.Data()
	whole := []rune{0x1E69, 0x331, 0x301, 0x61}
	l, was := whole[:1], slices.Clone(whole)
	want := []rune{0x73, 0x323, 0x307}
	first, second := nfd.Chars(d, l), nfd.Chars(d, l)
	clear(first)
	if !slices.Equal(whole, was) {
		t.Errorf("P17.1: what was handed in is %x now", whole)
	}
	if !slices.Equal(second, want) || !slices.Equal(nfd.Chars(d, l), want) || !slices.Equal(d.Full(0x1E69), want) {
		t.Errorf("P17.1: Chars(%x): %x, once more: %x", l, second, nfd.Chars(d, l))
	}
	again := nfd.Chars(d, second)
	clear(second)
	if !slices.Equal(again, want) {
		t.Errorf("P17.2: Chars of an NFD shares its memory: %x", again)
	}
}

func FuzzOf(f *testing.F) {
	f.Add([]byte{}, "")
	f.Add([]byte{0, 0, 0, 0, 9, 1, 0, 0}, "abab\u1e69\xff")
	f.Add([]byte{1, 1, 0, 0, 1, 2, 0, 0, 9, 0, 1, 0}, "cba\uac01\u0323")
	f.Fuzz(func(t *testing.T, data []byte, s string) {
		d := samples.Of(samples.OfBytes(data))
		if d == nil || len(s) > 200 {
			d = extract.Data()
		}
		check(t, d, s)
		checkChars(t, d, []rune(s[:min(len(s), 200)]))
	})
}
