package utf_test

import (
	"math"
	"slices"
	"strings"
	"testing"
	"unicode/utf8"

	"cedilla/api"
	"cedilla/utf"
)

// numbers are all characters, the surrogates between them, some numbers
// around them, and the edges of rune.
func numbers() []rune {
	out := []rune{math.MinInt32, math.MinInt32 + 1, -0x110000, -0x80, math.MaxInt32 - 1, math.MaxInt32, 0x1FFFFF, 0x200000}
	for c := rune(-3); c <= 0x110003; c++ {
		out = append(out, c)
	}
	return out
}

// wrong are bytes that begin with no character, and end with none.
func wrong() []string {
	return []string{
		"\x80", "\xbf", "\xc0", "\xc1", "\xc2", "\xdf", "\xe0", "\xef", "\xf0", "\xf4", "\xf5", "\xf8", "\xfe", "\xff",
		"\xc0\x80", "\xc1\xbf", "\xe0\x80\x80", "\xe0\x9f\xbf", "\xf0\x80\x80\x80", "\xf0\x8f\xbf\xbf", // more bytes than are needed
		"\xed\xa0\x80", "\xed\xbf\xbf", "\xed\xa0\x80\xed\xb0\x80", // surrogates
		"\xf4\x90\x80\x80", "\xf5\x80\x80\x80", "\xf7\xbf\xbf\xbf", "\xf8\x88\x80\x80\x80", // beyond the last character
		"\xe2\x82", "\xf0\x9f\x98", "\xe1\x80", "\xc3\xc3", // too early an end
		"\x80\x80", "\x80\x80\x80\x80", "\x80\x80\x80\x80\x80",
	}
}

// sequences are all rows of at most four of the bytes at which something
// changes, so all kinds of right and wrong characters.
func sequences() []string {
	const edges = "\x00A\x7f\x80\x8f\x90\x9f\xa0\xbf\xc0\xc1\xc2\xdf\xe0\xe1\xec\xed\xee\xef\xf0\xf1\xf3\xf4\xf5\xf7\xf8\xff"
	out := []string{""}
	longest := out
	for range 4 {
		var longer []string
		for _, s := range longest {
			for i := range len(edges) {
				longer = append(longer, s+edges[i:i+1])
			}
		}
		longest = longer
		out = append(out, longest...)
	}
	return out
}

// only answers the character that s is, as the library tells it.
func only(s string) (rune, bool) {
	c, n := utf8.DecodeRuneInString(s)
	return c, n > 0 && n == len(s) && (c != utf8.RuneError || n > 1)
}

type found struct {
	c  rune
	n  int
	is bool
}

// wantNext and wantLast try all numbers of bytes, the fewest first.
func wantNext(s string) found {
	for n := 1; n <= len(s) && n <= 4; n++ {
		if c, is := only(s[:n]); is {
			return found{c, n, true}
		}
	}
	return found{}
}

func wantLast(s string) found {
	for n := 1; n <= len(s) && n <= 4; n++ {
		if c, is := only(s[len(s)-n:]); is {
			return found{c, n, true}
		}
	}
	return found{}
}

func wantValid(s string) (int, bool) {
	at, count := 0, 0
	for at < len(s) {
		f := wantNext(s[at:])
		if !f.is {
			return at, false
		}
		at += f.n
		count++
	}
	return count, true
}

// checkBytes holds all calls of one row of bytes against the reference.
func checkBytes(t *testing.T, s string) {
	t.Helper()
	if c, n, is := utf.Next(s); (found{c, n, is}) != wantNext(s) {
		t.Errorf("P5.1: Next(%x): %x, %d, %v; want %+v", s, c, n, is, wantNext(s))
	}
	if c, n, is := utf.Last(s); (found{c, n, is}) != wantLast(s) {
		t.Errorf("P5.1: Last(%x): %x, %d, %v; want %+v", s, c, n, is, wantLast(s))
	}
	number, is := utf.Valid(s)
	wantNumber, wantIs := wantValid(s)
	if number != wantNumber || is != wantIs {
		t.Errorf("P5.1: Valid(%x): %d, %v; want %d, %v", s, number, is, wantNumber, wantIs)
	}
	chars, e := utf.Decode(s)
	if !wantIs {
		if e != api.ErrEncoding || len(chars) != 0 {
			t.Errorf("P5.1: Decode(%x): %x, %d; want none, %d", s, chars, e, api.ErrEncoding)
		}
		return
	}
	if e != api.OK || !slices.Equal(chars, []rune(s)) {
		t.Errorf("P5.1: Decode(%x): %x, %d", s, chars, e)
	}
	if back, e := utf.Encode(chars...); e != api.OK || back != s {
		t.Errorf("P5.2: Decode(%x), and back: %x, %d", s, back, e)
	}
}

func TestIsAndWidth(t *testing.T) {
	for _, c := range numbers() {
		// The library answers -1 of what is no character.
		want := max(utf8.RuneLen(c), 0)
		if utf.Is(c) != (want > 0) || utf.Width(c) != want {
			t.Errorf("P5.1: %x: Is %v, Width %d; want %d", c, utf.Is(c), utf.Width(c), want)
		}
	}
	for c, want := range map[rune]int{
		0: 1, 0x7F: 1, 0x80: 2, 0x7FF: 2, 0x800: 3, 0xD7FF: 3, 0xD800: 0, 0xDFFF: 0, 0xE000: 3,
		0xFFFD: 3, 0xFFFF: 3, 0x10000: 4, 0x10FFFF: 4, 0x110000: 0, -1: 0,
	} {
		if got := utf.Width(c); got != want {
			t.Errorf("P5.1: Width(%x): %d, want %d", c, got, want)
		}
	}
}

// TestEachCharacter: there and back of all there are, alone and between others.
func TestEachCharacter(t *testing.T) {
	for _, c := range numbers() {
		s, e := utf.Encode(c)
		if !utf.Is(c) {
			if s != "" || e != api.ErrArg {
				t.Errorf("P5.2: Encode(%x): %x, %d", c, s, e)
			}
			continue
		}
		if e != api.OK || s != string(c) || len(s) != utf.Width(c) {
			t.Fatalf("P5.2: Encode(%x): %x, %d", c, s, e)
		}
		if got, n, is := utf.Next(s + "\x80"); got != c || n != len(s) || !is {
			t.Errorf("P5.1: Next of %x: %x, %d, %v", c, got, n, is)
		}
		if got, n, is := utf.Last("\xf0" + s); got != c || n != len(s) || !is {
			t.Errorf("P5.1: Last of %x: %x, %d, %v", c, got, n, is)
		}
		if chars, e := utf.Decode(s + s); e != api.OK || !slices.Equal(chars, []rune{c, c}) {
			t.Errorf("P5.2: Decode of %x twice: %x, %d", c, chars, e)
		}
	}
}

func TestBytes(t *testing.T) {
	for _, s := range sequences() {
		checkBytes(t, s)
	}
}

func TestWrong(t *testing.T) {
	for _, s := range wrong() {
		for _, ahead := range []string{"", "a", "\u00e9", "\u20ac", "\U0001F600", "a\U0001F600"} {
			for _, behind := range []string{"", "a", "\u20ac"} {
				checkBytes(t, ahead+s+behind)
				if at, is := utf.Valid(ahead + s + behind); is || at != len(ahead) {
					t.Errorf("P5.1: Valid(%x and %x): %d, %v", ahead, s, at, is)
				}
			}
		}
		if c, n, is := utf.Next(s); c != 0 || n != 0 || is {
			t.Errorf("P5.1: Next(%x): %x, %d, %v", s, c, n, is)
		}
	}
}

// TestNamed: what the chapter itself tells.
func TestNamed(t *testing.T) {
	if c, n, is := utf.Next("\xe2\x82\xac"); c != 0x20AC || n != 3 || !is {
		t.Errorf("P5.1: Next of E2 82 AC: %x, %d, %v", c, n, is)
	}
	for _, s := range []string{"\xed\xa0\x80", "\xc0\x80", "\xf4\x90\x80\x80"} {
		if at, is := utf.Valid(s); at != 0 || is {
			t.Errorf("P5.1: Valid(%x): %d, %v", s, at, is)
		}
	}
}

func TestNone(t *testing.T) {
	checkBytes(t, "")
	if s, e := utf.Encode(); s != "" || e != api.OK {
		t.Errorf("P5.2: Encode of none: %x, %d", s, e)
	}
	if s, e := utf.Encode([]rune(nil)...); s != "" || e != api.OK {
		t.Errorf("P5.2: Encode of nil: %x, %d", s, e)
	}
	if n, is := utf.Valid(""); n != 0 || !is {
		t.Errorf("P5.1: Valid of none: %d, %v", n, is)
	}
}

func TestEncodeWrong(t *testing.T) {
	for _, c := range []rune{-1, math.MinInt32, 0xD800, 0xDBFF, 0xDC00, 0xDFFF, 0x110000, math.MaxInt32} {
		for _, l := range [][]rune{{c}, {c, 'a'}, {'a', c}, {'a', 0x10FFFF, c, c, 0}} {
			if s, e := utf.Encode(l...); s != "" || e != api.ErrArg {
				t.Errorf("P5.2: Encode(%x): %x, %d", l, s, e)
			}
		}
	}
}

func TestLongText(t *testing.T) {
	const many = 100000
	s := strings.Repeat("a\u0327\u20ac\U0010FFFF", many)
	if n, is := utf.Valid(s); n != 4*many || !is {
		t.Errorf("P5.1: Valid of a long text: %d, %v", n, is)
	}
	if at, is := utf.Valid(s + "\xc3"); at != len(s) || is {
		t.Errorf("P5.1: Valid of a long text with a wrong end: %d, %v", at, is)
	}
	chars, e := utf.Decode(s)
	if back, e2 := utf.Encode(chars...); e != api.OK || e2 != api.OK || back != s {
		t.Errorf("P5.2: a long text, and back: %d, %d", e, e2)
	}
}

func TestMemory(t *testing.T) {
	chars, _ := utf.Decode("abc")
	chars[0] = 'x'
	if again, _ := utf.Decode("abc"); !slices.Equal(again, []rune{'a', 'b', 'c'}) {
		t.Errorf("P5.1: Decode's answers share memory: %x", again)
	}
	room := []rune{'a', 0x20AC, 'b', 'c'}
	s, _ := utf.Encode(room[:2]...)
	if !slices.Equal(room, []rune{'a', 0x20AC, 'b', 'c'}) {
		t.Errorf("P5.1: Encode changed what it was handed: %x", room)
	}
	room[0] = 'z'
	if s != "a\u20ac" {
		t.Errorf("P5.1: Encode keeps what it was handed: %x", s)
	}
}

// wantCompare goes through characters' numbers, not bytes.
func wantCompare(a, b string) int {
	return slices.Compare([]rune(a), []rune(b))
}

func TestCompare(t *testing.T) {
	edges := []rune{0, 1, 'a', 0x7F, 0x80, 0x7FF, 0x800, 0xFFF, 0x1000, 0xD7FF, 0xE000, 0xFFFF, 0x10000, 0x3FFFF, 0x40000, 0xFFFFF, 0x100000, 0x10FFFF}
	texts := []string{"", "abc", "abd"}
	for _, c := range edges {
		texts = append(texts, string(c))
		for _, d := range edges {
			texts = append(texts, string([]rune{c, d}))
		}
	}
	for _, a := range texts {
		for _, b := range texts {
			if got, want := utf.Compare(a, b), wantCompare(a, b); got != want {
				t.Errorf("P5.3: Compare(%x, %x): %d, want %d", a, b, got, want)
			}
		}
	}
}

func TestCompareBytes(t *testing.T) {
	all := append(wrong(), "", "a", "\u00e9", "\u20ac", "\U0001F600", "a\xff", "a\x80")
	for _, a := range all {
		for _, b := range all {
			if got, want := utf.Compare(a, b), slices.Compare([]byte(a), []byte(b)); got != want {
				t.Errorf("P5.3: Compare(%x, %x): %d, want %d", a, b, got, want)
			}
		}
	}
}

func FuzzBytes(f *testing.F) {
	for _, s := range wrong() {
		f.Add(s)
		f.Add("\u20ac" + s)
	}
	f.Fuzz(checkBytes)
}
