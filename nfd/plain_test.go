package nfd_test

import (
	"slices"
	"testing"

	"cedilla/api"
	"cedilla/nfd"
	"cedilla/order"
	"cedilla/ucd"
	"cedilla/utf"
)

// plainChars replaces the first character that has a mapping by that, as long
// as there is one, and then exchanges neighbours that aren't in order, as long
// as there are any.
func plainChars(d *ucd.Data, l []rune) []rune {
	l = slices.Clone(l)
	hasMap := func(c rune) bool { return len(d.Map(c)) > 0 }
	for at := slices.IndexFunc(l, hasMap); at >= 0; at = slices.IndexFunc(l, hasMap) {
		l = slices.Replace(l, at, at+1, d.Map(l[at])...)
	}
	for sorted := false; !sorted; {
		sorted = true
		for i := 1; i < len(l); i++ {
			if d.Class(l[i]) > 0 && d.Class(l[i-1]) > d.Class(l[i]) {
				l[i-1], l[i] = l[i], l[i-1]
				sorted = false
			}
		}
	}
	return l
}

// checkChars holds what is answered of any characters against the plain way,
// and against what the chapter promises.
func checkChars(t *testing.T, d *ucd.Data, l []rune) {
	t.Helper()
	got, want := nfd.Chars(d, l), plainChars(d, l)
	if !slices.Equal(got, want) {
		t.Fatalf("P17.1: Chars(%x): %x, want %x", l, got, want)
	}
	if !order.In(d, got) || slices.ContainsFunc(got, func(c rune) bool { return !d.Plain(c) || d.Map(c) != nil }) {
		t.Errorf("P17.2: Chars(%x): %x: it isn't in order, or not all taken apart", l, got)
	}
	if again := nfd.Chars(d, got); !slices.Equal(again, got) {
		t.Errorf("P17.2: Chars(%x), which is an NFD: %x", got, again)
	}
	for i, c := range l {
		for _, instead := range [][]rune{d.Map(c), d.Full(c)} {
			replaced := slices.Replace(slices.Clone(l), i, i+1, instead...)
			if got := nfd.Chars(d, replaced); d.Map(c) != nil && !slices.Equal(got, want) {
				t.Errorf("P17.3: Chars(%x): %x; of %x it is %x", replaced, got, l, want)
			}
		}
		replaced := slices.Concat(nfd.Chars(d, l[:i]), l[i:])
		if got := nfd.Chars(d, replaced); !slices.Equal(got, want) {
			t.Errorf("P17.3: Chars(%x): %x; of %x it is %x", replaced, got, l, want)
		}
	}
}

// check holds what is answered of any bytes against the plain way.
func check(t *testing.T, d *ucd.Data, s string) {
	t.Helper()
	want, count, wantE := "", 0, api.OK
	l, e := utf.Decode(s)
	if e != api.OK {
		wantE = api.ErrEncoding
	} else if l = plainChars(d, l); len(l) > api.MaxText {
		wantE = api.ErrTooLong
	} else {
		want, count = string(l), len(l)
	}
	got, e := nfd.Of(d, s)
	if got != want || e != wantE {
		t.Errorf("P17.1: Of(%+q): %+q, %d, want %+q, %d", s, got, e, want, wantE)
	}
	if n, e := nfd.Count(d, s); n != count || e != wantE {
		t.Errorf("P17.1: Count(%+q): %d, %d, want %d, %d", s, n, e, count, wantE)
	}
	if is := nfd.Is(d, s); is != (wantE == api.OK && s == want) {
		t.Errorf("P17.1: Is(%+q): %v", s, is)
	}
	if wantE == api.OK {
		if again, e := nfd.Of(d, got); again != got || e != api.OK || !nfd.Is(d, got) {
			t.Errorf("P17.2: Of(%+q), which is an NFD: %+q, %d; Is: %v", got, again, e, nfd.Is(d, got))
		}
	}
}
