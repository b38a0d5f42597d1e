package nfc_test

import (
	"slices"
	"testing"

	"cedilla/api"
	"cedilla/hangul"
	"cedilla/nfc"
	"cedilla/nfd"
	"cedilla/ucd"
)

// composed are the primary composites of what is loaded, by the table itself.
func composed(d *ucd.Data) map[[2]rune]rune {
	all := map[[2]rune]rune{}
	for _, r := range d.Table().Rows {
		if d.Primary(r.Code) {
			all[[2]rune(r.Map)] = r.Code
		}
	}
	return all
}

// plainJoin does as the chapter tells, and looks back from each character.
func plainJoin(d *ucd.Data, joins map[[2]rune]rune, l []rune) []rune {
	var out []rune
	for _, c := range l {
		base := len(out) - 1
		blocked := false
		for base >= 0 && d.Class(out[base]) != 0 {
			blocked = blocked || d.Class(out[base]) >= d.Class(c)
			base--
		}
		if base >= 0 && !blocked {
			joined, is := hangul.Join(out[base], c)
			if !is {
				joined, is = joins[[2]rune{out[base], c}]
			}
			if is {
				out[base] = joined
				continue
			}
		}
		out = append(out, c)
	}
	return out
}

// checkChars holds what is answered of any characters against the plain way,
// and against what the chapter promises.
func checkChars(t *testing.T, d *ucd.Data, joins map[[2]rune]rune, l []rune) {
	t.Helper()
	if got, want := nfc.Join(d, l), plainJoin(d, joins, l); !slices.Equal(got, want) {
		t.Errorf("P18.1: Join(%x): %x, want %x", l, got, want)
	}
	apart := nfd.Chars(d, l)
	got, want := nfc.Chars(d, l), plainJoin(d, joins, apart)
	if !slices.Equal(got, want) {
		t.Fatalf("P18.1: Chars(%x): %x, want %x", l, got, want)
	}
	if again := nfd.Chars(d, got); !slices.Equal(again, apart) {
		t.Errorf("P18.2: the NFC of %x is %x, whose NFD is %x, not %x", l, got, again, apart)
	}
	for _, alike := range [][]rune{apart, got} {
		if again := nfc.Chars(d, alike); !slices.Equal(again, got) {
			t.Errorf("P18.2: Chars(%x): %x; of %x it is %x", alike, again, l, got)
		}
	}
	for i, c := range l {
		replaced := slices.Replace(slices.Clone(l), i, i+1, d.Map(c)...)
		if again := nfc.Chars(d, replaced); d.Map(c) != nil && !slices.Equal(again, got) {
			t.Errorf("P18.2: Chars(%x): %x; of %x it is %x", replaced, again, l, got)
		}
	}
}

// check holds what is answered of any bytes against what the chapter promises;
// what Chars answers is right.
func check(t *testing.T, d *ucd.Data, s string) {
	t.Helper()
	apart, wantE := nfd.Of(d, s)
	want := ""
	if wantE == api.OK {
		want = string(nfc.Chars(d, []rune(s)))
	}
	got, e := nfc.Of(d, s)
	if got != want || e != wantE {
		t.Errorf("P18.1: Of(%+q): %+q, %d, want %+q, %d", s, got, e, want, wantE)
	}
	if is := nfc.Is(d, s); is != (wantE == api.OK && s == want) {
		t.Errorf("P18.1: Is(%+q): %v", s, is)
	}
	if wantE != api.OK {
		return
	}
	if again, e := nfd.Of(d, got); again != apart || e != api.OK {
		t.Errorf("P18.2: the NFC of %+q is %+q, whose NFD is %+q, %d, not %+q", s, got, again, e, apart)
	}
	for _, alike := range []string{apart, got} {
		if again, e := nfc.Of(d, alike); again != got || e != api.OK {
			t.Errorf("P18.2: Of(%+q): %+q, %d; of %+q it is %+q", alike, again, e, s, got)
		}
	}
	if !nfc.Is(d, got) {
		t.Errorf("P18.2: %+q isn't its NFC, but that of %+q", got, s)
	}
}
