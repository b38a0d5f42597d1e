package model_test

import (
	"slices"
	"testing"

	"cedilla/cpset"
	"cedilla/model"
	"cedilla/rows"
	"cedilla/samples"
)

func between(c, from, to rune) bool {
	return c >= from && c <= to
}

func plainChar(c rune) bool {
	return between(c, 0, 0x10FFFF) && !between(c, 0xD800, 0xDFFF)
}

func plainHangul(c rune) bool {
	return between(c, 0x1100, 0x1112) || between(c, 0x1161, 0x1175) || between(c, 0x11A8, 0x11C2) || between(c, 0xAC00, 0xD7A3)
}

// plainRow looks at each row of a table.
func plainRow(tb model.Table, c rune) rows.Row {
	for _, r := range tb.Rows {
		if r.Code == c {
			return r
		}
	}
	return rows.Row{}
}

func plainMap(tb model.Table, c rune) []rune {
	if !between(c, 0xAC00, 0xD7A3) {
		return plainRow(tb, c).Map
	}
	n := c - 0xAC00
	if n%28 == 0 {
		return []rune{0x1100 + n/588, 0x1161 + n/28%21}
	}
	return []rune{c - n%28, 0x11A7 + n%28}
}

// plainFull replaces all at once, again and again; false if that doesn't end,
// or comes to more than 32 characters.
func plainFull(tb model.Table, c rune) ([]rune, bool) {
	l := []rune{c}
	for range len(tb.Rows) + 3 {
		var next []rune
		for _, c := range l {
			if m := plainMap(tb, c); len(m) > 0 {
				next = append(next, m...)
				continue
			}
			next = append(next, c)
		}
		if len(next) > 32 {
			return nil, false
		}
		if slices.Equal(next, l) && !slices.ContainsFunc(l, func(c rune) bool { return len(plainMap(tb, c)) > 0 }) {
			return l, true
		}
		l = next
	}
	return nil, false
}

func plainPrimary(tb model.Table, c rune) bool {
	if between(c, 0xAC00, 0xD7A3) {
		return true
	}
	r := plainRow(tb, c)
	return len(r.Map) == 2 && r.Class == 0 && plainRow(tb, r.Map[0]).Class == 0 && !tb.Excl.Has(c)
}

// plainCheck answers the note of what is wrong, or "".
func plainCheck(tb model.Table) string {
	for i, r := range tb.Rows {
		rises := i == 0 || r.Code > tb.Rows[i-1].Code
		if !plainChar(r.Code) || !rises || r.Class < 0 || r.Class > 254 || len(r.Map) > 2 {
			return "row"
		}
		if plainHangul(r.Code) || slices.ContainsFunc(r.Map, plainHangul) {
			return "hangul"
		}
		for _, c := range r.Map {
			if !plainChar(c) {
				return "target"
			}
		}
	}
	for _, r := range tb.Rows {
		if _, ends := plainFull(tb, r.Code); !ends {
			return "full"
		}
	}
	for i, r := range tb.Rows {
		for _, ahead := range tb.Rows[:i] {
			if plainPrimary(tb, r.Code) && plainPrimary(tb, ahead.Code) && slices.Equal(r.Map, ahead.Map) {
				return "pair"
			}
		}
	}
	return ""
}

// checkPlain holds all that can be asked of a table against the plain
// answers, and says if it is a right one.
func checkPlain(t *testing.T, tb model.Table, asked ...rune) bool {
	t.Helper()
	note := plainCheck(tb)
	checkNote(t, tb, note)
	for _, c := range asked {
		full := tb.Full(c)
		class, mapping, primary := tb.Class(c), tb.Map(c), tb.Primary(c)
		if note != "" || !plainChar(c) {
			continue
		}
		if class != plainRow(tb, c).Class || !slices.Equal(mapping, plainMap(tb, c)) || primary != plainPrimary(tb, c) {
			t.Errorf("P12.1: %v: of %x: Class %d, Map %x, Primary %v", tb, c, class, mapping, primary)
		}
		if want, _ := plainFull(tb, c); !slices.Equal(full, want) {
			t.Errorf("P12.2: %v: Full(%x): %x, want %x", tb, c, full, want)
		}
		for _, part := range full {
			if tb.Map(part) != nil {
				t.Errorf("P12.2: %v: Full(%x): %x: %x has a mapping", tb, c, full, part)
			}
		}
		if mapping == nil && !slices.Equal(full, []rune{c}) {
			t.Errorf("P12.2: %v: Full(%x), which has no mapping: %x", tb, c, full)
		}
	}
	return note == ""
}

// TestSmallTables: all small tables, right and wrong.
func TestSmallTables(t *testing.T) {
	asked := []rune{'a', 'b', 'c', 'd', 0xAC01}
	right := 0
	for tb := range samples.Small() {
		if checkPlain(t, tb, asked...) {
			right++
		}
	}
	if right < 3000 {
		t.Errorf("%d tables alone are right", right)
	}
}

// kinds are rows that are right and wrong in all ways, of codes that rise and
// fall.
func kinds() []rows.Row {
	return []rows.Row{
		{}, {Code: 'a'}, {Code: 'a', Class: 254}, {Code: 'a', Class: 255}, {Code: 'a', Class: -1},
		{Code: 'b', Map: []rune{'a', 'x'}}, {Code: 'c', Map: []rune{'a', 'x'}}, {Code: 'c', Map: []rune{'b'}}, {Code: 'b', Map: []rune{'c'}},
		{Code: 'c', Map: []rune{'x', 'x', 'x'}}, {Code: 'c', Map: []rune{0xAC00, 'x', 'x'}}, {Code: 'c', Map: []rune{-1, 'x', 'x'}},
		{Code: 'c', Map: []rune{'x', 0x1100}}, {Code: 'c', Map: []rune{-1, 0x1100}}, {Code: 'c', Map: []rune{'x', -1}},
		{Code: -1}, {Code: 0xD800}, {Code: 0x110000}, {Code: 0x1100}, {Code: 0xD7A3, Class: 1}, {Code: 0xD7A3, Map: []rune{0xD800}}, {Code: 0x10FFFF, Map: []rune{'a', 'x'}},
	}
}

// TestShortTables: all tables of up to three of these rows, in any turn.
func TestShortTables(t *testing.T) {
	asked := []rune{0, 'a', 'b', 'c', 0x10FFFF, -1, 0xD800}
	for _, excl := range []cpset.Set{{}, cpset.Chars('c', 0x1100)} {
		check := func(l ...rows.Row) { checkPlain(t, model.Table{Rows: l, Excl: excl}, asked...) }
		check()
		for _, a := range kinds() {
			check(a)
			for _, b := range kinds() {
				check(a, b)
				for _, c := range kinds() {
					check(a, b, c)
				}
			}
		}
	}
}

func FuzzCheck(f *testing.F) {
	f.Add([]byte{})
	f.Add([]byte{1, 0, 2, 3, 9, 0, 0, 7, 9, 1, 1, 2, 255, 0, 255, 255})
	f.Add([]byte{1, 0, 0, 0, 9, 0, 0, 7, 9, 0, 0, 7})
	f.Fuzz(func(t *testing.T, data []byte) {
		asked := []rune{0xAC01}
		for c := rune('a' - 1); c < 'a'+50; c++ {
			asked = append(asked, c)
		}
		checkPlain(t, samples.OfBytes(data[:min(len(data), 400)]), asked...)
	})
}
