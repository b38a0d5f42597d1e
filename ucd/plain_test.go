package ucd_test

import (
	"fmt"
	"slices"
	"testing"

	"cedilla/api"
	"cedilla/cpset"
	"cedilla/excl"
	"cedilla/fault"
	"cedilla/model"
	"cedilla/rows"
	"cedilla/samples"
	"cedilla/ucd"
	"cedilla/utf"
)

// undone is what comes of going through characters one by one.
type undone struct {
	begins map[rune][]rune
	joins  map[[2]rune]rune
	inner  map[rune]int
	second map[rune]int
	mapped []rune
}

// undo takes these characters, which rise, apart by the table itself.
func undo(tb model.Table, all []rune) undone {
	u := undone{begins: map[rune][]rune{}, joins: map[[2]rune]rune{}, inner: map[rune]int{}, second: map[rune]int{}}
	for _, c := range all {
		full, mapping := tb.Full(c), tb.Map(c)
		u.begins[full[0]] = append(u.begins[full[0]], c)
		for _, part := range full[1:] {
			u.inner[part]++
		}
		if len(mapping) > 0 {
			u.mapped = append(u.mapped, c)
		}
		if tb.Primary(c) {
			u.joins[[2]rune(mapping)] = c
			u.second[mapping[1]]++
		}
	}
	return u
}

// checkWrong: Of tells Check's error, and nothing else.
func checkWrong(t *testing.T, tb model.Table, d *ucd.Data, err error) {
	t.Helper()
	f, isFault := err.(*fault.Fault)
	if d != nil || !isFault || f.Code != api.ErrData || f.Note != "table" || f.Line != 0 || fmt.Sprint(f.Cause) != fmt.Sprint(tb.Check()) {
		t.Errorf("P14.1: Of %.200s: %v, %v; want %v", fmt.Sprint(tb), d != nil, err, tb.Check())
	}
}

// checkTable holds what is looked up in a table against the table, of these
// characters, which rise, and are all that say something in it; false if the
// table isn't right.
func checkTable(t *testing.T, tb model.Table, all []rune) bool {
	t.Helper()
	d, err := ucd.Of(tb)
	if tb.Check() != nil {
		checkWrong(t, tb, d, err)
		return false
	}
	if err != nil || d == nil {
		t.Fatalf("P14.1: Of %.200s: %v, %v", fmt.Sprint(tb), d != nil, err)
	}
	checkLooks(t, tb, d, all)
	checkUndone(t, tb, d, all)
	return true
}

func checkLooks(t *testing.T, tb model.Table, d *ucd.Data, all []rune) {
	t.Helper()
	for _, c := range all {
		mapping := tb.Map(c)
		if d.Class(c) != tb.Class(c) || !slices.Equal(d.Map(c), mapping) || !slices.Equal(d.Full(c), tb.Full(c)) || d.Primary(c) != tb.Primary(c) || d.Plain(c) != (len(mapping) == 0) {
			t.Errorf("P14.2: %.200s: of %x: %d, %x, %x, %v, %v", fmt.Sprint(tb), c, d.Class(c), d.Map(c), d.Full(c), d.Primary(c), d.Plain(c))
		}
	}
	var telling []rows.Row
	for _, r := range tb.Rows {
		if r.Class != 0 || len(r.Map) != 0 {
			telling = append(telling, r)
		}
	}
	if got := d.Table(); !slices.EqualFunc(got.Rows, telling, sameRow) || !cpset.Same(got.Excl, tb.Excl) {
		t.Errorf("P14.2: %.200s: Table: %.200s", fmt.Sprint(tb), fmt.Sprint(got))
	}
}

func sameRow(a, b rows.Row) bool {
	return a.Code == b.Code && a.Class == b.Class && slices.Equal(a.Map, b.Map)
}

func checkUndone(t *testing.T, tb model.Table, d *ucd.Data, all []rune) {
	t.Helper()
	u := undo(tb, all)
	for _, c := range all {
		if got := d.Begins(c); !slices.Equal(got, u.begins[c]) {
			t.Errorf("P14.3: %.200s: Begins(%x): %.200s, want %.200s", fmt.Sprint(tb), c, fmt.Sprint(got), fmt.Sprint(u.begins[c]))
		}
		if d.Inner(c) != (u.inner[c] > 0) || d.Second(c) != (u.second[c] > 0) {
			t.Errorf("P14.3: %.200s: of %x: Inner %v, Second %v", fmt.Sprint(tb), c, d.Inner(c), d.Second(c))
		}
	}
	for two, want := range u.joins {
		if c, is := d.Join(two[0], two[1]); c != want || !is {
			t.Errorf("P14.3: %.200s: Join(%x): %x, %v; want %x", fmt.Sprint(tb), two, c, is, want)
		}
	}
	checkJoins(t, d, u, some(all), some(all))
	got := slices.DeleteFunc(d.Mapped().Chars(), func(c rune) bool { _, is := slices.BinarySearch(all, c); return !is })
	if !slices.Equal(got, u.mapped) {
		t.Errorf("P14.2: %.200s: Mapped: %.200s", fmt.Sprint(tb), fmt.Sprint(got))
	}
}

// some are as many as can be held against each other.
func some(all []rune) []rune {
	return all[:min(len(all), 50)]
}

func checkJoins(t *testing.T, d *ucd.Data, u undone, firsts, seconds []rune) {
	t.Helper()
	for _, a := range firsts {
		for _, b := range seconds {
			want, isOne := u.joins[[2]rune{a, b}]
			if c, is := d.Join(a, b); c != want || is != isOne {
				t.Errorf("P14.3: Join(%x, %x): %x, %v; want %x, %v", a, b, c, is, want, isOne)
			}
		}
	}
}

// TestSmallTables: all small tables, right and wrong.
func TestSmallTables(t *testing.T) {
	all := []rune{'`', 'a', 'b', 'c', 'd', 'e'}
	right := 0
	for tb := range samples.Small() {
		if checkTable(t, tb, all) {
			right++
		}
	}
	if right < 3000 {
		t.Errorf("%d tables alone are right", right)
	}
}

func FuzzOf(f *testing.F) {
	f.Add([]byte{})
	f.Add([]byte{1, 0, 2, 3, 9, 0, 0, 7, 9, 1, 1, 2, 255, 0, 255, 255})
	f.Add([]byte{1, 0, 0, 0, 9, 0, 7, 8, 9, 0, 1, 7, 9, 0, 0, 9})
	f.Fuzz(func(t *testing.T, data []byte) {
		var all []rune
		for c := rune('a' - 1); c < 'a'+250; c++ {
			all = append(all, c)
		}
		checkTable(t, samples.OfBytes(data[:min(len(data), 400)]), all)
	})
}

func FuzzLoad(f *testing.F) {
	f.Add("", "")
	f.Add(small, "0958 # QA\n")
	f.Add("0041;X;;0;;0041;;;;;;;;;", "D800")
	f.Fuzz(func(t *testing.T, u, x string) {
		checkLoad(t, u, x)
	})
}

// checkLoad holds Load against the layers that read, and ask, one by one.
func checkLoad(t *testing.T, u, x string) *ucd.Data {
	t.Helper()
	d, err := ucd.Load(u, x)
	l, rowsErr := rows.Parse(u)
	excluded, exclErr := excl.Parse(x)
	tb := model.Table{Rows: l, Excl: excluded}
	var want error
	switch {
	case rowsErr != nil:
		want = &fault.Fault{Code: api.ErrData, Note: "rows", Cause: rowsErr}
	case exclErr != nil:
		want = &fault.Fault{Code: api.ErrData, Note: "excl", Cause: exclErr}
	case tb.Check() != nil:
		want = &fault.Fault{Code: api.ErrData, Note: "table", Cause: tb.Check()}
	}
	if want == nil {
		if err != nil || d == nil || !slices.EqualFunc(d.Table().Rows, l, sameRow) || !cpset.Same(d.Table().Excl, excluded) {
			t.Errorf("P14.1: Load(%.200q, %.200q): %v, %v", u, x, d != nil, err)
		}
		return d
	}
	if d != nil || !sameChain(err, want) {
		t.Errorf("P14.1: Load(%.200q, %.200q): %v, %v; want %v", u, x, d != nil, err, want)
	}
	return nil
}

// sameChain: is each link a fault that bears the same?
func sameChain(a, b error) bool {
	for a != nil && b != nil {
		f, isFault := a.(*fault.Fault)
		g, isToo := b.(*fault.Fault)
		if !isFault || !isToo || f.Code != g.Code || f.Line != g.Line || f.Note != g.Note {
			return false
		}
		a, b = f.Cause, g.Cause
	}
	return a == nil && b == nil
}

// allNumbers are all characters, what is none, and some beside them.
func allNumbers() []rune {
	var l []rune
	for c := rune(-0x200); c < 0x110200; c++ {
		l = append(l, c)
	}
	return l
}

func characters(l []rune) []rune {
	return slices.DeleteFunc(slices.Clone(l), func(c rune) bool { return !utf.Is(c) })
}
