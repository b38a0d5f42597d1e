package order_test

import (
	"slices"
	"testing"

	"cedilla/extract"
	"cedilla/model"
	"cedilla/order"
	"cedilla/rows"
	"cedilla/samples"
	"cedilla/ucd"
)

var mark = samples.Mark

// marks are three of one class, and others of many, of the extract.
var marks = []rune{0x301, 0x300, 0x308, 0x323, 0x327, 0x338, 0x345}

func of(t *testing.T, l ...rows.Row) *ucd.Data {
	t.Helper()
	d, err := ucd.Of(model.Table{Rows: l})
	if err != nil {
		t.Fatalf("ucd.Of: %v", err)
	}
	return d
}

// TestNamed: what the chapter itself tells.
func TestNamed(t *testing.T) {
	d := extract.Data()
	if got := order.Of(d, []rune{0x61, 0x301, 0x323}); !slices.Equal(got, []rune{0x61, 0x323, 0x301}) {
		t.Errorf("P16.1: Of(61, 301, 323): %x", got)
	}
	if order.In(d, []rune{0x61, 0x301, 0x323}) || !order.In(d, []rune{0x61, 0x323, 0x301}) {
		t.Errorf("P16.1: In(61, 301, 323): %v; In(61, 323, 301): %v", order.In(d, []rune{0x61, 0x301, 0x323}), order.In(d, []rune{0x61, 0x323, 0x301}))
	}
}

func TestNone(t *testing.T) {
	d := extract.Data()
	for _, l := range [][]rune{nil, {}, make([]rune, 0, 5)} {
		if got := order.Of(d, l); got != nil {
			t.Errorf("P16.1: Of none: %x", got)
		}
		if got := order.Runs(d, l); got != nil {
			t.Errorf("P16.1: Runs of none: %v", got)
		}
		if !order.In(d, l) {
			t.Errorf("P16.1: none isn't in order")
		}
	}
}

// TestEdges: rows of characters, what they are in order, and where the runs
// begin.
func TestEdges(t *testing.T) {
	d := of(t, mark('1', 1), mark('2', 2), mark('3', 3), mark('9', 254), mark('x', 1), mark('y', 2), mark('z', 254))
	for _, c := range []struct {
		l, want string
		runs    []int
	}{
		{"a", "a", []int{0}},
		{"1", "1", []int{0}},
		{"aa", "aa", []int{0, 1}},
		{"ba", "ba", []int{0, 1}},
		{"1a", "1a", []int{0, 1}},
		{"9a1", "9a1", []int{0, 1}},
		{"91", "19", []int{0}},
		{"a91", "a19", []int{0}},
		{"9a91", "9a19", []int{0, 1}},
		{"21ab", "12ab", []int{0, 2, 3}},
		{"321a321b321", "123a123b123", []int{0, 3, 7}},
		{"zx9y1az9x1", "x1yz9ax1z9", []int{0, 5}},
		{"y2x1y2x1", "x1x1y2y2", []int{0}},
		{"a1x1x", "a1x1x", []int{0}},
		{"ax1x1", "ax1x1", []int{0}},
		{"a2b1c", "a2b1c", []int{0, 2, 4}},
		{"abc", "abc", []int{0, 1, 2}},
		{"2\x001", "2\x001", []int{0, 1}},
	} {
		l, want := []rune(c.l), []rune(c.want)
		if got := order.Of(d, l); !slices.Equal(got, want) {
			t.Errorf("P16.1: Of(%q): %q, want %q", c.l, string(got), c.want)
		}
		if got := order.Runs(d, l); !slices.Equal(got, c.runs) {
			t.Errorf("P16.1: Runs(%q): %v, want %v", c.l, got, c.runs)
		}
		if got := order.In(d, l); got != (c.l == c.want) {
			t.Errorf("P16.1: In(%q): %v", c.l, got)
		}
	}
}

// TestWrong: what is no character is of class 0.
func TestWrong(t *testing.T) {
	d := extract.Data()
	for _, c := range []rune{-1, -0x80000000, 0xD800, 0xDFFF, 0x110000, 0x7FFFFFFF, 0x10301} {
		l := []rune{0x301, c, 0x323, c, c, 0x301, 0x323}
		if got, want := order.Of(d, l), []rune{0x301, c, 0x323, c, c, 0x323, 0x301}; !slices.Equal(got, want) {
			t.Errorf("P16.1: Of(%x): %x, want %x", l, got, want)
		}
		if got := order.Runs(d, l); !slices.Equal(got, []int{0, 1, 3, 4}) {
			t.Errorf("P16.1: Runs(%x): %v", l, got)
		}
		if order.In(d, l) || !order.In(d, l[:5]) {
			t.Errorf("P16.1: In(%x): %v; In(%x): %v", l, order.In(d, l), l[:5], order.In(d, l[:5]))
		}
	}
}

// TestOwnClass: a mark is sorted by its own class, not by that of what it is
// taken apart to; a character of class 0 is none, though it comes to marks.
func TestOwnClass(t *testing.T) {
	d := of(t, mark('1', 1), mark('2', 2), mark('3', 3, '1'), mark('4', 0, '1', '2'))
	for l, want := range map[string]string{"a32": "a23", "a31": "a13", "2413": "2413", "2431": "2413"} {
		if got := order.Of(d, []rune(l)); string(got) != want {
			t.Errorf("P16.1: Of(%q): %q, want %q", l, string(got), want)
		}
	}
}

// TestShort: all short rows of characters.
func TestShort(t *testing.T) {
	d := extract.Data()
	for _, chars := range [][]rune{
		{0x61, 0x1E69, 0x300, 0x301, 0x323, 0x338},
		{0x61, 0x327, 0x328, 0x345, 0xF73},
	} {
		for l := range samples.Short(6, chars...) {
			check(t, d, l)
		}
	}
}

// TestLong: runs of many marks, many of each class.
func TestLong(t *testing.T) {
	var l []rows.Row
	for i := range 254 {
		l = append(l, mark(0x1000+rune(i), i*i%7+1))
	}
	d := of(t, l...)
	text := []rune{0x20}
	for i := range 3000 {
		text = append(text, l[(i*i+3*i)%251].Code)
		if i%700 == 699 {
			text = append(text, 0x20+rune(i)%2)
		}
	}
	got, want := order.Of(d, text), plainOf(d, text)
	if !slices.Equal(got, want) {
		t.Errorf("P16.1: Of 3000 marks isn't what exchanges come to")
	}
	if !order.In(d, got) || order.In(d, text) || !slices.Equal(order.Runs(d, got), plainRuns(d, text)) {
		t.Errorf("P16.1: In: %v, %v; Runs: %v", order.In(d, got), order.In(d, text), order.Runs(d, got))
	}
}

// TestMemory: what is handed in stays as it is, its spare room too, and
// answers share nothing with it.
func TestMemory(t *testing.T) {
	d := extract.Data()
	whole := []rune{0x61, 0x301, 0x323, 0x301, 0x323, 0x61}
	l, was := whole[:3], slices.Clone(whole)
	first, second := order.Of(d, l), order.Of(d, l)
	clear(first)
	clear(order.Runs(d, l))
	order.In(d, l)
	if !slices.Equal(whole, was) {
		t.Errorf("P16.1: what was handed in is %x now", whole)
	}
	if !slices.Equal(second, []rune{0x61, 0x323, 0x301}) || !slices.Equal(order.Runs(d, l), []int{0}) {
		t.Errorf("P16.1: Of, once more: %x; Runs: %v", second, order.Runs(d, l))
	}
	ordered := order.Of(d, second)
	clear(second)
	if !slices.Equal(ordered, []rune{0x61, 0x323, 0x301}) {
		t.Errorf("P16.2: Of what is in order shares its memory: %x", ordered)
	}
}

func FuzzOf(f *testing.F) {
	d := extract.Data()
	chars := append([]rune{0x61, 0x1E69, 0xAC01, -1, 0xD800}, marks...)
	f.Add([]byte{})
	f.Add([]byte{0, 5, 8, 5, 6, 8, 9, 1, 10, 9})
	f.Fuzz(func(t *testing.T, data []byte) {
		var l []rune
		for _, b := range data[:min(len(data), 300)] {
			l = append(l, chars[int(b)%len(chars)])
		}
		check(t, d, l)
	})
}
