package order_test

import (
	"slices"
	"testing"

	"cedilla/order"
	"cedilla/ucd"
)

// wrongAt is where the first two neighbours stand that aren't in order; -1 if
// there are none.
func wrongAt(d *ucd.Data, l []rune) int {
	for i := 1; i < len(l); i++ {
		if class := d.Class(l[i]); class > 0 && d.Class(l[i-1]) > class {
			return i - 1
		}
	}
	return -1
}

// plainOf exchanges neighbours that aren't in order, as long as there are any.
func plainOf(d *ucd.Data, l []rune) []rune {
	l = slices.Clone(l)
	for from := 0; ; {
		i := wrongAt(d, l[from:])
		if i < 0 {
			return l
		}
		i += from
		l[i], l[i+1] = l[i+1], l[i]
		// All ahead of these were in order, but the less one may go on.
		from = max(i-1, 0)
	}
}

func plainRuns(d *ucd.Data, l []rune) []int {
	var begins []int
	if len(l) > 0 && d.Class(l[0]) != 0 {
		begins = append(begins, 0)
	}
	for i, c := range l {
		if d.Class(c) == 0 {
			begins = append(begins, i)
		}
	}
	return begins
}

// ofClass are those of a class, as they stand.
func ofClass(d *ucd.Data, class int, l []rune) []rune {
	return slices.DeleteFunc(slices.Clone(l), func(c rune) bool { return d.Class(c) != class })
}

// check holds what is answered of l against the plain way, and against what
// the chapter promises.
func check(t *testing.T, d *ucd.Data, l []rune) {
	t.Helper()
	got, want := order.Of(d, l), plainOf(d, l)
	if !slices.Equal(got, want) {
		t.Fatalf("P16.1: Of(%x): %x, want %x", l, got, want)
	}
	if order.In(d, l) != (wrongAt(d, l) < 0) || !order.In(d, got) {
		t.Errorf("P16.1: In(%x): %v; In(%x): %v", l, order.In(d, l), got, order.In(d, got))
	}
	if order.In(d, l) != slices.Equal(l, got) {
		t.Errorf("P16.2: In(%x): %v; Of: %x", l, order.In(d, l), got)
	}
	if again := order.Of(d, got); !slices.Equal(again, got) {
		t.Errorf("P16.2: Of(%x), which is in order: %x", got, again)
	}
	if runs := order.Runs(d, l); !slices.Equal(runs, plainRuns(d, l)) {
		t.Errorf("P16.1: Runs(%x): %v, want %v", l, runs, plainRuns(d, l))
	}
	for _, c := range l {
		if class := d.Class(c); !slices.Equal(ofClass(d, class, l), ofClass(d, class, got)) {
			t.Errorf("P16.1: Of(%x): %x: those of class %d", l, got, class)
		}
	}
	checkExchanged(t, d, l, got)
}

// checkExchanged: any two neighbours of unlike classes above 0 may be
// exchanged.
func checkExchanged(t *testing.T, d *ucd.Data, l, want []rune) {
	t.Helper()
	for i := range max(len(l)-1, 0) {
		a, b := d.Class(l[i]), d.Class(l[i+1])
		if a == 0 || b == 0 || a == b {
			continue
		}
		other := slices.Clone(l)
		other[i], other[i+1] = l[i+1], l[i]
		if got := order.Of(d, other); !slices.Equal(got, want) {
			t.Errorf("P16.2: Of(%x): %x; of %x it is %x", other, got, l, want)
		}
	}
}
