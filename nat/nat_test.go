package nat_test

import (
	"math/big"
	"slices"
	"testing"

	"cedilla/nat"
)

// edgeLimbs are the digits at which carries and borrows go wrong.
var edgeLimbs = []uint32{0, 1, 2, 0x7fffffff, 0x80000000, 0xfffffffe, 0xffffffff}

// rows answers all rows of n edge limbs.
func rows(n int) [][]uint32 {
	if n == 0 {
		return [][]uint32{nil}
	}
	var out [][]uint32
	for _, row := range rows(n - 1) {
		for _, limb := range edgeLimbs {
			out = append(out, append(slices.Clone(row), limb))
		}
	}
	return out
}

// samples answers numbers of few limbs, rows that end in noughts among them,
// and two long ones whose sum carries all the way.
func samples() []nat.Nat {
	out := []nat.Nat{{}, nat.Limbs()}
	for n := 1; n <= 3; n++ {
		for _, row := range rows(n) {
			out = append(out, nat.Limbs(row...))
		}
	}
	long := slices.Repeat([]uint32{0xffffffff}, 50)
	power := append(make([]uint32, 50), 1)
	return append(out, nat.Limbs(long...), nat.Limbs(power...))
}

func toBig(a nat.Nat) *big.Int {
	x := new(big.Int)
	for _, limb := range slices.Backward(a.Limbs()) {
		x.Lsh(x, 32)
		x.Or(x, big.NewInt(int64(limb)))
	}
	return x
}

func checkLimbs(t *testing.T, what string, a nat.Nat, want ...uint32) {
	t.Helper()
	if got := a.Limbs(); !slices.Equal(got, want) {
		t.Errorf("%s: limbs %v, want %v", what, got, want)
	}
}

func TestOf(t *testing.T) {
	checkLimbs(t, "P1.1: the zero Nat", nat.Nat{})
	checkLimbs(t, "P1.1: Of(0)", nat.Of(0))
	checkLimbs(t, "P1.1: Of(1)", nat.Of(1), 1)
	checkLimbs(t, "P1.1: Of(2^32-1)", nat.Of(1<<32-1), 0xffffffff)
	checkLimbs(t, "P1.1: Of(2^32)", nat.Of(1<<32), 0, 1)
	checkLimbs(t, "P1.1: Of(2^64-1)", nat.Of(1<<64-1), 0xffffffff, 0xffffffff)
}

func TestLimbs(t *testing.T) {
	checkLimbs(t, "P1.1: Limbs()", nat.Limbs())
	checkLimbs(t, "P1.1: Limbs(nil...)", nat.Limbs([]uint32(nil)...))
	checkLimbs(t, "P1.1: Limbs(0, 0, 0)", nat.Limbs(0, 0, 0))
	checkLimbs(t, "P1.1: Limbs(7, 0, 0)", nat.Limbs(7, 0, 0), 7)
	checkLimbs(t, "P1.1: Limbs(0, 5, 0)", nat.Limbs(0, 5, 0), 0, 5)
	checkLimbs(t, "P1.1: Limbs(1, 2, 3)", nat.Limbs(1, 2, 3), 1, 2, 3)
}

func TestLimbsAreCopies(t *testing.T) {
	given := []uint32{1, 2, 3, 0}
	a := nat.Limbs(given...)
	given[0] = 9
	checkLimbs(t, "P1.1: behind a change of what was given", a, 1, 2, 3)
	got := a.Limbs()
	got[1] = 9
	checkLimbs(t, "P1.1: behind a change of what was answered", a, 1, 2, 3)
}

func TestArgumentsStay(t *testing.T) {
	room := []uint32{1, 0xffffffff, 7, 8}
	nat.Limbs(room[:2]...)
	if !slices.Equal(room, []uint32{1, 0xffffffff, 7, 8}) {
		t.Errorf("P1.1: Limbs changed what it was handed: %v", room)
	}
	a, b := nat.Limbs(0xffffffff, 0xffffffff), nat.Limbs(2, 1)
	nat.Add(a, b)
	nat.Sub(a, b)
	checkLimbs(t, "P1.1: a, added and taken from", a, 0xffffffff, 0xffffffff)
	checkLimbs(t, "P1.1: b, added and taken away", b, 2, 1)
}

func TestBits(t *testing.T) {
	for _, a := range samples() {
		if got, want := a.Bits(), toBig(a).BitLen(); got != want {
			t.Errorf("P1.1: Bits of %v: %d, want %d", a.Limbs(), got, want)
		}
	}
	if got := nat.Limbs(0, 0, 1).Bits(); got != 65 {
		t.Errorf("P1.1: Bits of 2^64: %d", got)
	}
	if got := (nat.Nat{}).Bits(); got != 0 {
		t.Errorf("P1.1: Bits of 0: %d", got)
	}
}

func TestZero(t *testing.T) {
	for _, a := range []nat.Nat{{}, nat.Of(0), nat.Limbs(), nat.Limbs(0, 0)} {
		if !a.Zero() {
			t.Errorf("P1.1: %v isn't Zero", a.Limbs())
		}
	}
	for _, a := range []nat.Nat{nat.Of(1), nat.Of(1 << 32), nat.Limbs(0, 0, 1)} {
		if a.Zero() {
			t.Errorf("P1.1: %v is Zero", a.Limbs())
		}
	}
}

func TestUint64(t *testing.T) {
	for _, x := range []uint64{0, 1, 1<<32 - 1, 1 << 32, 1<<63 + 5, 1<<64 - 1} {
		if got, is := nat.Of(x).Uint64(); got != x || !is {
			t.Errorf("P1.1: Uint64 of %d: %d, %v", x, got, is)
		}
	}
	for _, a := range []nat.Nat{nat.Limbs(0, 0, 1), nat.Limbs(7, 0, 0, 1), nat.Limbs(1, 2, 3)} {
		if got, is := a.Uint64(); got != 0 || is {
			t.Errorf("P1.1: Uint64 of %v: %d, %v", a.Limbs(), got, is)
		}
	}
}

func TestAdd(t *testing.T) {
	checkLimbs(t, "P1.1: 0 + 0", nat.Add(nat.Nat{}, nat.Nat{}))
	checkLimbs(t, "P1.1: 2^64-1 + 1", nat.Add(nat.Of(1<<64-1), nat.Of(1)), 0, 0, 1)
	checkLimbs(t, "P1.1: 1 + 2^64-1", nat.Add(nat.Of(1), nat.Of(1<<64-1)), 0, 0, 1)
}

func TestSub(t *testing.T) {
	rest, borrows := nat.Sub(nat.Limbs(0, 0, 1), nat.Of(1))
	if borrows {
		t.Errorf("P1.1: 2^64 - 1 borrows")
	}
	checkLimbs(t, "P1.1: 2^64 - 1", rest, 0xffffffff, 0xffffffff)
	for _, pair := range [][2]nat.Nat{
		{nat.Of(3), nat.Of(4)},
		{nat.Nat{}, nat.Of(1)},
		{nat.Of(1<<64 - 1), nat.Limbs(0, 0, 1)},
		{nat.Limbs(5, 6), nat.Limbs(4, 7)},
	} {
		rest, borrows := nat.Sub(pair[0], pair[1])
		if !borrows {
			t.Errorf("P1.1: %v - %v doesn't borrow", pair[0].Limbs(), pair[1].Limbs())
		}
		checkLimbs(t, "P1.1: beside a borrow", rest)
	}
}

func TestPairsAgainstBig(t *testing.T) {
	for _, a := range samples() {
		for _, b := range samples() {
			x, y := toBig(a), toBig(b)
			want := x.Cmp(y)
			if got := nat.Compare(a, b); got != want {
				t.Fatalf("P1.3: Compare(%v, %v): %d, want %d", a.Limbs(), b.Limbs(), got, want)
			}
			if got := nat.Same(a, b); got != (want == 0) {
				t.Fatalf("P1.3: Same(%v, %v): %v", a.Limbs(), b.Limbs(), got)
			}
			if got := toBig(nat.Add(a, b)); got.Cmp(new(big.Int).Add(x, y)) != 0 {
				t.Fatalf("P1.1: Add(%v, %v): %v", a.Limbs(), b.Limbs(), got)
			}
			rest, borrows := nat.Sub(a, b)
			wantRest := new(big.Int)
			if want >= 0 {
				wantRest.Sub(x, y)
			}
			if borrows != (want < 0) || toBig(rest).Cmp(wantRest) != 0 {
				t.Fatalf("P1.1: Sub(%v, %v): %v, %v", a.Limbs(), b.Limbs(), rest.Limbs(), borrows)
			}
		}
	}
}

func TestSumsAndDifferences(t *testing.T) {
	for _, a := range samples() {
		for _, b := range samples() {
			sum := nat.Add(a, b)
			if !nat.Same(sum, nat.Add(b, a)) {
				t.Fatalf("P1.2: %v + %v hangs on the order", a.Limbs(), b.Limbs())
			}
			if rest, borrows := nat.Sub(sum, b); borrows || !nat.Same(rest, a) {
				t.Fatalf("P1.2: %v added to %v can't be taken away", b.Limbs(), a.Limbs())
			}
			if rest, borrows := nat.Sub(a, b); !borrows && !nat.Same(nat.Add(rest, b), a) {
				t.Fatalf("P1.2: %v taken from %v can't be added", b.Limbs(), a.Limbs())
			}
		}
	}
}

func TestSumsOfThree(t *testing.T) {
	few := []nat.Nat{{}, nat.Of(1), nat.Of(1<<32 - 1), nat.Of(1<<64 - 1), nat.Limbs(0, 0, 1), nat.Limbs(1, 0xffffffff, 0xffffffff)}
	for _, a := range few {
		for _, b := range few {
			for _, c := range few {
				left := nat.Add(nat.Add(a, b), c)
				right := nat.Add(a, nat.Add(b, c))
				if !nat.Same(left, right) {
					t.Errorf("P1.2: %v + %v + %v hangs on the order", a.Limbs(), b.Limbs(), c.Limbs())
				}
			}
		}
	}
}

func TestOrderOfThree(t *testing.T) {
	var few []nat.Nat
	for n := range 3 {
		for _, row := range rows(n) {
			few = append(few, nat.Limbs(row...))
		}
	}
	for _, a := range few {
		for _, b := range few {
			if nat.Compare(a, b) != -nat.Compare(b, a) {
				t.Fatalf("P1.3: %v and %v: neither is the greater", a.Limbs(), b.Limbs())
			}
			for _, c := range few {
				if nat.Compare(a, b) <= 0 && nat.Compare(b, c) <= 0 && nat.Compare(a, c) > 0 {
					t.Fatalf("P1.3: %v, %v, %v go round", a.Limbs(), b.Limbs(), c.Limbs())
				}
			}
		}
	}
}
