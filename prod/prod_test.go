package prod_test

import (
	"math"
	"math/big"
	"slices"
	"testing"

	"cedilla/api"
	"cedilla/nat"
	"cedilla/prod"
)

// edgeLimbs are the digits at which carries, and guesses of a quotient, go wrong.
var edgeLimbs = []uint32{0, 1, 0x7fffffff, 0x80000000, 0xfffffffe, 0xffffffff}

// numbers answers the numbers of at most n edge limbs.
func numbers(n int) []nat.Nat {
	rows := [][]uint32{nil}
	for range n {
		var longer [][]uint32
		for _, row := range rows {
			for _, limb := range edgeLimbs {
				longer = append(longer, append(slices.Clone(row), limb))
			}
		}
		rows = longer
	}
	var out []nat.Nat
	for _, row := range rows {
		out = append(out, nat.Limbs(row...))
	}
	return out
}

// longNumbers answers numbers of many limbs, made by a rule.
func longNumbers() []nat.Nat {
	var out []nat.Nat
	x := uint64(1)
	for _, n := range []int{5, 17, 40, 41, 90} {
		limbs := make([]uint32, n)
		for i := range limbs {
			x = x*6364136223846793005 + 1442695040888963407
			limbs[i] = uint32(x >> 32)
		}
		out = append(out, nat.Limbs(limbs...))
	}
	return append(out, nat.Limbs(slices.Repeat([]uint32{0xffffffff}, 60)...))
}

func toBig(a nat.Nat) *big.Int {
	x := new(big.Int)
	for _, limb := range slices.Backward(a.Limbs()) {
		x.Lsh(x, 32)
		x.Or(x, big.NewInt(int64(limb)))
	}
	return x
}

func checkLimbs(t *testing.T, what string, a nat.Nat, want ...uint32) {
	t.Helper()
	if got := a.Limbs(); !slices.Equal(got, want) {
		t.Errorf("%s: limbs %v, want %v", what, got, want)
	}
}

func checkMul(t *testing.T, a, b nat.Nat) {
	t.Helper()
	got := prod.Mul(a, b)
	if toBig(got).Cmp(new(big.Int).Mul(toBig(a), toBig(b))) != 0 {
		t.Fatalf("P2.1: Mul(%v, %v): %v", a.Limbs(), b.Limbs(), got.Limbs())
	}
}

func checkDivMod(t *testing.T, a, b nat.Nat) {
	t.Helper()
	q, r, e := prod.DivMod(a, b)
	if b.Zero() {
		if e != api.ErrDiv || !q.Zero() || !r.Zero() {
			t.Fatalf("P2.1: DivMod(%v, 0): %v, %v, %d", a.Limbs(), q.Limbs(), r.Limbs(), e)
		}
		return
	}
	wantQ, wantR := new(big.Int).QuoRem(toBig(a), toBig(b), new(big.Int))
	if e != api.OK || toBig(q).Cmp(wantQ) != 0 || toBig(r).Cmp(wantR) != 0 {
		t.Fatalf("P2.1: DivMod(%v, %v): %v, %v, %d", a.Limbs(), b.Limbs(), q.Limbs(), r.Limbs(), e)
	}
}

func TestMul(t *testing.T) {
	checkLimbs(t, "P2.1: 0 times 0", prod.Mul(nat.Nat{}, nat.Nat{}))
	checkLimbs(t, "P2.1: 0 times 2^64", prod.Mul(nat.Nat{}, nat.Limbs(0, 0, 1)))
	checkLimbs(t, "P2.1: 2^64 times 0", prod.Mul(nat.Limbs(0, 0, 1), nat.Nat{}))
	checkLimbs(t, "P2.1: 6 times 7", prod.Mul(nat.Of(6), nat.Of(7)), 42)
	checkLimbs(t, "P2.1: 2^32 times 2^32", prod.Mul(nat.Of(1<<32), nat.Of(1<<32)), 0, 0, 1)
	checkLimbs(t, "P2.1: 2^64-1 times itself", prod.Mul(nat.Of(1<<64-1), nat.Of(1<<64-1)), 1, 0, 0xfffffffe, 0xffffffff)
	for _, a := range numbers(3) {
		for _, b := range numbers(3) {
			checkMul(t, a, b)
		}
	}
	for _, a := range longNumbers() {
		for _, b := range longNumbers() {
			checkMul(t, a, b)
		}
	}
}

func TestOf(t *testing.T) {
	checkLimbs(t, "P2.1: of none", prod.Of(), 1)
	checkLimbs(t, "P2.1: of a nil list", prod.Of([]nat.Nat(nil)...), 1)
	checkLimbs(t, "P2.1: of one", prod.Of(nat.Limbs(5, 6, 7)), 5, 6, 7)
	checkLimbs(t, "P2.1: of four", prod.Of(nat.Of(2), nat.Of(3), nat.Of(1<<32), nat.Of(7)), 0, 42)
	checkLimbs(t, "P2.1: of a nought among others", prod.Of(nat.Of(2), nat.Nat{}, nat.Of(7)))
}

func TestDivMod(t *testing.T) {
	q, r, e := prod.DivMod(nat.Of(100), nat.Of(7))
	checkLimbs(t, "P2.1: 100 by 7", q, 14)
	checkLimbs(t, "P2.1: 100 by 7, left", r, 2)
	if e != api.OK {
		t.Errorf("P2.1: 100 by 7: %d", e)
	}
	for _, a := range numbers(4) {
		for _, b := range numbers(2) {
			checkDivMod(t, a, b)
		}
	}
	for _, a := range numbers(4) {
		for _, b := range numbers(3) {
			checkDivMod(t, a, b)
		}
	}
}

func TestDivModOfLongOnes(t *testing.T) {
	for _, a := range longNumbers() {
		checkDivMod(t, a, nat.Nat{})
		checkDivMod(t, a, nat.Of(1))
		checkDivMod(t, a, nat.Of(10))
		for _, b := range longNumbers() {
			product := prod.Mul(a, b)
			below, _ := nat.Sub(product, nat.Of(1))
			checkDivMod(t, a, b)
			checkDivMod(t, product, b)
			checkDivMod(t, below, b)
		}
	}
}

// The first guess of a limb is 2^32 and more, or stays one too great, so that
// a divisor must be added back.
func TestDivModOfWrongGuesses(t *testing.T) {
	checkDivMod(t, nat.Limbs(0, 0, 0x80000000, 0x7fffffff), nat.Limbs(1, 0, 0x80000000))
	checkDivMod(t, nat.Limbs(3, 0, 0x80000000), nat.Limbs(1, 0, 0x20000000))
	checkDivMod(t, nat.Limbs(0, 0xfffffffe, 0x80000000), nat.Limbs(0xffffffff, 0x80000000))
	checkDivMod(t, nat.Limbs(0, 0xfffffff0, 0x80000000), nat.Limbs(0xffffffff, 0x80000000))
	checkDivMod(t, nat.Limbs(0, 0, 0, 0xffffffff, 0x7fffffff), nat.Limbs(0xffffffff, 0, 0x80000000))
}

func TestPow(t *testing.T) {
	for _, row := range []struct {
		a    uint64
		n    int
		want []uint32
	}{
		{0, 0, []uint32{1}},
		{0, 1, nil},
		{0, math.MaxInt, nil},
		{1, 1 << 17, []uint32{1}},
		{7, 0, []uint32{1}},
		{7, 1, []uint32{7}},
		{3, 5, []uint32{243}},
		{2, 64, []uint32{0, 0, 1}},
		{1 << 32, 3, []uint32{0, 0, 0, 1}},
	} {
		got, e := prod.Pow(nat.Of(row.a), row.n)
		if e != api.OK || !slices.Equal(got.Limbs(), row.want) {
			t.Errorf("P2.1: Pow(%d, %d): %v, %d", row.a, row.n, got.Limbs(), e)
		}
	}
	for n := range 70 {
		got, e := prod.Pow(nat.Of(10), n)
		want := new(big.Int).Exp(big.NewInt(10), big.NewInt(int64(n)), nil)
		if e != api.OK || toBig(got).Cmp(want) != 0 {
			t.Errorf("P2.1: Pow(10, %d): %v, %d", n, got.Limbs(), e)
		}
	}
}

func TestPowErrors(t *testing.T) {
	huge := nat.Limbs(append(make([]uint32, 1<<12), 1)...) // 2^17 + 1 bits
	for _, row := range []struct {
		what string
		a    nat.Nat
		n    int
		want api.Errno
	}{
		{"2 to the 2^16", nat.Of(2), 1 << 16, api.OK},
		{"2 to the 2^16 + 1", nat.Of(2), 1<<16 + 1, api.ErrBig},
		{"7 to the 43690", nat.Of(7), 43690, api.OK},
		{"7 to the 43691", nat.Of(7), 43691, api.ErrBig},
		{"1 to the 2^17", nat.Of(1), 1 << 17, api.OK},
		{"1 to the 2^17 + 1", nat.Of(1), 1<<17 + 1, api.ErrBig},
		{"2^32 to the greatest", nat.Of(1 << 32), math.MaxInt, api.ErrBig},
		// 4 times 2^62 is 0 in 64 bits
		{"8 to the 2^62", nat.Of(8), 1 << 62, api.ErrBig},
		{"0 to the -1", nat.Nat{}, -1, api.ErrArg},
		{"2 to the least", nat.Of(2), math.MinInt, api.ErrArg},
		{"too great a one to the -1", huge, -1, api.ErrArg},
		{"too great a one to the 0", huge, 0, api.OK},
		{"too great a one to the 1", huge, 1, api.ErrBig},
	} {
		got, e := prod.Pow(row.a, row.n)
		if e != row.want {
			t.Errorf("P2.1: %s: %d, want %d", row.what, e, row.want)
		}
		if e != api.OK && !got.Zero() {
			t.Errorf("P2.1: %s: %v beside an error", row.what, got.Limbs())
		}
	}
	got, _ := prod.Pow(nat.Of(2), 1<<16)
	if got.Bits() != 1<<16+1 {
		t.Errorf("P2.1: 2 to the 2^16 has %d bits", got.Bits())
	}
}

func TestProductsAndOrder(t *testing.T) {
	for _, a := range numbers(3) {
		for _, b := range numbers(2) {
			product := prod.Mul(a, b)
			if !nat.Same(product, prod.Mul(b, a)) || !nat.Same(product, prod.Of(b, a)) {
				t.Fatalf("P2.2: %v times %v hangs on the order", a.Limbs(), b.Limbs())
			}
			for _, c := range numbers(1) {
				checkThree(t, a, b, c)
			}
		}
	}
}

func checkThree(t *testing.T, a, b, c nat.Nat) {
	t.Helper()
	if !nat.Same(prod.Of(a, b, c), prod.Mul(a, prod.Mul(b, c))) {
		t.Fatalf("P2.2: %v, %v, %v: the product hangs on the order", a.Limbs(), b.Limbs(), c.Limbs())
	}
	whole := prod.Mul(a, nat.Add(b, c))
	parts := nat.Add(prod.Mul(a, b), prod.Mul(a, c))
	if !nat.Same(whole, parts) {
		t.Fatalf("P2.2: %v, %v, %v: the product doesn't go through the sum", a.Limbs(), b.Limbs(), c.Limbs())
	}
}

func TestQuotientsAndProducts(t *testing.T) {
	divisors := slices.Concat(numbers(2), longNumbers())
	for _, a := range slices.Concat(numbers(4), longNumbers()) {
		for _, b := range divisors {
			q, r, e := prod.DivMod(a, b)
			if e != api.OK {
				continue
			}
			if !nat.Same(nat.Add(prod.Mul(q, b), r), a) || nat.Compare(r, b) >= 0 {
				t.Fatalf("P2.2: %v by %v: %v, %v", a.Limbs(), b.Limbs(), q.Limbs(), r.Limbs())
			}
		}
	}
}

func TestArgumentsStay(t *testing.T) {
	a, b := nat.Limbs(0, 0, 0x80000000, 0x7fffffff), nat.Limbs(1, 0, 0x80000000)
	list := []nat.Nat{a, b, a}
	prod.Mul(a, b)
	prod.Of(list[:2]...)
	prod.DivMod(a, b)
	prod.Pow(b, 5)
	checkLimbs(t, "P2.1: a", a, 0, 0, 0x80000000, 0x7fffffff)
	checkLimbs(t, "P2.1: b", b, 1, 0, 0x80000000)
	if !nat.Same(list[0], a) || !nat.Same(list[1], b) || !nat.Same(list[2], a) {
		t.Errorf("P2.1: Of changed the list that it was handed")
	}
}
