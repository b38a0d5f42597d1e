// Package nat is layer 1: natural numbers of any size (shared/doc/01-nat.md).
package nat

import (
	"cmp"
	"math/bits"
	"slices"
)

const limbBits = 32

// Nat is a natural number; the zero Nat is 0.
//
// Its limbs are trimmed and never written again, so that a number has one
// form alone, and copies of a Nat may share them.
type Nat struct {
	limbs []uint32
}

// Of: a number.
func Of(x uint64) Nat {
	return Limbs(uint32(x), uint32(x>>limbBits))
}

// Limbs: the number of these digits, the lowest first.
func Limbs(l ...uint32) Nat {
	// A caller may hand in a slice of its own by "...", and change it later.
	return trim(slices.Clone(l))
}

// trim keeps l: it is for limbs that no one else holds.
func trim(l []uint32) Nat {
	n := len(l)
	for n > 0 && l[n-1] == 0 {
		n--
	}
	if n == 0 {
		return Nat{}
	}
	return Nat{limbs: l[:n]}
}

// digit goes on with noughts above the last limb, so that sums and
// differences needn't care which number is the longer one.
func (a Nat) digit(i int) uint32 {
	if i < len(a.limbs) {
		return a.limbs[i]
	}
	return 0
}

// Limbs: its digits, the lowest first.
func (a Nat) Limbs() []uint32 {
	return slices.Clone(a.limbs)
}

// Bits: the least n for which it is below 2^n.
func (a Nat) Bits() int {
	if a.Zero() {
		return 0
	}
	top := len(a.limbs) - 1
	return top*limbBits + bits.Len32(a.limbs[top])
}

// Zero: is it 0?
func (a Nat) Zero() bool {
	return len(a.limbs) == 0
}

// Uint64: the number, if it is below 2^64.
func (a Nat) Uint64() (uint64, bool) {
	if len(a.limbs) > 2 {
		return 0, false
	}
	return uint64(a.digit(1))<<limbBits | uint64(a.digit(0)), true
}

// Compare: -1, 0 or 1, as a is below b, the same, or above it.
func Compare(a, b Nat) int {
	// Limbs are trimmed: the number with more of them is the greater one.
	if c := cmp.Compare(len(a.limbs), len(b.limbs)); c != 0 {
		return c
	}
	for i := range len(a.limbs) {
		high := len(a.limbs) - 1 - i
		if c := cmp.Compare(a.limbs[high], b.limbs[high]); c != 0 {
			return c
		}
	}
	return 0
}

// Same: are they the same?
func Same(a, b Nat) bool {
	return Compare(a, b) == 0
}

// Add: their sum.
func Add(a, b Nat) Nat {
	// One limb more takes the last carry.
	sum := make([]uint32, max(len(a.limbs), len(b.limbs))+1)
	var carry uint32
	for i := range len(sum) {
		sum[i], carry = bits.Add32(a.digit(i), b.digit(i), carry)
	}
	return trim(sum)
}

// Sub: a less b, false; or 0, true, if a is below b.
func Sub(a, b Nat) (Nat, bool) {
	if Compare(a, b) < 0 {
		return Nat{}, true
	}
	rest := make([]uint32, len(a.limbs))
	var borrow uint32
	for i := range len(rest) {
		rest[i], borrow = bits.Sub32(a.digit(i), b.digit(i), borrow)
	}
	return trim(rest), false
}
