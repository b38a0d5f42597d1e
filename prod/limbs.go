package prod

import (
	"math/bits"

	"cedilla/nat"
)

const limbBits = 32

// addTimes adds k times y to sum, which is as long, and answers the limb
// that goes out above it: (2^32-1)^2 and twice 2^32-1 just fill 64 bits.
func addTimes(sum, y []uint32, k uint32) uint32 {
	var carry uint64
	for i := range len(y) {
		t := uint64(k)*uint64(y[i]) + uint64(sum[i]) + carry
		sum[i] = uint32(t)
		carry = t >> limbBits
	}
	return uint32(carry)
}

// subTimes takes k times y from rest, which is one limb longer, and says
// whether that was more than there was.
func subTimes(rest, y []uint32, k uint32) bool {
	var carry uint64
	var borrow uint32
	for i := range len(y) {
		t := uint64(k)*uint64(y[i]) + carry
		rest[i], borrow = bits.Sub32(rest[i], uint32(t), borrow)
		carry = t >> limbBits
	}
	rest[len(y)], borrow = bits.Sub32(rest[len(y)], uint32(carry), borrow)
	return borrow != 0
}

// addBack undoes one y of a subTimes that took too much: what goes out above
// the last limb is just what had been borrowed there.
func addBack(rest, y []uint32) {
	var carry uint32
	for i := range len(y) {
		rest[i], carry = bits.Add32(rest[i], y[i], carry)
	}
	rest[len(y)] += carry
}

// divideShort divides by one limb, which isn't 0.
func divideShort(x []uint32, y uint32) (q, r nat.Nat) {
	quotient := make([]uint32, len(x))
	var rest uint32
	for i := range len(x) {
		high := len(x) - 1 - i
		quotient[high], rest = bits.Div32(rest, x[high], y)
	}
	return nat.Limbs(quotient...), nat.Limbs(rest)
}

// divideLong divides by two limbs or more, of which the last isn't 0.
func divideLong(x, y []uint32) (q, r nat.Nat) {
	if len(x) < len(y) {
		return nat.Nat{}, nat.Limbs(x...)
	}
	// With the divisor's highest bit set a guess is too great by 2 at most.
	up := bits.LeadingZeros32(y[len(y)-1])
	divisor := shiftUp(y, up)[:len(y)]
	rest := shiftUp(x, up)
	quotient := make([]uint32, len(rest)-len(divisor))
	for i := range len(quotient) {
		low := len(quotient) - 1 - i
		quotient[low] = divideStep(rest[low:low+len(divisor)+1], divisor)
	}
	return nat.Limbs(quotient...), nat.Limbs(shiftDown(rest, up)...)
}

// divideStep makes one limb of a quotient, and leaves in rest, which is one
// limb longer than y and below 2^32 times it, what is left.
func divideStep(rest, y []uint32) uint32 {
	guess := guessDigit(rest, y)
	if subTimes(rest, y, guess) {
		// The guess by three limbs against two is seldom too great, then by 1.
		guess--
		addBack(rest, y)
	}
	return guess
}

// guessDigit guesses a limb of the quotient by the highest three limbs of
// rest and the highest two of y: it is right, or one too great.
func guessDigit(rest, y []uint32) uint32 {
	n := len(y)
	top := uint64(rest[n])<<limbBits | uint64(rest[n-1])
	guess := top / uint64(y[n-1])
	left := top % uint64(y[n-1])
	for guess>>limbBits != 0 || guess*uint64(y[n-2]) > left<<limbBits|uint64(rest[n-2]) {
		guess--
		left += uint64(y[n-1])
		// From here on left's shift would run over, and the guess stands.
		if left>>limbBits != 0 {
			break
		}
	}
	return uint32(guess)
}

// shiftUp makes x times 2^n, for n below 32, with one limb more.
func shiftUp(x []uint32, n int) []uint32 {
	up := make([]uint32, len(x)+1)
	var carry uint64
	for i := range len(x) {
		carry |= uint64(x[i]) << n
		up[i] = uint32(carry)
		carry >>= limbBits
	}
	up[len(x)] = uint32(carry)
	return up
}

// shiftDown undoes shiftUp; the bits that go out below are noughts there.
func shiftDown(x []uint32, n int) []uint32 {
	down := make([]uint32, len(x))
	var carry uint64
	for i := range len(x) {
		high := len(x) - 1 - i
		carry = carry<<limbBits | uint64(x[high])
		down[high] = uint32(carry >> n)
	}
	return down
}
