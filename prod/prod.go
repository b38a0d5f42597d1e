// Package prod is layer 2: products and quotients (shared/doc/02-prod.md).
package prod

import (
	"math/bits"

	"cedilla/api"
	"cedilla/nat"
)

// maxPowBits bounds what Pow makes: n times a's Bits.
const maxPowBits = 1 << 17

// Mul: the product of two.
func Mul(a, b nat.Nat) nat.Nat {
	x, y := a.Limbs(), b.Limbs()
	product := make([]uint32, len(x)+len(y))
	for i := range len(x) {
		product[i+len(y)] = addTimes(product[i:i+len(y)], y, x[i])
	}
	return nat.Limbs(product...)
}

// Of: the product of all; of none 1.
func Of(l ...nat.Nat) nat.Nat {
	product := nat.Of(1)
	for _, factor := range l {
		product = Mul(product, factor)
	}
	return product
}

// DivMod: a is q times b, and r, which is below b; ErrDiv if b is 0.
func DivMod(a, b nat.Nat) (q, r nat.Nat, e api.Errno) {
	divisor := b.Limbs()
	switch len(divisor) {
	case 0:
		return nat.Nat{}, nat.Nat{}, api.ErrDiv
	case 1:
		q, r = divideShort(a.Limbs(), divisor[0])
	default:
		q, r = divideLong(a.Limbs(), divisor)
	}
	return q, r, api.OK
}

// Pow: a to the n; ErrArg if n is below 0, else ErrBig if n times a's Bits
// is more than 2^17.
func Pow(a nat.Nat, n int) (nat.Nat, api.Errno) {
	if n < 0 {
		return nat.Nat{}, api.ErrArg
	}
	// Asked by a quotient, as n times Bits may be more than an int holds.
	if size := a.Bits(); size > 0 && n > maxPowBits/size {
		return nat.Nat{}, api.ErrBig
	}
	power := nat.Of(1)
	length := bits.Len(uint(n))
	for i := range length {
		power = Mul(power, power)
		if n>>(length-1-i)&1 == 1 {
			power = Mul(power, a)
		}
	}
	return power, api.OK
}
