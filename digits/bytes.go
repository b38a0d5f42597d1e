package digits

import (
	"cedilla/api"
	"cedilla/nat"
)

const (
	countBytes = 4 // that tell how many bytes a number has
	limbBytes  = 4
	byteBits   = 8
)

// Put: b's bytes, and a's behind them, in new memory.
func Put(b []byte, a nat.Nat) []byte {
	size := (a.Bits() + byteBits - 1) / byteBits
	out := make([]byte, 0, len(b)+countBytes+size)
	out = append(out, b...)
	out = appendBytes(out, []uint32{uint32(size)}, countBytes)
	return appendBytes(out, a.Limbs(), size)
}

// appendBytes writes the lowest n bytes of the limbs, the highest first.
func appendBytes(out []byte, limbs []uint32, n int) []byte {
	for i := range n {
		place := n - 1 - i
		out = append(out, byte(limbs[place/limbBytes]>>(byteBits*(place%limbBytes))))
	}
	return out
}

// Take: the number whose bytes s begins with, and what is left of s; ErrEnd
// if bytes are wanting, else ErrForm if the number's first byte is 0.
func Take(s string) (nat.Nat, string, api.Errno) {
	if len(s) < countBytes {
		return nat.Nat{}, "", api.ErrEnd
	}
	told, rest := limbsOf(s[:countBytes])[0], s[countBytes:]
	// Held against each other in 64 bits, as an int may hold less than is told.
	if uint64(len(rest)) < uint64(told) {
		return nat.Nat{}, "", api.ErrEnd
	}
	size := int(told)
	if size > 0 && rest[0] == 0 {
		return nat.Nat{}, "", api.ErrForm
	}
	return nat.Limbs(limbsOf(rest[:size])...), rest[size:], api.OK
}

// limbsOf undoes appendBytes, of all bytes of s.
func limbsOf(s string) []uint32 {
	limbs := make([]uint32, (len(s)+limbBytes-1)/limbBytes)
	for i := range len(s) {
		place := len(s) - 1 - i
		limbs[place/limbBytes] |= uint32(s[i]) << (byteBits * (place % limbBytes))
	}
	return limbs
}
