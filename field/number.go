package field

import (
	"strings"

	"cedilla/api"
)

const (
	hexDigits = "0123456789ABCDEF"
	hexBits   = 4 // of a digit
	leastHex  = 4 // digits of a number: noughts fill it up to so many
	mostHex   = 6
)

// Hex: the number that s is in hexadecimal, in the one way in which HexText
// writes it.
func Hex(s string) (rune, bool) {
	if len(s) < leastHex || len(s) > mostHex || len(s) > leastHex && s[0] == '0' {
		return 0, false
	}
	var c rune
	for i := range len(s) {
		digit := strings.IndexByte(hexDigits, s[i])
		if digit < 0 {
			return 0, false
		}
		c = c<<hexBits | rune(digit)
	}
	if c > api.LastChar {
		return 0, false
	}
	return c, true
}

// HexText: c as Hex reads it; "" of a number that Hex reads nowhere.
func HexText(c rune) string {
	if c < 0 || c > api.LastChar {
		return ""
	}
	digits := leastHex
	for c>>(hexBits*digits) > 0 {
		digits++
	}
	text := make([]byte, digits)
	for i := range digits {
		text[digits-1-i] = hexDigits[c>>(hexBits*i)%(1<<hexBits)]
	}
	return string(text)
}

// Hexes: the numbers that s is, with one blank between each two.
func Hexes(s string) ([]rune, bool) {
	var chars []rune
	for _, word := range strings.Split(s, blank) {
		c, is := Hex(word)
		if !is {
			return nil, false
		}
		chars = append(chars, c)
	}
	return chars, true
}

// Num: the number that s is in decimal, up to most, without noughts ahead.
func Num(s string, most int) (int, bool) {
	if s == "" || len(s) > 1 && s[0] == '0' {
		return 0, false
	}
	n := 0
	for i := range len(s) {
		if s[i] < '0' || s[i] > '9' {
			return 0, false
		}
		digit := int(s[i] - '0')
		// Asked ahead of reckoning: n*10 + digit may be beyond what an int holds.
		if digit > most || n > (most-digit)/10 {
			return 0, false
		}
		n = n*10 + digit
	}
	return n, true
}
