package field_test

import (
	"fmt"
	"math"
	"math/big"
	"regexp"
	"slices"
	"strconv"
	"strings"
	"testing"

	"cedilla/field"
)

const last = 0x10FFFF

// TestEachNumber: there and back, of all there are, surrogates too.
func TestEachNumber(t *testing.T) {
	for c := rune(0); c <= last; c++ {
		want := fmt.Sprintf("%04X", c)
		text := field.HexText(c)
		if text != want {
			t.Errorf("P8.2: HexText(%x): %q, want %q", c, text, want)
		}
		if back, is := field.Hex(text); back != c || !is {
			t.Errorf("P8.2: Hex(%q): %x, %v", text, back, is)
		}
	}
}

func TestHexTextOfNone(t *testing.T) {
	for _, c := range []rune{-1, -2, -0x10FFFF, math.MinInt32, last + 1, last + 2, 0x1000000, math.MaxInt32} {
		if got := field.HexText(c); got != "" {
			t.Errorf("P8.1: HexText(%d): %q", c, got)
		}
	}
}

// hexForm is the chapter's rule but for the greatest number.
var hexForm = regexp.MustCompile(`\A([0-9A-F]{4}|[1-9A-F][0-9A-F]{4,5})\z`)

// checkHex holds Hex of any bytes against the rule, and against HexText.
func checkHex(t *testing.T, s string) {
	t.Helper()
	var want rune
	wantIs := false
	if hexForm.MatchString(s) {
		n, _ := strconv.ParseUint(s, 16, 64)
		if n <= last {
			want, wantIs = rune(n), true
		}
	}
	c, is := field.Hex(s)
	if c != want || is != wantIs {
		t.Errorf("P8.1: Hex(%q): %x, %v; want %x, %v", s, c, is, want, wantIs)
	}
	if is && field.HexText(c) != s {
		t.Errorf("P8.2: %q is read as %x, which is written %q", s, c, field.HexText(c))
	}
}

func TestHexOf(t *testing.T) {
	for s, want := range map[string]rune{
		"0000": 0, "0009": 9, "000A": 10, "00E9": 0xE9, "0FFF": 0xFFF, "1000": 0x1000, "FFFF": 0xFFFF, "D800": 0xD800, "DFFF": 0xDFFF,
		"10000": 0x10000, "1F600": 0x1F600, "FFFFF": 0xFFFFF, "100000": 0x100000, "10FFFF": 0x10FFFF, "ABCDE": 0xABCDE,
	} {
		checkHex(t, s)
		if got, is := field.Hex(s); got != want || !is {
			t.Errorf("P8.1: Hex(%q): %x, %v", s, got, is)
		}
	}
}

func TestHexWrong(t *testing.T) {
	for _, s := range []string{
		"", "0", "9", "E9", "0E9", "FFF", "000E9", "0000E9", "00000", "000000", "01F600", "0FFFF", "0FFFFF", "010000",
		"e9", "00e9", "00Ea", "00G0", "00g0", "00@0", "00:0", "00/0", "00`0", " 00E9", "00E9 ", "00 E9", "+0E9", "-0E9", "0x00E9", "0X0E", "U+00E9", "1_000", "10_00",
		"110000", "11FFFF", "200000", "FFFFFF", "1000000", "00010FFFF", "10FFFF0", "00E9\n", "00E9\x00", "\x0000E9", "00E\xff", "\u00e900", "\uff10000",
		"FFFFFFFFFFFFFFFF", "10000000000000041", strings.Repeat("0", 100000), strings.Repeat("F", 100000),
	} {
		checkHex(t, s)
		if c, is := field.Hex(s); c != 0 || is {
			t.Errorf("P8.1: Hex(%.20q): %x, %v", s, c, is)
		}
	}
}

// TestHexOfBytes: each byte at each place, in numbers of each length.
func TestHexOfBytes(t *testing.T) {
	for _, s := range []string{"1000", "0F00", "10000", "100000", "1234567", "123"} {
		for i := range len(s) {
			for b := range 256 {
				changed := []byte(s)
				changed[i] = byte(b)
				checkHex(t, string(changed))
			}
		}
	}
}

// TestHexOneWay: of all rows of up to seven of some digits just those are read
// that HexText writes.
func TestHexOneWay(t *testing.T) {
	row := []string{""}
	for range 7 {
		var longer []string
		for _, s := range row {
			for _, digit := range []string{"0", "1", "9", "F", "a"} {
				longer = append(longer, s+digit)
			}
		}
		for _, s := range longer {
			checkHex(t, s)
		}
		row = longer
	}
}

func TestHexes(t *testing.T) {
	for s, want := range map[string][]rune{
		"0041":               {0x41},
		"0041 030A":          {0x41, 0x30A},
		"10FFFF 0000 1F600":  {0x10FFFF, 0, 0x1F600},
		"0041 0041 0041":     {0x41, 0x41, 0x41},
		"D800 DFFF":          {0xD800, 0xDFFF},
		"0009 0008 0007 000": nil,
		"":                   nil,
		" ":                  nil,
		"  ":                 nil,
		" 0041":              nil,
		"0041 ":              nil,
		"0041  030A":         nil,
		"0041\t030A":         nil,
		"0041\n030A":         nil,
		"0041\u00a0030A":     nil,
		"0041;030A":          nil,
		"0041,030A":          nil,
		"0041030A":           nil,
		"0041 30A":           nil,
		"41 030A":            nil,
		"0041 030a":          nil,
		"0041 110000":        nil,
		"110000 0041":        nil,
		"0041 030A x":        nil,
		"<font> 0041":        nil,
		"0041 \xff":          nil,
		"0041 030A ":         nil,
	} {
		got, is := field.Hexes(s)
		if is != (want != nil) || !slices.Equal(got, want) || !is && got != nil {
			t.Errorf("P8.1: Hexes(%q): %x, %v; want %x", s, got, is, want)
		}
	}
}

func TestHexesOfMany(t *testing.T) {
	var words []string
	var want []rune
	for c := rune(0); c <= last; c += 0x101 {
		words, want = append(words, field.HexText(c)), append(want, c)
		if got, is := field.Hexes(field.HexText(c) + " 0000"); !is || !slices.Equal(got, []rune{c, 0}) {
			t.Errorf("P8.1: Hexes of %x and 0: %x, %v", c, got, is)
		}
	}
	all := strings.Join(words, " ")
	if got, is := field.Hexes(all); !is || !slices.Equal(got, want) {
		t.Errorf("P8.1: Hexes of %d numbers: %d, %v", len(want), len(got), is)
	}
	if got, is := field.Hexes(all + " 000"); is || got != nil {
		t.Errorf("P8.1: Hexes with a wrong end: %d, %v", len(got), is)
	}
}

// numForm is the chapter's rule but for the greatest number.
var numForm = regexp.MustCompile(`\A(0|[1-9][0-9]*)\z`)

// checkNum holds Num against numbers of any size.
func checkNum(t *testing.T, s string, most int) {
	t.Helper()
	want, wantIs := 0, false
	if numForm.MatchString(s) {
		n, _ := new(big.Int).SetString(s, 10)
		if n.Cmp(big.NewInt(int64(most))) <= 0 {
			want, wantIs = int(n.Int64()), true
		}
	}
	if n, is := field.Num(s, most); n != want || is != wantIs {
		t.Errorf("P8.1: Num(%.40q, %d): %d, %v; want %d, %v", s, most, n, is, want, wantIs)
	}
}

// mosts are the greatest numbers that are asked for.
func mosts() []int {
	return []int{
		math.MinInt, math.MinInt + 1, math.MinInt + 9, math.MinInt32, -11, -10, -9, -1, 0, 1, 5, 8, 9, 10, 11, 19, 99, 100, 240, 253, 254, 255,
		1000, 1000000000, math.MaxInt32, math.MaxInt - 8, math.MaxInt - 7, math.MaxInt - 1, math.MaxInt,
	}
}

func TestNum(t *testing.T) {
	for _, most := range mosts() {
		for n := range 1200 {
			checkNum(t, strconv.Itoa(n), most)
		}
		// All around the greatest one, and where an int, or a word, ends.
		for _, near := range []*big.Int{
			big.NewInt(int64(most)), big.NewInt(math.MaxInt32), big.NewInt(math.MaxInt64),
			new(big.Int).Lsh(big.NewInt(1), 32), new(big.Int).Lsh(big.NewInt(1), 64), new(big.Int).Lsh(big.NewInt(1), 65),
		} {
			for by := int64(-25); by <= 25; by++ {
				checkNum(t, new(big.Int).Add(near, big.NewInt(by)).String(), most)
			}
		}
	}
}

func TestNumNamed(t *testing.T) {
	for _, c := range []struct {
		s    string
		most int
		want int
		is   bool
	}{
		{"0", 0, 0, true},
		{"0", 254, 0, true},
		{"7", 254, 7, true},
		{"230", 254, 230, true},
		{"254", 254, 254, true},
		{"255", 254, 0, false},
		{"1", 0, 0, false},
		{"0", -1, 0, false},
		{"00", 254, 0, false},
		{"07", 254, 0, false},
		{"-1", 254, 0, false},
		{"", 254, 0, false},
		{"9223372036854775807", math.MaxInt64, math.MaxInt64, true},
		{"9223372036854775808", math.MaxInt64, 0, false},
		{"18446744073709551617", math.MaxInt64, 0, false},
	} {
		if n, is := field.Num(c.s, c.most); n != c.want || is != c.is {
			t.Errorf("P8.1: Num(%q, %d): %d, %v; want %d, %v", c.s, c.most, n, is, c.want, c.is)
		}
	}
}

func TestNumWrong(t *testing.T) {
	for _, s := range []string{
		"", " ", "00", "01", "000", "0000000000000000000000001", "-0", "-1", "+1", "+0", "1 ", " 1", "1 2", "1.0", "1e2", "0x1", "1_0", "A", "F", "1A", "A1",
		"/", ":", "1/", "1:", "1\n", "\n1", "1\x00", "\xff", "1\xff", "\u0661", "\uff11", "1;", "--1",
		strings.Repeat("0", 100000), strings.Repeat("9", 100000), "1" + strings.Repeat("0", 100000),
	} {
		for _, most := range mosts() {
			checkNum(t, s, most)
			if n, is := field.Num(s, most); n != 0 || is {
				t.Errorf("P8.1: Num(%.20q, %d): %d, %v", s, most, n, is)
			}
		}
	}
	for b := range 256 {
		one := string([]byte{byte(b)})
		for _, s := range []string{one, one + "5", "5" + one, "1" + one + "5"} {
			checkNum(t, s, 254)
			checkNum(t, s, math.MaxInt)
		}
	}
}

func FuzzNumbers(f *testing.F) {
	f.Add("00E9", 254)
	f.Add("0041 030A", 0)
	f.Add("9223372036854775807", math.MaxInt)
	f.Fuzz(func(t *testing.T, s string, most int) {
		checkHex(t, s)
		checkNum(t, s, most)
		var want []rune
		for _, word := range strings.Split(s, " ") {
			checkHex(t, word)
			if c, is := field.Hex(word); is {
				want = append(want, c)
			}
		}
		whole := len(want) == strings.Count(s, " ")+1
		got, is := field.Hexes(s)
		if is != whole || is && !slices.Equal(got, want) || !is && got != nil {
			t.Errorf("P8.1: Hexes(%q): %x, %v", s, got, is)
		}
	})
}
