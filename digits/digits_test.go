package digits_test

import (
	"math/big"
	"strings"
	"testing"

	"cedilla/api"
	"cedilla/digits"
	"cedilla/nat"
)

// natOf makes the number by its bytes, so that no call under test is needed.
func natOf(x *big.Int) nat.Nat {
	high := x.Bytes()
	limbs := make([]uint32, len(high)/4+1)
	for i, b := range high {
		place := len(high) - 1 - i
		limbs[place/4] |= uint32(b) << (8 * (place % 4))
	}
	return nat.Limbs(limbs...)
}

// samples answers the numbers at which digits, bytes and limbs become one
// more, with those around them, and some long ones that have no pattern.
func samples() []*big.Int {
	var out []*big.Int
	around := func(x *big.Int) {
		for d := int64(-1); d <= 1; d++ {
			if y := new(big.Int).Add(x, big.NewInt(d)); y.Sign() >= 0 {
				out = append(out, y)
			}
		}
	}
	power := big.NewInt(1)
	for range 60 {
		around(power)
		power = new(big.Int).Mul(power, big.NewInt(10))
	}
	for n := range uint(140) {
		around(new(big.Int).Lsh(big.NewInt(1), n))
	}
	x := big.NewInt(12345)
	for range 11 {
		x = new(big.Int).Add(new(big.Int).Mul(x, x), big.NewInt(7))
		out = append(out, x)
	}
	return append(out, new(big.Int).Lsh(big.NewInt(3), 4000))
}

func TestText(t *testing.T) {
	for _, x := range samples() {
		if got, want := digits.Text(natOf(x)), x.String(); got != want {
			t.Errorf("P3.1: Text: %s, want %s", got, want)
		}
	}
	if got := digits.Text(nat.Nat{}); got != "0" {
		t.Errorf("P3.1: Text of the zero Nat: %q", got)
	}
	if got := digits.Text(nat.Limbs(1, 0)); got != "1" {
		t.Errorf("P3.1: Text of the limbs 1, 0: %q", got)
	}
}

func TestTextBeyondMaxDigits(t *testing.T) {
	x := new(big.Int).Exp(big.NewInt(10), big.NewInt(digits.MaxDigits), nil)
	text := digits.Text(natOf(x))
	if text != x.String() {
		t.Errorf("P3.1: Text of 10^MaxDigits isn't its digits")
	}
	if _, e := digits.Parse(text); e != api.ErrBig {
		t.Errorf("P3.2: Parse of 10^MaxDigits: %d", e)
	}
}

func TestParse(t *testing.T) {
	for _, x := range samples() {
		got, e := digits.Parse(x.String())
		if e != api.OK || !nat.Same(got, natOf(x)) {
			t.Errorf("P3.2: Parse(%s): limbs %v, %d", x, got.Limbs(), e)
		}
	}
}

func TestParseWrong(t *testing.T) {
	for s, want := range map[string]api.Errno{
		"":                  api.ErrForm,
		"00":                api.ErrForm,
		"01":                api.ErrForm,
		"0000000001":        api.ErrForm,
		"+1":                api.ErrForm,
		"-1":                api.ErrForm,
		" 1":                api.ErrForm,
		"1 ":                api.ErrForm,
		"1\n":               api.ErrForm,
		"1a":                api.ErrForm,
		"0x10":              api.ErrForm,
		"1_000":             api.ErrForm,
		"1/2":               api.ErrForm, // the byte below '0'
		"1:2":               api.ErrForm, // the byte above '9'
		"123456789a":        api.ErrForm,
		"a123456789":        api.ErrForm,
		"1\x00":             api.ErrForm,
		"\xff":              api.ErrForm,
		"\u0661":            api.ErrForm, // a digit, but not one byte
		"12\u0663456789012": api.ErrForm,
	} {
		checkParseWrong(t, s, want)
	}
}

func checkParseWrong(t *testing.T, s string, want api.Errno) {
	t.Helper()
	got, e := digits.Parse(s)
	if e != want || !got.Zero() {
		t.Errorf("P3.2: Parse(%.20q, of %d bytes): limbs %v, %d; want 0, %d", s, len(s), got.Limbs(), e, want)
	}
}

func TestParseMaxDigits(t *testing.T) {
	const most = 10000
	if digits.MaxDigits != most {
		t.Fatalf("P3.2: MaxDigits is %d", digits.MaxDigits)
	}
	nines := strings.Repeat("9", most)
	want, _ := new(big.Int).SetString(nines, 10)
	if got, e := digits.Parse(nines); e != api.OK || !nat.Same(got, natOf(want)) {
		t.Errorf("P3.2: Parse of %d digits: %d", most, e)
	}
	// How many bytes there are is asked first, whatever they are.
	checkParseWrong(t, strings.Repeat("9", most+1), api.ErrBig)
	checkParseWrong(t, strings.Repeat("0", most+1), api.ErrBig)
	checkParseWrong(t, strings.Repeat("x", most+1), api.ErrBig)
	checkParseWrong(t, strings.Repeat("\u0661", most/2+1), api.ErrBig)
	checkParseWrong(t, strings.Repeat("0", most), api.ErrForm)
	checkParseWrong(t, nines[1:]+"x", api.ErrForm)
}

// TestParseOneWay: what Parse takes is what Text tells, of all short texts.
func TestParseOneWay(t *testing.T) {
	const alphabet = "019-+ a"
	texts := []string{""}
	for len(texts[0]) < 5 {
		var longer []string
		for _, s := range texts {
			for _, c := range alphabet {
				longer = append(longer, s+string(c))
			}
		}
		texts = longer
		for _, s := range texts {
			x, e := digits.Parse(s)
			_, isNumber := new(big.Int).SetString(s, 10)
			plain := isNumber && !strings.ContainsAny(s, "+-") && (s == "0" || s[0] != '0')
			if (e == api.OK) != plain || e == api.OK && digits.Text(x) != s {
				t.Errorf("P3.2: Parse(%q): %d, then %q", s, e, digits.Text(x))
			}
		}
	}
}
