package digits_test

import (
	"bytes"
	"math/big"
	"strings"
	"testing"

	"cedilla/api"
	"cedilla/digits"
	"cedilla/nat"
)

// bytesOf writes x's bytes by the reference's own.
func bytesOf(x *big.Int) string {
	b := x.Bytes()
	n := len(b)
	return string([]byte{byte(n >> 24), byte(n >> 16), byte(n >> 8), byte(n)}) + string(b)
}

func TestPut(t *testing.T) {
	for _, x := range samples() {
		for _, ahead := range []string{"", "a", "\x00\x00\x00\x00", "abcdefg"} {
			got := string(digits.Put([]byte(ahead), natOf(x)))
			if want := ahead + bytesOf(x); got != want {
				t.Errorf("P3.1: Put(%q, %s): %x, want %x", ahead, x, got, want)
			}
		}
	}
}

func TestPutExamples(t *testing.T) {
	for _, c := range []struct {
		number nat.Nat
		want   string
	}{
		{nat.Nat{}, "\x00\x00\x00\x00"},
		{nat.Of(0), "\x00\x00\x00\x00"},
		{nat.Of(1), "\x00\x00\x00\x01\x01"},
		{nat.Of(255), "\x00\x00\x00\x01\xff"},
		{nat.Of(256), "\x00\x00\x00\x02\x01\x00"},
		{nat.Of(4294967296), "\x00\x00\x00\x05\x01\x00\x00\x00\x00"},
	} {
		if got := string(digits.Put(nil, c.number)); got != c.want {
			t.Errorf("P3.1: Put(nil, %v): %x, want %x", c.number.Limbs(), got, c.want)
		}
	}
}

// TestPutLongCounts: numbers whose count takes its second and third byte.
func TestPutLongCounts(t *testing.T) {
	for _, n := range []uint{255, 256, 65535, 65536, 70001} {
		x := new(big.Int).Lsh(big.NewInt(0x5a), 8*(n-1))
		s := string(digits.Put(nil, natOf(x)))
		if s != bytesOf(x) {
			t.Errorf("P3.1: Put of %d bytes: it begins with %x", n, s[:4])
		}
		checkTake(t, s+"!", natOf(x), "!")
	}
}

func TestPutMemory(t *testing.T) {
	room := []byte("abcdefghijklmnopqrst")
	first := digits.Put(room[:2], nat.Of(258))
	second := digits.Put(room[:2], nat.Of(772))
	if string(room) != "abcdefghijklmnopqrst" {
		t.Errorf("P3.1: Put wrote into what it was handed: %q", room)
	}
	if !bytes.Equal(first, []byte("ab\x00\x00\x00\x02\x01\x02")) {
		t.Errorf("P3.1: a second Put changed the first one's answer: %x", first)
	}
	room[0] = 'z'
	if second[0] != 'a' {
		t.Errorf("P3.1: the answer shares what was handed in")
	}
}

func checkTake(t *testing.T, s string, want nat.Nat, wantRest string) {
	t.Helper()
	got, rest, e := digits.Take(s)
	if e != api.OK || !nat.Same(got, want) || rest != wantRest {
		t.Errorf("P3.2: Take(%.20x): limbs %v, rest %.20q, %d", s, got.Limbs(), rest, e)
	}
}

func TestTake(t *testing.T) {
	for _, x := range samples() {
		for _, behind := range []string{"", "\x00", "yz", "\x00\x00\x00\x01\x07"} {
			checkTake(t, bytesOf(x)+behind, natOf(x), behind)
		}
	}
}

func TestTakeOneBehindAnother(t *testing.T) {
	var s []byte
	for _, x := range samples() {
		s = digits.Put(s, natOf(x))
	}
	rest := string(s)
	for _, x := range samples() {
		got, left, e := digits.Take(rest)
		if e != api.OK || !nat.Same(got, natOf(x)) {
			t.Fatalf("P3.2: of many, at %s: limbs %v, %d", x, got.Limbs(), e)
		}
		rest = left
	}
	if rest != "" {
		t.Errorf("P3.2: behind them all there is left %q", rest)
	}
}

func TestTakeWrong(t *testing.T) {
	for s, want := range map[string]api.Errno{
		"":                                     api.ErrEnd,
		"\x00":                                 api.ErrEnd,
		"\x00\x00\x00":                         api.ErrEnd,
		"\x01\x02\x03":                         api.ErrEnd,
		"\x00\x00\x00\x01":                     api.ErrEnd,
		"\x00\x00\x00\x02\x01":                 api.ErrEnd,
		"\x00\x00\x01\x00\x01":                 api.ErrEnd,
		"\x00\x01\x00\x00\x01":                 api.ErrEnd,
		"\x01\x00\x00\x00\x01":                 api.ErrEnd,
		"\x7f\xff\xff\xff\x01":                 api.ErrEnd,
		"\x80\x00\x00\x00\x01":                 api.ErrEnd,
		"\xff\xff\xff\xff\x01":                 api.ErrEnd,
		"\x00\x00\x00\x02\x00":                 api.ErrEnd, // ahead of ErrForm
		"\xff\xff\xff\xff\x00":                 api.ErrEnd,
		"\x00\x00\x00\x01\x00":                 api.ErrForm,
		"\x00\x00\x00\x02\x00\x01":             api.ErrForm,
		"\x00\x00\x00\x01\x00yz":               api.ErrForm,
		"\x00\x00\x00\x05\x00\x01\x00\x00\x00": api.ErrForm,
	} {
		got, rest, e := digits.Take(s)
		if e != want || !got.Zero() || rest != "" {
			t.Errorf("P3.2: Take(%x): limbs %v, rest %q, %d; want 0, none, %d", s, got.Limbs(), rest, e, want)
		}
	}
}

// TestTakeOneWay: what Take takes is what Put writes, of all short bytes.
func TestTakeOneWay(t *testing.T) {
	const tail = "\x00\x01\x02\xff"
	var bodies []string
	for _, a := range []byte(tail) {
		for _, b := range []byte(tail) {
			for _, c := range []byte(tail) {
				bodies = append(bodies, string([]byte{a, b, c}))
			}
		}
	}
	for n := range byte(5) {
		for _, body := range bodies {
			s := string([]byte{0, 0, 0, n}) + body
			x, rest, e := digits.Take(s)
			right := n == 0 || n <= 3 && body[0] != 0
			if (e == api.OK) != right {
				t.Errorf("P3.2: Take(%x): %d", s, e)
			}
			if e == api.OK && string(digits.Put(nil, x))+rest != s {
				t.Errorf("P3.2: Take(%x) and back: limbs %v, rest %x", s, x.Limbs(), rest)
			}
		}
	}
}

func FuzzTake(f *testing.F) {
	f.Add("")
	f.Add("\x00\x00\x00\x05\x01\x00\x00\x00\x00yz")
	f.Add("\xff\xff\xff\xff")
	f.Fuzz(func(t *testing.T, s string) {
		x, rest, e := digits.Take(s)
		if e == api.OK && string(digits.Put(nil, x))+rest != s {
			t.Errorf("P3.2: Take(%x) and back: limbs %v, rest %x", s, x.Limbs(), rest)
		}
	})
}

func FuzzParse(f *testing.F) {
	f.Add("18446744073709551616")
	f.Add("00")
	f.Add(strings.Repeat("7", 40))
	f.Fuzz(func(t *testing.T, s string) {
		if x, e := digits.Parse(s); e == api.OK && digits.Text(x) != s {
			t.Errorf("P3.2: Parse(%q), then %q", s, digits.Text(x))
		}
	})
}
