package hangul_test

import (
	"math"
	"slices"
	"testing"

	"cedilla/hangul"
)

// plain is all parts and syllables, put together one by one, in the order in
// which the chapter tells of them.
type plain struct {
	ends  map[string][2]rune // the first and the last one of each kind of part
	kinds map[rune]hangul.Kind
	parts map[rune][]rune  // by syllables
	pairs map[rune][2]rune // by syllables
	begin map[rune][]rune  // syllables by their first part
	joins map[[2]rune]rune // syllables by pairs
}

func newPlain() *plain {
	p := &plain{
		ends:  map[string][2]rune{"lead": {0x1100, 0x1112}, "vowel": {0x1161, 0x1175}, "trail": {0x11A8, 0x11C2}},
		kinds: map[rune]hangul.Kind{},
		parts: map[rune][]rune{},
		pairs: map[rune][2]rune{},
		begin: map[rune][]rune{},
		joins: map[[2]rune]rune{},
	}
	p.each("lead", func(c rune) { p.kinds[c] = hangul.Lead })
	p.each("vowel", func(c rune) { p.kinds[c] = hangul.Vowel })
	p.each("trail", func(c rune) { p.kinds[c] = hangul.Trail })
	next := rune(0xAC00)
	p.each("lead", func(a rune) {
		p.each("vowel", func(b rune) {
			two := next
			p.add(two, hangul.Two, [2]rune{a, b}, a, b)
			next++
			p.each("trail", func(c rune) {
				p.add(next, hangul.Three, [2]rune{two, c}, a, b, c)
				next++
			})
		})
	})
	return p
}

func (p *plain) each(kind string, do func(c rune)) {
	for c := p.ends[kind][0]; c <= p.ends[kind][1]; c++ {
		do(c)
	}
}

func (p *plain) add(c rune, kind hangul.Kind, pair [2]rune, parts ...rune) {
	p.kinds[c] = kind
	p.parts[c] = parts
	p.pairs[c] = pair
	p.joins[pair] = c
	p.begin[parts[0]] = append(p.begin[parts[0]], c)
}

// strange are numbers that are no characters, at the edges of rune.
func strange() []rune {
	return []rune{math.MinInt32, math.MinInt32 + 0x1100, math.MinInt32 + 0xAC00, -0xAC00, -0x1100, -2, -1, 0x110000, 0x110001, 0x7FFF1100, math.MaxInt32 - 1, math.MaxInt32}
}

// asked are all characters, and strange numbers.
func asked(yield func(rune) bool) {
	for c := range rune(0x110000) {
		if !yield(c) {
			return
		}
	}
	for _, c := range strange() {
		if !yield(c) {
			return
		}
	}
}

// nearParts are parts, what is beside them, and what is far from them.
func nearParts() []rune {
	l := append(strange(), 0, 1, 'a', 0x300, 0xD7FF, 0xD800, 0xE000, 0x10FFFF)
	for c := rune(0x10F0); c <= 0x1210; c++ {
		l = append(l, c)
	}
	return l
}

// nearSyllables are syllables, and what is beside them.
func nearSyllables() []rune {
	var l []rune
	for c := rune(0xABF0); c <= 0xD7B0; c++ {
		l = append(l, c)
	}
	return l
}

func TestKinds(t *testing.T) {
	for want, kind := range []hangul.Kind{hangul.None, hangul.Lead, hangul.Vowel, hangul.Trail, hangul.Two, hangul.Three} {
		if int(kind) != want {
			t.Errorf("P11.1: the kind %d is %d", want, kind)
		}
	}
}

func TestOf(t *testing.T) {
	p := newPlain()
	if len(p.parts) != 11172 || len(p.joins) != 11172 {
		t.Fatalf("%d syllables", len(p.parts))
	}
	for c := range asked {
		if got := hangul.Of(c); got != p.kinds[c] {
			t.Errorf("P11.1: Of(%x): %d, want %d", c, got, p.kinds[c])
		}
	}
}

func TestSplitAndPair(t *testing.T) {
	p := newPlain()
	for c := range asked {
		split := hangul.Split(c)
		if !slices.Equal(split, p.parts[c]) || (split == nil) != (p.parts[c] == nil) {
			t.Errorf("P11.1: Split(%x): %x, want %x", c, split, p.parts[c])
		}
		want, wantIs := p.pairs[c]
		if a, b, is := hangul.Pair(c); a != want[0] || b != want[1] || is != wantIs {
			t.Errorf("P11.1: Pair(%x): %x, %x, %v; want %x, %v", c, a, b, is, want, wantIs)
		}
	}
}

func TestBegins(t *testing.T) {
	p := newPlain()
	for c := range asked {
		got := hangul.Begins(c)
		if !slices.Equal(got, p.begin[c]) || (got == nil) != (p.begin[c] == nil) {
			t.Errorf("P11.1: Begins(%x): %x, want %x", c, got, p.begin[c])
		}
	}
}

// TestJoin: any two of what is near, but of two syllables one is at an edge.
func TestJoin(t *testing.T) {
	p := newPlain()
	few := append(nearParts(), 0xABFF, 0xAC00, 0xAC01, 0xAC1B, 0xAC1C, 0xAC1D, 0xD787, 0xD788, 0xD789, 0xD7A3, 0xD7A4)
	for _, a := range append(nearParts(), nearSyllables()...) {
		for _, b := range few {
			checkJoin(t, p, a, b)
			checkJoin(t, p, b, a)
		}
	}
}

func checkJoin(t *testing.T, p *plain, a, b rune) {
	t.Helper()
	want, wantIs := p.joins[[2]rune{a, b}]
	if c, is := hangul.Join(a, b); c != want || is != wantIs {
		t.Errorf("P11.1: Join(%x, %x): %x, %v; want %x, %v", a, b, c, is, want, wantIs)
	}
}

// TestUndone: Pair and Join undo one another, Split and Join part by part.
func TestUndone(t *testing.T) {
	for c := range asked {
		a, b, is := hangul.Pair(c)
		if back, joined := hangul.Join(a, b); joined != is || is && back != c {
			t.Errorf("P11.2: Pair(%x): %x, %x, %v; Join of these: %x, %v", c, a, b, is, back, joined)
		}
		if parts := hangul.Split(c); parts != nil && joinAll(parts) != c {
			t.Errorf("P11.2: Split(%x): %x, and back: %x", c, parts, joinAll(parts))
		}
	}
	p := newPlain()
	for want, parts := range p.parts {
		if c := joinAll(parts); c != want || !slices.Equal(hangul.Split(c), parts) {
			t.Errorf("P11.2: %x joined: %x, split: %x", parts, c, hangul.Split(c))
		}
	}
	for pair := range p.joins {
		c, _ := hangul.Join(pair[0], pair[1])
		if a, b, is := hangul.Pair(c); a != pair[0] || b != pair[1] || !is {
			t.Errorf("P11.2: Join(%x): %x; Pair of that: %x, %x, %v", pair, c, a, b, is)
		}
	}
}

// joinAll joins parts from the first one on; -1 if they can't be.
func joinAll(parts []rune) rune {
	c := parts[0]
	for _, part := range parts[1:] {
		joined, is := hangul.Join(c, part)
		if !is {
			return -1
		}
		c = joined
	}
	return c
}

// TestNamed: what the chapter itself tells.
func TestNamed(t *testing.T) {
	if got := hangul.Split(0xAC01); !slices.Equal(got, []rune{0x1100, 0x1161, 0x11A8}) {
		t.Errorf("P11.1: Split(AC01): %x", got)
	}
	if a, b, is := hangul.Pair(0xAC01); a != 0xAC00 || b != 0x11A8 || !is {
		t.Errorf("P11.1: Pair(AC01): %x, %x, %v", a, b, is)
	}
}

func TestMemory(t *testing.T) {
	for what, answer := range map[string]func() []rune{
		"Split, two":   func() []rune { return hangul.Split(0xAC00) },
		"Split, three": func() []rune { return hangul.Split(0xAC01) },
		"Begins":       func() []rune { return hangul.Begins(0x1100) },
	} {
		first, second := answer(), answer()
		want := slices.Clone(first)
		clear(first[:cap(first)])
		if !slices.Equal(second, want) || !slices.Equal(answer(), want) {
			t.Errorf("P11.1: %s: its answers share memory", what)
		}
	}
}
