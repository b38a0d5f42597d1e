package cpset_test

import (
	"math"
	"slices"
	"testing"

	"cedilla/api"
	"cedilla/cpset"
)

const last = 0x10FFFF

func r(from, to rune) cpset.Range {
	return cpset.Range{From: from, To: to}
}

func isChar(c rune) bool {
	return c >= 0 && c <= last && (c < 0xD800 || c > 0xDFFF)
}

// plain is a set by which each character is told for itself.
type plain [last + 1]bool

// plainOf is for ranges that may be.
func plainOf(l ...cpset.Range) *plain {
	var p plain
	for _, x := range l {
		for c := x.From; c <= x.To; c++ {
			p[c] = isChar(c)
		}
	}
	return &p
}

func (p *plain) ranges() []cpset.Range {
	var out []cpset.Range
	for c := rune(0); c <= last; c++ {
		switch {
		case !p[c]:
		case c > 0 && p[c-1]:
			out[len(out)-1].To = c
		default:
			out = append(out, r(c, c))
		}
	}
	return out
}

// both answers the plain set of what keep takes.
func both(a, b *plain, keep func(inA, inB bool) bool) *plain {
	var p plain
	for c := range rune(last + 1) {
		p[c] = isChar(c) && keep(a[c], b[c])
	}
	return &p
}

// checkRanges: a set's ranges are all that can be asked of it, as they are
// told in one way alone.
func checkRanges(t *testing.T, what string, s cpset.Set, want *plain) {
	t.Helper()
	if got := s.Ranges(); !slices.Equal(got, want.ranges()) {
		t.Errorf("%s: ranges %x, want %x", what, got, want.ranges())
	}
}

// asked are numbers of which sets are asked: the edges of l's ranges, those
// of all characters, and those of rune.
func asked(l []cpset.Range) []rune {
	out := []rune{math.MinInt32, -1, 0, 1, 'a', 0xD7FE, 0xD7FF, 0xD800, 0xDABC, 0xDFFF, 0xE000, 0xE001, last - 1, last, last + 1, math.MaxInt32}
	for _, x := range l {
		out = append(out, x.From-1, x.From, x.From+1, x.To-1, x.To, x.To+1)
	}
	return out
}

// checkWhole holds all that is asked of one set against the plain one.
func checkWhole(t *testing.T, what string, s cpset.Set, want *plain) {
	t.Helper()
	checkRanges(t, "P6.1: "+what, s, want)
	var chars []rune
	for c := rune(0); c <= last; c++ {
		if want[c] {
			chars = append(chars, c)
		}
	}
	if s.Count() != len(chars) || !slices.Equal(s.Chars(), chars) {
		t.Fatalf("P6.1: %s: Count %d, %d Chars; want %d", what, s.Count(), len(s.Chars()), len(chars))
	}
	for i, c := range chars {
		if got, is := s.At(i); got != c || !is || s.Index(c) != i {
			t.Fatalf("P6.3: %s: At(%d): %x, %v; Index(%x): %d", what, i, got, is, c, s.Index(c))
		}
	}
	for _, i := range []int{math.MinInt, -1, len(chars), len(chars) + 1, math.MaxInt32, math.MaxInt} {
		if c, is := s.At(i); c != 0 || is {
			t.Errorf("P6.3: %s: At(%d): %x, %v", what, i, c, is)
		}
	}
	for _, c := range asked(want.ranges()) {
		// The library answers where c stands, or would stand.
		less, is := slices.BinarySearch(chars, c)
		if s.Has(c) != is || s.Index(c) != less {
			t.Errorf("P6.1, P6.3: %s: %x: Has %v, Index %d; want %v, %d", what, c, s.Has(c), s.Index(c), is, less)
		}
	}
}

// scattered answers ranges without a pattern, of every length up to most.
func scattered(seed uint32, most uint32) []cpset.Range {
	var out []cpset.Range
	for range 40 {
		seed = seed*1664525 + 1013904223
		from := rune((seed >> 8) % (last + 1))
		seed = seed*1664525 + 1013904223
		to := min(from+rune((seed>>8)%most), last)
		out = append(out, r(from, to))
	}
	return out
}

// every answers ranges of one length, with a gap of one character or more
// between them.
func every(step, length rune) []cpset.Range {
	var out []cpset.Range
	for c := rune(3); c+length <= last; c += step {
		out = append(out, r(c, c+length-1))
	}
	return out
}

func samples() map[string][]cpset.Range {
	return map[string][]cpset.Range{
		"none":                     nil,
		"the first":                {r(0, 0)},
		"the last":                 {r(last, last)},
		"the first and the last":   {r(last, last), r(0, 0)},
		"all":                      {r(0, last)},
		"surrogates":               {r(0xD800, 0xDFFF)},
		"one surrogate":            {r(0xDC00, 0xDC00)},
		"into surrogates":          {r(0xD000, 0xDABC)},
		"out of surrogates":        {r(0xDABC, 0xE00F)},
		"around surrogates":        {r(0xD7FF, 0xE000)},
		"beside surrogates":        {r(0xE000, 0xE000), r(0xD7FF, 0xD7FF)},
		"up to surrogates":         {r(0, 0xD7FF)},
		"from surrogates":          {r(0xE000, last)},
		"overlapping":              {r('a', 'c'), r('b', 'e')},
		"touching":                 {r('d', 'f'), r('a', 'c')},
		"not touching":             {r('e', 'f'), r('a', 'c')},
		"one in another":           {r('a', 'z'), r('c', 'd'), r('z', 'z')},
		"the same twice":           {r('a', 'z'), r('a', 'z')},
		"of one beginning":         {r('a', 'c'), r('a', 'f'), r('a', 'a')},
		"falling":                  {r(30, 39), r(20, 29), r(10, 19), r(0, 9)},
		"scattered, short":         scattered(7, 50),
		"scattered, long":          scattered(8, 20000),
		"scattered, longer":        scattered(9, 60000),
		"every third":              every(0x333, 0x111),
		"every second, one by one": every(2, 1)[:2000],
	}
}

func TestOf(t *testing.T) {
	for what, l := range samples() {
		s, e := cpset.Of(l...)
		if e != api.OK {
			t.Errorf("P6.1: %s: %d", what, e)
		}
		checkWhole(t, what, s, plainOf(l...))
	}
}

// TestManyRanges: a set of as many ranges as there can be.
func TestManyRanges(t *testing.T) {
	l := every(2, 1)
	s, e := cpset.Of(l...)
	if e != api.OK {
		t.Errorf("P6.1: every second one: %d", e)
	}
	want := plainOf(l...)
	checkWhole(t, "every second one", s, want)
	rest := both(want, want, func(in, _ bool) bool { return !in })
	checkRanges(t, "P6.1: all but every second one", s.Not(), rest)
}

func TestOfWrong(t *testing.T) {
	for _, wrong := range []cpset.Range{
		r(5, 4), r(0, -1), r(-1, -1), r(-1, 5), r(-5, -6), r(last, last+1), r(0, last+1), r(last+1, last+1), r(last+1, last+2),
		r(last, last-1), r(0xDFFF, 0xD800), r(0xE000, 0xD7FF), r(math.MinInt32, math.MaxInt32), r(math.MaxInt32, math.MinInt32),
		r(math.MaxInt32, math.MaxInt32), r(math.MinInt32, math.MinInt32), r(0, math.MaxInt32), r(math.MinInt32, 0),
	} {
		for _, l := range [][]cpset.Range{{wrong}, {r('a', 'c'), wrong}, {wrong, r('a', 'c')}, {r(0, last), wrong, wrong}} {
			if s, e := cpset.Of(l...); e != api.ErrArg || s.Count() != 0 || len(s.Ranges()) != 0 || !cpset.Same(s, cpset.Set{}) {
				t.Errorf("P6.1: Of(%x): %x, %d", l, s.Ranges(), e)
			}
		}
	}
}

func TestNone(t *testing.T) {
	var none plain
	checkWhole(t, "the zero Set", cpset.Set{}, &none)
	checkWhole(t, "Chars of none", cpset.Chars(), &none)
	checkWhole(t, "Chars of nil", cpset.Chars([]rune(nil)...), &none)
	checkWhole(t, "Less itself", cpset.All().Less(cpset.All()), &none)
	surrogates, _ := cpset.Of(r(0xD800, 0xDFFF))
	for what, s := range map[string]cpset.Set{"of surrogates": surrogates, "of no characters": cpset.Chars(-1, 0xD800), "not all": cpset.All().Not()} {
		if !cpset.Same(s, cpset.Set{}) || !cpset.Same(cpset.Set{}, s) {
			t.Errorf("P6.1: %s isn't the zero Set", what)
		}
	}
	if !cpset.Same(cpset.Set{}.Not(), cpset.All()) {
		t.Errorf("P6.2: Not of the zero Set: %x", cpset.Set{}.Not().Ranges())
	}
}

func TestChars(t *testing.T) {
	for what, l := range map[string][]rune{
		"some":            {'z', 'a', 'c', 'b', 'z', 'a'},
		"at surrogates":   {0xE000, 0xD7FF, 0xD800, 0xDFFF},
		"no characters":   {-1, math.MinInt32, 0xD800, 0xDC00, 0xDFFF, last + 1, math.MaxInt32},
		"with others":     {'b', -1, last, 0xDABC, 0, last + 1, 'a'},
		"falling":         {9, 8, 7, 6, 5, 4, 3, 2, 1, 0},
		"with one gap":    {1, 2, 3, 5, 6, 7},
		"one many times":  slices.Repeat([]rune{0x327}, 1000),
		"the last, twice": {last, last},
	} {
		var want plain
		for _, c := range l {
			if isChar(c) {
				want[c] = true
			}
		}
		checkWhole(t, what, cpset.Chars(l...), &want)
	}
}

func TestAll(t *testing.T) {
	if got := cpset.All().Ranges(); !slices.Equal(got, []cpset.Range{r(0, 0xD7FF), r(0xE000, last)}) {
		t.Errorf("P6.1: All: %x", got)
	}
	checkWhole(t, "All", cpset.All(), plainOf(r(0, last)))
	if got := cpset.All().Count(); got != 0x110000-0x800 {
		t.Errorf("P6.1: Count of All: %d", got)
	}
}

// TestNamed: what the chapter itself tells.
func TestNamed(t *testing.T) {
	s, e := cpset.Of(r('a', 'c'), r('b', 'e'))
	if got := s.Ranges(); e != api.OK || !slices.Equal(got, []cpset.Range{r('a', 'e')}) || s.Count() != 5 {
		t.Errorf("P6.1: Of(a to c, b to e): %x, %d, %d", got, s.Count(), e)
	}
	if got := s.Not().Ranges(); !slices.Equal(got, []cpset.Range{r(0, 0x60), r(0x66, 0xD7FF), r(0xE000, last)}) {
		t.Errorf("P6.1: Not of a to e: %x", got)
	}
}

func TestMerges(t *testing.T) {
	chosen := []string{
		"none", "all", "the first and the last", "around surrogates", "into surrogates", "from surrogates",
		"one in another", "not touching", "falling", "scattered, short", "scattered, long", "scattered, longer", "every third",
	}
	all := samples()
	for _, nameA := range chosen {
		a, _ := cpset.Of(all[nameA]...)
		plainA := plainOf(all[nameA]...)
		not := both(plainA, plainA, func(in, _ bool) bool { return !in })
		checkRanges(t, "P6.1: Not "+nameA, a.Not(), not)
		for _, nameB := range chosen {
			b, _ := cpset.Of(all[nameB]...)
			plainB := plainOf(all[nameB]...)
			checkMerges(t, nameA+", "+nameB, a, b, plainA, plainB)
		}
	}
}

func checkMerges(t *testing.T, what string, a, b cpset.Set, plainA, plainB *plain) {
	t.Helper()
	or := both(plainA, plainB, func(inA, inB bool) bool { return inA || inB })
	and := both(plainA, plainB, func(inA, inB bool) bool { return inA && inB })
	less := both(plainA, plainB, func(inA, inB bool) bool { return inA && !inB })
	xor := both(plainA, plainB, func(inA, inB bool) bool { return inA != inB })
	checkRanges(t, "P6.1: Or: "+what, a.Or(b), or)
	checkRanges(t, "P6.1: And: "+what, a.And(b), and)
	checkRanges(t, "P6.1: Less: "+what, a.Less(b), less)
	checkRanges(t, "P6.1: Xor: "+what, a.Xor(b), xor)
	if got, want := a.Within(b), *less == (plain{}); got != want {
		t.Errorf("P6.1: Within: %s: %v", what, got)
	}
	if got, want := cpset.Same(a, b), *xor == (plain{}); got != want {
		t.Errorf("P6.1: Same: %s: %v", what, got)
	}
	if got, want := a.Or(b).Count(), a.Count()+b.Count()-a.And(b).Count(); got != want {
		t.Errorf("P6.2: how many: %s: %d, want %d", what, got, want)
	}
}

// sets are all that are made of some characters at the edges.
func sets() []cpset.Set {
	edges := []rune{0, 1, 'a', 0xD7FF, 0xE000, last}
	var out []cpset.Set
	for bits := range 1 << len(edges) {
		var l []rune
		for i, c := range edges {
			if bits>>i&1 == 1 {
				l = append(l, c)
			}
		}
		s := cpset.Chars(l...)
		if bits%3 == 1 {
			s = s.Not()
		}
		out = append(out, s)
	}
	return out
}

func TestLawsOfTwo(t *testing.T) {
	same := cpset.Same
	for _, a := range sets() {
		for _, b := range sets() {
			for law, holds := range map[string]bool{
				"Not Not":           same(a.Not().Not(), a),
				"Or with Not":       same(a.Or(a.Not()), cpset.All()),
				"And with Not":      same(a.And(a.Not()), cpset.Set{}),
				"itself":            same(a.Or(a), a) && same(a.And(a), a) && same(a.Xor(a), cpset.Set{}) && same(a.Less(a), cpset.Set{}),
				"none":              same(a.Or(cpset.Set{}), a) && same(a.And(cpset.Set{}), cpset.Set{}) && same(a.Xor(cpset.Set{}), a),
				"all":               same(a.Or(cpset.All()), cpset.All()) && same(a.And(cpset.All()), a) && same(a.Xor(cpset.All()), a.Not()),
				"either way round":  same(a.Or(b), b.Or(a)) && same(a.And(b), b.And(a)) && same(a.Xor(b), b.Xor(a)),
				"absorption":        same(a.Or(a.And(b)), a) && same(a.And(a.Or(b)), a),
				"Not of Or":         same(a.Or(b).Not(), a.Not().And(b.Not())),
				"Not of And":        same(a.And(b).Not(), a.Not().Or(b.Not())),
				"Less by And":       same(a.Less(b), a.And(b.Not())),
				"Xor by Less":       same(a.Xor(b), a.Less(b).Or(b.Less(a))),
				"Xor undone":        same(a.Xor(b).Xor(b), a),
				"Within":            a.And(b).Within(a) && a.Within(a.Or(b)) && a.Less(b).Within(a) && a.Within(a),
				"Within by Or":      a.Within(b) == same(a.Or(b), b),
				"Within both ways":  (a.Within(b) && b.Within(a)) == same(a, b),
				"Same by its chars": same(a, b) == slices.Equal(a.Ranges(), b.Ranges()),
			} {
				if !holds {
					t.Errorf("P6.2: %s: %x, %x", law, a.Ranges(), b.Ranges())
				}
			}
		}
	}
}

func TestLawsOfThree(t *testing.T) {
	same := cpset.Same
	all := sets()
	for i, a := range all {
		for j, b := range all {
			c := all[(i*7+j*11+3)%len(all)]
			for law, holds := range map[string]bool{
				"Or of three":  same(a.Or(b).Or(c), a.Or(b.Or(c))),
				"And of three": same(a.And(b).And(c), a.And(b.And(c))),
				"Xor of three": same(a.Xor(b).Xor(c), a.Xor(b.Xor(c))),
				"And over Or":  same(a.And(b.Or(c)), a.And(b).Or(a.And(c))),
				"Or over And":  same(a.Or(b.And(c)), a.Or(b).And(a.Or(c))),
				"And over Xor": same(a.And(b.Xor(c)), a.And(b).Xor(a.And(c))),
			} {
				if !holds {
					t.Errorf("P6.2: %s: %x, %x, %x", law, a.Ranges(), b.Ranges(), c.Ranges())
				}
			}
		}
	}
}

// TestBothWaysBack: a set is the same, whether it is made of its ranges again
// or of its characters.
func TestBothWaysBack(t *testing.T) {
	for what, l := range samples() {
		s, _ := cpset.Of(l...)
		again, e := cpset.Of(s.Ranges()...)
		if e != api.OK || !cpset.Same(again, s) {
			t.Errorf("P6.2: %s: of its ranges: %x, %d", what, again.Ranges(), e)
		}
		if !cpset.Same(cpset.Chars(s.Chars()...), s) {
			t.Errorf("P6.2: %s: of its characters", what)
		}
	}
}

func TestMemory(t *testing.T) {
	ranges := []cpset.Range{r('x', 'z'), r('a', 'c'), r('m', 'm'), r('n', 'n')}
	s, _ := cpset.Of(ranges[:3]...)
	if !slices.Equal(ranges, []cpset.Range{r('x', 'z'), r('a', 'c'), r('m', 'm'), r('n', 'n')}) {
		t.Errorf("P6.1: Of changed what it was handed: %x", ranges)
	}
	chars := []rune{'z', 'a', 'z', 'b'}
	u := cpset.Chars(chars[:3]...)
	if !slices.Equal(chars, []rune{'z', 'a', 'z', 'b'}) {
		t.Errorf("P6.1: Chars changed what it was handed: %x", chars)
	}
	clear(ranges)
	clear(chars)
	clear(s.Ranges())
	clear(s.Chars())
	checkRanges(t, "P6.1: behind changes", s, plainOf(r('a', 'c'), r('m', 'm'), r('x', 'z')))
	checkRanges(t, "P6.1: behind changes", u, plainOf(r('a', 'a'), r('z', 'z')))
	before := s.Ranges()
	for _, merged := range []cpset.Set{s.Or(u), s.And(u), s.Less(u), s.Xor(u), s.Not(), s.Or(cpset.Set{})} {
		clear(merged.Ranges())
	}
	if !slices.Equal(s.Ranges(), before) {
		t.Errorf("P6.1: a merge changed its sets: %x", s.Ranges())
	}
}
