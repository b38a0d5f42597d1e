package strset_test

import (
	"fmt"
	"maps"
	"math"
	"slices"
	"strings"
	"testing"

	"cedilla/strset"
	"cedilla/utf"
)

// plain is a set by which each text is told for itself.
type plain map[string]int

func plainOf(l ...string) plain {
	p := plain{}
	for _, x := range l {
		p[x] = 1
	}
	return p
}

// list answers the texts in the order of their bytes, which the library tells.
func (p plain) list() []string {
	return slices.SortedFunc(maps.Keys(p), func(a, b string) int { return slices.Compare([]byte(a), []byte(b)) })
}

// those answers the plain set of what keep takes.
func (p plain) those(keep func(x string) bool) plain {
	out := plain{}
	for x := range p {
		if keep(x) {
			out[x] = 1
		}
	}
	return out
}

// both answers the plain set of what keep takes, of two.
func both(a, b plain, keep func(inA, inB bool) bool) plain {
	all := maps.Clone(a)
	maps.Copy(all, b)
	return all.those(func(x string) bool { return keep(a[x] > 0, b[x] > 0) })
}

// edges are texts, and bytes that are none, at which orders go apart: one is
// the beginning of another one, bytes are below and above 128, characters have
// one, two, three and four bytes.
func edges() []string {
	return []string{
		"", "\x00", "\x00\x00", "a", "a\x00", "a\x7f", "a\x80", "a\xff", "aa", "ab", "abc", "b", "B", "c", "\x7f",
		"\x80", "\xc3", "\u00e9", "e\u0301", "\ud7ff", "\ue000", "\uffff", "\U00010000", "\U0010FFFF",
		"\xed\xa0\x80", "\xed\xa0", "\xff", "\xff\xff", "a\xff\xff", "\ufffd",
	}
}

func samples() map[string][]string {
	return map[string][]string{
		"none":                 nil,
		"empty":                {},
		"the empty text":       {""},
		"the empty text twice": {"", ""},
		"one":                  {"a"},
		"the chapter's":        {"b", "a", "b"},
		"falling":              {"d", "c", "b", "a"},
		"beginnings":           {"abc", "ab", "a", ""},
		"one many times":       slices.Repeat([]string{"\u0327"}, 1000),
		"edges":                edges(),
		"edges twice":          slices.Concat(edges(), edges()),
		"some of the edges":    edges()[5:20],
		"other bytes":          {"\xff", "\x80", "\xfe\xff", "\xc0\x80", "\xff\x00"},
		"many":                 many(3, 1000),
		"many others":          many(5, 700),
		"long":                 {strings.Repeat("x", 10000), strings.Repeat("x", 9999), strings.Repeat("x", 9999) + "y"},
	}
}

// many answers numbers' texts, which don't rise as the numbers do.
func many(step, count int) []string {
	var out []string
	for i := range count {
		out = append(out, fmt.Sprint(i*step))
	}
	return out
}

// checkList: a set's texts are all that can be asked of it.
func checkList(t *testing.T, what string, s strset.Set, want plain) {
	t.Helper()
	if got := s.List(); !slices.Equal(got, want.list()) {
		t.Errorf("%s: %q, want %q", what, got, want.list())
	}
	if !strset.Same(s, strset.Of(want.list()...)) || s.Len() != len(want) {
		t.Errorf("%s: isn't the same as of its texts, or Len %d isn't %d", what, s.Len(), len(want))
	}
}

// asked are texts of which sets are asked: those of the set, those beside
// them, and edges.
func asked(p plain) []string {
	out := edges()
	for x := range p {
		out = append(out, x, x+"\x00", x+"\xff")
		if x != "" {
			out = append(out, x[:len(x)-1])
		}
	}
	return out
}

// checkWhole holds all that is asked of one set against the plain one.
func checkWhole(t *testing.T, what string, s strset.Set, want plain) {
	t.Helper()
	checkList(t, "P7.1: "+what, s, want)
	list := want.list()
	for i, x := range list {
		if got, is := s.At(i); got != x || !is || s.Index(x) != i {
			t.Errorf("P7.3: %s: At(%d): %q, %v; Index(%q): %d", what, i, got, is, x, s.Index(x))
		}
	}
	for _, i := range []int{math.MinInt, -len(list) - 1, -1, len(list), len(list) + 1, math.MaxInt32, math.MaxInt} {
		if x, is := s.At(i); x != "" || is {
			t.Errorf("P7.3: %s: At(%d): %q, %v", what, i, x, is)
		}
	}
	for _, x := range asked(want) {
		less := len(want.those(func(y string) bool { return y < x }))
		if s.Has(x) != (want[x] > 0) || s.Index(x) != less {
			t.Errorf("P7.1, P7.3: %s: %q: Has %v, Index %d; want %v, %d", what, x, s.Has(x), s.Index(x), want[x] > 0, less)
		}
	}
}

func TestOf(t *testing.T) {
	for what, l := range samples() {
		checkWhole(t, what, strset.Of(l...), plainOf(l...))
	}
}

func TestNone(t *testing.T) {
	for what, s := range map[string]strset.Set{
		"the zero Set": {},
		"Of none":      strset.Of(),
		"Of nil":       strset.Of([]string(nil)...),
		"Of empty":     strset.Of([]string{}...),
		"Less itself":  strset.Of("a").Less(strset.Of("a")),
		"Xor itself":   strset.Of("a").Xor(strset.Of("a")),
		"And another":  strset.Of("a").And(strset.Of("b")),
		"Between":      strset.Of("a").Between("b", "c"),
		"Begin":        strset.Of("a").Begin("b"),
		"none of none": strset.Set{}.Or(strset.Set{}),
	} {
		checkWhole(t, what, s, plain{})
		if !strset.Same(s, strset.Set{}) || !strset.Same(strset.Set{}, s) || !s.Within(strset.Set{}) {
			t.Errorf("P7.1: %s isn't the zero Set", what)
		}
		if s.Has("") || strset.Same(s, strset.Of("")) || strset.Of("").Within(s) {
			t.Errorf("P7.1: %s has the empty text", what)
		}
	}
}

// TestNamed: what the chapter itself tells.
func TestNamed(t *testing.T) {
	s := strset.Of("b", "a", "b")
	if got := s.List(); !slices.Equal(got, []string{"a", "b"}) {
		t.Errorf("P7.1: Of(b, a, b): %q", got)
	}
	if !strset.Same(s.Begin(""), s) {
		t.Errorf("P7.1: Begin of the empty text: %q", s.Begin("").List())
	}
}

// TestRising: a set's order is that of layer 5, each text once.
func TestRising(t *testing.T) {
	for what, l := range samples() {
		list := strset.Of(l...).List()
		for i := 1; i < len(list); i++ {
			if utf.Compare(list[i-1], list[i]) != -1 {
				t.Errorf("P7.1: %s: %q isn't less than %q", what, list[i-1], list[i])
			}
		}
	}
	got := strset.Of("\U00010000", "\uffff", "\u0080", "\u007f", "\ue000", "\ud7ff").List()
	if !slices.Equal(got, []string{"\u007f", "\u0080", "\ud7ff", "\ue000", "\uffff", "\U00010000"}) {
		t.Errorf("P7.1: by characters: %q", got)
	}
}

// TestAnyOrder: in which order texts come, and how often, doesn't show.
func TestAnyOrder(t *testing.T) {
	want := strset.Of(edges()...)
	l := edges()
	for range len(l) {
		l = append(l[1:], l[0])
		turned := slices.Clone(l)
		slices.Reverse(turned)
		if !strset.Same(strset.Of(l...), want) || !strset.Same(strset.Of(slices.Concat(turned, l[:7])...), want) {
			t.Errorf("P7.1: Of(%q) isn't as of another order", l)
		}
	}
}

func TestBetween(t *testing.T) {
	for _, what := range []string{"none", "the empty text", "one", "beginnings", "edges", "some of the edges", "other bytes"} {
		l := samples()[what]
		s, p := strset.Of(l...), plainOf(l...)
		for _, from := range asked(p) {
			for _, to := range asked(p) {
				want := p.those(func(x string) bool { return x >= from && x < to })
				checkList(t, fmt.Sprintf("P7.1: %s: Between(%q, %q)", what, from, to), s.Between(from, to), want)
			}
		}
	}
}

func TestBetweenNamed(t *testing.T) {
	s := strset.Of("a", "ab", "b", "c")
	for _, c := range []struct {
		from, to string
		want     []string
	}{
		{"a", "c", []string{"a", "ab", "b"}},
		{"aa", "bb", []string{"ab", "b"}},
		{"a", "a", nil},
		{"c", "a", nil},
		{"", "", nil},
		{"z", "a", nil},
		{"", "\xff", []string{"a", "ab", "b", "c"}},
		{"d", "e", nil},
	} {
		if got := s.Between(c.from, c.to).List(); !slices.Equal(got, c.want) {
			t.Errorf("P7.1: Between(%q, %q): %q, want %q", c.from, c.to, got, c.want)
		}
	}
}

func TestBegin(t *testing.T) {
	for what, l := range samples() {
		s, p := strset.Of(l...), plainOf(l...)
		for _, x := range append(edges(), "1", "12", "123", "x", strings.Repeat("x", 9999), strings.Repeat("x", 20000)) {
			want := p.those(func(y string) bool { return strings.HasPrefix(y, x) })
			checkList(t, fmt.Sprintf("P7.1: %s: Begin(%.20q)", what, x), s.Begin(x), want)
		}
	}
}

// TestBeginBytes: a beginning is one of bytes, not of characters.
func TestBeginBytes(t *testing.T) {
	s := strset.Of("\u00e9", "\u00ea", "\u0301", "\xc3", "c")
	if got := s.Begin("\xc3").List(); !slices.Equal(got, []string{"\xc3", "\u00e9", "\u00ea"}) {
		t.Errorf("P7.1: Begin of a character's first byte: %q", got)
	}
}

func TestMerges(t *testing.T) {
	for nameA, la := range samples() {
		for nameB, lb := range samples() {
			checkMerges(t, nameA+", "+nameB, plainOf(la...), plainOf(lb...))
		}
	}
}

func checkMerges(t *testing.T, what string, plainA, plainB plain) {
	t.Helper()
	a, b := strset.Of(plainA.list()...), strset.Of(plainB.list()...)
	or := both(plainA, plainB, func(inA, inB bool) bool { return inA || inB })
	and := both(plainA, plainB, func(inA, inB bool) bool { return inA && inB })
	less := both(plainA, plainB, func(inA, inB bool) bool { return inA && !inB })
	xor := both(plainA, plainB, func(inA, inB bool) bool { return inA != inB })
	checkList(t, "P7.1: Or: "+what, a.Or(b), or)
	checkList(t, "P7.1: And: "+what, a.And(b), and)
	checkList(t, "P7.1: Less: "+what, a.Less(b), less)
	checkList(t, "P7.1: Xor: "+what, a.Xor(b), xor)
	if got, want := a.Within(b), len(less) == 0; got != want {
		t.Errorf("P7.1: Within: %s: %v", what, got)
	}
	if got, want := strset.Same(a, b), len(xor) == 0; got != want {
		t.Errorf("P7.1: Same: %s: %v", what, got)
	}
	if got, want := a.Or(b).Len(), a.Len()+b.Len()-a.And(b).Len(); got != want {
		t.Errorf("P7.2: how many: %s: %d, want %d", what, got, want)
	}
}

// sets are all that are made of some texts.
func sets() []strset.Set {
	texts := []string{"", "a", "a\x00", "\u00e9", "\xff"}
	var out []strset.Set
	for bits := range 1 << len(texts) {
		var l []string
		for i, x := range texts {
			if bits>>i&1 == 1 {
				l = append(l, x)
			}
		}
		out = append(out, strset.Of(l...))
	}
	return out
}

func TestLawsOfTwo(t *testing.T) {
	same, none := strset.Same, strset.Set{}
	for _, a := range sets() {
		for _, b := range sets() {
			for law, holds := range map[string]bool{
				"itself":            same(a.Or(a), a) && same(a.And(a), a) && same(a.Xor(a), none) && same(a.Less(a), none),
				"none":              same(a.Or(none), a) && same(a.And(none), none) && same(a.Xor(none), a) && same(a.Less(none), a) && same(none.Less(a), none),
				"either way round":  same(a.Or(b), b.Or(a)) && same(a.And(b), b.And(a)) && same(a.Xor(b), b.Xor(a)),
				"absorption":        same(a.Or(a.And(b)), a) && same(a.And(a.Or(b)), a),
				"And by Less":       same(a.And(b), a.Less(a.Less(b))),
				"Or by Xor":         same(a.Or(b), a.Xor(b).Xor(a.And(b))),
				"Xor by Less":       same(a.Xor(b), a.Less(b).Or(b.Less(a))),
				"Xor by Or":         same(a.Xor(b), a.Or(b).Less(a.And(b))),
				"Xor undone":        same(a.Xor(b).Xor(b), a),
				"Less and the rest": same(a.Less(b).Or(a.And(b)), a) && same(a.Less(b).And(b), none),
				"Within":            a.And(b).Within(a) && a.Within(a.Or(b)) && a.Less(b).Within(a) && a.Within(a) && none.Within(a),
				"Within by Or":      a.Within(b) == same(a.Or(b), b),
				"Within by Less":    a.Within(b) == same(a.Less(b), none),
				"Within both ways":  (a.Within(b) && b.Within(a)) == same(a, b),
				"Same by its texts": same(a, b) == slices.Equal(a.List(), b.List()),
				"Between and rest":  same(a.Between("", "b").Or(a.Between("b", "\xff\xff")), a),
			} {
				if !holds {
					t.Errorf("P7.2: %s: %q, %q", law, a.List(), b.List())
				}
			}
		}
	}
}

func TestLawsOfThree(t *testing.T) {
	same := strset.Same
	all := sets()
	for i, a := range all {
		for j, b := range all {
			c := all[(i*7+j*11+3)%len(all)]
			for law, holds := range map[string]bool{
				"Or of three":  same(a.Or(b).Or(c), a.Or(b.Or(c))),
				"And of three": same(a.And(b).And(c), a.And(b.And(c))),
				"Xor of three": same(a.Xor(b).Xor(c), a.Xor(b.Xor(c))),
				"And over Or":  same(a.And(b.Or(c)), a.And(b).Or(a.And(c))),
				"Or over And":  same(a.Or(b.And(c)), a.Or(b).And(a.Or(c))),
				"And over Xor": same(a.And(b.Xor(c)), a.And(b).Xor(a.And(c))),
				"Less of Or":   same(c.Less(a.Or(b)), c.Less(a).And(c.Less(b))),
				"Less of And":  same(c.Less(a.And(b)), c.Less(a).Or(c.Less(b))),
			} {
				if !holds {
					t.Errorf("P7.2: %s: %q, %q, %q", law, a.List(), b.List(), c.List())
				}
			}
		}
	}
}

func TestAtAndIndex(t *testing.T) {
	for what, l := range samples() {
		s := strset.Of(l...)
		for i := range s.Len() {
			if x, is := s.At(i); !is || s.Index(x) != i || !s.Has(x) {
				t.Errorf("P7.3: %s: Index of the %d-th, %q: %d", what, i, x, s.Index(x))
			}
		}
		for _, x := range l {
			if y, is := s.At(s.Index(x)); y != x || !is {
				t.Errorf("P7.3: %s: At of the Index of %q: %q, %v", what, x, y, is)
			}
		}
	}
}

func TestMemory(t *testing.T) {
	room := []string{"c", "a", "c", "b"}
	s := strset.Of(room[:3]...)
	if !slices.Equal(room, []string{"c", "a", "c", "b"}) {
		t.Errorf("P7.1: Of changed what it was handed: %q", room)
	}
	u := strset.Of("b", "c", "d")
	clear(room)
	clear(s.List())
	checkWhole(t, "behind changes", s, plainOf("a", "c"))
	for _, made := range []strset.Set{
		s.Or(u), s.And(u), s.Less(u), s.Xor(u), s.Or(strset.Set{}), s.Less(strset.Set{}), s.Between("", "z"), s.Begin(""),
	} {
		list := made.List()
		clear(made.List())
		if !slices.Equal(made.List(), list) {
			t.Errorf("P7.1: what List answers is the set's own: %q", list)
		}
	}
	// Parts of one set, merged again, leave it as it is.
	front, back := u.Between("", "c"), u.Between("c", "z")
	checkList(t, "P7.1: of parts", front.Or(strset.Of("x")).Or(back), plainOf("b", "c", "d", "x"))
	checkWhole(t, "behind merges", s, plainOf("a", "c"))
	checkWhole(t, "behind merges", u, plainOf("b", "c", "d"))
	checkWhole(t, "a part, behind merges", front, plainOf("b"))
}

func TestManyTexts(t *testing.T) {
	const count = 200000
	all := strset.Of(many(1, count)...)
	odd := strset.Of(many(1, count)...).Less(strset.Of(many(2, count/2)...))
	if all.Len() != count || odd.Len() != count/2 || !odd.Within(all) || all.Within(odd) || !odd.Has("99999") || odd.Has("99998") {
		t.Errorf("P7.1: of many texts: %d, %d", all.Len(), odd.Len())
	}
	if got := all.Begin("1234").Len(); got != 1+10+100 {
		t.Errorf("P7.1: Begin of many texts: %d", got)
	}
}

func FuzzSets(f *testing.F) {
	f.Add("a;b;a", "b;;c", "a")
	f.Add("", ";", "")
	f.Add("\xff;\xff\xff;\u00e9", "\u00e9;e\u0301", "\xc3")
	f.Fuzz(func(t *testing.T, a, b, x string) {
		la, lb := strings.Split(a, ";"), strings.Split(b, ";")
		checkMerges(t, "fuzzed", plainOf(la...), plainOf(lb...))
		checkWhole(t, "fuzzed", strset.Of(la...), plainOf(la...))
		want := plainOf(la...).those(func(y string) bool { return strings.HasPrefix(y, x) })
		checkList(t, "P7.1: Begin, fuzzed", strset.Of(la...).Begin(x), want)
	})
}
