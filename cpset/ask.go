package cpset

import (
	"slices"
	"sort"
)

// Ranges: its ranges, rising; each as long as characters follow one another.
func (s Set) Ranges() []Range {
	var ranges []Range
	for _, p := range s.spans {
		ranges = append(ranges, p.Range)
	}
	return ranges
}

// Count: how many characters it has.
func (s Set) Count() int {
	if len(s.spans) == 0 {
		return 0
	}
	top := s.spans[len(s.spans)-1]
	return top.before + top.size()
}

// Has: is c one of them?
func (s Set) Has(c rune) bool {
	p, is := s.spanAt(c)
	return is && c <= p.To
}

// spanAt answers the last span that begins with c, or ahead of it.
func (s Set) spanAt(c rune) (span, bool) {
	return s.lastSpan(func(p span) bool { return p.From > c })
}

// lastSpan answers the last span that doesn't lie beyond what is looked for;
// behind one that does all others do, too.
func (s Set) lastSpan(beyond func(span) bool) (span, bool) {
	i := sort.Search(len(s.spans), func(i int) bool { return beyond(s.spans[i]) })
	if i == 0 {
		return span{}, false
	}
	return s.spans[i-1], true
}

// Chars: all of them, rising.
func (s Set) Chars() []rune {
	chars := make([]rune, 0, s.Count())
	for _, p := range s.spans {
		for c := p.From; c <= p.To; c++ {
			chars = append(chars, c)
		}
	}
	return chars
}

// At: the i-th character, from 0 on; false if there is none.
func (s Set) At(i int) (rune, bool) {
	if i < 0 || i >= s.Count() {
		return 0, false
	}
	p, _ := s.lastSpan(func(p span) bool { return p.before > i })
	return p.From + rune(i-p.before), true
}

// Index: how many are less than c, which needn't be one of them.
func (s Set) Index(c rune) int {
	p, is := s.spanAt(c)
	if !is {
		return 0
	}
	return p.before + min(int(c-p.From), p.size())
}

// Within: is each of its characters one of t's?
func (s Set) Within(t Set) bool {
	return s.Less(t).Count() == 0
}

// Same: are they the same?
func Same(s, t Set) bool {
	return slices.Equal(s.spans, t.spans)
}
