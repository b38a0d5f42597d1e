package strset

import (
	"iter"
	"slices"

	"cedilla/utf"
)

// A side tells which of two sets have a text. Sides are counted as
// utf.Compare tells of two least texts which one is the lesser.
type side int

const (
	left side = iota - 1 // the first set alone
	both
	right // the second set alone
)

// Or: what is in one of them at least.
func (s Set) Or(t Set) Set {
	return merge(s, t, left, both, right)
}

// And: what is in both.
func (s Set) And(t Set) Set {
	return merge(s, t, both)
}

// Less: what is in s but not in t.
func (s Set) Less(t Set) Set {
	return merge(s, t, left)
}

// Xor: what is in just one of them.
func (s Set) Xor(t Set) Set {
	return merge(s, t, left, right)
}

// Within: is each of its texts one of t's?
func (s Set) Within(t Set) bool {
	for _, where := range sides(s, t) {
		if where == left {
			return false
		}
	}
	return true
}

// merge answers the texts of the sides that are kept.
func merge(s, t Set, kept ...side) Set {
	var texts []string
	for text, where := range sides(s, t) {
		if slices.Contains(kept, where) {
			texts = append(texts, text)
		}
	}
	return Set{texts}
}

// sides goes through the texts of both sets, rising, each once.
func sides(s, t Set) iter.Seq2[string, side] {
	return func(yield func(string, side) bool) {
		a, b := s.texts, t.texts
		for len(a) > 0 || len(b) > 0 {
			where := leastSide(a, b)
			var text string
			if where != right {
				text, a = a[0], a[1:]
			}
			if where != left {
				text, b = b[0], b[1:]
			}
			if !yield(text, where) {
				return
			}
		}
	}
}

// leastSide tells where the least text of two rising lists stands; they
// aren't both empty.
func leastSide(a, b []string) side {
	switch {
	case len(a) == 0:
		return right
	case len(b) == 0:
		return left
	}
	return side(utf.Compare(a[0], b[0]))
}
