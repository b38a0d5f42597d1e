package cpset

import "slices"

// Or: what is in one of them at least.
func (s Set) Or(t Set) Set {
	return merge(s, t, func(inS, inT bool) bool { return inS || inT })
}

// And: what is in both.
func (s Set) And(t Set) Set {
	return merge(s, t, func(inS, inT bool) bool { return inS && inT })
}

// Less: what is in s but not in t.
func (s Set) Less(t Set) Set {
	return merge(s, t, func(inS, inT bool) bool { return inS && !inT })
}

// Xor: what is in just one of them.
func (s Set) Xor(t Set) Set {
	return merge(s, t, func(inS, inT bool) bool { return inS != inT })
}

// Not: all characters that aren't in s.
func (s Set) Not() Set {
	return All().Less(s)
}

// merge answers the characters that keep takes, by which of the two sets they
// are in; keep takes none that is in neither, so that surrogates, which no set
// has, stay out.
func merge(s, t Set, keep func(inS, inT bool) bool) Set {
	cuts := slices.Concat(s.cuts(), t.cuts())
	slices.Sort(cuts)
	cuts = slices.Compact(cuts)
	var kept []Range
	for i := 1; i < len(cuts); i++ {
		// Between two cuts all characters are in the same sets as the first.
		piece := Range{cuts[i-1], cuts[i] - 1}
		if keep(s.Has(piece.From), t.Has(piece.From)) {
			kept = append(kept, piece)
		}
	}
	return join(kept)
}

// cuts are where characters begin to be in the set, or not to be any more.
func (s Set) cuts() []rune {
	cuts := make([]rune, 0, 2*len(s.spans))
	for _, p := range s.spans {
		cuts = append(cuts, p.From, p.To+1)
	}
	return cuts
}
