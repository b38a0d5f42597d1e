package ucd

import "cedilla/model"

// apart is what is taken apart by now. Each character is taken apart once:
// the way from one to its full decomposition may be as long as the table, and
// model's Full would go all of it for each.
type apart struct {
	table model.Table
	full  map[rune][]rune
}

// takeApart answers the full decompositions of all that have a mapping in t,
// and of what is left of these.
func takeApart(t model.Table) map[rune][]rune {
	a := apart{t, map[rune][]rune{}}
	for _, r := range t.Rows {
		if len(r.Map) > 0 {
			a.take(r.Code)
		}
	}
	return a.full
}

// take takes c apart, and ahead of it what it needs for that, and so on.
func (a apart) take(c rune) {
	waiting := []rune{c}
	for len(waiting) > 0 {
		last := len(waiting) - 1
		if needed, is := a.wants(waiting[last]); is {
			waiting = append(waiting, needed)
			continue
		}
		a.put(waiting[last])
		waiting = waiting[:last]
	}
}

// wants answers a character of c's mapping that has to be taken apart yet;
// false if there is none.
func (a apart) wants(c rune) (rune, bool) {
	for _, part := range a.table.Map(c) {
		if _, is := a.full[part]; !is {
			return part, true
		}
	}
	return 0, false
}

// put is for a character that wants nothing any more.
func (a apart) put(c rune) {
	mapping := a.table.Map(c)
	if len(mapping) == 0 {
		a.full[c] = []rune{c}
		return
	}
	var full []rune
	for _, part := range mapping {
		full = append(full, a.full[part]...)
	}
	a.full[c] = full
}
