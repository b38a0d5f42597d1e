package model

import (
	"slices"

	"cedilla/api"
	"cedilla/fault"
	"cedilla/hangul"
	"cedilla/rows"
	"cedilla/utf"
)

const mostClass = 254

// pair is a mapping of two: as many as there may be.
type pair [2]rune

// Check: nil if the table may be; else ErrData, with a note of what is wrong.
func (t Table) Check() error {
	note := t.wrongRow()
	switch {
	case note != "":
	case !t.allEnd():
		note = "full"
	case t.pairTwice():
		note = "pair"
	default:
		return nil
	}
	return fault.At(api.ErrData, 0, note)
}

// wrongRow answers a note of the first row that is wrong by itself, or with
// the one ahead; "" if there is none.
func (t Table) wrongRow() string {
	above := rune(-1)
	for _, r := range t.Rows {
		if note := wrong(r, above); note != "" {
			return note
		}
		above = r.Code
	}
	return ""
}

// wrong asks in the order in which wrong things are told.
func wrong(r rows.Row, above rune) string {
	switch {
	case !utf.Is(r.Code), r.Code <= above, r.Class < 0, r.Class > mostClass, len(r.Map) > len(pair{}):
		return "row"
	case isHangul(r.Code), slices.ContainsFunc(r.Map, isHangul):
		return "hangul"
	case slices.ContainsFunc(r.Map, isNone):
		return "target"
	}
	return ""
}

func isHangul(c rune) bool {
	return hangul.Of(c) != hangul.None
}

func isNone(c rune) bool {
	return !utf.Is(c)
}

// allEnd: does each row come to an end, with at most MaxFull characters?
//
// Rows are measured as soon as all that they are mapped to are: those that
// wait for one another in a circle never are. No row is gone through twice,
// as ways through a table can be as long as it is, and very many.
func (t Table) allEnd() bool {
	m := t.measures()
	for known := range t.Rows {
		if known == len(m.ready) {
			return false
		}
		i := m.ready[known]
		if m.length[i] > api.MaxFull {
			return false
		}
		m.tell(i)
	}
	return true
}

// measures are how many characters rows come to: of those that are ready it
// is known, of others a part of it.
type measures struct {
	length []int
	wants  []int   // how many of the characters it is mapped to have to be told yet
	users  [][]int // the rows that want it, each as often as it does
	ready  []int   // the rows that want nothing any more, in the turn in which they came to
}

// measures answers what is known from the start.
func (t Table) measures() measures {
	count := len(t.Rows)
	m := measures{length: make([]int, count), wants: make([]int, count), users: make([][]int, count)}
	for i, r := range t.Rows {
		if len(r.Map) == 0 {
			m.length[i] = 1
		}
		for _, c := range r.Map {
			if target, is := t.find(c); is {
				m.wants[i]++
				m.users[target] = append(m.users[target], i)
				continue
			}
			m.length[i]++
		}
		if m.wants[i] == 0 {
			m.ready = append(m.ready, i)
		}
	}
	return m
}

// tell hands the length of a row that is ready on to those that want it.
func (m *measures) tell(ready int) {
	for _, i := range m.users[ready] {
		m.length[i] += m.length[ready]
		m.wants[i]--
		if m.wants[i] == 0 {
			m.ready = append(m.ready, i)
		}
	}
}

// pairTwice: do two primary composites have the same mapping?
func (t Table) pairTwice() bool {
	seen := map[pair]struct{}{}
	for _, r := range t.Rows {
		if !t.composed(r) {
			continue
		}
		mapping := pair(r.Map)
		if _, is := seen[mapping]; is {
			return true
		}
		seen[mapping] = struct{}{}
	}
	return false
}
