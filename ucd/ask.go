package ucd

import (
	"slices"

	"cedilla/cpset"
	"cedilla/hangul"
	"cedilla/model"
	"cedilla/utf"
)

// Class: a character's; 0 of what is none.
func (d *Data) Class(c rune) int {
	return int(d.classes.Get(c))
}

// Map: a character's mapping; nil if it has none.
func (d *Data) Map(c rune) []rune {
	return d.table.Map(c)
}

// Full: its full decomposition; of what is no character itself.
func (d *Data) Full(c rune) []rune {
	if parts := hangul.Split(c); len(parts) > 0 {
		return parts
	}
	if full, is := d.full[c]; is {
		return slices.Clone(full)
	}
	return []rune{c}
}

// Primary: is it a primary composite, or a syllable?
func (d *Data) Primary(c rune) bool {
	return d.table.Primary(c)
}

// Plain: has it no mapping? What is no character has none.
func (d *Data) Plain(c rune) bool {
	return !d.mapped.Has(c)
}

// Join: the primary composite, or the syllable, that these two are composed
// to; false if there is none.
func (d *Data) Join(a, b rune) (rune, bool) {
	if c, is := d.joins[pair{a, b}]; is {
		return c, true
	}
	return hangul.Join(a, b)
}

// Begins: the characters whose full decomposition begins with c, rising.
func (d *Data) Begins(c rune) []rune {
	if !utf.Is(c) || !d.Plain(c) {
		return nil
	}
	begins := slices.Concat([]rune{c}, d.begins[c], hangul.Begins(c))
	slices.Sort(begins)
	return begins
}

// Inner: does it stand in a full decomposition, at another place than the
// first?
func (d *Data) Inner(c rune) bool {
	return goesOn(c) || d.inner.Has(c)
}

// Second: is there one with which, and c behind, Join answers a character?
func (d *Data) Second(c rune) bool {
	return goesOn(c) || d.second.Has(c)
}

// goesOn: is it a part of a syllable that doesn't begin one?
func goesOn(c rune) bool {
	kind := hangul.Of(c)
	return kind == hangul.Vowel || kind == hangul.Trail
}

// Mapped: the characters with a mapping, syllables too.
func (d *Data) Mapped() cpset.Set {
	return d.mapped
}

// Table: the table, without rows that say nothing.
func (d *Data) Table() model.Table {
	return telling(d.table)
}
