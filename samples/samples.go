// Package samples is tables for the tests of the layers that ask tables. The
// program itself doesn't use it.
package samples

import (
	"iter"
	"slices"

	"cedilla/cpset"
	"cedilla/model"
	"cedilla/rows"
	"cedilla/ucd"
)

// To is a row of class 0.
func To(code rune, mapping ...rune) rows.Row {
	return Mark(code, 0, mapping...)
}

// Mark is a row of this class.
func Mark(code rune, class int, mapping ...rune) rows.Row {
	return rows.Row{Code: code, Class: class, Map: slices.Clone(mapping)}
}

// Table is of rows of all kinds: of long ways, of marks, of ones that begin
// with a mark, that say nothing, that have one part twice, and whose codes are
// above and below those of what they begin with.
func Table() model.Table {
	return model.Table{
		Rows: []rows.Row{
			To(0x20, 0x10FFFF), To(0x21), Mark(0x22, 1), To(0x41), To(0xC4, 0x41, 0x308), To(0xC5, 0x41, 0x30A), To(0x1DE, 0xC4, 0x304),
			Mark(0x300, 230), Mark(0x301, 230), Mark(0x304, 230), Mark(0x307, 230), Mark(0x308, 230), Mark(0x30A, 230), Mark(0x323, 220),
			Mark(0x340, 230, 0x300), Mark(0x344, 230, 0x308, 0x301), Mark(0x345, 254), To(0x37E, 0x3B), To(0x3FF, 0x7A, 0x7A), To(0x400, 0x3FF, 0x3FF),
			To(0x958, 0x915, 0x93C), To(0x9CB, 0x9C7, 0x9BE), Mark(0xF71, 129), Mark(0xF72, 130), To(0xF73, 0xF71, 0xF72),
			To(0x1E63, 0x73, 0x323), To(0x1E69, 0x1E63, 0x307), To(0x2000, 0x2002), To(0x212B, 0xC5), Mark(0x3099, 8), Mark(0x3100, 9, 0x41, 0x3099),
			To(0xE000, 0x41, 0x300), To(0x1D15E, 0x1D157, 0x1D165), Mark(0x1D165, 216), To(0x10FFFE, 0x10FFFF, 0x20),
		},
		Excl: cpset.Chars(0x41, 0x958, 0xAC00, 0xAC01, 0x1D15E),
	}
}

// Of is a table, loaded; nil if it may not be.
func Of(t model.Table) *ucd.Data {
	d, _ := ucd.Of(t)
	return d
}

// Chain is rows from 20000 on, each mapped to the one behind it, and the last
// one to these.
func Chain(count int, last ...rune) []rows.Row {
	const from = 0x20000
	var l []rows.Row
	for i := range count - 1 {
		l = append(l, To(from+rune(i), from+rune(i)+1))
	}
	return append(l, To(from+rune(count)-1, last...))
}

// Doubled are rows from 30001 on, each of which is mapped to the one ahead,
// twice; so the n-th, from 1 on, comes to 2 to the n.
func Doubled(count int) []rows.Row {
	var l []rows.Row
	for i := range count {
		below := 0x30000 + rune(i)
		l = append(l, To(below+1, below, below))
	}
	return l
}

// Small goes through tables of two and of three rows, of the codes a, b and c,
// right ones and wrong ones, of all mappings to one another, to themselves,
// and to d, which has no row.
func Small() iter.Seq[model.Table] {
	excls := []cpset.Set{{}, cpset.Chars('a'), cpset.Chars('c', 'd'), cpset.All()}
	return func(yield func(model.Table) bool) {
		for _, a := range rowsTo('a', 'a', 'b', 'd') {
			for _, b := range rowsTo('b', 'a', 'b', 'd') {
				for _, excl := range excls {
					if !yield(model.Table{Rows: []rows.Row{a, b}, Excl: excl}) {
						return
					}
				}
			}
		}
		for i, a := range rowsTo('a', 'b', 'c', 'd') {
			for j, b := range rowsTo('b', 'a', 'c', 'd') {
				for k, c := range rowsTo('c', 'b', 'd') {
					if !yield(model.Table{Rows: []rows.Row{a, b, c}, Excl: excls[(i+j+k)%len(excls)]}) {
						return
					}
				}
			}
		}
	}
}

// rowsTo are all rows of this code, of two classes, whose mappings have these
// targets.
func rowsTo(code rune, targets ...rune) []rows.Row {
	maps := [][]rune{nil}
	for _, a := range targets {
		maps = append(maps, []rune{a})
		for _, b := range targets {
			maps = append(maps, []rune{a, b})
		}
	}
	var l []rows.Row
	for _, m := range maps {
		l = append(l, To(code, m...), Mark(code, 9, m...))
	}
	return l
}

// OfBytes makes a table of any bytes, most often with rows that rise, from a
// on.
func OfBytes(data []byte) model.Table {
	var t model.Table
	code := rune('a')
	for ; len(data) >= 4; data = data[4:] {
		step, class, mapping := rune(data[0]), int(data[1])%3, data[2:4]
		code += step % 3
		r := Mark(code, class)
		for _, b := range mapping[:step>>2%3] {
			r.Map = append(r.Map, 'a'+rune(b)%40)
		}
		if step == 255 {
			r.Class, r.Map = int(mapping[0])*2-1, []rune{rune(mapping[1]) << 8}
		}
		if step&0x40 != 0 {
			t.Excl = t.Excl.Or(cpset.Chars(r.Code))
		}
		t.Rows = append(t.Rows, r)
	}
	return t
}

// Short goes through all rows of at most so many of these characters. Each is
// a list of its own.
func Short(most int, chars ...rune) iter.Seq[[]rune] {
	return func(yield func([]rune) bool) {
		all := [][]rune{nil}
		for at := 0; at < len(all); at++ {
			l := all[at]
			for _, c := range chars {
				if len(l) < most {
					all = append(all, append(slices.Clone(l), c))
				}
			}
			if !yield(l) {
				return
			}
		}
	}
}
